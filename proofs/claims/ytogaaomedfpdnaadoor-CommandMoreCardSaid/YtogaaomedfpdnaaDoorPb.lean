/-
  WHAT IS PROVED: the contract of command.Parse. Condition: the variables hold what is laid there; the text's size.
-/
import Derived.Test.YtogaaomedfpdnaaDoorPa
namespace Go.Proofs.YtogaaomedfpdnaaDoor
set_option maxRecDepth 100000
open Go.RowKit

set_option maxHeartbeats 2000000 in
theorem cparse_any (t : List UInt8) (ht : t.length ≤ 4611686018427387904) (w : World) (hE : Env w) : Calls Tryd.prog 8 #[.string (str t)] w (GivesL (parseC t) w) := by
  have hz : (str t).size = t.length := rfl
  have HR0 : Hid (Blk (w.alloc (.cells (lnA Ln.zero) 26)) w.heap.size 26 (lnA Ln.zero)) := Lib.hid (Blk.new w _ _)
  have hb0 : Below w.heap.size w (w.alloc (.cells (lnA Ln.zero) 26)) := (Below.refl _ w).alloc (Nat.le_refl _) _
  have HB0 := Lib.hid hb0
  have HE0 := Lib.hid (hE.below hb0)
  clear hb0 hE
  by_cases h : 8192 < t.length
  · have hq : decide ((8192 : Int) < (t.length : Int)) = true := decide_eq_true (by omega)
    have HX : Hid (parseC t = (Ln.zero, 12)) := Lib.hid (if_pos h)
    go_enter Tryd.func8, Tryd.ntmps8
    go_wp2
    exact bodyPost_ret (results_lnp rfl Tryd.underlying26 rfl _ _ w.heap.size Ln.zero (ln_size1 _) rfl HR0.out) rfl ⟨by rw [HX.out]; rfl, HB0.out⟩
  · have hq : decide ((8192 : Int) < (t.length : Int)) = false := decide_eq_false (by omega)
    have HX : Hid (parseC t = lineT (cutL t 32).1 (cutL t 32).2.1 (cutL t 32).2.2) := Lib.hid (if_neg h)
    have hl1 := S.cutL_first_le t 32
    have hl2 := S.cutL_rest_le t 32
    have HC := Lib.hid (cut1_any t 32 (by omega) (w.alloc (.cells (lnA Ln.zero) 26)))
    generalize (cutL t 32).1 = a at *
    generalize (cutL t 32).2.1 = b at *
    generalize (cutL t 32).2.2 = blank at *
    obtain ⟨R, hR⟩ : ∃ R, parseC t = R := ⟨_, rfl⟩
    rw [hR] at HX ⊢
    clear hR
    have HNO : Hid (inW (up a) = none → R = (Ln.zero, 61)) := Lib.hid fun h => by rw [HX.out]; unfold lineT; rw [h]
    have HN2 : Hid (∀ f, inW (up a) = some f → lineC f b blank = none → R = (Ln.zero, 62)) := Lib.hid fun f h h2 => by rw [HX.out]; unfold lineT; simp only [h, h2]
    have HYES : Hid (∀ f l, inW (up a) = some f → lineC f b blank = some l → R = (l, 0)) := Lib.hid fun f l h h2 => by rw [HX.out]; unfold lineT; simp only [h, h2]
    clear HX
    go_enter Tryd.func8, Tryd.ntmps8
    go_wp2_with (fail)
    refine HC.out.mono ?_
    rintro e1 w1 ⟨rfl, hb1⟩
    have E1 := Lib.hid (HE0.out.below hb1)
    have K1 := Lib.hid (HR0.out.below hb1 (by simp))
    have B1 := Lib.hid (HB0.out.trans (hb1.mono HB0.out.size))
    clear hb1 HE0 HR0 HB0 HC
    go_wp2_with (fail)
    refine (firstin_any a (by omega) _ E1.out.2.2).mono ?_
    rintro e2 w2 ⟨rfl, hb2⟩
    have E2 := Lib.hid (E1.out.below hb2)
    have K2 := Lib.hid (K1.out.below hb2 K1.out.lt)
    have B2 := Lib.hid (B1.out.trans (hb2.mono B1.out.size))
    clear hb2 E1 K1 B1
    have hsz : w.heap.size < w2.heap.size := K2.out.lt
    cases hi : inW (up a) with
    | none =>
      have HX := Lib.hid (HNO.out hi)
      have hfv : fA noF = #[.string ⟨#[]⟩, .int .i64 0, .int .i64 0] := rfl
      have hsm : (none : Option Fw).isSome = false := rfl
      clear HNO HN2 HYES hi
      have c0 : ∀ o, (w2.alloc o).cell? ⟨w.heap.size, 0, none⟩ = some (.int .i64 0) := fun o => (K2.out.alloc o).cell 0
      have c1 : ∀ o, (w2.alloc o).cell? ⟨w.heap.size, 1, none⟩ = some (.int .i64 0) := fun o => (K2.out.alloc o).cell 1
      have c2 : ∀ o, (w2.alloc o).cell? ⟨w.heap.size, 2, none⟩ = some (.int .u64 0) := fun o => (K2.out.alloc o).cell 2
      have c3 : ∀ o, (w2.alloc o).cell? ⟨w.heap.size, 3, none⟩ = some (.string ⟨#[]⟩) := fun o => (K2.out.alloc o).cell 3
      have fz : ∀ o i, (w2.alloc o).frozen? ⟨w.heap.size, i, none⟩ = false := fun o i => (K2.out.alloc o).frozen i
      have d0 : w2.cell? ⟨w.heap.size, 0, none⟩ = some (.int .i64 0) := K2.out.cell 0
      have d1 : w2.cell? ⟨w.heap.size, 1, none⟩ = some (.int .i64 0) := K2.out.cell 1
      have d2 : w2.cell? ⟨w.heap.size, 2, none⟩ = some (.int .u64 0) := K2.out.cell 2
      have d3 : w2.cell? ⟨w.heap.size, 3, none⟩ = some (.string ⟨#[]⟩) := K2.out.cell 3
      have fy := K2.out.frozen
      go_wp2
      exact bodyPost_ret (results_lnp rfl Tryd.underlying26 rfl _ _ w.heap.size Ln.zero (ln_size1 _) rfl ((blk_store4 K2.out Ln.zero).alloc _)) rfl ⟨by rw [HX.out]; rfl, (below_store4 B2.out (Nat.le_refl _) _ _ _ _).alloc (by simpa using B2.out.size) _⟩
    | some f =>
      have hf := (inW_mem hi).1
      obtain ⟨_, _, _, hfa, _⟩ := firsts_all f hf
      have HA := Lib.hid hfa
      have hfv : fA ((some f).getD noF) = #[.string (str f.w), .int .i64 f.k, .int .i64 f.a] := rfl
      have hfv2 : fA f = #[.string (str f.w), .int .i64 f.k, .int .i64 f.a] := rfl
      have hsm : (some f).isSome = true := rfl
      have HLI : Hid (∀ W, Env W → Calls Tryd.prog 15 #[.agg #[.string (str f.w), .int .i64 f.k, .int .i64 f.a], .string (str b), .bool blank] W (LinePost (lineC f b blank) W)) := Lib.hid fun W hW => line_any f hfa b blank (by omega) W hW
      have HM2 := Lib.hid (HN2.out f hi)
      have HY2 := Lib.hid (fun l => HYES.out f l hi)
      clear HNO HN2 HYES hi hf hfa
      go_wp2_with (fail)
      refine (HLI.out _ (E2.out.alloc _)).mono ?_
      rintro e3 w3 ⟨hb3, l, rfl, hl⟩
      have HL := Lib.hid hl
      have K3 := Lib.hid ((K2.out.alloc (.cells #[.string (str f.w), .int .i64 f.k, .int .i64 f.a] 48)).below hb3 (by simp; omega))
      have B3 := Lib.hid ((B2.out.alloc B2.out.size (.cells #[.string (str f.w), .int .i64 f.k, .int .i64 f.a] 48)).trans (hb3.mono (by have := B2.out.size; simp; omega)))
      clear hb3 hl E2 K2 B2 HLI
      have hsz3 : w.heap.size < w3.heap.size := K3.out.lt
      have hlv : lnA l = #[.int .i64 l.k, .int .i64 l.i, .int .u64 (l.s : Int), .string (str l.y)] := rfl
      have c0 : ∀ o, (w3.alloc o).cell? ⟨w.heap.size, 0, none⟩ = some (.int .i64 0) := fun o => (K3.out.alloc o).cell 0
      have c1 : ∀ o, (w3.alloc o).cell? ⟨w.heap.size, 1, none⟩ = some (.int .i64 0) := fun o => (K3.out.alloc o).cell 1
      have c2 : ∀ o, (w3.alloc o).cell? ⟨w.heap.size, 2, none⟩ = some (.int .u64 0) := fun o => (K3.out.alloc o).cell 2
      have c3 : ∀ o, (w3.alloc o).cell? ⟨w.heap.size, 3, none⟩ = some (.string ⟨#[]⟩) := fun o => (K3.out.alloc o).cell 3
      have fz : ∀ o i, (w3.alloc o).frozen? ⟨w.heap.size, i, none⟩ = false := fun o i => (K3.out.alloc o).frozen i
      have d0 : w3.cell? ⟨w.heap.size, 0, none⟩ = some (.int .i64 0) := K3.out.cell 0
      have d1 : w3.cell? ⟨w.heap.size, 1, none⟩ = some (.int .i64 0) := K3.out.cell 1
      have d2 : w3.cell? ⟨w.heap.size, 2, none⟩ = some (.int .u64 0) := K3.out.cell 2
      have d3 : w3.cell? ⟨w.heap.size, 3, none⟩ = some (.string ⟨#[]⟩) := K3.out.cell 3
      have fy := K3.out.frozen
      cases hx : lineC f b blank with
      | none =>
        have HX := Lib.hid (HM2.out hx)
        have hsm2 : (none : Option Ln).isSome = false := rfl
        clear HM2 HY2 HL hx
        go_wp2
        exact bodyPost_ret (results_lnp rfl Tryd.underlying26 rfl _ _ w.heap.size Ln.zero (ln_size1 _) rfl ((blk_store4 K3.out Ln.zero).alloc _)) rfl ⟨by rw [HX.out]; rfl, (below_store4 B3.out (Nat.le_refl _) _ _ _ _).alloc (by simpa using B3.out.size) _⟩
      | some m =>
        have HX := Lib.hid (HY2.out m hx)
        obtain rfl := HL.out m hx
        have hsm2 : (some l).isSome = true := rfl
        clear HM2 HY2 HL hx
        go_wp2
        exact bodyPost_ret (results_lnp rfl Tryd.underlying26 rfl _ _ w.heap.size l (ln_size1 _) rfl ((blk_store4 K3.out l).alloc _)) rfl ⟨by rw [HX.out]; rfl, (below_store4 B3.out (Nat.le_refl _) _ _ _ _).alloc (by simpa using B3.out.size) _⟩
end Go.Proofs.YtogaaomedfpdnaaDoor
