/-
  WHAT IS PROVED: contracts of a first word's line and of command.Parse. Condition: the variables hold what is laid there; the text's size.
-/
import Derived.Test.YtogaaomedfpdnaaDoorEv
namespace Go.Proofs.YtogaaomedfpdnaaDoor
set_option maxRecDepth 100000
open Go.RowKit

def LinePost (o : Option Ln) (w : World) (e : Ending) (w' : World) : Prop := Below w.heap.size w w' ∧ ∃ l, e = .returned (.tuple #[.agg (lnA l), .bool o.isSome]) ∧ ∀ m, o = some m → l = m
theorem lineC_n {f : Fw} (h : f.a = 1) (b : List UInt8) (bl : Bool) : lineC f b bl = match numC b with
    | some z => some ⟨f.k, z, 0, []⟩
    | none => none := by unfold lineC; rw [h, if_pos rfl]; cases numC b <;> rfl
theorem lineC_s {f : Fw} (h : f.a = 2) (b : List UInt8) (bl : Bool) : lineC f b bl = if setC b = true then some ⟨f.k, 0, (S.parseP b).1, []⟩ else none := by
  rw [lineC_2 h]
  unfold setC
  by_cases h1 : (S.parseP b).2 = 0 ∧ (S.parseP b).1 ≠ 0
  · rw [if_pos h1, if_pos (by simp [h1])]
  · rw [if_neg h1, if_neg (by simpa using h1)]
set_option maxHeartbeats 2000000 in
theorem line_any (f : Fw) (hfa : f.a = 0 ∨ f.a = 1 ∨ f.a = 2 ∨ f.a = 3) (b : List UInt8) (blank : Bool) (hb : b.length ≤ 4294967296) (w : World) (hE : Env w) :
    Calls Tryd.prog 15 #[.agg (fA f), .string (str b), .bool blank] w (LinePost (lineC f b blank) w) := by
  have hfv : fA f = #[.string (str f.w), .int .i64 f.k, .int .i64 f.a] := rfl
  have hb0 : ∀ x : Int, Below w.heap.size w ((w.alloc (.cells #[.string (str f.w), .int .i64 f.k, .int .i64 x] 48)).alloc (.cells #[.int .i64 f.k, .int .i64 0, .int .u64 0, .string ⟨#[]⟩] 26)) := fun x => ((Below.refl _ w).alloc (Nat.le_refl _) _).alloc (by simp) _
  have HE := fun x => Lib.hid (hE.below (hb0 x))
  have HB0 := fun x => Lib.hid (hb0 x)
  have HK0 : ∀ (x : Int) (l : Ln), Hid (Blk ((w.alloc (.cells #[.string (str f.w), .int .i64 f.k, .int .i64 x] 48)).alloc (.cells #[.int .i64 l.k, .int .i64 l.i, .int .u64 (l.s : Int), .string (str l.y)] 26)) (w.heap.size + 1) 26 (lnA l)) := fun x l => Lib.hid (by
    have h := Blk.new (w.alloc (.cells #[.string (str f.w), .int .i64 f.k, .int .i64 x] 48)) 26 (lnA l)
    have e : (w.alloc (.cells #[.string (str f.w), .int .i64 f.k, .int .i64 x] 48)).heap.size = w.heap.size + 1 := by simp
    rw [e] at h
    exact h)
  have HB1 : ∀ (x : Int) (o : Obj), Hid (Below w.heap.size w ((w.alloc (.cells #[.string (str f.w), .int .i64 f.k, .int .i64 x] 48)).alloc o)) := fun x o => Lib.hid (((Below.refl _ w).alloc (Nat.le_refl _) _).alloc (by simp) _)
  clear hb0 hE
  rcases hfa with hfa | hfa | hfa | hfa
  · cases blank
    · have HX := Lib.hid (lineC_0 hfa b false)
      rw [if_neg (by simp)] at HX
      go_enter Tryd.func15, Tryd.ntmps15
      go_wp2
      exact bodyPost_ret (results_lnp rfl Tryd.underlying26 rfl _ _ (w.heap.size + 1) (⟨f.k, 0, 0, []⟩) (ln_size1 _) rfl (HK0 0 (⟨f.k, 0, 0, []⟩)).out) rfl ⟨(HB1 0 _).out, ⟨f.k, 0, 0, []⟩, by rw [HX.out]; rfl, fun m hm => by rw [HX.out] at hm; first | (injection hm) | (cases hm)⟩
    · have HX := Lib.hid (lineC_0 hfa b true)
      rw [if_pos rfl] at HX
      go_enter Tryd.func15, Tryd.ntmps15
      go_wp2
      exact bodyPost_ret (results_lnp rfl Tryd.underlying26 rfl _ _ (w.heap.size + 1) (⟨f.k, 0, 0, []⟩) (ln_size1 _) rfl (HK0 0 (⟨f.k, 0, 0, []⟩)).out) rfl ⟨(HB1 0 _).out, ⟨f.k, 0, 0, []⟩, by rw [HX.out]; rfl, fun m hm => by rw [HX.out] at hm; first | (injection hm) | (cases hm)⟩
  · have HX := Lib.hid (lineC_n hfa b blank)
    go_enter Tryd.func15, Tryd.ntmps15
    go_wp2_with (fail)
    refine (cnumber_any b hb _ (HE 1).out).mono ?_
    rintro e1 w1 ⟨hb1, z, rfl, hz⟩
    have HZ := Lib.hid hz
    clear hz
    have K1 := Lib.hid ((HK0 1 ⟨f.k, 0, 0, []⟩).out.below hb1 (by simp))
    have B1 := Lib.hid ((HB0 1).out.trans (hb1.mono (HB0 1).out.size))
    have c0 : w1.cell? ⟨w.heap.size + 1, 0, none⟩ = some (.int .i64 f.k) := K1.out.cell 0
    have c1 : w1.cell? ⟨w.heap.size + 1, 1, none⟩ = some (.int .i64 0) := K1.out.cell 1
    have c2 : w1.cell? ⟨w.heap.size + 1, 2, none⟩ = some (.int .u64 0) := K1.out.cell 2
    have c3 : w1.cell? ⟨w.heap.size + 1, 3, none⟩ = some (.string ⟨#[]⟩) := K1.out.cell 3
    have fz := K1.out.frozen
    clear hb1
    cases hn : numC b with
    | none =>
      rw [hn] at HX
      clear hn HZ
      go_wp2
      exact bodyPost_ret (results_lnp rfl Tryd.underlying26 rfl _ _ (w.heap.size + 1) (⟨f.k, z, 0, []⟩) (ln_size1 _) rfl (blk_store4 (l := ⟨f.k, z, 0, []⟩) (K1.out.set_ 1 (.int .i64 z)) (⟨f.k, z, 0, []⟩))) rfl ⟨below_store4 (B1.out.setCell (p := ⟨w.heap.size + 1, 1, none⟩) (Nat.le_succ _) _) (Nat.le_succ _) _ _ _ _, ⟨f.k, z, 0, []⟩, by rw [HX.out]; rfl, fun m hm => by rw [HX.out] at hm; first | (injection hm) | (cases hm)⟩
    | some x =>
      obtain rfl := HZ.out x hn
      rw [hn] at HX
      clear hn HZ
      go_wp2
      exact bodyPost_ret (results_lnp rfl Tryd.underlying26 rfl _ _ (w.heap.size + 1) (⟨f.k, z, 0, []⟩) (ln_size1 _) rfl (blk_store4 (l := ⟨f.k, z, 0, []⟩) (K1.out.set_ 1 (.int .i64 z)) (⟨f.k, z, 0, []⟩))) rfl ⟨below_store4 (B1.out.setCell (p := ⟨w.heap.size + 1, 1, none⟩) (Nat.le_succ _) _) (Nat.le_succ _) _ _ _ _, ⟨f.k, z, 0, []⟩, by rw [HX.out]; rfl, fun m hm => by rw [HX.out] at hm; first | (injection hm) | (cases hm)⟩
  · have HX := Lib.hid (lineC_s hfa b blank)
    go_enter Tryd.func15, Tryd.ntmps15
    go_wp2_with (fail)
    refine (cset_any b hb _ (HE 2).out).mono ?_
    rintro e1 w1 ⟨rfl, hb1⟩
    have K1 := Lib.hid ((HK0 2 ⟨f.k, 0, 0, []⟩).out.below hb1 (by simp))
    have B1 := Lib.hid ((HB0 2).out.trans (hb1.mono (HB0 2).out.size))
    have c0 : w1.cell? ⟨w.heap.size + 1, 0, none⟩ = some (.int .i64 f.k) := K1.out.cell 0
    have c1 : w1.cell? ⟨w.heap.size + 1, 1, none⟩ = some (.int .i64 0) := K1.out.cell 1
    have c2 : w1.cell? ⟨w.heap.size + 1, 2, none⟩ = some (.int .u64 0) := K1.out.cell 2
    have c3 : w1.cell? ⟨w.heap.size + 1, 3, none⟩ = some (.string ⟨#[]⟩) := K1.out.cell 3
    have fz := K1.out.frozen
    clear hb1
    cases hn : setC b with
    | false =>
      rw [hn, if_neg (by simp)] at HX
      clear hn
      go_wp2
      exact bodyPost_ret (results_lnp rfl Tryd.underlying26 rfl _ _ (w.heap.size + 1) (⟨f.k, 0, (S.parseP b).1, []⟩) (ln_size1 _) rfl (blk_store4 (l := ⟨f.k, 0, (S.parseP b).1, []⟩) (K1.out.set_ 2 (.int .u64 ((S.parseP b).1 : Int))) (⟨f.k, 0, (S.parseP b).1, []⟩))) rfl ⟨below_store4 (B1.out.setCell (p := ⟨w.heap.size + 1, 2, none⟩) (Nat.le_succ _) _) (Nat.le_succ _) _ _ _ _, ⟨f.k, 0, (S.parseP b).1, []⟩, by rw [HX.out]; rfl, fun m hm => by rw [HX.out] at hm; first | (injection hm) | (cases hm)⟩
    | true =>
      rw [hn, if_pos rfl] at HX
      clear hn
      go_wp2
      exact bodyPost_ret (results_lnp rfl Tryd.underlying26 rfl _ _ (w.heap.size + 1) (⟨f.k, 0, (S.parseP b).1, []⟩) (ln_size1 _) rfl (blk_store4 (l := ⟨f.k, 0, (S.parseP b).1, []⟩) (K1.out.set_ 2 (.int .u64 ((S.parseP b).1 : Int))) (⟨f.k, 0, (S.parseP b).1, []⟩))) rfl ⟨below_store4 (B1.out.setCell (p := ⟨w.heap.size + 1, 2, none⟩) (Nat.le_succ _) _) (Nat.le_succ _) _ _ _ _, ⟨f.k, 0, (S.parseP b).1, []⟩, by rw [HX.out]; rfl, fun m hm => by rw [HX.out] at hm; first | (injection hm) | (cases hm)⟩
  · cases blank
    · have HX := Lib.hid (lineC_3 hfa b false)
      rw [if_neg (by simp)] at HX
      go_enter Tryd.func15, Tryd.ntmps15
      go_wp2
      exact bodyPost_ret (results_lnp rfl Tryd.underlying26 rfl _ _ (w.heap.size + 1) (⟨f.k, 0, 0, b⟩) (ln_size1 _) rfl (HK0 3 (⟨f.k, 0, 0, b⟩)).out) rfl ⟨(HB1 3 _).out, ⟨f.k, 0, 0, b⟩, by rw [HX.out]; rfl, fun m hm => by rw [HX.out] at hm; first | (injection hm) | (cases hm)⟩
    · have HX := Lib.hid (lineC_3 hfa b true)
      rw [if_pos rfl] at HX
      go_enter Tryd.func15, Tryd.ntmps15
      go_wp2
      exact bodyPost_ret (results_lnp rfl Tryd.underlying26 rfl _ _ (w.heap.size + 1) (⟨f.k, 0, 0, b⟩) (ln_size1 _) rfl (HK0 3 (⟨f.k, 0, 0, b⟩)).out) rfl ⟨(HB1 3 _).out, ⟨f.k, 0, 0, b⟩, by rw [HX.out]; rfl, fun m hm => by rw [HX.out] at hm; first | (injection hm) | (cases hm)⟩

end Go.Proofs.YtogaaomedfpdnaaDoor
