/-
  WHAT IS PROVED: what '==' and '!=' say of two lines; the contract of command.Text. Condition: the variables hold what is laid there; the line's key has less than 2^61 bytes.
-/
import Derived.Test.YtogaaomedfpdnaaDoorWr
import Derived.Laws.StructEq
namespace Go.Proofs.YtogaaomedfpdnaaDoor
set_option maxRecDepth 100000
open Go.RowKit Go.Lib

theorem ln_eq (x r : Ln) : (decide (x.k = r.k) && (decide (x.i = r.i) && (decide (x.s = r.s) && decide (x.y = r.y)))) = decide (x = r) := by
  obtain ⟨a, b, c, d⟩ := x
  obtain ⟨a', b', c', d'⟩ := r
  by_cases h1 : a = a' <;> by_cases h2 : b = b' <;> by_cases h3 : c = c' <;> by_cases h4 : d = d' <;> simp [h1, h2, h3, h4]
theorem same_ln (x r : Ln) (w : World) : (Op.equalIn 10000 26 (.agg (lnA x)) (.agg (lnA r))).run Tryd.prog w = .ok (decide (x = r)) w := by
  have u3 := Tryd.underlying3
  have a3 := Tryd.isAgg3
  have z3 := Tryd.sizeOf3
  have u9 := Tryd.underlying9
  have a9 := Tryd.isAgg9
  have z9 := Tryd.sizeOf9
  have u24 := Tryd.underlying24
  have a24 := Tryd.isAgg24
  have z24 := Tryd.sizeOf24
  have hS : Tryd.prog.underlying 26 = some (.struct (Tryd.prog.fieldsOf 26)) := by kernel_rfl
  have hp : Tryd.prog.stoodInHeld 26 = false := by kernel_rfl
  rw [show (10000 : Nat) = 9999 + 1 from rfl, run_equalIn_agg w 9999 26 _ _ hS hp]
  simp only [Program.fieldsOf, Tryd.underlying26]
  rw [← ln_eq]
  unfold lnA
  go_simp
  simp only [str_toList]
  have hc : ((x.s : Int) = (r.s : Int)) ↔ x.s = r.s := by omega
  by_cases h1 : x.k = r.k <;> by_cases h2 : x.i = r.i <;> by_cases h3 : x.s = r.s <;> by_cases h4 : x.y = r.y <;> simp [h1, h2, h3, h4, hc]
theorem same_ln2 (x r : Ln) (w : World) : (Op.equalIn 10000 31 (.agg (lnA x)) (.agg (lnA r))).run Tryd.prog w = .ok (decide (x = r)) w := by
  have u3 := Tryd.underlying3
  have a3 := Tryd.isAgg3
  have z3 := Tryd.sizeOf3
  have u9 := Tryd.underlying9
  have a9 := Tryd.isAgg9
  have z9 := Tryd.sizeOf9
  have u24 := Tryd.underlying23
  have a24 := Tryd.isAgg23
  have z24 := Tryd.sizeOf23
  have hS : Tryd.prog.underlying 31 = some (.struct (Tryd.prog.fieldsOf 31)) := by kernel_rfl
  have hp : Tryd.prog.stoodInHeld 31 = false := by kernel_rfl
  rw [show (10000 : Nat) = 9999 + 1 from rfl, run_equalIn_agg w 9999 31 _ _ hS hp]
  simp only [Program.fieldsOf, Tryd.underlying31]
  rw [← ln_eq]
  unfold lnA
  go_simp
  simp only [str_toList]
  have hc : ((x.s : Int) = (r.s : Int)) ↔ x.s = r.s := by omega
  by_cases h1 : x.k = r.k <;> by_cases h2 : x.i = r.i <;> by_cases h3 : x.s = r.s <;> by_cases h4 : x.y = r.y <;> simp [h1, h2, h3, h4, hc]

def GivesT (r : List UInt8 × Int) (w : World) (e : Ending) (w' : World) : Prop := e = .returned (.tuple #[.string (str r.1), .int .i64 r.2]) ∧ Below w.heap.size w w'
theorem writ_len {l : Ln} (hl : okL l) : (writC l).length ≤ 1152921504606847200 := by
  obtain ⟨h0, h1, h2, h3⟩ := hl
  have h4 := itL_len h0 h1
  have h5 := S.txt_len h2
  have h6 := (ofK_facts l.k).2
  unfold writC
  split
  · simp; omega
  · split
    · simp; omega
    · split
      · simp; omega
      · omega
set_option maxHeartbeats 1000000 in
theorem text_any (l : Ln) (hl : okL l) (w : World) (hE : Env w) : Calls Tryd.prog 11 #[.agg (lnA l)] w (GivesT (textC l) w) := by
  have hlv : lnA l = #[.int .i64 l.k, .int .i64 l.i, .int .u64 (l.s : Int), .string (str l.y)] := rfl
  have hb0 : Below w.heap.size w (w.alloc (.cells #[.int .i64 l.k, .int .i64 l.i, .int .u64 (l.s : Int), .string (str l.y)] 26)) := (Below.refl _ w).alloc (Nat.le_refl _) _
  have HK0 : Hid (Blk (w.alloc (.cells #[.int .i64 l.k, .int .i64 l.i, .int .u64 (l.s : Int), .string (str l.y)] 26)) w.heap.size 26 (lnA l)) := Lib.hid (Blk.new w _ _)
  have HB0 := Lib.hid hb0
  have HE0 := Lib.hid (hE.below hb0)
  clear hb0 hE
  have HW : Hid (∀ W, Env W → Calls Tryd.prog 21 #[.agg #[.int .i64 l.k, .int .i64 l.i, .int .u64 (l.s : Int), .string (str l.y)]] W (AStr (writC l) W)) := Lib.hid fun W hW => written_any l hl W hW
  have hwl := writ_len hl
  have HTX := Lib.hid (text_two l)
  have HSM := fun (m : Ln) (W : World) => same_ln m l W
  generalize writC l = t at *
  generalize textC l = R at *
  go_enter Tryd.func11, Tryd.ntmps11
  go_wp2_with (fail)
  refine (HW.out _ HE0.out).mono ?_
  rintro e1 w1 ⟨rfl, hb1⟩
  have E1 := Lib.hid (HE0.out.below hb1)
  have K1 := Lib.hid (HK0.out.below hb1 (by simp))
  have B1 := Lib.hid (HB0.out.trans (hb1.mono HB0.out.size))
  clear hb1 HW HE0 HK0 HB0
  go_wp2_with (fail)
  refine (cparse_any t (by omega) _ E1.out).mono ?_
  rintro e2 w2 ⟨rfl, hb2⟩
  have K2 := Lib.hid (K1.out.below hb2 K1.out.lt)
  have B2 := Lib.hid (B1.out.trans (hb2.mono B1.out.size))
  clear hb2 E1 K1 B1
  have hsm := HSM (parseC t).1
  clear HSM
  have HP2 : Hid (parseC t = ((parseC t).1, (parseC t).2)) := Lib.hid rfl
  obtain ⟨m, hm⟩ : ∃ m, (parseC t).1 = m := ⟨_, rfl⟩
  obtain ⟨z, hz⟩ : ∃ z, (parseC t).2 = z := ⟨_, rfl⟩
  rw [hm, hz] at HP2
  rw [hm] at hsm ⊢
  rw [hz]
  clear hm hz
  have hmv : lnA m = #[.int .i64 m.k, .int .i64 m.i, .int .u64 (m.s : Int), .string (str m.y)] := rfl
  have KM : Hid (Blk (w2.alloc (.cells (lnA m) 26)) w.heap.size 26 (lnA l)) := Lib.hid (K2.out.alloc _)
  have BM : Hid (Below w.heap.size w (w2.alloc (.cells #[.int .i64 m.k, .int .i64 m.i, .int .u64 (m.s : Int), .string (str m.y)] 26))) := Lib.hid (B2.out.alloc B2.out.size _)
  have c0 : ∀ o, (w2.alloc o).cell? ⟨w.heap.size, 0, none⟩ = some (.int .i64 l.k) := fun o => (K2.out.alloc o).cell 0
  have c1 : ∀ o, (w2.alloc o).cell? ⟨w.heap.size, 1, none⟩ = some (.int .i64 l.i) := fun o => (K2.out.alloc o).cell 1
  have c2 : ∀ o, (w2.alloc o).cell? ⟨w.heap.size, 2, none⟩ = some (.int .u64 (l.s : Int)) := fun o => (K2.out.alloc o).cell 2
  have c3 : ∀ o, (w2.alloc o).cell? ⟨w.heap.size, 3, none⟩ = some (.string (str l.y)) := fun o => (K2.out.alloc o).cell 3
  have hsz : w.heap.size < w2.heap.size := K2.out.lt
  rw [hmv, hlv] at hsm
  by_cases hz : z = 0
  · have q1 : (z != 0) = false := by rw [hz]; rfl
    by_cases hml : m = l
    · have HX : Hid (R = (t, 0)) := Lib.hid (by
        rcases HTX.out with ⟨_, h⟩ | ⟨h, _⟩
        · exact h
        · exact absurd (by rw [HP2.out, hml, hz]) h)
      rw [decide_eq_true hml] at hsm
      clear hz hml HTX HP2
      go_wp2
      go_ret2
      exact ⟨by rw [HX.out]; rfl, BM.out⟩
    · have HX : Hid (R = ([], 62)) := Lib.hid (by
        rcases HTX.out with ⟨h, _⟩ | ⟨_, h⟩
        · exact absurd (congrArg Prod.fst (HP2.out.symm.trans h)) hml
        · exact h)
      rw [decide_eq_false hml] at hsm
      clear hz hml HTX HP2
      go_wp2
      go_ret2
      exact ⟨by rw [HX.out]; rfl, BM.out⟩
  · have q1 : (z != 0) = true := by simpa using hz
    have HX : Hid (R = ([], 62)) := Lib.hid (by
      rcases HTX.out with ⟨h, _⟩ | ⟨_, h⟩
      · exact absurd (congrArg Prod.snd (HP2.out.symm.trans h)) hz
      · exact h)
    clear hz HTX HP2
    go_wp2
    go_ret2
    exact ⟨by rw [HX.out]; rfl, BM.out⟩
end Go.Proofs.YtogaaomedfpdnaaDoor
