/-
  WHAT IS PROVED: the laws' anchor answers true. No condition.
-/
import Derived.Test.YtfchhlibjhblmaaRef7
namespace Go.Proofs.Ytfchhlibjhblmaa
open Go.RowKit Go.Lib Go.Maps

theorem rd_two (w : World) (a b : Int) : Rd (w.alloc (.cells #[.int .i64 a, .int .i64 b] 3)) no 1 (some ⟨w.heap.size, 0, none⟩) 2 (zints [a, b]) := Rd.new w no (fun _ f => f.elim) 1 2 #[.int .i64 a, .int .i64 b] _ rfl
/-- what a law carries from call to call -/
theorem Rs.go {W w w' : World} {g : Nat} {F : Nat → Prop} {R : Ro} (h : Rs w W.heap.size g F R) (hb : Below W.heap.size W w) (ht : Turn w w' F) : Below W.heap.size W w' := hb.trans (ht.below h.lo h.cle)
abbrev G1 : Ro := ⟨5, [⟨7, 0, 0, 0, -1⟩], [], 0⟩
abbrev G2 : Ro := ⟨5, [⟨3, 0, 0, 0, -1⟩, ⟨7, 0, 0, 0, -1⟩], [], 0⟩
abbrev G3 : Ro := ⟨5, [⟨3, 0, 0, 0, -1⟩, ⟨7, 0, 0, 0, -1⟩, ⟨9, 0, 0, 0, -1⟩], [], 0⟩
abbrev G4 : Ro := ⟨5, [⟨3, 0, 0, 0, -1⟩, ⟨7, 0, 0, 0, -1⟩, ⟨9, 0, 0, 0, -1⟩], [], 2⟩
abbrev G5 : Ro := ⟨5, [⟨3, 0, 0, 0, -1⟩, ⟨7, 0, 0, 0, -1⟩, ⟨9, 0, 0, 0, -1⟩], [], 4⟩
theorem g1 : addE ⟨5, [], [], 0⟩ 7 0 = 0 ∧ addR ⟨5, [], [], 0⟩ 7 0 = G1 := ⟨by decide, rfl⟩
theorem g2 : addE G1 3 0 = 0 ∧ addR G1 3 0 = G2 := ⟨by decide, rfl⟩
theorem g3 : addE G2 9 0 = 0 ∧ addR G2 9 0 = G3 := ⟨by decide, rfl⟩
theorem g4 : nextL G3 2 0 = [3, 7] ∧ nextR G3 2 0 = G4 := ⟨by decide, rfl⟩
theorem g5 : nextL G4 2 0 = [9, 3] ∧ nextR G4 2 0 = G5 := ⟨by decide, rfl⟩
theorem g6 : nextL G5 5 7 = [3, 9] := by decide
theorem id5 : isIdB 5 = true := by decide

set_option maxHeartbeats 4000000 in
theorem anchor_any (W : World) : Calls Try.prog 10 #[] W (Says true W) := by
  go_enter Try.func10, Try.ntmps10
  go_wp2_with (fail)
  refine (new_yes 5 _ id5).mono ?_
  rintro e w1 ⟨g, F, rfl, k1, hb1⟩
  have K1 := Lib.hid k1
  have HB1 := Lib.hid hb1
  clear k1 hb1
  go_wp2_with (fail)
  refine (add_any W.heap.size g F _ _ K1.out 7 0).mono ?_
  rintro e w2 ⟨rfl, F2, k2, t2, _⟩
  rw [g1.1]
  rw [g1.2] at k2
  have K2 := Lib.hid k2
  have HB2 := Lib.hid (K1.out.go HB1.out t2)
  clear k2 t2
  go_wp2_with (fail)
  refine (add_any W.heap.size g F2 _ _ K2.out 3 0).mono ?_
  rintro e w3 ⟨rfl, F3, k3, t3, _⟩
  rw [g2.1]
  rw [g2.2] at k3
  have K3 := Lib.hid k3
  have HB3 := Lib.hid (K2.out.go HB2.out t3)
  clear k3 t3
  go_wp2_with (fail)
  refine (add_any W.heap.size g F3 _ _ K3.out 9 0).mono ?_
  rintro e w4 ⟨rfl, F4, k4, t4, _⟩
  rw [g3.1]
  rw [g3.2] at k4
  have K4 := Lib.hid k4
  have HB4 := Lib.hid (K3.out.go HB3.out t4)
  clear k4 t4
  go_wp2_with (fail)
  refine (next_any W.heap.size g F4 _ _ K4.out (by decide) 2 0).mono ?_
  rintro e w5 ⟨⟨v, rfl, ho5⟩, k5, t5⟩
  rw [g4.1] at ho5
  rw [g4.2] at k5
  obtain ⟨A5, c5, rfl, _, _⟩ := own_form ho5
  have K5 := Lib.hid (k5.alloc (.cells #[.int .i64 3, .int .i64 7] 3))
  have HB5 := Lib.hid ((K4.out.go HB4.out t5).alloc (K4.out.go HB4.out t5).size (.cells #[.int .i64 3, .int .i64 7] 3))
  have H5 : Hid (Rd (w5.alloc (.cells #[.int .i64 3, .int .i64 7] 3)) no 1 (A5) 2 (zints [3, 7])) := Lib.hid ((Rd.of_own (F := no) ho5 rfl (fun _ _ f => f)).below ((Below.refl _ _).alloc (Nat.le_refl _) _))
  have HT5 := Lib.hid (rd_two w5 3 7)
  clear ho5 k5 t5
  go_wp2_with (fail)
  refine (same_any _ _ 2 _ 2 _ [3, 7] [3, 7] no no _ (by omega) (by omega) H5.out HT5.out).mono ?_
  rintro e w6 ⟨rfl, rfl⟩
  rw [same_yes rfl]
  go_wp2_with (fail)
  refine (next_any W.heap.size g F4 _ _ K5.out (by decide) 2 0).mono ?_
  rintro e w7 ⟨⟨v, rfl, ho7⟩, k7, t7⟩
  rw [g5.1] at ho7
  rw [g5.2] at k7
  obtain ⟨A7, c7, rfl, _, _⟩ := own_form ho7
  have K7 := Lib.hid (k7.alloc (.cells #[.int .i64 9, .int .i64 3] 3))
  have HB7 := Lib.hid ((K5.out.go HB5.out t7).alloc (K5.out.go HB5.out t7).size (.cells #[.int .i64 9, .int .i64 3] 3))
  have H7 : Hid (Rd (w7.alloc (.cells #[.int .i64 9, .int .i64 3] 3)) no 1 (A7) 2 (zints [9, 3])) := Lib.hid ((Rd.of_own (F := no) ho7 rfl (fun _ _ f => f)).below ((Below.refl _ _).alloc (Nat.le_refl _) _))
  have HT7 := Lib.hid (rd_two w7 9 3)
  clear ho7 k7 t7
  go_wp2_with (fail)
  refine (same_any _ _ 2 _ 2 _ [9, 3] [9, 3] no no _ (by omega) (by omega) H7.out HT7.out).mono ?_
  rintro e w8 ⟨rfl, rfl⟩
  rw [same_yes rfl]
  go_wp2_with (fail)
  refine (next_any W.heap.size g F4 _ _ K7.out (by decide) 5 7).mono ?_
  rintro e w9 ⟨⟨v, rfl, ho9⟩, k9, t9⟩
  rw [g6] at ho9
  obtain ⟨A9, c9, rfl, _, _⟩ := own_form ho9
  have K9 := Lib.hid (k9.alloc (.cells #[.int .i64 3, .int .i64 9] 3))
  have HB9 := Lib.hid ((K7.out.go HB7.out t9).alloc (K7.out.go HB7.out t9).size (.cells #[.int .i64 3, .int .i64 9] 3))
  have H9 : Hid (Rd (w9.alloc (.cells #[.int .i64 3, .int .i64 9] 3)) no 1 (A9) 2 (zints [3, 9])) := Lib.hid ((Rd.of_own (F := no) ho9 rfl (fun _ _ f => f)).below ((Below.refl _ _).alloc (Nat.le_refl _) _))
  have HT9 := Lib.hid (rd_two w9 3 9)
  clear ho9 k9 t9
  go_wp2_with (fail)
  refine (same_any _ _ 2 _ 2 _ [3, 9] [3, 9] no no _ (by omega) (by omega) H9.out HT9.out).mono ?_
  rintro e w10 ⟨rfl, rfl⟩
  rw [same_yes rfl]
  go_wp2_with (fail)
  refine (self_any W.heap.size g F4 _ _ K9.out).mono ?_
  rintro e w11 ⟨rfl, rfl⟩
  go_wp2
  go_ret
  exact ⟨rfl, HB9.out⟩
end Go.Proofs.Ytfchhlibjhblmaa
