/-
  WHAT IS PROVED: the laws' anchor answers true. No condition.
-/
import Derived.Test.YtmjbacmaafbdlaaBalA
namespace Go.Proofs.Ytmjbacmaafbdlaa
open Go.RowKit Go.Lib Go.Maps

/-- what a law carries from call to call -/
theorem Bl.go {W w w' : World} {g : Nat} {F : Nat → Prop} {T : Int} {s : Bst} (h : Bl w W.heap.size g F T s) (hb : Below W.heap.size W w) (ht : Turn w w' F) : Below W.heap.size W w' := hb.trans (ht.below h.lo h.cle)
abbrev A1 : Bst := ⟨true, 5, 100, [1, 2, 3], [], []⟩
abbrev A2 : Bst := ⟨true, 5, 100, [1, 2, 3], [1], []⟩
abbrev A3 : Bst := ⟨false, 5, 100, [1, 2, 3], [1, 2], []⟩
theorem a1 : standE 10 Bst.zero 5 [1, 2, 3] 100 = 0 ∧ standS 10 Bst.zero 5 [1, 2, 3] 100 = A1 := ⟨by decide +kernel, rfl⟩
theorem a2 : stB 10 A1 120 = true ∧ stB 10 A1 121 = false := ⟨by decide +kernel, by decide +kernel⟩
theorem a3 : ackB 10 A1 1 5 101 = false ∧ ackS 10 A1 1 5 101 = A2 := ⟨by decide +kernel, rfl⟩
theorem a4 : ackB 10 A2 1 5 102 = false ∧ ackS 10 A2 1 5 102 = A2 := ⟨by decide +kernel, rfl⟩
theorem a5 : ackB 10 A2 2 5 103 = true ∧ ackS 10 A2 2 5 103 = A3 := ⟨by decide +kernel, rfl⟩
theorem a6 : ackB 10 A3 3 5 104 = false := by decide +kernel
theorem in_c {x : Int} (h : 0 ≤ x ∧ x ≤ 100) : Mp.inInt x := by unfold Mp.inInt; omega

set_option maxHeartbeats 4000000 in
theorem anchor_any (W : World) : Calls Try.prog 8 #[] W (Says true W) := by
  go_enter Try.func8, Try.ntmps8
  go_wp2_with (fail)
  refine (bnew_yes 10 _ (by decide) (by decide)).mono ?_
  rintro e w1 ⟨g, F, rfl, k1, hb1⟩
  have K1 := Lib.hid (k1.alloc (.cells #[.int .i64 1, .int .i64 2, .int .i64 3] 3))
  have HB1 := Lib.hid (hb1.alloc hb1.size (.cells #[.int .i64 1, .int .i64 2, .int .i64 3] 3))
  have hblk := Blk.new w1 3 #[.int .i64 1, .int .i64 2, .int .i64 3]
  have hr : Reads (w1.alloc (.cells #[.int .i64 1, .int .i64 2, .int .i64 3] 3)) (w1.alloc (.cells #[.int .i64 1, .int .i64 2, .int .i64 3] 3)).heap.size (some ⟨w1.heap.size, 0, none⟩) 3 (zints [1, 2, 3]) :=
    ⟨rfl, fun _ => ⟨_, rfl, hblk.lt, Nat.ne_of_lt hblk.lt, fun j u hu => by
      have ha : (⟨w1.heap.size, 0, none⟩ : Addr).add j = ⟨w1.heap.size, j, none⟩ := by unfold Addr.add; split <;> simp_all
      rw [ha, hblk.cell]
      simpa [zints] using hu⟩⟩
  clear k1 hb1 hblk
  go_wp2_with (fail)
  refine (stand_any W.heap.size g F 10 _ _ K1.out 5 _ 3 3 [1, 2, 3] 100 (Nat.le_refl _) (by omega) hr).mono ?_
  rintro e w2 ⟨rfl, F2, k2, t2, _⟩
  rw [a1.1]
  rw [a1.2] at k2
  have K2 := Lib.hid k2
  have HB2 := Lib.hid (K1.out.go HB1.out t2)
  clear k2 t2 hr
  go_wp2_with (fail)
  refine (standing_any W.heap.size g F2 10 _ _ K2.out 120).mono ?_
  rw [a2.1]
  rintro e w3 ⟨rfl, rfl⟩
  go_wp2_with (fail)
  refine (standing_any W.heap.size g F2 10 _ _ K2.out 121).mono ?_
  rw [a2.2]
  rintro e w3 ⟨rfl, rfl⟩
  go_wp2_with (fail)
  refine (ack_any W.heap.size g F2 10 _ _ K2.out 1 5 101 (in_c (by decide))).mono ?_
  rintro e w3 ⟨rfl, F3, k3, t3, _⟩
  rw [a3.1]
  rw [a3.2] at k3
  have K3 := Lib.hid k3
  have HB3 := Lib.hid (K2.out.go HB2.out t3)
  clear k3 t3
  go_wp2_with (fail)
  refine (ack_any W.heap.size g F3 10 _ _ K3.out 1 5 102 (in_c (by decide))).mono ?_
  rintro e w4 ⟨rfl, F4, k4, t4, _⟩
  rw [a4.1]
  rw [a4.2] at k4
  have K4 := Lib.hid k4
  have HB4 := Lib.hid (K3.out.go HB3.out t4)
  clear k4 t4
  go_wp2_with (fail)
  refine (ack_any W.heap.size g F4 10 _ _ K4.out 2 5 103 (in_c (by decide))).mono ?_
  rintro e w5 ⟨rfl, F5, k5, t5, _⟩
  rw [a5.1]
  rw [a5.2] at k5
  have K5 := Lib.hid k5
  have HB5 := Lib.hid (K4.out.go HB4.out t5)
  clear k5 t5
  go_wp2_with (fail)
  refine (ack_any W.heap.size g F5 10 _ _ K5.out 3 5 104 (in_c (by decide))).mono ?_
  rintro e w6 ⟨rfl, F6, k6, t6, _⟩
  rw [a6]
  have HB6 := Lib.hid (K5.out.go HB5.out t6)
  clear k6 t6
  go_wp2
  go_ret
  exact ⟨rfl, HB6.out⟩
end Go.Proofs.Ytmjbacmaafbdlaa
