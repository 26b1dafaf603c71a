/-
  WHAT IS PROVED: the document's examples. No condition.
-/
import Derived.Test.YtkkjciomgcgdiaaClaim
import Derived.Test.YtkkjciomgcgdiaaSame
namespace Go.Proofs.Ytkkjciomgcgdiaa
open Go.RowKit

def ex1 : Tab := claimP Tab.zero 1 5 (3 : Nat).testBit
def ex2 : Tab := claimP ex1 2 4 (6 : Nat).testBit
def ex3 : Tab := claimP ex2 2 6 (2 : Nat).testBit
theorem ex1_any (w : World) : Calls Try.prog 13 #[.agg (tb Tab.zero), .int .i64 1, .int .i64 5, .int .u64 3] w (Gives ex1 3 0 w) := by
  have h := claim_yes Tab.zero 1 5 3 (by decide) (by decide +kernel) w
  rw [show takenP Tab.zero 1 5 (3 : Nat).testBit = 3 by decide +kernel] at h
  exact h
theorem ex2_any (w : World) : Calls Try.prog 13 #[.agg (tb ex1), .int .i64 2, .int .i64 4, .int .u64 6] w (Gives ex2 4 0 w) := by
  have h := claim_yes ex1 2 4 6 (by decide) (by decide +kernel) w
  rw [show takenP ex1 2 4 (6 : Nat).testBit = 4 by decide +kernel] at h
  exact h
theorem ex3_any (w : World) : Calls Try.prog 13 #[.agg (tb ex2), .int .i64 2, .int .i64 6, .int .u64 2] w (Gives ex3 2 0 w) := by
  have h := claim_yes ex2 2 6 2 (by decide) (by decide +kernel) w
  rw [show takenP ex2 2 6 (2 : Nat).testBit = 2 by decide +kernel] at h
  exact h
theorem ex4_any (w : World) : Calls Try.prog 20 #[.agg (tb ex3), .int .i64 2] w fun d w' => d = .returned (.int .u64 6) ∧ Below w.heap.size w w' := by
  have h := of_any ex3 2 w
  rw [show ofN ex3 2 = 6 by decide +kernel] at h
  exact h
theorem ex5_any (w : World) : Calls Try.prog 20 #[.agg (tb ex3), .int .i64 1] w fun d w' => d = .returned (.int .u64 1) ∧ Below w.heap.size w w' := by
  have h := of_any ex3 1 w
  rw [show ofN ex3 1 = 1 by decide +kernel] at h
  exact h

set_option maxRecDepth 100000 in
set_option maxHeartbeats 2000000 in
theorem anchor_any (w : World) : Calls Try.prog 12 #[] w (Says true w) := by
  go_enter Try.func12, Try.ntmps12
  go_wp2_with (first | refine at_alloc rfl ?_ | refine at_load rfl (TabAt.new _ _) rfl ?_)
  refine (ex1_any _).mono ?_
  rintro e w1 ⟨rfl, hb1⟩
  have HB1 := Lib.hid (((Below.refl w.heap.size w).alloc (Nat.le_refl _) (.cells (tb Tab.zero) 24)).trans (hb1.mono (by simp)))
  clear hb1
  go_wp2_with (first | refine at_alloc rfl ?_ | refine at_store_new rfl rfl rfl ?_ | refine at_load rfl (TabAt.new _ _) rfl ?_)
  refine (ex2_any _).mono ?_
  rintro e w2 ⟨rfl, hb2⟩
  have HB2 := Lib.hid ((below_new HB1.out HB1.out.size (.cells (tb ex1) 24)).trans (hb2.mono (Nat.le_trans HB1.out.size (by simp))))
  clear hb2
  go_wp2_with (first | refine at_alloc rfl ?_ | refine at_store_new rfl rfl rfl ?_ | refine at_load rfl (TabAt.new _ _) rfl ?_)
  refine (ex3_any _).mono ?_
  rintro e w3 ⟨rfl, hb3⟩
  have HB3 := Lib.hid (below_new ((below_new HB2.out HB2.out.size (.cells (tb ex2) 24)).trans (hb3.mono (Nat.le_trans HB2.out.size (by simp)))) (Nat.le_trans HB2.out.size (Nat.le_trans (by simp) hb3.size)) (.cells (tb ex3) 24))
  clear hb3
  go_wp2_with (first | refine at_alloc rfl ?_ | refine at_store_new rfl rfl rfl ?_ | refine at_load rfl (TabAt.new _ _) rfl ?_)
  refine (ex4_any _).mono ?_
  rintro e w4 ⟨rfl, hb4⟩
  have K4 := Lib.hid ((TabAt.new w3 ex3).later hb4)
  have HB4 := Lib.hid (HB3.out.trans (hb4.mono HB3.out.size))
  clear hb4
  go_wp2_with (refine at_load rfl K4.out rfl ?_)
  refine (ex5_any _).mono ?_
  rintro e w5 ⟨rfl, hb5⟩
  have HB5 := Lib.hid (HB4.out.trans (hb5.mono HB4.out.size))
  clear hb5
  go_wp2
  go_ret
  exact ⟨rfl, HB5.out⟩
end Go.Proofs.Ytkkjciomgcgdiaa
