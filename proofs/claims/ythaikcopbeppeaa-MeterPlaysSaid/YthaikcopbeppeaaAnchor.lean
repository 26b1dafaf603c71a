/-
  WHAT IS PROVED: the laws' common anchor (the document's example) answers true; nothing that was there has turned. No condition.
-/
import Derived.Test.YthaikcopbeppeaaTotal
namespace Go.Proofs.Ythaikcopbeppeaa
open Go.RowKit Go.Lib

theorem anchor_any (w : World) : Calls Try.prog 9 #[] w (Says true w) := by
  have E1 := Lib.hid (show St.zero.okC 2 5 = true by decide +kernel)
  have E2 := Lib.hid (show (St.zero.count 2 5).okC 2 1 = true by decide +kernel)
  have E3 := Lib.hid (show ((St.zero.count 2 5).count 2 1).get 2 = 6 by decide +kernel)
  have E4 := Lib.hid (show ((St.zero.count 2 5).count 2 1).okM 3 = true by decide +kernel)
  have E5 := Lib.hid (show (((St.zero.count 2 5).count 2 1).mark 3).okM 2 = false by decide +kernel)
  have E6 := Lib.hid (show ((((St.zero.count 2 5).count 2 1).mark 3).mark 2).high = 3 by decide +kernel)
  go_enter Try.func9, Try.ntmps9
  go_wp2_with (fail)
  refine (new_any w).mono ?_
  rintro e w1 ⟨rfl, h1, hb⟩
  go_wp2_with (fail)
  refine (count_any _ _ 2 5 _ h1).mono ?_
  rintro e w2 ⟨rfl, h2, hg2⟩
  rw [E1.out]
  go_wp2_with (fail)
  refine (count_any _ _ 2 1 _ h2).mono ?_
  rintro e w3 ⟨rfl, h3, hg3⟩
  rw [E2.out]
  go_wp2_with (fail)
  refine (get_any _ _ 2 _ h3).mono ?_
  rintro e w4 ⟨rfl, h4, hg4⟩
  rw [E3.out]
  go_wp2_with (fail)
  refine (mark_any _ _ 3 _ h4 (by decide)).mono ?_
  rintro e w5 ⟨rfl, h5, hg5⟩
  rw [E4.out]
  go_wp2_with (fail)
  refine (mark_any _ _ 2 _ h5 (by decide)).mono ?_
  rintro e w6 ⟨rfl, h6, hg6⟩
  rw [E5.out]
  go_wp2_with (fail)
  refine (high_any _ _ _ h6).mono ?_
  rintro e w7 ⟨rfl, h7, hg7⟩
  rw [E6.out]
  go_wp2
  go_ret
  exact ⟨rfl, hb.trans (below_of_only (hg2.trans (hg3.trans (hg4.trans (hg5.trans (hg6.trans hg7))))) hb.size (Nat.le_refl _))⟩
end Go.Proofs.Ythaikcopbeppeaa
