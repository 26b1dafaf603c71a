/-
  WHAT IS PROVED: the laws' common anchor (the document's examples) answers true. No condition.
-/
import Derived.Test.YtcphodnenhnalaaRefs
import Derived.Test.YtcphodnenhnalaaAdd
namespace Go.Proofs.Ytcphodnenhnalaa
open Go.RowKit Go.Lib Go.Maps

abbrev ex1 : List Pr := [⟨1, 0, false, 0⟩]
abbrev ex2 : List Pr := [⟨1, 5, true, 5⟩]
abbrev ex3 : List Pr := [⟨1, 16, false, 0⟩]

set_option maxRecDepth 100000 in
set_option maxHeartbeats 4000000 in
theorem anchor_any (w : World) : Calls Try.prog 8 #[] w (Says true w) := by
  have E1 := Lib.hid (show addE [] 1 0 = 0 by decide +kernel)
  have E2 := Lib.hid (show addL [] 1 0 = ex1 by rw [addL_ok (by decide +kernel)]; rfl)
  have D1 := Lib.hid (show whoL ex1 (dueB 10 4) = [] by decide +kernel)
  have D2 := Lib.hid (show whoL ex1 (dueB 10 5) = [1] by decide +kernel)
  have E3 := Lib.hid (show metE ex1 1 5 = 0 by decide +kernel)
  have E4 := Lib.hid (show pingL ex1 1 5 = ex2 by rw [pingL_ok (by decide +kernel)]; rfl)
  have D3 := Lib.hid (show whoL ex2 (lateB 10 15) = [] by decide +kernel)
  have D4 := Lib.hid (show whoL ex2 (lateB 10 16) = [1] by decide +kernel)
  have E5 := Lib.hid (show metE ex2 1 16 = 0 by decide +kernel)
  have E6 := Lib.hid (show pongL ex2 1 16 = ex3 by rw [pongL_ok (by decide +kernel)]; rfl)
  have D5 := Lib.hid (show whoL ex3 (lateB 10 99) = [] by decide +kernel)
  have D6 := Lib.hid (show whoL ex3 (dueB 10 21) = [1] by decide +kernel)
  go_enter Try.func8, Try.ntmps8
  go_wp2_with (fail)
  refine (new_yes 10 _ (by omega) (by omega)).mono ?_
  rintro e w0 ⟨g, b, rfl, k0, hb0, hg, hb⟩
  have K0 := Lib.hid k0
  have HB0 := Lib.hid hb0
  have HBb := Lib.hid hb
  clear k0 hb0 hg hb
  go_wp2_with (fail)
  refine (add_any g b 10 [] 1 0 _ K0.out).mono ?_
  rintro e w1 ⟨rfl, k1, hg1⟩
  rw [E1.out]
  rw [E2.out] at k1
  have K1 := Lib.hid k1
  have HB1 := Lib.hid (K0.out.grownB HB0.out HBb.out hg1)
  clear k1 hg1
  go_wp2_with (fail)
  refine (due_any g b 10 ex1 4 _ K1.out).mono ?_
  rintro e w2 ⟨hb2, v2, rfl, hown2⟩
  rw [D1.out] at hown2
  obtain ⟨A2, c2, rfl, hc2, hcm2⟩ := own_slice hown2
  have K2 := Lib.hid (K1.out.below hb2)
  have HB2 := Lib.hid (HB1.out.trans (hb2.mono HB1.out.size))
  clear hb2 hown2
  go_wp2_with (fail)
  refine (due_any g b 10 ex1 5 _ K2.out).mono ?_
  rintro e w3 ⟨hb3, v3, rfl, hown3⟩
  rw [D2.out] at hown3
  obtain ⟨A3, c3, rfl, hc3, hcm3⟩ := own_slice hown3
  have K3 := Lib.hid (K2.out.below hb3)
  have HB3 := Lib.hid (HB2.out.trans (hb3.mono HB2.out.size))
  clear hb3 hown3
  go_wp2_with (fail)
  refine (ping_any g b 10 ex1 1 5 _ K3.out).mono ?_
  rintro e w4 ⟨rfl, k4, hg4⟩
  rw [E3.out]
  rw [E4.out] at k4
  have K4 := Lib.hid k4
  have HB4 := Lib.hid (K3.out.grownB HB3.out HBb.out hg4)
  clear k4 hg4
  go_wp2_with (fail)
  refine (late_any g b 10 ex2 15 _ K4.out).mono ?_
  rintro e w5 ⟨hb5, v5, rfl, hown5⟩
  rw [D3.out] at hown5
  obtain ⟨A5, c5, rfl, hc5, hcm5⟩ := own_slice hown5
  have K5 := Lib.hid (K4.out.below hb5)
  have HB5 := Lib.hid (HB4.out.trans (hb5.mono HB4.out.size))
  clear hb5 hown5
  go_wp2_with (fail)
  refine (late_any g b 10 ex2 16 _ K5.out).mono ?_
  rintro e w6 ⟨hb6, v6, rfl, hown6⟩
  rw [D4.out] at hown6
  obtain ⟨A6, c6, rfl, hc6, hcm6⟩ := own_slice hown6
  have K6 := Lib.hid (K5.out.below hb6)
  have HB6 := Lib.hid (HB5.out.trans (hb6.mono HB5.out.size))
  clear hb6 hown6
  go_wp2_with (fail)
  refine (pong_any g b 10 ex2 1 16 _ K6.out).mono ?_
  rintro e w7 ⟨rfl, k7, hg7⟩
  rw [E5.out]
  rw [E6.out] at k7
  have K7 := Lib.hid k7
  have HB7 := Lib.hid (K6.out.grownB HB6.out HBb.out hg7)
  clear k7 hg7
  go_wp2_with (fail)
  refine (late_any g b 10 ex3 99 _ K7.out).mono ?_
  rintro e w8 ⟨hb8, v8, rfl, hown8⟩
  rw [D5.out] at hown8
  obtain ⟨A8, c8, rfl, hc8, hcm8⟩ := own_slice hown8
  have K8 := Lib.hid (K7.out.below hb8)
  have HB8 := Lib.hid (HB7.out.trans (hb8.mono HB7.out.size))
  clear hb8 hown8
  go_wp2_with (fail)
  refine (due_any g b 10 ex3 21 _ K8.out).mono ?_
  rintro e w9 ⟨hb9, v9, rfl, hown9⟩
  rw [D6.out] at hown9
  obtain ⟨A9, c9, rfl, hc9, hcm9⟩ := own_slice hown9
  have K9 := Lib.hid (K8.out.below hb9)
  have HB9 := Lib.hid (HB8.out.trans (hb9.mono HB8.out.size))
  clear hb9 hown9
  go_wp2
  go_ret
  exact ⟨rfl, HB9.out⟩
end Go.Proofs.Ytcphodnenhnalaa
