/-
  WHAT IS PROVED: the law BallotPlays answers true, whatever it is asked. No condition beyond those of the given row.
-/
import Derived.Test.YtmjbacmaafbdlaaLPlays
namespace Go.Proofs.Ytmjbacmaafbdlaa
open Go.RowKit Go.Lib Go.Maps

set_option maxRecDepth 100000 in
set_option maxHeartbeats 2000000 in
theorem plays_no0 (T : Int) (A : Option Addr) (n c : Nat) (ask now : Int) (W : World) (h1 : T < 2) : Calls Try.prog 3 #[.int .i64 T, .slice A n c, .int .i64 ask, .int .i64 now] W (Says true W) := by
  have HNO : Hid (T < 2 ∨ 1073741824 < T) := Lib.hid (.inl h1)
  go_enter Try.func3, Try.ntmps3
  go_wp2_with (fail)
  refine (anchor_any _).mono ?_
  rintro e w0 ⟨rfl, hb0⟩
  have HB0 := Lib.hid hb0
  clear hb0
  go_wp2_with (fail)
  refine (bnew_no T _ HNO.out).mono ?_
  rintro e w1 ⟨rfl, rfl⟩
  go_wp2
  go_ret
  exact ⟨rfl, HB0.out⟩
set_option maxRecDepth 100000 in
set_option maxHeartbeats 2000000 in
theorem plays_no1 (T : Int) (A : Option Addr) (n c : Nat) (ask now : Int) (W : World) (h1 : 2 ≤ T) (h2 : 1073741824 < T) : Calls Try.prog 3 #[.int .i64 T, .slice A n c, .int .i64 ask, .int .i64 now] W (Says true W) := by
  have HNO : Hid (T < 2 ∨ 1073741824 < T) := Lib.hid (.inr h2)
  go_enter Try.func3, Try.ntmps3
  go_wp2_with (fail)
  refine (anchor_any _).mono ?_
  rintro e w0 ⟨rfl, hb0⟩
  have HB0 := Lib.hid hb0
  clear hb0
  go_wp2_with (fail)
  refine (bnew_no T _ HNO.out).mono ?_
  rintro e w1 ⟨rfl, rfl⟩
  go_wp2
  go_ret
  exact ⟨rfl, HB0.out⟩
set_option maxRecDepth 100000 in
set_option maxHeartbeats 2000000 in
theorem plays_out0 (T : Int) (A : Option Addr) (n c : Nat) (ask now : Int) (W : World) (h1 : 2 ≤ T) (h2 : T ≤ 1073741824) (hn : 100 < n) : Calls Try.prog 3 #[.int .i64 T, .slice A n c, .int .i64 ask, .int .i64 now] W (Says true W) := by
  have HT : Hid (2 ≤ T ∧ T ≤ 1073741824) := Lib.hid ⟨h1, h2⟩
  have q : (100 : Int) < (n : Int) := by omega
  go_enter Try.func3, Try.ntmps3
  go_wp2_with (fail)
  refine (anchor_any _).mono ?_
  rintro e w0 ⟨rfl, hb0⟩
  have HB0 := Lib.hid hb0
  clear hb0
  go_wp2_with (fail)
  refine (bnew_yes T _ HT.out.1 HT.out.2).mono ?_
  rintro e w1 ⟨g, F0, rfl, k1, hb1⟩
  have HB1 := Lib.hid (HB0.out.trans (hb1.mono HB0.out.size))
  clear k1 hb1
  go_wp2
  go_ret
  exact ⟨rfl, HB1.out⟩
set_option maxRecDepth 100000 in
set_option maxHeartbeats 2000000 in
theorem plays_out1 (T : Int) (A : Option Addr) (n c : Nat) (ask now : Int) (W : World) (h1 : 2 ≤ T) (h2 : T ≤ 1073741824) (hn : n ≤ 100) (h3 : now < -1125899906842624) : Calls Try.prog 3 #[.int .i64 T, .slice A n c, .int .i64 ask, .int .i64 now] W (Says true W) := by
  have HT : Hid (2 ≤ T ∧ T ≤ 1073741824) := Lib.hid ⟨h1, h2⟩
  go_enter Try.func3, Try.ntmps3
  go_wp2_with (fail)
  refine (anchor_any _).mono ?_
  rintro e w0 ⟨rfl, hb0⟩
  have HB0 := Lib.hid hb0
  clear hb0
  go_wp2_with (fail)
  refine (bnew_yes T _ HT.out.1 HT.out.2).mono ?_
  rintro e w1 ⟨g, F0, rfl, k1, hb1⟩
  have HB1 := Lib.hid (HB0.out.trans (hb1.mono HB0.out.size))
  clear k1 hb1
  go_wp2
  go_ret
  exact ⟨rfl, HB1.out⟩
set_option maxRecDepth 100000 in
set_option maxHeartbeats 2000000 in
theorem plays_out2 (T : Int) (A : Option Addr) (n c : Nat) (ask now : Int) (W : World) (h1 : 2 ≤ T) (h2 : T ≤ 1073741824) (hn : n ≤ 100) (h3 : -1125899906842624 ≤ now) (h4 : 1125899906842624 < now) : Calls Try.prog 3 #[.int .i64 T, .slice A n c, .int .i64 ask, .int .i64 now] W (Says true W) := by
  have HT : Hid (2 ≤ T ∧ T ≤ 1073741824) := Lib.hid ⟨h1, h2⟩
  go_enter Try.func3, Try.ntmps3
  go_wp2_with (fail)
  refine (anchor_any _).mono ?_
  rintro e w0 ⟨rfl, hb0⟩
  have HB0 := Lib.hid hb0
  clear hb0
  go_wp2_with (fail)
  refine (bnew_yes T _ HT.out.1 HT.out.2).mono ?_
  rintro e w1 ⟨g, F0, rfl, k1, hb1⟩
  have HB1 := Lib.hid (HB0.out.trans (hb1.mono HB0.out.size))
  clear k1 hb1
  go_wp2
  go_ret
  exact ⟨rfl, HB1.out⟩
theorem plays_any (T : Int) (A : Option Addr) (n c : Nat) (L : List Ac) (ask now : Int) (W : World) (hask : Mp.inInt ask) (hR : ActsAt W A n L) (hF : ∀ s ∈ L, s.fits) : Calls Try.prog 3 #[.int .i64 T, .slice A n c, .int .i64 ask, .int .i64 now] W (Says true W) := by
  by_cases h1 : 2 ≤ T
  · by_cases h2 : T ≤ 1073741824
    · by_cases hn : n ≤ 100
      · by_cases h3 : -1125899906842624 ≤ now
        · by_cases h4 : now ≤ 1125899906842624
          · exact plays_in T A n c L ask now W h1 h2 hn h3 h4 hask hR hF
          · exact plays_out2 T A n c ask now W h1 h2 hn h3 (by omega)
        · exact plays_out1 T A n c ask now W h1 h2 hn (by omega)
      · exact plays_out0 T A n c ask now W h1 h2 (by omega)
    · exact plays_no1 T A n c ask now W h1 (by omega)
  · exact plays_no0 T A n c ask now W (by omega)
end Go.Proofs.Ytmjbacmaafbdlaa
