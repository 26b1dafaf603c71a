/-
  WHAT IS PROVED: the law BallotMay answers true: a vote for a replica of one master keeps those for another one not from being given; for the same one until twice the timeout is over. No condition beyond those of the given row.
-/
import Derived.Test.YtmjbacmaafbdlaaAnchor
namespace Go.Proofs.Ytmjbacmaafbdlaa
open Go.RowKit Go.Lib Go.Maps

theorem bmay_no (T m o at_ now : Int) (W : World) (h : T < 2 ∨ 1073741824 < T) :
    Calls Try.prog 6 #[.int .i64 T, .int .i64 m, .int .i64 o, .int .i64 at_, .int .i64 now] W (Says true W) := by
  have HT := Lib.hid h
  clear h
  go_enter Try.func6, Try.ntmps6
  go_wp2_with (fail)
  refine (anchor_any _).mono ?_
  rintro e w0 ⟨rfl, hb0⟩
  have HB0 := Lib.hid hb0
  clear hb0
  go_wp2_with (fail)
  refine (bnew_no T _ HT.out).mono ?_
  rintro e w1 ⟨rfl, rfl⟩
  go_wp2
  go_ret
  exact ⟨rfl, HB0.out⟩
theorem bmay_out0 (T m o at_ now : Int) (W : World) (h1 : 2 ≤ T) (h2 : T ≤ 1073741824)  (c0 : m < 1) :
    Calls Try.prog 6 #[.int .i64 T, .int .i64 m, .int .i64 o, .int .i64 at_, .int .i64 now] W (Says true W) := by
  have HT := Lib.hid h1
  have HU := Lib.hid h2
  clear h1 h2
  go_enter Try.func6, Try.ntmps6
  go_wp2_with (fail)
  refine (anchor_any _).mono ?_
  rintro e w0 ⟨rfl, hb0⟩
  have HB0 := Lib.hid hb0
  clear hb0
  go_wp2_with (fail)
  refine (bnew_yes T _ HT.out HU.out).mono ?_
  rintro e w1 ⟨g, F, rfl, k1, hb1⟩
  have HB1 := Lib.hid (HB0.out.trans (hb1.mono HB0.out.size))
  clear k1 hb1
  go_wp2
  go_ret
  exact ⟨rfl, HB1.out⟩
theorem bmay_out1 (T m o at_ now : Int) (W : World) (h1 : 2 ≤ T) (h2 : T ≤ 1073741824) (n0 : 1 ≤ m) (c1 : 4294967296 < m) :
    Calls Try.prog 6 #[.int .i64 T, .int .i64 m, .int .i64 o, .int .i64 at_, .int .i64 now] W (Says true W) := by
  have HT := Lib.hid h1
  have HU := Lib.hid h2
  clear h1 h2
  go_enter Try.func6, Try.ntmps6
  go_wp2_with (fail)
  refine (anchor_any _).mono ?_
  rintro e w0 ⟨rfl, hb0⟩
  have HB0 := Lib.hid hb0
  clear hb0
  go_wp2_with (fail)
  refine (bnew_yes T _ HT.out HU.out).mono ?_
  rintro e w1 ⟨g, F, rfl, k1, hb1⟩
  have HB1 := Lib.hid (HB0.out.trans (hb1.mono HB0.out.size))
  clear k1 hb1
  go_wp2
  go_ret
  exact ⟨rfl, HB1.out⟩
theorem bmay_out2 (T m o at_ now : Int) (W : World) (h1 : 2 ≤ T) (h2 : T ≤ 1073741824) (n0 : 1 ≤ m) (n1 : m ≤ 4294967296) (c2 : at_ < 0) :
    Calls Try.prog 6 #[.int .i64 T, .int .i64 m, .int .i64 o, .int .i64 at_, .int .i64 now] W (Says true W) := by
  have HT := Lib.hid h1
  have HU := Lib.hid h2
  clear h1 h2
  go_enter Try.func6, Try.ntmps6
  go_wp2_with (fail)
  refine (anchor_any _).mono ?_
  rintro e w0 ⟨rfl, hb0⟩
  have HB0 := Lib.hid hb0
  clear hb0
  go_wp2_with (fail)
  refine (bnew_yes T _ HT.out HU.out).mono ?_
  rintro e w1 ⟨g, F, rfl, k1, hb1⟩
  have HB1 := Lib.hid (HB0.out.trans (hb1.mono HB0.out.size))
  clear k1 hb1
  go_wp2
  go_ret
  exact ⟨rfl, HB1.out⟩
theorem bmay_out3 (T m o at_ now : Int) (W : World) (h1 : 2 ≤ T) (h2 : T ≤ 1073741824) (n0 : 1 ≤ m) (n1 : m ≤ 4294967296) (n2 : 0 ≤ at_) (c3 : 1099511627776 < at_) :
    Calls Try.prog 6 #[.int .i64 T, .int .i64 m, .int .i64 o, .int .i64 at_, .int .i64 now] W (Says true W) := by
  have HT := Lib.hid h1
  have HU := Lib.hid h2
  clear h1 h2
  go_enter Try.func6, Try.ntmps6
  go_wp2_with (fail)
  refine (anchor_any _).mono ?_
  rintro e w0 ⟨rfl, hb0⟩
  have HB0 := Lib.hid hb0
  clear hb0
  go_wp2_with (fail)
  refine (bnew_yes T _ HT.out HU.out).mono ?_
  rintro e w1 ⟨g, F, rfl, k1, hb1⟩
  have HB1 := Lib.hid (HB0.out.trans (hb1.mono HB0.out.size))
  clear k1 hb1
  go_wp2
  go_ret
  exact ⟨rfl, HB1.out⟩
theorem bmay_out4 (T m o at_ now : Int) (W : World) (h1 : 2 ≤ T) (h2 : T ≤ 1073741824) (n0 : 1 ≤ m) (n1 : m ≤ 4294967296) (n2 : 0 ≤ at_) (n3 : at_ ≤ 1099511627776) (c4 : now < 0) :
    Calls Try.prog 6 #[.int .i64 T, .int .i64 m, .int .i64 o, .int .i64 at_, .int .i64 now] W (Says true W) := by
  have HT := Lib.hid h1
  have HU := Lib.hid h2
  clear h1 h2
  go_enter Try.func6, Try.ntmps6
  go_wp2_with (fail)
  refine (anchor_any _).mono ?_
  rintro e w0 ⟨rfl, hb0⟩
  have HB0 := Lib.hid hb0
  clear hb0
  go_wp2_with (fail)
  refine (bnew_yes T _ HT.out HU.out).mono ?_
  rintro e w1 ⟨g, F, rfl, k1, hb1⟩
  have HB1 := Lib.hid (HB0.out.trans (hb1.mono HB0.out.size))
  clear k1 hb1
  go_wp2
  go_ret
  exact ⟨rfl, HB1.out⟩
theorem bmay_out5 (T m o at_ now : Int) (W : World) (h1 : 2 ≤ T) (h2 : T ≤ 1073741824) (n0 : 1 ≤ m) (n1 : m ≤ 4294967296) (n2 : 0 ≤ at_) (n3 : at_ ≤ 1099511627776) (n4 : 0 ≤ now) (c5 : 2199023255552 < now) :
    Calls Try.prog 6 #[.int .i64 T, .int .i64 m, .int .i64 o, .int .i64 at_, .int .i64 now] W (Says true W) := by
  have HT := Lib.hid h1
  have HU := Lib.hid h2
  clear h1 h2
  go_enter Try.func6, Try.ntmps6
  go_wp2_with (fail)
  refine (anchor_any _).mono ?_
  rintro e w0 ⟨rfl, hb0⟩
  have HB0 := Lib.hid hb0
  clear hb0
  go_wp2_with (fail)
  refine (bnew_yes T _ HT.out HU.out).mono ?_
  rintro e w1 ⟨g, F, rfl, k1, hb1⟩
  have HB1 := Lib.hid (HB0.out.trans (hb1.mono HB0.out.size))
  clear k1 hb1
  go_wp2
  go_ret
  exact ⟨rfl, HB1.out⟩
theorem may_put {T m at_ : Int} (x now : Int) (s : Bst) (h : s.G = [⟨m, at_⟩]) : mayB T s x now = (!decide (m = x) || !lastB T (if m = x then at_ else 0) now) := by
  unfold mayB
  rw [h]
  show (!Mp.hasB [⟨m, at_⟩] x || !lastB T (if m = x then at_ else 0) now) = _
  have e : Mp.hasB [⟨m, at_⟩] x = decide (m = x) := by unfold Mp.hasB; simp
  rw [e]
set_option maxHeartbeats 2000000 in
theorem bmay_in (T m o at_ now : Int) (W : World) (h1 : 2 ≤ T) (h2 : T ≤ 1073741824) (n0 : 1 ≤ m) (n1 : m ≤ 4294967296) (n2 : 0 ≤ at_) (n3 : at_ ≤ 1099511627776) (n4 : 0 ≤ now) (n5 : now ≤ 2199023255552) (ho : Mp.inInt o) :
    Calls Try.prog 6 #[.int .i64 T, .int .i64 m, .int .i64 o, .int .i64 at_, .int .i64 now] W (Says true W) := by
  have HT := Lib.hid h1
  have HU := Lib.hid h2
  have HO := Lib.hid ho
  have HM : Hid (Mp.inInt m) := Lib.hid (by unfold Mp.inInt; omega)
  have HG : Hid (gaveE m at_ = 0 ∧ (gaveS Bst.zero m at_).G = [⟨m, at_⟩]) := Lib.hid (by
    have hi : gaveOk m at_ = true := by unfold gaveOk; rw [isid_yes ⟨n0, n1⟩, tim_yes ⟨n2, n3⟩]; rfl
    unfold gaveE gaveS
    rw [hi]
    exact ⟨rfl, rfl⟩)
  have HY0 : Hid (mayB T Bst.zero m now = true) := Lib.hid rfl
  obtain ⟨r, HR⟩ : ∃ r, Hid (lastB T at_ now = r) := ⟨_, Lib.hid rfl⟩
  have hd : decide (2 * T < now - at_) = !r := by
    rw [← HR.out]; unfold lastB
    by_cases h : now ≤ at_ + 2 * T
    · rw [decide_eq_true h]; exact decide_eq_false (by omega)
    · rw [decide_eq_false h]; exact decide_eq_true (by omega)
  have HY1 : Hid (mayB T (gaveS Bst.zero m at_) m now = !r) := Lib.hid (by rw [may_put m now _ HG.out.2]; simp [HR.out])
  have HY2 : Hid (o ≠ m → mayB T (gaveS Bst.zero m at_) o now = true) := Lib.hid (fun h => by rw [may_put o now _ HG.out.2, decide_eq_false (fun e => h e.symm)]; rfl)
  clear ho
  go_enter Try.func6, Try.ntmps6
  go_wp2_with (fail)
  refine (anchor_any _).mono ?_
  rintro e w0 ⟨rfl, hb0⟩
  have HB0 := Lib.hid hb0
  clear hb0
  go_wp2_with (fail)
  refine (bnew_yes T _ HT.out HU.out).mono ?_
  rintro e w1 ⟨g, F, rfl, k1, hb1⟩
  have K1 := Lib.hid (k1.low HB0.out.size)
  have HB1 := Lib.hid (HB0.out.trans (hb1.mono HB0.out.size))
  clear k1 hb1
  go_wp2_with (fail)
  refine (may_any W.heap.size g F T _ _ K1.out m now HM.out).mono ?_
  rintro e w2 ⟨rfl, rfl⟩
  rw [HY0.out]
  go_wp2_with (fail)
  refine (gave_any W.heap.size g F T _ _ K1.out m at_ HM.out (by decide)).mono ?_
  rintro e w2 ⟨rfl, F2, k2, t2, _⟩
  rw [HG.out.1]
  have K2 := Lib.hid k2
  have HB2 := Lib.hid (K1.out.go HB1.out t2)
  clear k2 t2
  go_wp2_with (fail)
  refine (may_any W.heap.size g F2 T _ _ K2.out m now HM.out).mono ?_
  rintro e w3 ⟨rfl, rfl⟩
  rw [HY1.out]
  by_cases hom : o = m
  · subst hom
    cases r <;> (simp only [Bool.not_true, Bool.not_false] at hd ⊢; go_wp2; go_ret; exact ⟨rfl, HB2.out⟩)
  · have HN := Lib.hid (HY2.out hom)
    have te : (o == m) = false := by simpa using hom
    clear hom
    cases r
    all_goals
      simp only [Bool.not_true, Bool.not_false] at hd ⊢
      go_wp2_with (fail)
      refine (may_any W.heap.size g F2 T _ _ K2.out o now HO.out).mono ?_
      rintro e w4 ⟨rfl, rfl⟩
      rw [HN.out]
      go_wp2
      go_ret
      exact ⟨rfl, HB2.out⟩
theorem bmay_any (T m o at_ now : Int) (W : World) (ho : Mp.inInt o) :
    Calls Try.prog 6 #[.int .i64 T, .int .i64 m, .int .i64 o, .int .i64 at_, .int .i64 now] W (Says true W) := by
  by_cases h1 : 2 ≤ T
  · by_cases h2 : T ≤ 1073741824
    · by_cases n0 : 1 ≤ m
      · by_cases n1 : m ≤ 4294967296
        · by_cases n2 : 0 ≤ at_
          · by_cases n3 : at_ ≤ 1099511627776
            · by_cases n4 : 0 ≤ now
              · by_cases n5 : now ≤ 2199023255552
                · exact bmay_in T m o at_ now W h1 h2 n0 n1 n2 n3 n4 n5 ho
                · exact bmay_out5 T m o at_ now W h1 h2 n0 n1 n2 n3 n4 (by omega)
              · exact bmay_out4 T m o at_ now W h1 h2 n0 n1 n2 n3 (by omega)
            · exact bmay_out3 T m o at_ now W h1 h2 n0 n1 n2 (by omega)
          · exact bmay_out2 T m o at_ now W h1 h2 n0 n1 (by omega)
        · exact bmay_out1 T m o at_ now W h1 h2 n0 (by omega)
      · exact bmay_out0 T m o at_ now W h1 h2 (by omega)
    · exact bmay_no T m o at_ now W (.inr (by omega))
  · exact bmay_no T m o at_ now W (.inl (by omega))
end Go.Proofs.Ytmjbacmaafbdlaa
