/-
  WHAT IS PROVED: the law ReportWindows answers true for all arguments (a report counts up to its time and the window, and no longer; a later one of the same two counts in its place). No condition beyond those of the given row.
-/
import Derived.Test.YtcacjppdcmghjaaAnchor
namespace Go.Proofs.Ytcacjppdcmghjaa
open Go.RowKit Go.Lib Go.Maps

theorem one_note {at_ : Int} (h0 : 0 ≤ at_) (h1 : at_ ≤ 1099511627776) : noteE 7 8 at_ = 0 := noteE_ok (by decide) (by decide) (by unfold isTimeB; simp; omega) (by decide)
theorem one_first {at_ : Int} (h0 : 0 ≤ at_) (h1 : at_ ≤ 1099511627776) : noteL [] 7 8 at_ = [⟨7, 8, at_⟩] := by rw [noteL_ok (one_note h0 h1)]; rfl
theorem one_second {at_ o : Int} (h0 : 0 ≤ o) (h1 : o ≤ 1099511627776) : noteL [⟨7, 8, at_⟩] 7 8 o = [⟨7, 8, max at_ o⟩] := by
  rw [noteL_ok (one_note h0 h1)]
  show (if (⟨7, 8, at_⟩ : Rp).is 7 8 then _ else _) = _
  rw [if_pos ⟨rfl, rfl⟩]
theorem one_by {m now win : Int} (h : now ≤ m + win) : byL [⟨7, 8, m⟩] 7 now win = [8] := by
  have : whoL [⟨7, 8, m⟩] 7 now win = [8] := by unfold whoL tellB countB; simp [h]
  unfold byL
  rw [this]
  unfold sorted
  exact List.mergeSort_of_pairwise (by decide)
theorem one_not {m now win : Int} (h : m + win < now) : byL [⟨7, 8, m⟩] 7 now win = [] := by
  have : whoL [⟨7, 8, m⟩] 7 now win = [] := by unfold whoL tellB countB; simp; omega
  unfold byL
  rw [this, sorted_nil]
theorem one_stays {m now win : Int} (h : now ≤ m + win) : ([⟨7, 8, m⟩] : List Rp).filter (fun r => !staleB win now r) = [⟨7, 8, m⟩] := by unfold staleB countB; simp [h]
theorem one_goes {m now win : Int} (h : m + win < now) : ([⟨7, 8, m⟩] : List Rp).filter (fun r => !staleB win now r) = [] := by unfold staleB countB; simp; omega

set_option maxRecDepth 100000 in
set_option maxHeartbeats 4000000 in
theorem windows_in (win at_ o : Int) (w : World) (hw1 : 1 ≤ win) (hw2 : win ≤ 1073741824) (a0 : 0 ≤ at_) (a1 : at_ ≤ 1099511627776) (o0 : 0 ≤ o) (o1 : o ≤ 1099511627776) :
    Calls Try.prog 5 #[.int .i64 win, .int .i64 at_, .int .i64 o] w (Says true w) := by
  have E1 := Lib.hid (one_note a0 a1)
  have E2 := Lib.hid (one_first a0 a1)
  have E3 := Lib.hid (one_note o0 o1)
  have E4 := Lib.hid (one_second (at_ := at_) o0 o1)
  have E5 : Hid (byL [⟨7, 8, max at_ o⟩] 7 (max at_ o + win) win = [8]) := Lib.hid (one_by (Int.le_refl _))
  have E6 : Hid (byL [⟨7, 8, max at_ o⟩] 7 (max at_ o + win + 1) win = []) := Lib.hid (one_not (by omega))
  have E7 : Hid (([⟨7, 8, max at_ o⟩] : List Rp).filter (fun r => !staleB win (max at_ o + win) r) = [⟨7, 8, max at_ o⟩]) := Lib.hid (one_stays (Int.le_refl _))
  have E8 : Hid (([⟨7, 8, max at_ o⟩] : List Rp).filter (fun r => !staleB win (max at_ o + win + 1) r) = []) := Lib.hid (one_goes (by omega))
  have E9 := Lib.hid (show sameB [8] [8] = true by decide +kernel)
  go_enter Try.func5, Try.ntmps5
  go_wp2_with (fail)
  refine (anchor_any _).mono ?_
  rintro e w0 ⟨rfl, hb0⟩
  have HB0 := Lib.hid hb0
  clear hb0
  go_wp2_with (fail)
  refine (new_yes win _ hw1 hw2).mono ?_
  rintro e w1 ⟨g, b, rfl, k1, hb1, hg, hb⟩
  have K1 := Lib.hid k1
  have HB1 := Lib.hid (HB0.out.trans (hb1.mono HB0.out.size))
  have HBb : Hid (w.heap.size ≤ b) := Lib.hid (Nat.le_trans HB0.out.size hb)
  clear k1 hb1 hg hb
  go_wp2_with (fail)
  refine (note_any g b win [] 7 8 at_ _ K1.out (by simp)).mono ?_
  rintro e w2 ⟨rfl, k2, hg2⟩
  rw [E1.out]
  rw [E2.out] at k2
  have K2 := Lib.hid k2
  have HB2 := Lib.hid (K1.out.grownB HB1.out HBb.out hg2)
  clear k2 hg2
  go_wp2_with (fail)
  refine (note_any g b win _ 7 8 o _ K2.out (by simp)).mono ?_
  rintro e w3 ⟨rfl, k3, hg3⟩
  rw [E3.out]
  rw [E4.out] at k3
  have K3 := Lib.hid k3
  have HB3 := Lib.hid (K2.out.grownB HB2.out HBb.out hg3)
  clear k3 hg3
  go_wp2_with (fail)
  refine (len_any g b win _ _ K3.out).mono ?_
  rintro e w4 ⟨rfl, rfl⟩
  go_wp2_with (fail)
  refine (by_any g b win _ 7 _ _ K3.out (by simp)).mono ?_
  rintro e w4 ⟨hb4, v4, rfl, hown4⟩
  rw [E5.out] at hown4
  obtain ⟨A4, c4, rfl, hc4, hcm4⟩ := own_slice hown4
  have K4 := Lib.hid (K3.out.below hb4)
  have HB4 := Lib.hid (HB3.out.trans (hb4.mono HB3.out.size))
  have HO4 := Lib.hid hown4
  clear hb4 hown4
  go_wp2_with (fail)
  refine (same_any A4 _ _ c4 1 1 [8] [8] (w4.heap.size + 1) (w4.heap.size + 1) _ (by decide) (by decide) (own_read (HO4.out.alloc _) _ (.inl (by simp))) (lit_reads w4 [8] _ (by omega))).mono ?_
  rintro e w5 ⟨rfl, rfl⟩
  rw [E9.out]
  have K5 := Lib.hid (K4.out.below ((Below.refl _ _).alloc (Nat.le_refl _) (.cells #[.int .i64 8] 3)))
  have HB5 := Lib.hid (HB4.out.alloc HB4.out.size (.cells #[.int .i64 8] 3))
  go_wp2_with (fail)
  refine (by_any g b win _ 7 _ _ K5.out (by simp)).mono ?_
  rintro e w6 ⟨hb6, v6, rfl, hown6⟩
  rw [E6.out] at hown6
  obtain ⟨A6, c6, rfl, hc6, hcm6⟩ := own_slice hown6
  have K6 := Lib.hid (K5.out.below hb6)
  have HB6 := Lib.hid (HB5.out.trans (hb6.mono HB5.out.size))
  clear hb6 hown6
  go_wp2_with (fail)
  refine (expire_any g b win _ _ _ K6.out (by simp)).mono ?_
  rintro e w7 ⟨rfl, k7, hg7⟩
  rw [E7.out] at k7 ⊢
  have K7 := Lib.hid k7
  have HB7 := Lib.hid (K6.out.grownB HB6.out HBb.out hg7)
  clear k7 hg7
  go_wp2_with (fail)
  refine (expire_any g b win _ _ _ K7.out (by simp)).mono ?_
  rintro e w8 ⟨rfl, k8, hg8⟩
  rw [E8.out] at k8 ⊢
  have K8 := Lib.hid k8
  have HB8 := Lib.hid (K7.out.grownB HB7.out HBb.out hg8)
  clear k8 hg8
  go_wp2_with (fail)
  refine (len_any g b win _ _ K8.out).mono ?_
  rintro e w9 ⟨rfl, rfl⟩
  go_wp2
  go_ret
  exact ⟨rfl, HB8.out⟩

set_option maxHeartbeats 2000000 in
theorem windows_any (win at_ o : Int) (w : World) : Calls Try.prog 5 #[.int .i64 win, .int .i64 at_, .int .i64 o] w (Says true w) := by
  by_cases hw : 1 ≤ win ∧ win ≤ 1073741824
  · obtain ⟨hw1, hw2⟩ := hw
    by_cases hok : (0 ≤ at_ ∧ at_ ≤ 1099511627776) ∧ (0 ≤ o ∧ o ≤ 1099511627776)
    · exact windows_in win at_ o w hw1 hw2 hok.1.1 hok.1.2 hok.2.1 hok.2.2
    · have hc : at_ < 0 ∨ (decide (at_ < 0) = false ∧ 1099511627776 < at_) ∨ (decide (at_ < 0) = false ∧ decide (1099511627776 < at_) = false ∧ o < 0) ∨ (decide (at_ < 0) = false ∧ decide (1099511627776 < at_) = false ∧ decide (o < 0) = false ∧ 1099511627776 < o) := by
        simp; omega
      clear hok
      rcases hc with h1 | ⟨h1, h2⟩ | ⟨h1, h2, h3⟩ | ⟨h1, h2, h3, h4⟩
      all_goals
        go_enter Try.func5, Try.ntmps5
        go_wp2_with (fail)
        refine (anchor_any _).mono ?_
        rintro e w0 ⟨rfl, hb0⟩
        have HB0 := Lib.hid hb0
        clear hb0
        go_wp2_with (fail)
        refine (new_yes win _ hw1 hw2).mono ?_
        rintro e w1 ⟨g, b, rfl, k1, hb1, hg, hb⟩
        have HB1 := Lib.hid (HB0.out.trans (hb1.mono HB0.out.size))
        clear k1 hb1 hg hb
        go_wp2
        go_ret
        exact ⟨rfl, HB1.out⟩
  · go_enter Try.func5, Try.ntmps5
    go_wp2_with (fail)
    refine (anchor_any _).mono ?_
    rintro e w0 ⟨rfl, hb0⟩
    have HB0 := Lib.hid hb0
    clear hb0
    go_wp2_with (fail)
    refine (new_no win _ (by omega)).mono ?_
    rintro e w1 ⟨rfl, rfl⟩
    go_wp2
    go_ret
    exact ⟨rfl, HB0.out⟩
end Go.Proofs.Ytcacjppdcmghjaa
