/-
  WHAT IS PROVED: the law WatchBounds answers true for all arguments: there are never more than sixteen peers, each once; one more is refused, until another one goes. No condition beyond those of the given row.
-/
import Derived.Test.YtcphodnenhnalaaAnchor
namespace Go.Proofs.Ytcphodnenhnalaa
open Go.RowKit Go.Lib Go.Maps

theorem add_ways (L : List Pr) (hu : Up L) (x t : Int) : (addE L x t = 0 ∧ (addL L x t).length = L.length + 1) ∨ (addE L x t = 10 ∧ (addL L x t).length = L.length) ∨ (addE L x t = 31 ∧ (addL L x t).length = L.length ∧ L.length = 16) ∨ (addE L x t = 32 ∧ (addL L x t).length = L.length) := by
  by_cases he : addE L x t = 0
  · refine .inl ⟨he, ?_⟩
    rw [addL_ok he, len_ins hu]
    show (if hasL L x = true then _ else _) = _
    rw [(addE_zero he).2.2.1]
    rfl
  · rw [addL_no he]
    unfold addE at he ⊢
    split
    · split
      · exact .inr (.inr (.inr ⟨rfl, rfl⟩))
      · split
        · rename_i h; exact .inr (.inr (.inl ⟨rfl, rfl, h⟩))
        · rename_i h1 h2 h3; exact absurd (by rw [if_pos h1, if_neg h2, if_neg h3]) he
    · exact .inr (.inl ⟨rfl, rfl⟩)
theorem idl (L : List Pr) : (L.map Pr.id).length = L.length := List.length_map _

set_option maxRecDepth 100000 in
set_option maxHeartbeats 8000000 in
theorem bounds_in (A : Option Addr) (n c : Nat) (l : List Int) (ou mo : Int) (W : World) (hn : n ≤ 100) (hr : Reads W W.heap.size A n (zints l)) (hou : inInt ou) :
    Calls Try.prog 4 #[.slice A n c, .int .i64 ou, .int .i64 mo] W (Says true W) := by
  have d0 : (n : Int) ≤ 100 := by omega
  have HR := Lib.hid hr
  have HOU := Lib.hid hou
  clear hr hou
  go_enter Try.func4, Try.ntmps4
  go_wp2_with (fail)
  refine (anchor_any _).mono ?_
  rintro e w0 ⟨rfl, hb0⟩
  have HB0 := Lib.hid hb0
  clear hb0
  go_wp2_with (fail)
  refine (new_yes 2 _ (by omega) (by omega)).mono ?_
  rintro e w1 ⟨g, b, rfl, k1, hb1, hg, hb⟩
  have K1 := Lib.hid k1
  have HB1 := Lib.hid (HB0.out.trans (hb1.mono HB0.out.size))
  have HBb : Hid (W.heap.size ≤ b) := Lib.hid (Nat.le_trans HB0.out.size hb)
  clear k1 hb1 hg hb
  go_wp2
  go_loopw [9, 31] (fun s i wr => ∃ (k m : Nat) (L : List Pr), k ≤ n ∧ i = .int .i64 k ∧ s = .int .i64 m ∧ L.length = m ∧ m ≤ 16 ∧ Wt wr g b 2 L ∧ Below W.heap.size W wr) (fun _ i _ => n - (intOf i).toNat)
  case atStart => exact ⟨0, 0, [], by omega, rfl, rfl, rfl, by omega, K1.out, HB1.out⟩
  case round =>
    obtain ⟨w3, rfl⟩ : ∃ w3, w3 = wr := ⟨_, rfl⟩
    obtain ⟨k, m, L, hk, rfl, rfl, hlm, hm16, hwt, hbw⟩ := hrel
    have HK := Lib.hid hwt
    have HW := Lib.hid hbw
    have HLM := Lib.hid hlm
    clear hwt hbw hlm
    by_cases hlt : k < n
    · obtain ⟨ad, u, rfl, hu, hcx⟩ := (HR.out.old HW.out HW.out.size).at_ hlt
      obtain ⟨x, _, rfl⟩ := zints_at hu
      obtain ⟨er, HE⟩ : ∃ er, Hid (addE L x 0 = er) := ⟨_, Lib.hid rfl⟩
      obtain ⟨L4, HL4⟩ : ∃ y, Hid (addL L x 0 = y) := ⟨_, Lib.hid rfl⟩
      have hways := add_ways L HK.out.good.up x 0
      rw [HE.out, HL4.out, HLM.out] at hways
      have HWS := Lib.hid hways
      clear hu hways
      go_wp2_with (fail)
      refine (add_any g b 2 L x 0 _ HK.out).mono ?_
      rintro e w4 ⟨rfl, k4, hg4⟩
      rw [HE.out]
      rw [HL4.out] at k4
      have K4 := Lib.hid k4
      have HB4 := Lib.hid (HK.out.grownB HW.out HBb.out hg4)
      have h16 : L4.length ≤ 16 := K4.out.good.len
      clear k4 hg4
      rcases HWS.out with ⟨rfl, hl4⟩ | ⟨rfl, hl4⟩ | ⟨rfl, hl4, hm⟩ | ⟨rfl, hl4⟩
      · have HL : Hid ((L4.map Pr.id).length = m + 1) := Lib.hid (by rw [idl, hl4])
        have hm1 : m + 1 ≤ 16 := by omega
        have HL9 := Lib.hid hl4
        clear hl4
        go_wp2_with (fail)
        refine (peers_any g b 2 L4 _ K4.out).mono ?_
        rintro e w5 ⟨hb5, v5, rfl, hown5⟩
        rw [HL.out] at hown5
        obtain ⟨A5, c5, rfl, hc5, hcm5⟩ := own_slice hown5
        have K5 := Lib.hid (K4.out.below hb5)
        have HB5 := Lib.hid (HB4.out.trans (hb5.mono HB4.out.size))
        clear hb5 hown5
        go_wp2
        go_roundw
        case rel => exact ⟨k + 1, m + 1, L4, by omega, by go_num, by go_num, HL9.out, hm1, K5.out, HB5.out⟩
        case measure => simp [intOf]; omega
      all_goals
        have HL : Hid ((L4.map Pr.id).length = m) := Lib.hid (by rw [idl, hl4])
        have HL9 := Lib.hid hl4
        clear hl4
        go_wp2_with (fail)
        refine (peers_any g b 2 L4 _ K4.out).mono ?_
        rintro e w5 ⟨hb5, v5, rfl, hown5⟩
        rw [HL.out] at hown5
        obtain ⟨A5, c5, rfl, hc5, hcm5⟩ := own_slice hown5
        have K5 := Lib.hid (K4.out.below hb5)
        have HB5 := Lib.hid (HB4.out.trans (hb5.mono HB4.out.size))
        clear hb5 hown5
        go_wp2
        go_roundw
        case rel => exact ⟨k + 1, m, L4, by omega, by go_num, (by first | rfl | (congr 1; omega)), HL9.out, hm16, K5.out, HB5.out⟩
        case measure => simp [intOf]; omega
    · obtain rfl : k = n := by omega
      by_cases hlo : m < 16
      · go_wp2
        go_ret
        exact ⟨rfl, HW.out⟩
      · obtain rfl : m = 16 := by omega
        obtain ⟨q, HQ⟩ : ∃ q, Hid (hasL L ou = q) := ⟨_, Lib.hid rfl⟩
        have hld := len_del HK.out.good.up (x := ou)
        rw [HQ.out, HLM.out] at hld
        have HLD := Lib.hid hld
        clear hld hlo
        go_wp2_with (fail)
        refine (remove_any g b 2 L ou _ HK.out HOU.out).mono ?_
        rintro e w4 ⟨rfl, k4, hg4⟩
        rw [HQ.out]
        have K4 := Lib.hid k4
        have HB4 := Lib.hid (HK.out.grownB HW.out HBb.out hg4)
        clear k4 hg4
        cases q
        · go_wp2
          go_ret
          exact ⟨rfl, HB4.out⟩
        · obtain ⟨L4, HL4⟩ : ∃ y, Hid (delL L ou = y) := ⟨_, Lib.hid rfl⟩
          rw [HL4.out] at K4
          have h15 : L4.length = 15 := by have := HLD.out; rw [HL4.out] at this; simpa using this
          have H15 := Lib.hid h15
          obtain ⟨er, HE⟩ : ∃ er, Hid (addE L4 mo 5 = er) := ⟨_, Lib.hid rfl⟩
          obtain ⟨L5, HL5⟩ : ∃ y, Hid (addL L4 mo 5 = y) := ⟨_, Lib.hid rfl⟩
          have hways := add_ways L4 K4.out.good.up mo 5
          rw [HE.out, HL5.out, H15.out] at hways
          have HWS := Lib.hid hways
          clear hways h15
          go_wp2_with (fail)
          refine (add_any g b 2 L4 mo 5 _ K4.out).mono ?_
          rintro e w5 ⟨rfl, k5, hg5⟩
          rw [HE.out]
          rw [HL5.out] at k5
          have K5 := Lib.hid k5
          have HB5 := Lib.hid (K4.out.grownB HB4.out HBb.out hg5)
          clear k5 hg5
          rcases HWS.out with ⟨rfl, hl5⟩ | ⟨rfl, hl5⟩ | ⟨rfl, hl5, hm⟩ | ⟨rfl, hl5⟩
          · have HL : Hid ((L5.map Pr.id).length = 16) := Lib.hid (by rw [idl, hl5])
            clear hl5
            go_wp2_with (fail)
            refine (peers_any g b 2 L5 _ K5.out).mono ?_
            rintro e w6 ⟨hb6, v6, rfl, hown6⟩
            rw [HL.out] at hown6
            obtain ⟨A6, c6, rfl, hc6, hcm6⟩ := own_slice hown6
            have K6 := Lib.hid (K5.out.below hb6)
            have HB6 := Lib.hid (HB5.out.trans (hb6.mono HB5.out.size))
            clear hb6 hown6
            go_wp2_with (fail)
            refine (peers_any g b 2 L5 _ K6.out).mono ?_
            rintro e w7 ⟨hb7, v7, rfl, hown7⟩
            rw [HL.out] at hown7
            obtain ⟨A7, c7, rfl, hc7, hcm7⟩ := own_slice hown7
            have HB7 := Lib.hid (HB6.out.trans (hb7.mono HB6.out.size))
            clear hb7 hown7
            go_wp2
            go_ret
            exact ⟨rfl, HB7.out⟩
          · have HL : Hid ((L5.map Pr.id).length = 15) := Lib.hid (by rw [idl, hl5])
            clear hl5
            go_wp2_with (fail)
            refine (peers_any g b 2 L5 _ K5.out).mono ?_
            rintro e w6 ⟨hb6, v6, rfl, hown6⟩
            rw [HL.out] at hown6
            obtain ⟨A6, c6, rfl, hc6, hcm6⟩ := own_slice hown6
            have HB6 := Lib.hid (HB5.out.trans (hb6.mono HB5.out.size))
            clear hb6 hown6
            go_wp2
            go_ret
            exact ⟨rfl, HB6.out⟩
          · exact absurd hm (by omega)
          · have HL : Hid ((L5.map Pr.id).length = 15) := Lib.hid (by rw [idl, hl5])
            clear hl5
            go_wp2_with (fail)
            refine (peers_any g b 2 L5 _ K5.out).mono ?_
            rintro e w6 ⟨hb6, v6, rfl, hown6⟩
            rw [HL.out] at hown6
            obtain ⟨A6, c6, rfl, hc6, hcm6⟩ := own_slice hown6
            have HB6 := Lib.hid (HB5.out.trans (hb6.mono HB5.out.size))
            clear hb6 hown6
            go_wp2
            go_ret
            exact ⟨rfl, HB6.out⟩

theorem bounds_any (A : Option Addr) (n c : Nat) (l : List Int) (ou mo : Int) (W : World) (hr : ∀ g, W.heap.size ≤ g → Reads W g A n (zints l)) (hou : inInt ou) :
    Calls Try.prog 4 #[.slice A n c, .int .i64 ou, .int .i64 mo] W (Says true W) := by
  by_cases hn : n ≤ 100
  · exact bounds_in A n c l ou mo W hn (hr _ (Nat.le_refl _)) hou
  · have hn2 : 100 < n := by omega
    clear hn hr hou
    go_enter Try.func4, Try.ntmps4
    go_wp2_with (fail)
    refine (anchor_any _).mono ?_
    rintro e w0 ⟨rfl, hb0⟩
    have HB0 := Lib.hid hb0
    clear hb0
    go_wp2_with (fail)
    refine (new_yes 2 _ (by omega) (by omega)).mono ?_
    rintro e w1 ⟨g, b, rfl, k1, hb1, hg, hb⟩
    have HB1 := Lib.hid (HB0.out.trans (hb1.mono HB0.out.size))
    clear k1 hb1 hg hb
    go_wp2
    go_ret
    exact ⟨rfl, HB1.out⟩
end Go.Proofs.Ytcphodnenhnalaa
