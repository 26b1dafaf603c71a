/-
  WHAT IS PROVED: the law WatchGrows answers true for all arguments: who is due, or late, and isn't pinged or heard, is so for ever. No condition beyond those of the given row.
-/
import Derived.Test.YtcphodnenhnalaaAnchor
namespace Go.Proofs.Ytcphodnenhnalaa
open Go.RowKit Go.Lib Go.Maps

theorem who_sub {L : List Pr} {f h : Pr → Bool} (hi : ∀ p, f p = true → h p = true) : (whoL L f).Sublist (whoL L h) := by
  unfold whoL
  refine List.Sublist.map _ ?_
  have e : L.filter f = (L.filter h).filter f := by
    rw [List.filter_filter]
    refine List.filter_congr fun p _ => ?_
    cases hf : f p
    · rfl
    · rw [hi p hf]; rfl
  rw [e]
  exact List.filter_sublist
theorem due_sub {L : List Pr} {T a b : Int} (h : a ≤ b) : (whoL L (dueB T a)).Sublist (whoL L (dueB T b)) := who_sub fun p hp => by unfold dueB at hp ⊢; simp at hp ⊢; omega
theorem late_sub {L : List Pr} {T a b : Int} (h : a ≤ b) : (whoL L (lateB T a)).Sublist (whoL L (lateB T b)) := who_sub fun p hp => by unfold lateB at hp ⊢; simp at hp ⊢; exact ⟨hp.1, by omega⟩

set_option maxRecDepth 100000 in
set_option maxHeartbeats 8000000 in
theorem grows_in (T : Int) (A : Option Addr) (n c : Nat) (l : List St) (now la : Int) (W : World) (hT1 : 2 ≤ T) (hT2 : T ≤ 1073741824) (hn : n ≤ 60) (hr : ActsAt W A n l) (h0 : 0 ≤ now) (h1 : now ≤ la) (h2 : la ≤ 1125899906842624) :
    Calls Try.prog 7 #[.int .i64 T, .slice A n c, .int .i64 now, .int .i64 la] W (Says true W) := by
  have d0 : (n : Int) ≤ 60 := by omega
  have HR := Lib.hid hr
  clear hr
  go_enter Try.func7, Try.ntmps7
  go_wp2_with (fail)
  refine (anchor_any _).mono ?_
  rintro e w0 ⟨rfl, hb0⟩
  have HB0 := Lib.hid hb0
  clear hb0
  go_wp2_with (fail)
  refine (new_yes T _ hT1 hT2).mono ?_
  rintro e w1 ⟨g, b, rfl, k1, hb1, hg, hb⟩
  have K1 := Lib.hid k1
  have HB1 := Lib.hid (HB0.out.trans (hb1.mono HB0.out.size))
  have HBb : Hid (W.heap.size ≤ b) := Lib.hid (Nat.le_trans HB0.out.size hb)
  clear k1 hb1 hg hb
  go_wp2
  go_loopw [43] (fun i wr => ∃ (k : Nat) (L : List Pr), k ≤ n ∧ i = .int .i64 k ∧ Wt wr g b T L ∧ Below W.heap.size W wr) (fun i _ => n - (intOf i).toNat)
  case atStart => exact ⟨0, [], by omega, rfl, K1.out, HB1.out⟩
  case round =>
    obtain ⟨w3, rfl⟩ : ∃ w3, w3 = wr := ⟨_, rfl⟩
    obtain ⟨k, L, hk, rfl, hwt, hbw⟩ := hrel
    have HK := Lib.hid hwt
    have HW := Lib.hid hbw
    clear hwt hbw
    by_cases hlt : k < n
    · obtain ⟨ad, x, rfl, hx, hbl, f0, f1, f2⟩ := (HR.out.below HW.out).at_ hlt
      obtain ⟨ho, xi, xt⟩ := x
      simp only at f0 f1 f2
      clear hx
      have HAL : Hid (Below w3.heap.size w3 (w3.alloc (.cells #[.int .i64 ho, .int .i64 xi, .int .i64 xt] 30))) := Lib.hid ((Below.refl _ _).alloc (Nat.le_refl _) _)
      have HWA := Lib.hid (HW.out.alloc HW.out.size (.cells #[.int .i64 ho, .int .i64 xi, .int .i64 xt] 30))
      have HKA := Lib.hid (HK.out.below HAL.out)
      have HSA := Lib.hid (Sx.new w3 ⟨ho, xi, xt⟩)
      obtain ⟨a0, a1, a2⟩ := HSA.out.cells
      simp only at a0 a1 a2
      by_cases x1 : ho = 1
      · subst x1
        go_wp2_with (fail)
        refine (add_any g b _ _ xi xt _ HKA.out).mono ?_
        rintro e wt ⟨rfl, k5, hg5⟩
        have KT := Lib.hid k5
        have HBT := Lib.hid (HKA.out.grownB HWA.out HBb.out hg5)
        clear k5 hg5
        go_wp2
        go_roundw
        case rel => exact ⟨k + 1, addL L xi xt, by omega, by go_num, KT.out, HBT.out⟩
        case measure => simp [intOf]; omega
      · by_cases x3 : ho = 3
        · subst x3
          go_wp2_with (fail)
          refine (ping_any g b _ _ xi xt _ HKA.out).mono ?_
          rintro e wt ⟨rfl, k5, hg5⟩
          have KT := Lib.hid k5
          have HBT := Lib.hid (HKA.out.grownB HWA.out HBb.out hg5)
          clear k5 hg5
          go_wp2
          go_roundw
          case rel => exact ⟨k + 1, pingL L xi xt, by omega, by go_num, KT.out, HBT.out⟩
          case measure => simp [intOf]; omega
        · by_cases x4 : ho = 4
          · subst x4
            go_wp2_with (fail)
            refine (pong_any g b _ _ xi xt _ HKA.out).mono ?_
            rintro e wt ⟨rfl, k5, hg5⟩
            have KT := Lib.hid k5
            have HBT := Lib.hid (HKA.out.grownB HWA.out HBb.out hg5)
            clear k5 hg5
            go_wp2
            go_roundw
            case rel => exact ⟨k + 1, pongL L xi xt, by omega, by go_num, KT.out, HBT.out⟩
            case measure => simp [intOf]; omega
          · have t1 : (ho == 1) = false := by simpa using x1
            have t3 : (ho == 3) = false := by simpa using x3
            have t4 : (ho == 4) = false := by simpa using x4
            go_wp2
            go_roundw
            case rel => exact ⟨k + 1, L, by omega, by go_num, HKA.out, HWA.out⟩
            case measure => simp [intOf]; omega
    · obtain rfl : k = n := by omega
      have hl16 := HK.out.good.len
      obtain ⟨d1, HD1⟩ : ∃ y, Hid (whoL L (dueB T now) = y) := ⟨_, Lib.hid rfl⟩
      obtain ⟨d2, HD2⟩ : ∃ y, Hid (whoL L (dueB T la) = y) := ⟨_, Lib.hid rfl⟩
      obtain ⟨l1, HL1⟩ : ∃ y, Hid (whoL L (lateB T now) = y) := ⟨_, Lib.hid rfl⟩
      obtain ⟨l2, HL2⟩ : ∃ y, Hid (whoL L (lateB T la) = y) := ⟨_, Lib.hid rfl⟩
      have hs1 := due_sub (L := L) (T := T) h1
      have hs2 := late_sub (L := L) (T := T) h1
      have n1 := who_le L (dueB T now)
      have n2 := who_le L (dueB T la)
      have n3 := who_le L (lateB T now)
      have n4 := who_le L (lateB T la)
      rw [HD1.out] at n1 hs1
      rw [HD2.out] at n2 hs1
      rw [HL1.out] at n3 hs2
      rw [HL2.out] at n4 hs2
      have HS1 := Lib.hid hs1
      have HS2 := Lib.hid hs2
      clear hs1 hs2
      go_wp2_with (fail)
      refine (due_any g b T L now _ HK.out).mono ?_
      rintro e w4 ⟨hb4, v4, rfl, hown4⟩
      rw [HD1.out] at hown4
      obtain ⟨A4, c4, rfl, hc4, hcm4⟩ := own_slice hown4
      have K4 := Lib.hid (HK.out.below hb4)
      have HB4 := Lib.hid (HW.out.trans (hb4.mono HW.out.size))
      have HO4 := Lib.hid hown4
      have hbk4 := Lib.hid hb4
      clear hb4 hown4
      go_wp2_with (fail)
      refine (due_any g b T L la _ K4.out).mono ?_
      rintro e w5 ⟨hb5, v5, rfl, hown5⟩
      rw [HD2.out] at hown5
      obtain ⟨A5, c5, rfl, hc5, hcm5⟩ := own_slice hown5
      have K5 := Lib.hid (K4.out.below hb5)
      have HB5 := Lib.hid (HB4.out.trans (hb5.mono HB4.out.size))
      have HO5 := Lib.hid hown5
      have hbk5 := Lib.hid hb5
      clear hb5 hown5
      go_wp2_with (fail)
      refine (in_any A4 A5 _ c4 _ c5 d1 d2 _ _ _ (by omega) (by omega) (own_read (own_below HO4.out hbk5.out) _ (.inl (Nat.le_refl _))) (own_read HO5.out _ (.inl (Nat.le_refl _))) HS1.out).mono ?_
      rintro e w6 ⟨rfl, rfl⟩
      go_wp2_with (fail)
      refine (late_any g b T L now _ K5.out).mono ?_
      rintro e w7 ⟨hb7, v7, rfl, hown7⟩
      rw [HL1.out] at hown7
      obtain ⟨A7, c7, rfl, hc7, hcm7⟩ := own_slice hown7
      have K7 := Lib.hid (K5.out.below hb7)
      have HB7 := Lib.hid (HB5.out.trans (hb7.mono HB5.out.size))
      have HO7 := Lib.hid hown7
      have hbk7 := Lib.hid hb7
      clear hb7 hown7
      go_wp2_with (fail)
      refine (late_any g b T L la _ K7.out).mono ?_
      rintro e w8 ⟨hb8, v8, rfl, hown8⟩
      rw [HL2.out] at hown8
      obtain ⟨A8, c8, rfl, hc8, hcm8⟩ := own_slice hown8
      have K8 := Lib.hid (K7.out.below hb8)
      have HB8 := Lib.hid (HB7.out.trans (hb8.mono HB7.out.size))
      have HO8 := Lib.hid hown8
      have hbk8 := Lib.hid hb8
      clear hb8 hown8
      go_wp2_with (fail)
      refine (in_any A7 A8 _ c7 _ c8 l1 l2 _ _ _ (by omega) (by omega) (own_read (own_below HO7.out hbk8.out) _ (.inl (Nat.le_refl _))) (own_read HO8.out _ (.inl (Nat.le_refl _))) HS2.out).mono ?_
      rintro e w9 ⟨rfl, rfl⟩
      go_wp2
      go_ret
      exact ⟨rfl, HB8.out⟩

set_option maxRecDepth 100000 in
set_option maxHeartbeats 4000000 in
theorem grows_out (T : Int) (A : Option Addr) (n c : Nat) (now la : Int) (W : World) (h : (T < 2 ∨ 1073741824 < T) ∨ (2 ≤ T ∧ T ≤ 1073741824 ∧ (60 < n ∨ (n ≤ 60 ∧ (now < 0 ∨ (0 ≤ now ∧ (la < now ∨ (now ≤ la ∧ 1125899906842624 < la)))))))) :
    Calls Try.prog 7 #[.int .i64 T, .slice A n c, .int .i64 now, .int .i64 la] W (Says true W) := by
  rcases h with h | ⟨hT1, hT2, h⟩
  · have HH := Lib.hid h
    clear h
    go_enter Try.func7, Try.ntmps7
    go_wp2_with (fail)
    refine (anchor_any _).mono ?_
    rintro e w0 ⟨rfl, hb0⟩
    have HB0 := Lib.hid hb0
    clear hb0
    go_wp2_with (fail)
    refine (new_no T _ HH.out).mono ?_
    rintro e w1 ⟨rfl, rfl⟩
    go_wp2
    go_ret
    exact ⟨rfl, HB0.out⟩
  · rcases h with h | ⟨h, h | ⟨h3, h | ⟨h4, h5⟩⟩⟩
    all_goals
      go_enter Try.func7, Try.ntmps7
      go_wp2_with (fail)
      refine (anchor_any _).mono ?_
      rintro e w0 ⟨rfl, hb0⟩
      have HB0 := Lib.hid hb0
      clear hb0
      go_wp2_with (fail)
      refine (new_yes T _ hT1 hT2).mono ?_
      rintro e w1 ⟨g, b, rfl, k1, hb1, hg, hb⟩
      have HB1 := Lib.hid (HB0.out.trans (hb1.mono HB0.out.size))
      clear k1 hb1 hg hb
      go_wp2
      go_ret
      exact ⟨rfl, HB1.out⟩
theorem grows_any (T : Int) (A : Option Addr) (n c : Nat) (l : List St) (now la : Int) (W : World) (hr : ActsAt W A n l) :
    Calls Try.prog 7 #[.int .i64 T, .slice A n c, .int .i64 now, .int .i64 la] W (Says true W) := by
  by_cases h : 2 ≤ T ∧ T ≤ 1073741824 ∧ n ≤ 60 ∧ 0 ≤ now ∧ now ≤ la ∧ la ≤ 1125899906842624
  · obtain ⟨h1, h2, h3, h4, h5, h6⟩ := h
    exact grows_in T A n c l now la W h1 h2 h3 hr h4 h5 h6
  · exact grows_out T A n c now la W (by omega)
end Go.Proofs.Ytcphodnenhnalaa
