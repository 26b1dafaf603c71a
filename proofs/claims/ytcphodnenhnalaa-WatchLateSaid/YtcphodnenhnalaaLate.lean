/-
  WHAT IS PROVED: the law WatchLate answers true for all arguments: a peer that was pinged is late just when more than the timeout has passed since the first ping that waits; once heard it isn't. No condition beyond those of the given row.
-/
import Derived.Test.YtcphodnenhnalaaAnchor
namespace Go.Proofs.Ytcphodnenhnalaa
open Go.RowKit Go.Lib Go.Maps

abbrev one5 (la at5 : Int) : List Pr := [⟨5, la, true, at5⟩]
theorem has_one (p : Pr) (h : p.id = 5) : hasL [p] 5 = true := by unfold hasL; simp [h]
theorem one_start : addL [] 5 0 = [⟨5, 0, false, 0⟩] := by rw [addL_ok (by decide +kernel)]; rfl
theorem one_ping {at5 : Int} (h : isTimeB at5 = true) : metE [⟨5, 0, false, 0⟩] 5 at5 = 0 ∧ pingL [⟨5, 0, false, 0⟩] 5 at5 = one5 at5 at5 := by
  have he : metE [⟨5, 0, false, 0⟩] 5 at5 = 0 := metE_ok (by decide +kernel) h (has_one _ rfl)
  refine ⟨he, ?_⟩
  rw [pingL_ok he]
  show [(⟨5, max 0 at5, true, at5⟩ : Pr)] = _
  rw [show max 0 at5 = at5 by have := in_time h; omega]
theorem one_again {la at5 t : Int} (h : isTimeB t = true) : metE (one5 la at5) 5 t = 0 ∧ pingL (one5 la at5) 5 t = one5 (max la t) at5 := by
  have he : metE (one5 la at5) 5 t = 0 := metE_ok (by decide +kernel) h (has_one _ rfl)
  exact ⟨he, by rw [pingL_ok he]; rfl⟩
theorem one_no {la at5 t : Int} (h : isTimeB t = false) : metE (one5 la at5) 5 t = 10 ∧ pingL (one5 la at5) 5 t = one5 la at5 := by
  have he : metE (one5 la at5) 5 t = 10 := metE_form (.inr h)
  exact ⟨he, pingL_no (by rw [he]; decide)⟩
theorem one_pong {la at5 : Int} (h : isTimeB at5 = true) (hle : at5 ≤ la) : metE (one5 la at5) 5 at5 = 0 ∧ pongL (one5 la at5) 5 at5 = [⟨5, la, false, 0⟩] := by
  have he : metE (one5 la at5) 5 at5 = 0 := metE_ok (by decide +kernel) h (has_one _ rfl)
  refine ⟨he, ?_⟩
  rw [pongL_ok he]
  show [(⟨5, max la at5, false, 0⟩ : Pr)] = _
  rw [show max la at5 = la by omega]
theorem who_one_yes {p : Pr} {f : Pr → Bool} (h : f p = true) : whoL [p] f = [p.id] := by unfold whoL; simp [h]
theorem who_one_no {p : Pr} {f : Pr → Bool} (h : f p = false) : whoL [p] f = [] := by unfold whoL; simp [h]
theorem due_of (T now la : Int) (hT : 2 ≤ T) (b : Bool) (s : Int) :
    (whoL [⟨5, la, b, s⟩] (dueB T now) = [] ∧ now < la) ∨ (whoL [⟨5, la, b, s⟩] (dueB T now) = [] ∧ la ≤ now ∧ decide (T / 2 ≤ now - la) = false) ∨ (whoL [⟨5, la, b, s⟩] (dueB T now) = [5] ∧ la ≤ now ∧ decide (T / 2 ≤ now - la) = true) := by
  by_cases h1 : la ≤ now
  · by_cases h2 : T / 2 ≤ now - la
    · exact .inr (.inr ⟨who_one_yes (by unfold dueB; simp; omega), h1, by simpa using h2⟩)
    · exact .inr (.inl ⟨who_one_no (by unfold dueB; simp; omega), h1, by simpa using h2⟩)
  · exact .inl ⟨who_one_no (by unfold dueB; simp; omega), by omega⟩
theorem due_same (T now la s s' : Int) (b b' : Bool) : whoL [⟨5, la, b, s⟩] (dueB T now) = whoL [⟨5, la, b', s'⟩] (dueB T now) := by
  unfold whoL dueB
  simp only [List.filter]
  cases decide (la + T / 2 ≤ now) <;> rfl
theorem late_of (T now la at5 : Int) : (whoL (one5 la at5) (lateB T now) = [] ∧ now - at5 ≤ T) ∨ (whoL (one5 la at5) (lateB T now) = [5] ∧ T < now - at5) := by
  by_cases h : T < now - at5
  · exact .inr ⟨who_one_yes (by unfold lateB; simp; omega), h⟩
  · exact .inl ⟨who_one_no (by unfold lateB; simp; omega), by omega⟩
theorem late_not (T now la : Int) : whoL [⟨5, la, false, 0⟩] (lateB T now) = [] := who_one_no rfl

set_option maxRecDepth 100000 in
set_option maxHeartbeats 8000000 in
theorem late_in (T at5 : Int) (A : Option Addr) (n c : Nat) (l : List Int) (now : Int) (W : World) (hT1 : 2 ≤ T) (hT2 : T ≤ 1073741824) (hn : n ≤ 50) (ha1 : 0 ≤ at5) (ha2 : at5 ≤ 1099511627776) (hn1 : at5 ≤ now) (hn2 : now ≤ 2199023255552) (hr : Reads W W.heap.size A n (zints l)) :
    Calls Try.prog 5 #[.int .i64 T, .int .i64 at5, .slice A n c, .int .i64 now] W (Says true W) := by
  have d0 : (n : Int) ≤ 50 := by omega
  have HAT : Hid (isTimeB at5 = true) := Lib.hid (time_in ⟨ha1, ha2⟩)
  have E1 := Lib.hid (show addE [] 5 0 = 0 by decide +kernel)
  have E2 := Lib.hid one_start
  have E3 := Lib.hid (one_ping HAT.out)
  have htd : T.tdiv 2 = T / 2 := Int.tdiv_eq_ediv_of_nonneg (by omega)
  have HR := Lib.hid hr
  clear hr
  go_enter Try.func5, Try.ntmps5
  go_wp2_with (fail)
  refine (anchor_any _).mono ?_
  rintro e w0 ⟨rfl, hb0⟩
  have HB0 := Lib.hid hb0
  clear hb0
  go_wp2_with (fail)
  refine (new_yes T _ hT1 hT2).mono ?_
  rintro e w1 ⟨g, b, rfl, k1, hb1, hg, hb⟩
  have K1 := Lib.hid k1
  have HB1 := Lib.hid (HB0.out.trans (hb1.mono HB0.out.size))
  have HBb : Hid (W.heap.size ≤ b) := Lib.hid (Nat.le_trans HB0.out.size hb)
  clear k1 hb1 hg hb
  go_wp2_with (fail)
  refine (add_any g b T [] 5 0 _ K1.out).mono ?_
  rintro e w2 ⟨rfl, k2, hg2⟩
  rw [E1.out]
  rw [E2.out] at k2
  have K2 := Lib.hid k2
  have HB2 := Lib.hid (K1.out.grownB HB1.out HBb.out hg2)
  clear k2 hg2
  go_wp2_with (fail)
  refine (ping_any g b T _ 5 at5 _ K2.out).mono ?_
  rintro e w3 ⟨rfl, k3, hg3⟩
  rw [E3.out.1]
  rw [E3.out.2] at k3
  have K3 := Lib.hid k3
  have HB3 := Lib.hid (K2.out.grownB HB2.out HBb.out hg3)
  clear k3 hg3
  go_wp2
  go_loopw [11, 58] (fun s i wr => ∃ (k : Nat) (la : Int), k ≤ n ∧ i = .int .i64 k ∧ s = .int .i64 la ∧ at5 ≤ la ∧ la ≤ 1099511627776 ∧ Wt wr g b T (one5 la at5) ∧ Below W.heap.size W wr) (fun _ i _ => n - (intOf i).toNat)
  case atStart => exact ⟨0, at5, by omega, rfl, rfl, by omega, ha2, K3.out, HB3.out⟩
  case round =>
    obtain ⟨w4, rfl⟩ : ∃ w4, w4 = wr := ⟨_, rfl⟩
    obtain ⟨k, la, hk, rfl, rfl, hla1, hla2, hwt, hbw⟩ := hrel
    have HK := Lib.hid hwt
    have HW := Lib.hid hbw
    clear hwt hbw
    by_cases hlt : k < n
    · obtain ⟨ad, u, rfl, hu, hcx⟩ := (HR.out.old HW.out HW.out.size).at_ hlt
      obtain ⟨t, _, rfl⟩ := zints_at hu
      clear hu
      obtain ⟨q, HQ⟩ : ∃ q, Hid (isTimeB t = q) := ⟨_, Lib.hid rfl⟩
      cases q
      · have HE := Lib.hid (one_no (la := la) (at5 := at5) HQ.out)
        go_wp2_with (fail)
        refine (ping_any g b T _ 5 t _ HK.out).mono ?_
        rintro e w5 ⟨rfl, k5, hg5⟩
        rw [HE.out.1]
        rw [HE.out.2] at k5
        have K5 := Lib.hid k5
        have HB5 := Lib.hid (HK.out.grownB HW.out HBb.out hg5)
        clear k5 hg5
        go_wp2
        go_roundw
        case rel => exact ⟨k + 1, la, by omega, by go_num, rfl, hla1, hla2, K5.out, HB5.out⟩
        case measure => simp [intOf]; omega
      · have HE := Lib.hid (one_again (la := la) (at5 := at5) HQ.out)
        obtain ⟨tt1, tt2⟩ := in_time HQ.out
        rcases (by omega : la < t ∨ t ≤ la) with hlt2 | hlt2
        · have HM : Hid (max la t = t) := Lib.hid (by omega)
          go_wp2_with (fail)
          refine (ping_any g b T _ 5 t _ HK.out).mono ?_
          rintro e w5 ⟨rfl, k5, hg5⟩
          rw [HE.out.1]
          rw [HE.out.2, HM.out] at k5
          have K5 := Lib.hid k5
          have HB5 := Lib.hid (HK.out.grownB HW.out HBb.out hg5)
          clear k5 hg5
          go_wp2
          go_roundw
          case rel => exact ⟨k + 1, t, by omega, by go_num, (by first | rfl | (congr 1 <;> omega)), by omega, tt2, K5.out, HB5.out⟩
          case measure => simp [intOf]; omega
        · have HM : Hid (max la t = la) := Lib.hid (by omega)
          go_wp2_with (fail)
          refine (ping_any g b T _ 5 t _ HK.out).mono ?_
          rintro e w5 ⟨rfl, k5, hg5⟩
          rw [HE.out.1]
          rw [HE.out.2, HM.out] at k5
          have K5 := Lib.hid k5
          have HB5 := Lib.hid (HK.out.grownB HW.out HBb.out hg5)
          clear k5 hg5
          go_wp2
          go_roundw
          case rel => exact ⟨k + 1, la, by omega, by go_num, (by first | rfl | (congr 1 <;> omega)), hla1, hla2, K5.out, HB5.out⟩
          case measure => simp [intOf]; omega
    · obtain rfl : k = n := by omega
      have HDW := Lib.hid (due_of T now la hT1 true at5)
      have HLW := Lib.hid (late_of T now la at5)
      have HDS := Lib.hid (due_same T now la at5 0 true false)
      have HP := Lib.hid (one_pong HAT.out hla1)
      have HNL := Lib.hid (late_not T now la)
      obtain ⟨ds, HDD⟩ : ∃ y, Hid (whoL (one5 la at5) (dueB T now) = y) := ⟨_, Lib.hid rfl⟩
      obtain ⟨ls, HLL⟩ : ∃ y, Hid (whoL (one5 la at5) (lateB T now) = y) := ⟨_, Lib.hid rfl⟩
      have hdw := HDW.out
      have hlw := HLW.out
      have hds := HDS.out
      rw [show whoL [⟨5, la, true, at5⟩] (dueB T now) = ds from HDD.out] at hdw hds
      rw [HLL.out] at hlw
      have HD3 := Lib.hid hdw
      have HL3 := Lib.hid hlw
      have HD2 : Hid (whoL [⟨5, la, false, 0⟩] (dueB T now) = ds) := Lib.hid hds.symm
      clear hdw hlw hds
      rcases HD3.out with ⟨rfl, x1⟩ | ⟨rfl, x1, x2⟩ | ⟨rfl, x1, x2⟩
      all_goals
        rcases HL3.out with ⟨rfl, y1⟩ | ⟨rfl, y1⟩
        all_goals
          go_wp2_with (fail)
          refine (due_any g b T _ now _ HK.out).mono ?_
          rintro e w5 ⟨hb5, v5, rfl, hown5⟩
          rw [HDD.out] at hown5
          obtain ⟨A5, c5, rfl, hc5, hcm5⟩ := own_slice hown5
          have K5 := Lib.hid (HK.out.below hb5)
          have HB5 := Lib.hid (HW.out.trans (hb5.mono HW.out.size))
          clear hb5 hown5
          go_wp2_with (fail)
          refine (late_any g b T _ now _ K5.out).mono ?_
          rintro e w6 ⟨hb6, v6, rfl, hown6⟩
          rw [HLL.out] at hown6
          obtain ⟨A6, c6, rfl, hc6, hcm6⟩ := own_slice hown6
          have K6 := Lib.hid (K5.out.below hb6)
          have HB6 := Lib.hid (HB5.out.trans (hb6.mono HB5.out.size))
          clear hb6 hown6
          go_wp2_with (fail)
          refine (pong_any g b T _ 5 at5 _ K6.out).mono ?_
          rintro e w7 ⟨rfl, k7, hg7⟩
          rw [HP.out.1]
          rw [HP.out.2] at k7
          have K7 := Lib.hid k7
          have HB7 := Lib.hid (K6.out.grownB HB6.out HBb.out hg7)
          clear k7 hg7
          go_wp2_with (fail)
          refine (late_any g b T _ now _ K7.out).mono ?_
          rintro e w8 ⟨hb8, v8, rfl, hown8⟩
          rw [HNL.out] at hown8
          obtain ⟨A8, c8, rfl, hc8, hcm8⟩ := own_slice hown8
          have K8 := Lib.hid (K7.out.below hb8)
          have HB8 := Lib.hid (HB7.out.trans (hb8.mono HB7.out.size))
          clear hb8 hown8
          go_wp2_with (fail)
          refine (due_any g b T _ now _ K8.out).mono ?_
          rintro e w9 ⟨hb9, v9, rfl, hown9⟩
          rw [HD2.out] at hown9
          obtain ⟨A9, c9, rfl, hc9, hcm9⟩ := own_slice hown9
          have HB9 := Lib.hid (HB8.out.trans (hb9.mono HB8.out.size))
          clear hb9 hown9
          go_wp2
          go_ret
          exact ⟨rfl, HB9.out⟩

set_option maxRecDepth 100000 in
set_option maxHeartbeats 4000000 in
theorem late_out (T at5 : Int) (A : Option Addr) (n c : Nat) (now : Int) (W : World) (h : (T < 2 ∨ 1073741824 < T) ∨ (2 ≤ T ∧ T ≤ 1073741824 ∧ (50 < n ∨ (n ≤ 50 ∧ (at5 < 0 ∨ (0 ≤ at5 ∧ (1099511627776 < at5 ∨ (at5 ≤ 1099511627776 ∧ (now < at5 ∨ (at5 ≤ now ∧ 2199023255552 < now)))))))))) :
    Calls Try.prog 5 #[.int .i64 T, .int .i64 at5, .slice A n c, .int .i64 now] W (Says true W) := by
  rcases h with h | ⟨hT1, hT2, h⟩
  · have HH := Lib.hid h
    clear h
    go_enter Try.func5, Try.ntmps5
    go_wp2_with (fail)
    refine (anchor_any _).mono ?_
    rintro e w0 ⟨rfl, hb0⟩
    have HB0 := Lib.hid hb0
    clear hb0
    go_wp2_with (fail)
    refine (new_no T _ HH.out).mono ?_
    rintro e w1 ⟨rfl, rfl⟩
    go_wp2
    go_ret
    exact ⟨rfl, HB0.out⟩
  · rcases h with h | ⟨h, h | ⟨h3, h | ⟨h4, h | ⟨h5, h6⟩⟩⟩⟩
    all_goals
      go_enter Try.func5, Try.ntmps5
      go_wp2_with (fail)
      refine (anchor_any _).mono ?_
      rintro e w0 ⟨rfl, hb0⟩
      have HB0 := Lib.hid hb0
      clear hb0
      go_wp2_with (fail)
      refine (new_yes T _ hT1 hT2).mono ?_
      rintro e w1 ⟨g, b, rfl, k1, hb1, hg, hb⟩
      have HB1 := Lib.hid (HB0.out.trans (hb1.mono HB0.out.size))
      clear k1 hb1 hg hb
      go_wp2
      go_ret
      exact ⟨rfl, HB1.out⟩
theorem latelaw_any (T at5 : Int) (A : Option Addr) (n c : Nat) (l : List Int) (now : Int) (W : World) (hr : ∀ g, W.heap.size ≤ g → Reads W g A n (zints l)) :
    Calls Try.prog 5 #[.int .i64 T, .int .i64 at5, .slice A n c, .int .i64 now] W (Says true W) := by
  by_cases h : 2 ≤ T ∧ T ≤ 1073741824 ∧ n ≤ 50 ∧ 0 ≤ at5 ∧ at5 ≤ 1099511627776 ∧ at5 ≤ now ∧ now ≤ 2199023255552
  · obtain ⟨h1, h2, h3, h4, h5, h6, h7⟩ := h
    exact late_in T at5 A n c l now W h1 h2 h3 h4 h5 h6 h7 (hr _ (Nat.le_refl _))
  · exact late_out T at5 A n c now W (by omega)
end Go.Proofs.Ytcphodnenhnalaa
