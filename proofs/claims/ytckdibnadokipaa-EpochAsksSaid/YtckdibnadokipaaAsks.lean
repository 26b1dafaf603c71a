/-
  WHAT IS PROVED: the law EpochAsks answers true for all arguments, which read behind the call as before it (who stands in an epoch that nobody has voted in is granted it by all whose epochs it is above; nobody who has granted it grants it again, to whomever). No condition beyond those of the given row.
-/
import Derived.Test.YtckdibnadokipaaUp
namespace Go.Proofs.Ytckdibnadokipaa
open Go.RowKit Go.Lib Go.ChangeShapes Go.WideShapes Go.ChangeAt Go.WideElems

theorem cand_ok {r : Ep} (h : standF r = 0) : okB (standE r) = true ∧ (0 ≤ (standE r).cur ∧ (standE r).cur ≤ 281474976710656) ∧ winE (standE r) (standE r).cur = ⟨(standE r).cur, (standE r).vote, (standE r).cur⟩ ∧ winF (standE r) (standE r).cur = 0 := by
  obtain ⟨h1, h2⟩ := stand_ok h
  obtain ⟨g1, g2, _⟩ := bump_win h
  have h3 := stand_up h1 h
  have h4 := (ok_iff.1 h3.1).1
  refine ⟨h3.1, h4, ?_, g2⟩
  rw [g1, (bump_yes h1 h2).1, (stand_yes h1 h2).1]
/-- what a right voter answers one who asks in the epoch n -/
theorem ask_cases {v : Ep} {n : Int} (h : okB v = true) (hn : 0 ≤ n ∧ n ≤ 281474976710656) :
    (decide (v.vote < n) = false ∧ grantE v n = ⟨0, 0, 0⟩ ∧ grantF v n = 22) ∨ (v.vote < n ∧ decide (v.cur ≤ n) = false ∧ grantE v n = ⟨0, 0, 0⟩ ∧ grantF v n = 22) ∨
    (v.vote < n ∧ v.cur ≤ n ∧ grantE v n = ⟨n, n, v.conf⟩ ∧ grantF v n = 0) := by
  have hu : upB n 281474976710656 = true := up_iff.2 hn
  rcases grant_cases v n with ⟨g, _⟩ | ⟨_, g, _⟩ | ⟨_, _, g, e⟩ | ⟨_, _, g, g2, e⟩ | ⟨_, _, g, g2, e⟩
  · rw [h] at g; cases g
  · rw [hu] at g; cases g
  · exact .inl ⟨not_dec (by omega), e⟩
  · simp at g; exact .inr (.inl ⟨g, not_dec (by omega), e⟩)
  · simp at g g2; exact .inr (.inr ⟨g, g2, e⟩)
theorem ask_again {v : Ep} {n : Int} (h : okB v = true) (hn : 0 ≤ n ∧ n ≤ 281474976710656) (h2 : v.cur ≤ n) :
    grantE ⟨n, n, v.conf⟩ n = ⟨0, 0, 0⟩ ∧ grantF ⟨n, n, v.conf⟩ n = 22 ∧ seeE ⟨n, n, v.conf⟩ n = ⟨n, n, v.conf⟩ ∧ seeF ⟨n, n, v.conf⟩ n = 0 := by
  rw [ok_iff] at h
  have ht : takesB ⟨n, n, v.conf⟩ n = true := takes_iff.2 ⟨ok_iff.2 (by simp; omega), hn⟩
  obtain ⟨e1, e2⟩ := grant_late ht (.inl (by simp))
  obtain ⟨e3, e4⟩ := see_yes ht
  refine ⟨e1, e2, ?_, e4⟩
  rw [e3]
  simp

set_option maxRecDepth 100000 in
set_option maxHeartbeats 8000000 in
theorem asks_in (r : Ep) (A : Option Addr) (n cap : Nat) (l : List Ep) (W : World) (hr0 : standF r = 0) (hn : n ≤ 40) (hr : EpsAt W A n l) :
    Calls Try.prog 10 #[vEp r, .slice A n cap] W (Says true W) := by
  have hc := cand_ok hr0
  obtain ⟨c, HC⟩ : ∃ c, Hid (standE r = c) := ⟨_, Lib.hid rfl⟩
  rw [HC.out] at hc
  have HCK := Lib.hid hc.1
  have HCN := Lib.hid hc.2.1
  have HW := Lib.hid hc.2.2
  have HR0 := Lib.hid hr0
  have d0 : (n : Int) ≤ 40 := by omega
  clear hc hr0
  go_enter Try.func10, Try.ntmps10
  go_wp2_with (fail)
  refine (anchor_any _).mono ?_
  rintro e w1 ⟨rfl, hb1⟩
  have K1 := Lib.hid ((Bx.new W r rfl).later hb1)
  have HB1 := Lib.hid (((Below.refl _ W).alloc (Nat.le_refl _) _).trans (hb1.mono (by simp)))
  obtain ⟨a0, a1, a2⟩ := K1.out.box
  clear hb1
  go_wp2_with (fail)
  refine (stand_any r _).mono ?_
  rintro e w2 ⟨rfl, hb2⟩
  rw [HC.out, HR0.out]
  have HB2 := Lib.hid (below_new (HB1.out.trans (hb2.mono HB1.out.size)) (Nat.le_trans HB1.out.size hb2.size) (.cells #[.int .i64 c.cur, .int .i64 c.vote, .int .i64 c.conf] 23))
  have L2 := Lib.hid (Bx.new w2 c rfl)
  clear hb2 a0 a1 a2 K1 HB1
  obtain ⟨C, HCC⟩ : ∃ C, Hid (w2.heap.size = C) := ⟨_, Lib.hid rfl⟩
  go_wp2
  go_loopw [8, 9, 10, 11, 12, 13, 14, 30] (fun _ _ _ _ _ _ _ i wr => ∃ k : Nat, k ≤ n ∧ i = .int .i64 k ∧ Bx wr w2.heap.size c ∧ Below W.heap.size W wr) (fun _ _ _ _ _ _ _ i _ => n - (Go.Lib.intOf i).toNat)
  case atStart => exact ⟨0, by omega, rfl, L2.out, HB2.out⟩
  case round =>
    obtain ⟨k, hk, rfl, hx, hb⟩ := hrel
    by_cases hlt : k < n
    · obtain ⟨ad, v, rfl, ha, hal, k0, k1, k2⟩ := (hr.below hb).at_ hlt
      have HX0 := Lib.hid (hx.alloc (.cells #[.int .i64 v.cur, .int .i64 v.vote, .int .i64 v.conf] 23))
      have HV0 := Lib.hid (Bx.new wr v rfl)
      have HB0 := Lib.hid (below_new hb hb.size (.cells #[.int .i64 v.cur, .int .i64 v.vote, .int .i64 v.conf] 23))
      obtain ⟨b, BV⟩ : ∃ b, Hid (okB v = b) := ⟨_, Lib.hid rfl⟩
      clear ha hal hx hb
      go_wp2_with (fail)
      refine (lawright_any v _).mono ?_
      rintro en w3 ⟨rfl, hb3⟩
      rw [BV.out]
      have HX3 := Lib.hid (HX0.out.later hb3)
      have HV3 := Lib.hid (HV0.out.later hb3)
      have HB3 := Lib.hid (HB0.out.trans (hb3.mono HB0.out.size))
      clear hb3
      cases b
      · go_wp2
        go_roundw
        case rel => exact ⟨k + 1, by omega, by go_num, HX3.out, HB3.out⟩
        case measure => simp [Go.Lib.intOf]; omega
      · obtain ⟨x, HX⟩ : ∃ x, Hid (grantE v c.cur = x) := ⟨_, Lib.hid rfl⟩
        obtain ⟨f, HF⟩ : ∃ f, Hid (grantF v c.cur = f) := ⟨_, Lib.hid rfl⟩
        have hcase := ask_cases BV.out HCN.out
        rw [HX.out, HF.out] at hcase
        have HCS := Lib.hid hcase
        obtain ⟨a0, a1, a2⟩ := HX3.out.box
        obtain ⟨b0, b1, b2⟩ := HV3.out.box
        clear hcase k0 k1 k2
        go_wp2_with (fail)
        refine (grant_any v c.cur _).mono ?_
        rintro en w4 ⟨rfl, hb4⟩
        rw [HX.out, HF.out]
        have HX4 := Lib.hid ((HX3.out.later hb4).alloc (.cells #[.int .i64 x.cur, .int .i64 x.vote, .int .i64 x.conf] 23))
        have HV4 := Lib.hid ((HV3.out.later hb4).alloc (.cells #[.int .i64 x.cur, .int .i64 x.vote, .int .i64 x.conf] 23))
        have HN4 := Lib.hid (Bx.new w4 x rfl)
        have HB4 := Lib.hid (below_new (HB3.out.trans (hb4.mono HB3.out.size)) (Nat.le_trans HB3.out.size hb4.size) (.cells #[.int .i64 x.cur, .int .i64 x.vote, .int .i64 x.conf] 23))
        obtain ⟨c0, c1, c2⟩ := HX4.out.box
        obtain ⟨c3, c4, c5⟩ := (HX3.out.later hb4).box
        obtain ⟨d0, d1, d2⟩ := HV4.out.box
        obtain ⟨d3, d4, d5⟩ := (HV3.out.later hb4).box
        clear hb4 a0 a1 a2 b0 b1 b2
        rcases HCS.out with ⟨h1, rfl, rfl⟩ | ⟨h1, h2, rfl, rfl⟩ | ⟨h1, h2, rfl, rfl⟩
        iterate 2
          · go_wp2
            go_roundw
            case rel => exact ⟨k + 1, by omega, by go_num, HX4.out, HB4.out⟩
            case measure => simp [Go.Lib.intOf]; omega
        · have HG := Lib.hid (ask_again BV.out HCN.out h2)
          have SA := fun w => same_ep ⟨c.cur, c.cur, v.conf⟩ ⟨c.cur, c.cur, v.conf⟩ w
          simp only [decide_true] at SA
          go_wp2_with (fail)
          refine (grant_any ⟨c.cur, c.cur, v.conf⟩ c.cur _).mono ?_
          rintro en w5 ⟨rfl, hb5⟩
          rw [HG.out.1, HG.out.2.1]
          have HX5 := Lib.hid ((HX4.out.later hb5).alloc (.cells #[.int .i64 0, .int .i64 0, .int .i64 0] 23))
          have HN5 := Lib.hid ((HN4.out.later hb5).alloc (.cells #[.int .i64 0, .int .i64 0, .int .i64 0] 23))
          have HB5 := Lib.hid (below_new (HB4.out.trans (hb5.mono HB4.out.size)) (Nat.le_trans HB4.out.size hb5.size) (.cells #[.int .i64 0, .int .i64 0, .int .i64 0] 23))
          obtain ⟨a0, a1, a2⟩ := HX5.out.box
          obtain ⟨a3, a4, a5⟩ := (HX4.out.later hb5).box
          obtain ⟨b0, b1, b2⟩ := HN5.out.box
          obtain ⟨b3, b4, b5⟩ := (HN4.out.later hb5).box
          clear hb5 c0 c1 c2 c3 c4 c5 d0 d1 d2 d3 d4 d5
          go_wp2_with (fail)
          refine (see_any ⟨c.cur, c.cur, v.conf⟩ c.cur _).mono ?_
          rintro en w6 ⟨rfl, hb6⟩
          rw [HG.out.2.2.1, HG.out.2.2.2]
          have HX6 := Lib.hid ((HX5.out.later hb6).alloc (.cells #[.int .i64 c.cur, .int .i64 c.cur, .int .i64 v.conf] 23))
          have HB6 := Lib.hid (below_new (HB5.out.trans (hb6.mono HB5.out.size)) (Nat.le_trans HB5.out.size hb6.size) (.cells #[.int .i64 c.cur, .int .i64 c.cur, .int .i64 v.conf] 23))
          obtain ⟨e0, e1, e2⟩ := ((HN5.out.later hb6).alloc (.cells #[.int .i64 c.cur, .int .i64 c.cur, .int .i64 v.conf] 23)).box
          obtain ⟨e3, e4, e5⟩ := (HN5.out.later hb6).box
          clear hb6 a0 a1 a2 a3 a4 a5 b0 b1 b2 b3 b4 b5
          go_wp2
          go_roundw
          case rel => exact ⟨k + 1, by omega, by go_num, HX6.out, HB6.out⟩
          case measure => simp [Go.Lib.intOf]; omega
    · obtain rfl : k = n := by omega
      have HB := Lib.hid hb
      have HX := Lib.hid hx
      obtain ⟨a0, a1, a2⟩ := hx.box
      clear hb hx
      go_wp2_with (fail)
      refine (win_any c c.cur _).mono ?_
      rintro en w3 ⟨rfl, hb3⟩
      rw [HW.out.1, HW.out.2]
      have HB3 := Lib.hid (below_new (HB.out.trans (hb3.mono HB.out.size)) (Nat.le_trans HB.out.size hb3.size) (.cells #[.int .i64 c.cur, .int .i64 c.vote, .int .i64 c.cur] 23))
      obtain ⟨b0, b1, b2⟩ := (HX.out.later hb3).box
      obtain ⟨b3, b4, b5⟩ := ((HX.out.later hb3).alloc (.cells #[.int .i64 c.cur, .int .i64 c.vote, .int .i64 c.cur] 23)).box
      clear hb3 a0 a1 a2
      go_wp2
      go_ret
      exact ⟨rfl, HB3.out⟩

set_option maxHeartbeats 1000000 in
theorem askslaw_any (r : Ep) (A : Option Addr) (n cap : Nat) (l : List Ep) (W : World) (_hnc : n ≤ cap) (_hc : cap ≤ 9223372036854775807) (hr : EpsAt W A n l) :
    Calls Try.prog 10 #[vEp r, .slice A n cap] W (Says true W) := by
  obtain ⟨f, HF⟩ : ∃ b, Hid (standF r = b) := ⟨_, Lib.hid rfl⟩
  by_cases hn : n ≤ 40
  · by_cases hf : f = 0
    · subst hf
      exact asks_in r A n cap l W HF.out hn hr
    · have hf' : (f != 0) = true := by simpa using hf
      have h1 : (n : Int) ≤ 40 := by omega
      clear hf hr hn
      go_enter Try.func10, Try.ntmps10
      go_wp2_with (fail)
      refine (anchor_any _).mono ?_
      rintro e w1 ⟨rfl, hb1⟩
      have K1 := Lib.hid ((Bx.new W r rfl).later hb1)
      have HB1 := Lib.hid (((Below.refl _ W).alloc (Nat.le_refl _) _).trans (hb1.mono (by simp)))
      obtain ⟨a0, a1, a2⟩ := K1.out.box
      clear hb1
      go_wp2_with (fail)
      refine (stand_any r _).mono ?_
      rintro e w2 ⟨rfl, hb2⟩
      rw [HF.out]
      have HB2 := Lib.hid (below_new (HB1.out.trans (hb2.mono HB1.out.size)) (Nat.le_trans HB1.out.size hb2.size) (.cells #[.int .i64 (standE r).cur, .int .i64 (standE r).vote, .int .i64 (standE r).conf] 23))
      clear hb2 a0 a1 a2 K1 HB1
      go_wp2
      go_ret
      exact ⟨rfl, HB2.out⟩
  · have h1 : (40 : Int) < (n : Int) := by omega
    clear hr hn
    go_enter Try.func10, Try.ntmps10
    go_wp2_with (fail)
    refine (anchor_any _).mono ?_
    rintro e w1 ⟨rfl, hb1⟩
    have HB1 := Lib.hid (((Below.refl _ W).alloc (Nat.le_refl _) (.cells #[.int .i64 r.cur, .int .i64 r.vote, .int .i64 r.conf] 23)).trans (hb1.mono (by simp)))
    clear hb1
    go_wp2
    go_ret
    exact ⟨rfl, HB1.out⟩

theorem asks_lifted (os : Os) (started : os.Started) (H : Type) (enc : TypeId × Value → H) :
    ReturnsInHanded {} Try.checked os 10 .any (Rows.epochAsksSpec.pre6 enc Try.prog Try.f10 Rows.epochAsksRow.domain false) (Rows.epochAsksSpec.post enc Try.prog Try.f10 false true false false) := by
  refine returnsInHanded_of_change (C := Try.checked) own started (by kernel_rfl) Try.func10
    (ChangeSpec.witness6 (enc := enc) (C := Try.checked) false ⟨#[], #[.agg #[.int .i64 0, .int .i64 0, .int .i64 0], .slice none 0 0], []⟩ 8 (by kernel_rfl) (by kernel_rfl) (by kernel_rfl) (by kernel_rfl)) ?_
  intro W base args ds gs before hval0 hW _ _
  have hval : ∀ (j : Nat) t v, Try.f10.params[j]? = some t → args[j]? = some v → Value.okWide Try.prog W .any base t v := hval0
  have hW' := hW
  obtain ⟨p, q, hA0, hV, rfl, _, _⟩ := hW
  have hA : DataW.TrodAll enc Try.prog W 0 (fun _ => true) true Try.f10.params.toList args.toList ds p := hA0
  rw [Try.params10] at hA hval
  obtain ⟨v0, vs0, d0, ds0, p0, q0, hargs, rfl, rfl, h0, r0⟩ := trodAll_cons hA
  obtain ⟨v1, vs1, d1, ds1, p1, q1, rfl, rfl, rfl, h1, r1⟩ := trodAll_cons r0
  obtain ⟨rfl, rfl, rfl⟩ := trodAll_nil r1
  obtain rfl : args = #[v0, v1] := by cases args; simp_all
  obtain ⟨rfl, rfl⟩ := trodVars_none hV
  obtain ⟨s0, rfl, hs0⟩ := open_ep (hval 0 23 v0 rfl rfl) h0
  obtain ⟨A1, n1, c1, l1, rfl, hl1, hc1, hm1, hr1, hz1⟩ := open_eps (hval 1 38 v1 rfl rfl) h1
  clear hA0
  have hk := askslaw_any s0 A1 n1 c1 l1 W hc1 hm1 hr1
  exact hk.mono fun e W' ⟨he, hb⟩ => ⟨_, he, law_post laid_ok (by kernel_rfl) rfl Try.underlying4 rfl hW' rfl hb⟩

theorem asks_holds : Rows.EpochAsksSaid :=
  OpenClaim.holds_of_wide 10 Try.f10 rfl rfl rfl rfl rfl rfl rfl ⟨rfl, rfl, rfl, rfl, rfl⟩ rfl rfl rfl rfl rfl (by kernel_rfl) Try.func10 (by kernel_rfl)
    (of_decide_eq_true (by kernel_rfl)) (by unfold Func.isWrapper; first | (rw [if_pos (by decide +kernel)]; kernel_rfl) | (rw [if_neg (by decide +kernel)]; exact ⟨rfl, rfl⟩))
    (fun os started H enc _ => asks_lifted os started H enc)
end Go.Proofs.Ytckdibnadokipaa
