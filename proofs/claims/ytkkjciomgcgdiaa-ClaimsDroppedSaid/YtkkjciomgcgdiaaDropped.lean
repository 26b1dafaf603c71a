/-
  WHAT IS PROVED: the law ClaimsDropped answers true for all arguments, which read behind the call as before it (who keeps nothing has nothing; what is dropped may be claimed by anybody, with whatever epoch). No condition beyond those of the given row.
-/
import Derived.Test.YtkkjciomgcgdiaaAnchor
import Derived.Test.YtkkjciomgcgdiaaDrop
import Derived.Test.YtkkjciomgcgdiaaQuiet
import Derived.Test.YtkkjciomgcgdiaaArgs
namespace Go.Proofs.Ytkkjciomgcgdiaa
open Go.RowKit Go.Lib

theorem gone_all (t : Tab) (id : Int) : goneN t id 0 = ofN t id :=
  ext64 (less_lt _ _) (ofN_lt t id) fun i hi => by rw [gone_bit t id 0 hi, ofN_bit t id hi]; simp
theorem drop_o (t : Tab) (id : Int) {i : Nat} (hi : i < 64) : (dropP t (ofN t id).testBit).o i = if t.o i = id then 0 else t.o i := by
  show (if (ofN t id).testBit i = true then 0 else t.o i) = _
  rw [ofN_bit t id hi]; simp
theorem drop_of_who {t : Tab} {id : Int} (hid : 1 ≤ id) : ofN (dropP t (ofN t id).testBit) id = 0 :=
  ext64 (ofN_lt _ _) (by decide) fun i hi => by
    rw [ofN_bit _ _ hi, drop_o t id hi, Nat.zero_testBit]
    by_cases h : t.o i = id
    · rw [if_pos h]; simp; omega
    · rw [if_neg h]; simpa using h
theorem drop_of_none {t : Tab} {id : Int} : ofN (dropP t (ofN t id).testBit) 0 = ofN t 0 ||| ofN t id :=
  ext64 (ofN_lt _ _) (or_lt (ofN_lt _ _) (ofN_lt _ _)) fun i hi => by
    rw [Nat.testBit_or, ofN_bit _ _ hi, ofN_bit _ _ hi, ofN_bit _ _ hi, drop_o t id hi]
    by_cases h : t.o i = id
    · rw [if_pos h]; simp [h]
    · rw [if_neg h]; simp [h]
theorem drop_took {t : Tab} {id o e : Int} (ho : 1 ≤ o) : takenP (dropP t (ofN t id).testBit) o e (ofN t id).testBit = ofN t id :=
  ext64 (pick_lt _) (ofN_lt t id) fun i hi => by
    have h1 : (takenP (dropP t (ofN t id).testBit) o e (ofN t id).testBit).testBit i = ((ofN t id).testBit i && tookB (dropP t (ofN t id).testBit) o e i) := pick_bit _ hi
    rw [h1]
    cases h : (ofN t id).testBit i
    · rfl
    · have h2 : (dropP t (ofN t id).testBit).o i = 0 := by
        show (if (ofN t id).testBit i = true then 0 else t.o i) = 0
        rw [if_pos h]
      rw [Bool.true_and]
      exact took_iff.2 ⟨by omega, .inl h2⟩
theorem drop_has {t : Tab} {id o e : Int} (ho : 1 ≤ o) : ofN (claimP (dropP t (ofN t id).testBit) o e (ofN t id).testBit) o &&& ofN t id = ofN t id :=
  ext64 (and_lt (ofN_lt _ _)) (ofN_lt t id) fun i hi => by
    rw [Nat.testBit_and, ofN_bit _ _ hi]
    cases h : (ofN t id).testBit i
    · simp
    · have h2 : (dropP t (ofN t id).testBit).o i = 0 := by
        show (if (ofN t id).testBit i = true then 0 else t.o i) = 0
        rw [if_pos h]
      have h3 : tookB (dropP t (ofN t id).testBit) o e i = true := took_iff.2 ⟨by omega, .inl h2⟩
      have h4 : (claimP (dropP t (ofN t id).testBit) o e (ofN t id).testBit).o i = o := by
        show (if (ofN t id).testBit i = true then newO (dropP t (ofN t id).testBit) o e i else _) = o
        rw [if_pos h]; unfold newO; rw [if_pos h3]
      rw [h4]; simp

set_option maxRecDepth 100000 in
set_option maxHeartbeats 2000000 in
theorem dropped_early (t : Tab) (who oth least : Int) (h : (okB t && (idB who && (idB oth && epB least))) = false) (W : World) :
    Calls Try.prog 10 #[.agg (tb t), .int .i64 who, .int .i64 oth, .int .i64 least] W (Says true W) := by
  obtain ⟨b1, B1⟩ : ∃ b, Hid (okB t = b) := ⟨_, Lib.hid rfl⟩
  obtain ⟨b2, B2⟩ : ∃ b, Hid (betB 1 4294967296 who = b) := ⟨_, Lib.hid rfl⟩
  obtain ⟨b3, B3⟩ : ∃ b, Hid (betB 1 4294967296 oth = b) := ⟨_, Lib.hid rfl⟩
  obtain ⟨b4, B4⟩ : ∃ b, Hid (betB 0 281474976710656 least = b) := ⟨_, Lib.hid rfl⟩
  have HG : Hid ((b1 && (b2 && (b3 && b4))) = false) := Lib.hid (by rw [← B1.out, ← B2.out, ← B3.out, ← B4.out]; exact h)
  have RB : Hid (∀ W, Calls Try.prog 15 #[.agg (tb t)] W (Says b1 W)) := fun W => by have h := lawright_any t W; rwa [B1.out] at h
  clear h
  go_enter Try.func10, Try.ntmps10
  go_wp2_with (fail)
  refine (anchor_any _).mono ?_
  rintro e w1 ⟨rfl, hb1⟩
  have K1 := Lib.hid ((TabAt.new W t).later hb1)
  have HB1 := Lib.hid (((Below.refl W.heap.size W).alloc (Nat.le_refl _) (.cells (tb t) 24)).trans (hb1.mono (by simp)))
  clear hb1
  go_wp2_with (refine at_load rfl K1.out rfl ?_)
  refine (RB.out _).mono ?_
  rintro e w2 ⟨rfl, hb2⟩
  have K2 := Lib.hid (K1.out.later hb2)
  have HB2 := Lib.hid (HB1.out.trans (hb2.mono HB1.out.size))
  clear hb2
  cases b1
  · go_wp2
    go_ret
    exact ⟨rfl, HB2.out⟩
  · go_wp2_with (fail)
    refine (lawid_any _ _).mono ?_
    rintro e w3 ⟨rfl, rfl⟩
    rw [B2.out]
    cases b2
    · go_wp2
      go_ret
      exact ⟨rfl, HB2.out⟩
    · go_wp2_with (fail)
      refine (lawid_any _ _).mono ?_
      rintro e w3 ⟨rfl, rfl⟩
      rw [B3.out]
      cases b3
      · go_wp2
        go_ret
        exact ⟨rfl, HB2.out⟩
      · go_wp2_with (fail)
        refine (lawepoch_any _ _).mono ?_
        rintro e w3 ⟨rfl, rfl⟩
        rw [B4.out]
        cases b4
        · go_wp2
          go_ret
          exact ⟨rfl, HB2.out⟩
        · exact absurd HG.out (by decide)

set_option maxRecDepth 100000 in
set_option maxHeartbeats 4000000 in
theorem dropped_main (t : Tab) (who oth least : Int) (h : (okB t && (idB who && (idB oth && epB least))) = true) (W : World) :
    Calls Try.prog 10 #[.agg (tb t), .int .i64 who, .int .i64 oth, .int .i64 least] W (Says true W) := by
  simp only [Bool.and_eq_true] at h
  obtain ⟨g1, g2, g3, g4⟩ := h
  have B2 : Hid (betB 1 4294967296 who = true) := Lib.hid g2
  have B3 : Hid (betB 1 4294967296 oth = true) := Lib.hid g3
  have B4 : Hid (betB 0 281474976710656 least = true) := Lib.hid g4
  have RB : Hid (∀ W, Calls Try.prog 15 #[.agg (tb t)] W (Says true W)) := fun W => by have h := lawright_any t W; rwa [g1] at h
  have i2 := bet_iff.1 g2
  have i3 := bet_iff.1 g3
  have i4 := bet_iff.1 g4
  have d1 : ∀ w, Calls Try.prog 19 #[.agg (tb t), .int .i64 who, .int .u64 0] w (Gives (dropP t (goneN t who 0).testBit) (goneN t who 0) 0 w) := drop_yes t who 0 (by decide) (by rw [g1, g2]; rfl)
  rw [gone_all] at d1
  have h0 := of_any t who
  have h1 : ∀ w, Calls Try.prog 20 #[.agg (tb (dropP t (ofN t who).testBit)), .int .i64 who] w fun d w' => d = .returned (.int .u64 0) ∧ Below w.heap.size w w' := fun w => by
    have h := of_any (dropP t (ofN t who).testBit) who w
    rw [drop_of_who i2.1] at h; exact h
  have h2 := of_any (dropP t (ofN t who).testBit) 0
  have h3 := of_any t 0
  rw [drop_of_none] at h2
  have e1 := orr_int (ofN_lt t 0) (ofN_lt t who)
  have c1 := claim_yes (dropP t (ofN t who).testBit) oth least (ofN t who) (ofN_lt t who) (good_iff.2 ⟨drop_ok g1, i3, i4⟩)
  rw [drop_took i3.1] at c1
  have h4 := of_any (claimP (dropP t (ofN t who).testBit) oth least (ofN t who).testBit) oth
  have e2 := and_int (ofN_lt (claimP (dropP t (ofN t who).testBit) oth least (ofN t who).testBit) oth) (ofN_lt t who)
  rw [drop_has i3.1] at e2
  generalize ofN (claimP (dropP t (ofN t who).testBit) oth least (ofN t who).testBit) oth = x at *
  generalize claimP (dropP t (ofN t who).testBit) oth least (ofN t who).testBit = E at *
  generalize dropP t (ofN t who).testBit = D at *
  generalize ofN t 0 ||| ofN t who = y at *
  generalize ofN t 0 = z at *
  generalize ofN t who = n at *
  have D1 := Lib.hid d1
  have H0 := Lib.hid h0
  have H1 := Lib.hid h1
  have H2 := Lib.hid h2
  have H3 := Lib.hid h3
  have H4 := Lib.hid h4
  have E1 := Lib.hid e1
  have E2 := Lib.hid e2
  have C1 := Lib.hid c1
  clear d1 h0 h1 h2 h3 h4 e1 e2 c1 g1 g2 g3 g4 i2 i3 i4
  go_enter Try.func10, Try.ntmps10
  go_wp2_with (fail)
  refine (anchor_any _).mono ?_
  rintro e w1 ⟨rfl, hb1⟩
  have K1 := Lib.hid ((TabAt.new W t).later hb1)
  have HB1 := Lib.hid (((Below.refl W.heap.size W).alloc (Nat.le_refl _) (.cells (tb t) 24)).trans (hb1.mono (by simp)))
  clear hb1
  go_wp2_with (refine at_load rfl K1.out rfl ?_)
  refine (RB.out _).mono ?_
  rintro e w2 ⟨rfl, hb2⟩
  have K2 := Lib.hid (K1.out.later hb2)
  have HB2 := Lib.hid (HB1.out.trans (hb2.mono HB1.out.size))
  clear hb2
  go_wp2_with (fail)
  refine (lawid_any _ _).mono ?_
  rintro e w3 ⟨rfl, rfl⟩
  rw [B2.out]
  go_wp2_with (fail)
  refine (lawid_any _ _).mono ?_
  rintro e w3 ⟨rfl, rfl⟩
  rw [B3.out]
  go_wp2_with (fail)
  refine (lawepoch_any _ _).mono ?_
  rintro e w3 ⟨rfl, rfl⟩
  rw [B4.out]
  go_wp2_with (refine at_load rfl K2.out rfl ?_)
  refine (H0.out _).mono ?_
  rintro e w3 ⟨rfl, hb3⟩
  have K3 := Lib.hid (K2.out.later hb3)
  have HB3 := Lib.hid (HB2.out.trans (hb3.mono HB2.out.size))
  clear hb3
  go_wp2_with (refine at_load rfl K3.out rfl ?_)
  refine (D1.out _).mono ?_
  rintro e w4 ⟨rfl, hb4⟩
  have K4 := Lib.hid ((K3.out.later hb4).alloc (.cells (tb D) 24))
  have L4 := Lib.hid (TabAt.new w4 D)
  have HB4 := Lib.hid (below_new (HB3.out.trans (hb4.mono HB3.out.size)) (Nat.le_trans HB3.out.size hb4.size) (.cells (tb D) 24))
  clear hb4
  go_wp2_with (first | refine at_alloc rfl ?_ | refine at_store_new rfl rfl rfl ?_)
  refine wp_region_later (by kernel_rfl) (by kernel_rfl) ?_
  have e1 := E1.out
  repeat (first
    | (refine quiet_load (t := D) rfl ?_ rfl ?_; (with_reducible exact L4.out); simp only [Act.put, List.setIfInBounds_toArray, List.set_cons_zero, List.set_cons_succ])
    | (refine quiet_load (t := t) rfl ?_ rfl ?_; (with_reducible exact K4.out); simp only [Act.put, List.setIfInBounds_toArray, List.set_cons_zero, List.set_cons_succ])
    | go_big_quiet_step (first | (go_at_call 20; with_reducible exact Later.calls (H1.out _)) | (go_at_call 20; with_reducible exact Later.calls (H2.out _)) | (go_at_call 20; with_reducible exact Later.calls (H3.out _))))
  refine wpQuiet_nil ?_
  intro _ hw'
  obtain ⟨pq, hw''⟩ := hw'
  subst hw''
  have L5 := Lib.hid (L4.out.later pq.below)
  have HB5 := Lib.hid (HB4.out.trans (pq.below.mono HB4.out.size))
  obtain ⟨w5, e5⟩ : ∃ w5, pq.now = w5 := ⟨_, rfl⟩
  rw [e5] at L5 HB5 ⊢
  clear e5 e1
  go_wp2_with (refine at_load rfl L5.out rfl ?_)
  refine (C1.out _).mono ?_
  rintro e w6 ⟨rfl, hb6⟩
  have M6 := Lib.hid (TabAt.new w6 E)
  have HB6 := Lib.hid (below_new (HB5.out.trans (hb6.mono HB5.out.size)) (Nat.le_trans HB5.out.size hb6.size) (.cells (tb E) 24))
  clear hb6
  have e2 := E2.out
  go_wp2_with (first | refine at_alloc rfl ?_ | refine at_store_new rfl rfl rfl ?_ | refine at_load rfl M6.out rfl ?_)
  refine (H4.out _).mono ?_
  rintro e w7 ⟨rfl, hb7⟩
  have HB7 := Lib.hid (HB6.out.trans (hb7.mono HB6.out.size))
  clear hb7
  go_wp2
  go_ret
  exact ⟨rfl, HB7.out⟩
theorem droppedlaw_any (t : Tab) (who oth least : Int) (W : World) : Calls Try.prog 10 #[.agg (tb t), .int .i64 who, .int .i64 oth, .int .i64 least] W (Says true W) := by
  cases h : okB t && (idB who && (idB oth && epB least))
  · exact dropped_early t who oth least h W
  · exact dropped_main t who oth least h W
end Go.Proofs.Ytkkjciomgcgdiaa
