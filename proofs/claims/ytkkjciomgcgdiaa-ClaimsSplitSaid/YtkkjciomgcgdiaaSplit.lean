/-
  WHAT IS PROVED: the law ClaimsSplit answers true for all arguments, which read behind the call as before it (a claim of a set is the claims of its parts, in whatever order). No condition beyond those of the given row.
-/
import Derived.Test.YtkkjciomgcgdiaaAnchor
import Derived.Test.YtkkjciomgcgdiaaQuiet
import Derived.Test.YtkkjciomgcgdiaaArgs
namespace Go.Proofs.Ytkkjciomgcgdiaa
open Go.RowKit Go.Lib

theorem took_congr {t u : Tab} {id ep : Int} {i : Nat} (ho : t.o i = u.o i) (he : t.e i = u.e i) : tookB t id ep i = tookB u id ep i := by unfold tookB; rw [ho, he]
theorem newO_congr {t u : Tab} {id ep : Int} {i : Nat} (ho : t.o i = u.o i) (he : t.e i = u.e i) : newO t id ep i = newO u id ep i := by unfold newO; rw [took_congr ho he, ho]
theorem newE_congr {t u : Tab} {id ep : Int} {i : Nat} (ho : t.o i = u.o i) (he : t.e i = u.e i) : newE t id ep i = newE u id ep i := by unfold newE; rw [took_congr ho he, ho, he]
/-- two claims of parts of a set, one behind the other, are one of the set -/
theorem split_same {t : Tab} {id ep : Int} {s p q : Nat} (hp : ∀ i, i < 64 → (p.testBit i || q.testBit i) = s.testBit i) (hd : ∀ i, i < 64 → (p.testBit i && q.testBit i) = false) :
    same (claimP t id ep s.testBit) (claimP (claimP t id ep p.testBit) id ep q.testBit) := fun i hi => by
  have h1 := hp i hi
  have h2 := hd i hi
  have ao : (claimP t id ep p.testBit).o i = if p.testBit i = true then newO t id ep i else t.o i := rfl
  have ae : (claimP t id ep p.testBit).e i = if p.testBit i = true then newE t id ep i else t.e i := rfl
  show (if s.testBit i = true then newO t id ep i else t.o i) = (if q.testBit i = true then newO (claimP t id ep p.testBit) id ep i else (claimP t id ep p.testBit).o i) ∧
    (if s.testBit i = true then newE t id ep i else t.e i) = (if q.testBit i = true then newE (claimP t id ep p.testBit) id ep i else (claimP t id ep p.testBit).e i)
  cases hpb : p.testBit i
  · rw [hpb] at ao ae h1
    rw [if_neg (by simp)] at ao ae
    rw [newO_congr ao ae, newE_congr ao ae, ao, ae, ← h1, Bool.false_or]
    exact ⟨rfl, rfl⟩
  · rw [hpb] at ao ae h1 h2
    rw [if_pos rfl] at ao ae
    rw [Bool.true_and] at h2
    rw [ao, ae, ← h1, h2]
    simp
theorem split_taken {t : Tab} {id ep : Int} {s p q : Nat} (hp : ∀ i, i < 64 → (p.testBit i || q.testBit i) = s.testBit i) (hd : ∀ i, i < 64 → (p.testBit i && q.testBit i) = false) :
    takenP t id ep s.testBit = takenP t id ep p.testBit ||| takenP (claimP t id ep p.testBit) id ep q.testBit := by
  refine ext64 (pick_lt _) (or_lt (pick_lt _) (pick_lt _)) fun i hi => ?_
  have e1 : (takenP t id ep s.testBit).testBit i = (s.testBit i && tookB t id ep i) := pick_bit _ hi
  have e2 : (takenP t id ep p.testBit).testBit i = (p.testBit i && tookB t id ep i) := pick_bit _ hi
  have e3 : (takenP (claimP t id ep p.testBit) id ep q.testBit).testBit i = (q.testBit i && tookB (claimP t id ep p.testBit) id ep i) := pick_bit _ hi
  have h1 := hp i hi
  have h2 := hd i hi
  have ao : (claimP t id ep p.testBit).o i = if p.testBit i = true then newO t id ep i else t.o i := rfl
  have ae : (claimP t id ep p.testBit).e i = if p.testBit i = true then newE t id ep i else t.e i := rfl
  rw [Nat.testBit_or, e1, e2, e3]
  cases hpb : p.testBit i
  · rw [hpb] at ao ae h1
    rw [if_neg (by simp)] at ao ae
    rw [took_congr ao ae, ← h1]; simp
  · rw [hpb] at h1 h2
    rw [Bool.true_and] at h2
    rw [← h1, h2]; simp
theorem parts_or (s p : Nat) (i : Nat) (h : i < 64) : ((s &&& p).testBit i || (less s p).testBit i) = s.testBit i := by
  rw [Nat.testBit_and, less_bit h]; cases s.testBit i <;> cases p.testBit i <;> rfl
theorem parts_and (s p : Nat) (i : Nat) (h : i < 64) : ((s &&& p).testBit i && (less s p).testBit i) = false := by
  rw [Nat.testBit_and, less_bit h]; cases s.testBit i <;> cases p.testBit i <;> rfl

set_option maxRecDepth 100000 in
set_option maxHeartbeats 2000000 in
theorem split_early (t : Tab) (c : Cl) (p : Nat) (h : goodB t c.id c.ep = false) (W : World) :
    Calls Try.prog 9 #[.agg (tb t), vCl c, .int .u64 (p : Int)] W (Says true W) := by
  obtain ⟨b1, B1⟩ : ∃ b, Hid (okB t = b) := ⟨_, Lib.hid rfl⟩
  obtain ⟨b2, B2⟩ : ∃ b, Hid (betB 1 4294967296 c.id = b) := ⟨_, Lib.hid rfl⟩
  obtain ⟨b3, B3⟩ : ∃ b, Hid (betB 0 281474976710656 c.ep = b) := ⟨_, Lib.hid rfl⟩
  have HG : Hid ((b1 && (b2 && b3)) = false) := Lib.hid (by rw [← B1.out, ← B2.out, ← B3.out]; exact h)
  have RB : Hid (∀ W, Calls Try.prog 15 #[.agg (tb t)] W (Says b1 W)) := fun W => by have h := lawright_any t W; rwa [B1.out] at h
  clear h
  go_enter Try.func9, Try.ntmps9
  go_wp2_with (fail)
  refine (anchor_any _).mono ?_
  rintro e w1 ⟨rfl, hb1⟩
  have K1 := Lib.hid (((TabAt.new W t).alloc (.cells #[.int .i64 c.id, .int .i64 c.ep, .int .u64 (c.s : Int)] 28)).later hb1)
  have c1 : Bx ((W.alloc (.cells (tb t) 24)).alloc (.cells #[.int .i64 c.id, .int .i64 c.ep, .int .u64 (c.s : Int)] 28)) (W.heap.size + 1) c := by
    have := Bx.new (W.alloc (.cells (tb t) 24)) c
    simpa using this
  have C1 := Lib.hid (c1.later hb1)
  have HB1 := Lib.hid ((((Below.refl W.heap.size W).alloc (Nat.le_refl _) (.cells (tb t) 24)).alloc (by simp) (.cells #[.int .i64 c.id, .int .i64 c.ep, .int .u64 (c.s : Int)] 28)).trans (hb1.mono (by simp; omega)))
  clear hb1 c1
  go_wp2_with (refine at_load rfl K1.out rfl ?_)
  refine (RB.out _).mono ?_
  rintro e w2 ⟨rfl, hb2⟩
  have HB2 := Lib.hid (HB1.out.trans (hb2.mono HB1.out.size))
  obtain ⟨a0, a1, a2⟩ := (C1.out.later hb2).box
  clear hb2
  cases b1
  · go_wp2
    go_ret
    exact ⟨rfl, HB2.out⟩
  · go_wp2_with (fail)
    refine (lawid_any _ _).mono ?_
    rintro e w3 ⟨rfl, rfl⟩
    rw [B2.out]
    cases b2
    · go_wp2
      go_ret
      exact ⟨rfl, HB2.out⟩
    · go_wp2_with (fail)
      refine (lawepoch_any _ _).mono ?_
      rintro e w3 ⟨rfl, rfl⟩
      rw [B3.out]
      cases b3
      · go_wp2
        go_ret
        exact ⟨rfl, HB2.out⟩
      · exact absurd HG.out (by decide)

set_option maxRecDepth 100000 in
set_option maxHeartbeats 8000000 in
theorem split_main (t : Tab) (c : Cl) (p : Nat) (hc : c.fits) (hp : p < 18446744073709551616) (h : goodB t c.id c.ep = true) (W : World) :
    Calls Try.prog 9 #[.agg (tb t), vCl c, .int .u64 (p : Int)] W (Says true W) := by
  have B1 : Hid (okB t = true) := Lib.hid (good_iff.1 h).1
  have B2 : Hid (betB 1 4294967296 c.id = true) := Lib.hid (bet_iff.2 (good_iff.1 h).2.1)
  have B3 : Hid (betB 0 281474976710656 c.ep = true) := Lib.hid (bet_iff.2 (good_iff.1 h).2.2)
  have RB : Hid (∀ W, Calls Try.prog 15 #[.agg (tb t)] W (Says true W)) := fun W => by have h := lawright_any t W; rwa [B1.out] at h
  have hu : c.s &&& p < 18446744073709551616 := and_lt hc
  have hv : less c.s p < 18446744073709551616 := less_lt _ _
  have HA := and_int hc hp
  have HL := less_int hc hp
  have h2 := claim_good (p := (c.s &&& p).testBit) h
  have h3 := claim_good (p := (less c.s p).testBit) h
  have c1 := claim_yes t c.id c.ep c.s hc h
  have c2 := claim_yes t c.id c.ep (c.s &&& p) hu h
  have c3 := claim_yes (claimP t c.id c.ep (c.s &&& p).testBit) c.id c.ep (less c.s p) hv h2
  have c4 := claim_yes t c.id c.ep (less c.s p) hv h
  have c5 := claim_yes (claimP t c.id c.ep (less c.s p).testBit) c.id c.ep (c.s &&& p) hu h3
  have e1 : sameB (claimP t c.id c.ep c.s.testBit) (claimP (claimP t c.id c.ep (c.s &&& p).testBit) c.id c.ep (less c.s p).testBit) = true := same_iff.2 (split_same (parts_or c.s p) (parts_and c.s p))
  have e2 : sameB (claimP t c.id c.ep c.s.testBit) (claimP (claimP t c.id c.ep (less c.s p).testBit) c.id c.ep (c.s &&& p).testBit) = true := same_iff.2 (split_same (fun i hi => by rw [Bool.or_comm]; exact parts_or c.s p i hi) (fun i hi => by rw [Bool.and_comm]; exact parts_and c.s p i hi))
  have s1 := same_tab (claimP t c.id c.ep c.s.testBit) (claimP (claimP t c.id c.ep (c.s &&& p).testBit) c.id c.ep (less c.s p).testBit)
  have s2 := same_tab (claimP t c.id c.ep c.s.testBit) (claimP (claimP t c.id c.ep (less c.s p).testBit) c.id c.ep (c.s &&& p).testBit)
  have e3 := orr_int (s := takenP t c.id c.ep (c.s &&& p).testBit) (t := takenP (claimP t c.id c.ep (c.s &&& p).testBit) c.id c.ep (less c.s p).testBit) (pick_lt _) (pick_lt _)
  rw [← split_taken (parts_or c.s p) (parts_and c.s p)] at e3
  rw [e1] at s1
  rw [e2] at s2
  clear hu hv h2 h3 e1 e2 h
  generalize takenP (claimP t c.id c.ep (less c.s p).testBit) c.id c.ep (c.s &&& p).testBit = n5 at *
  generalize claimP (claimP t c.id c.ep (less c.s p).testBit) c.id c.ep (c.s &&& p).testBit = T5 at *
  generalize takenP t c.id c.ep (less c.s p).testBit = n4 at *
  generalize claimP t c.id c.ep (less c.s p).testBit = T4 at *
  generalize takenP (claimP t c.id c.ep (c.s &&& p).testBit) c.id c.ep (less c.s p).testBit = n3 at *
  generalize claimP (claimP t c.id c.ep (c.s &&& p).testBit) c.id c.ep (less c.s p).testBit = T3 at *
  generalize takenP t c.id c.ep (c.s &&& p).testBit = n2 at *
  generalize claimP t c.id c.ep (c.s &&& p).testBit = T2 at *
  generalize takenP t c.id c.ep c.s.testBit = n1 at *
  generalize claimP t c.id c.ep c.s.testBit = T1 at *
  generalize c.s &&& p = u at *
  generalize less c.s p = v at *
  have H1 := Lib.hid c1
  have H2 := Lib.hid c2
  have H3 := Lib.hid c3
  have H4 := Lib.hid c4
  have H5 := Lib.hid c5
  have S1 := Lib.hid s1
  have S2 := Lib.hid s2
  have E3 := Lib.hid e3
  have HAH := Lib.hid HA
  have HLH := Lib.hid HL
  clear c1 c2 c3 c4 c5 s1 s2 e3 HA HL hc hp
  go_enter Try.func9, Try.ntmps9
  go_wp2_with (fail)
  refine (anchor_any _).mono ?_
  rintro e w1 ⟨rfl, hb1⟩
  have K1 := Lib.hid (((TabAt.new W t).alloc (.cells #[.int .i64 c.id, .int .i64 c.ep, .int .u64 (c.s : Int)] 28)).later hb1)
  have c1 : Bx ((W.alloc (.cells (tb t) 24)).alloc (.cells #[.int .i64 c.id, .int .i64 c.ep, .int .u64 (c.s : Int)] 28)) (W.heap.size + 1) c := by
    have := Bx.new (W.alloc (.cells (tb t) 24)) c
    simpa using this
  have C1 := Lib.hid (c1.later hb1)
  have HB1 := Lib.hid ((((Below.refl W.heap.size W).alloc (Nat.le_refl _) (.cells (tb t) 24)).alloc (by simp) (.cells #[.int .i64 c.id, .int .i64 c.ep, .int .u64 (c.s : Int)] 28)).trans (hb1.mono (by simp; omega)))
  clear hb1 c1
  go_wp2_with (refine at_load rfl K1.out rfl ?_)
  refine (RB.out _).mono ?_
  rintro e w2 ⟨rfl, hb2⟩
  have K2 := Lib.hid (K1.out.later hb2)
  have C2 := Lib.hid (C1.out.later hb2)
  have HB2 := Lib.hid (HB1.out.trans (hb2.mono HB1.out.size))
  obtain ⟨a0, a1, a2⟩ := C2.out.box
  clear hb2
  go_wp2_with (fail)
  refine (lawid_any _ _).mono ?_
  rintro e w3 ⟨rfl, rfl⟩
  rw [B2.out]
  go_wp2_with (fail)
  refine (lawepoch_any _ _).mono ?_
  rintro e w3 ⟨rfl, rfl⟩
  rw [B3.out]
  go_wp2_with (refine at_load rfl K2.out rfl ?_)
  refine (H1.out _).mono ?_
  rintro e w3 ⟨rfl, hb3⟩
  have K3 := Lib.hid ((K2.out.later hb3).alloc (.cells (tb T1) 24))
  have C3 := Lib.hid ((C2.out.later hb3).alloc (.cells (tb T1) 24))
  have L1_3 := Lib.hid (TabAt.new w3 T1)
  have HB3 := Lib.hid (below_new (HB2.out.trans (hb3.mono HB2.out.size)) (Nat.le_trans HB2.out.size hb3.size) (.cells (tb T1) 24))
  clear hb3 a0 a1 a2 K2 C2 HB2 H1
  obtain ⟨a0, a1, a2⟩ := C3.out.box
  have HA := HAH.out
  have HL := HLH.out
  go_wp2_with (first | refine at_alloc rfl ?_ | refine at_store_new rfl rfl rfl ?_ | (refine at_load (t := t) rfl ?_ rfl ?_; with_reducible exact K3.out))
  refine (H2.out _).mono ?_
  rintro e w4 ⟨rfl, hb4⟩
  have K4 := Lib.hid ((K3.out.later hb4).alloc (.cells (tb T2) 24))
  have L1_4 := Lib.hid ((L1_3.out.later hb4).alloc (.cells (tb T2) 24))
  have C4 := Lib.hid ((C3.out.later hb4).alloc (.cells (tb T2) 24))
  have L2_4 := Lib.hid (TabAt.new w4 T2)
  have HB4 := Lib.hid (below_new (HB3.out.trans (hb4.mono HB3.out.size)) (Nat.le_trans HB3.out.size hb4.size) (.cells (tb T2) 24))
  clear hb4 a0 a1 a2 K3 L1_3 C3 HB3 H2
  obtain ⟨a0, a1, a2⟩ := C4.out.box
  go_wp2_with (first | refine at_alloc rfl ?_ | refine at_store_new rfl rfl rfl ?_ | (refine at_load (t := T2) rfl ?_ rfl ?_; with_reducible exact L2_4.out))
  refine (H3.out _).mono ?_
  rintro e w5 ⟨rfl, hb5⟩
  have K5 := Lib.hid ((K4.out.later hb5).alloc (.cells (tb T3) 24))
  have L1_5 := Lib.hid ((L1_4.out.later hb5).alloc (.cells (tb T3) 24))
  have L2_5 := Lib.hid ((L2_4.out.later hb5).alloc (.cells (tb T3) 24))
  have C5 := Lib.hid ((C4.out.later hb5).alloc (.cells (tb T3) 24))
  have L3_5 := Lib.hid (TabAt.new w5 T3)
  have HB5 := Lib.hid (below_new (HB4.out.trans (hb5.mono HB4.out.size)) (Nat.le_trans HB4.out.size hb5.size) (.cells (tb T3) 24))
  clear hb5 a0 a1 a2 K4 L1_4 L2_4 C4 HB4 H3
  obtain ⟨a0, a1, a2⟩ := C5.out.box
  go_wp2_with (first | refine at_alloc rfl ?_ | refine at_store_new rfl rfl rfl ?_ | (refine at_load (t := t) rfl ?_ rfl ?_; with_reducible exact K5.out))
  refine (H4.out _).mono ?_
  rintro e w6 ⟨rfl, hb6⟩
  have K6 := Lib.hid ((K5.out.later hb6).alloc (.cells (tb T4) 24))
  have L1_6 := Lib.hid ((L1_5.out.later hb6).alloc (.cells (tb T4) 24))
  have L2_6 := Lib.hid ((L2_5.out.later hb6).alloc (.cells (tb T4) 24))
  have L3_6 := Lib.hid ((L3_5.out.later hb6).alloc (.cells (tb T4) 24))
  have C6 := Lib.hid ((C5.out.later hb6).alloc (.cells (tb T4) 24))
  have L4_6 := Lib.hid (TabAt.new w6 T4)
  have HB6 := Lib.hid (below_new (HB5.out.trans (hb6.mono HB5.out.size)) (Nat.le_trans HB5.out.size hb6.size) (.cells (tb T4) 24))
  clear hb6 a0 a1 a2 K5 L1_5 L2_5 L3_5 C5 HB5 H4
  obtain ⟨a0, a1, a2⟩ := C6.out.box
  go_wp2_with (first | refine at_alloc rfl ?_ | refine at_store_new rfl rfl rfl ?_ | (refine at_load (t := T4) rfl ?_ rfl ?_; with_reducible exact L4_6.out))
  refine (H5.out _).mono ?_
  rintro e w7 ⟨rfl, hb7⟩
  have K7 := Lib.hid ((K6.out.later hb7).alloc (.cells (tb T5) 24))
  have L1_7 := Lib.hid ((L1_6.out.later hb7).alloc (.cells (tb T5) 24))
  have L2_7 := Lib.hid ((L2_6.out.later hb7).alloc (.cells (tb T5) 24))
  have L3_7 := Lib.hid ((L3_6.out.later hb7).alloc (.cells (tb T5) 24))
  have L4_7 := Lib.hid ((L4_6.out.later hb7).alloc (.cells (tb T5) 24))
  have C7 := Lib.hid ((C6.out.later hb7).alloc (.cells (tb T5) 24))
  have L5_7 := Lib.hid (TabAt.new w7 T5)
  have HB7 := Lib.hid (below_new (HB6.out.trans (hb7.mono HB6.out.size)) (Nat.le_trans HB6.out.size hb7.size) (.cells (tb T5) 24))
  clear hb7 a0 a1 a2 K6 L1_6 L2_6 L3_6 L4_6 C6 HB6 H5
  have s1 := S1.out
  have s2 := S2.out
  have e3 := E3.out
  clear HA HL HAH HLH
  go_wp2_with (first | refine at_alloc rfl ?_ | refine at_store_new rfl rfl rfl ?_ | (refine at_load (t := T1) rfl ?_ rfl ?_; with_reducible exact L1_7.out) | (refine at_load (t := T3) rfl ?_ rfl ?_; with_reducible exact L3_7.out) | (refine at_load (t := T5) rfl ?_ rfl ?_; with_reducible exact L5_7.out))
  go_ret
  exact ⟨rfl, HB7.out⟩
theorem splitlaw_any (t : Tab) (c : Cl) (p : Nat) (hc : c.fits) (hp : p < 18446744073709551616) (W : World) : Calls Try.prog 9 #[.agg (tb t), vCl c, .int .u64 (p : Int)] W (Says true W) := by
  cases h : goodB t c.id c.ep
  · exact split_early t c p h W
  · exact split_main t c p hc hp h W
end Go.Proofs.Ytkkjciomgcgdiaa
