/-
  WHAT IS PROVED: the law ClaimsClaims answers true for all arguments, which read behind the call as before it (a claim takes, keeps and leaves just what the document says, slot by slot). No condition beyond those of the given row.
-/
import Derived.Test.YtkkjciomgcgdiaaAnchor
import Derived.Test.YtkkjciomgcgdiaaQuiet
import Derived.Test.YtkkjciomgcgdiaaArgs
namespace Go.Proofs.Ytkkjciomgcgdiaa
open Go.RowKit Go.Lib Go.ChangeShapes Go.WideShapes Go.ChangeAt Go.WideElems

theorem slot_cases (t : Tab) (id ep : Int) (s k : Nat) (hk : k < 64) :
    (s.testBit k = false ∧ (claimP t id ep s.testBit).o k = t.o k ∧ (claimP t id ep s.testBit).e k = t.e k ∧ (takenP t id ep s.testBit).testBit k = false) ∨
    (s.testBit k = true ∧ (t.o k != id) = true ∧ (t.o k == 0) = true ∧ (claimP t id ep s.testBit).o k = id ∧ (claimP t id ep s.testBit).e k = ep ∧ (takenP t id ep s.testBit).testBit k = true) ∨
    (s.testBit k = true ∧ (t.o k != id) = true ∧ (t.o k == 0) = false ∧ decide (t.e k < ep) = true ∧ (claimP t id ep s.testBit).o k = id ∧ (claimP t id ep s.testBit).e k = ep ∧ (takenP t id ep s.testBit).testBit k = true) ∨
    (s.testBit k = true ∧ t.o k = id ∧ (claimP t id ep s.testBit).o k = id ∧ (claimP t id ep s.testBit).e k = (if t.e k < ep then ep else t.e k) ∧ (takenP t id ep s.testBit).testBit k = false) ∨
    (s.testBit k = true ∧ (t.o k != id) = true ∧ (t.o k == 0) = false ∧ decide (t.e k < ep) = false ∧ (claimP t id ep s.testBit).o k = t.o k ∧ (claimP t id ep s.testBit).e k = t.e k ∧ (takenP t id ep s.testBit).testBit k = false) := by
  have hT : (takenP t id ep s.testBit).testBit k = (s.testBit k && tookB t id ep k) := pick_bit _ hk
  rw [hT, max_if]
  have eo : (claimP t id ep s.testBit).o k = if s.testBit k = true then newO t id ep k else t.o k := rfl
  have ee : (claimP t id ep s.testBit).e k = if s.testBit k = true then newE t id ep k else t.e k := rfl
  rw [eo, ee]
  cases hs : s.testBit k
  · exact .inl ⟨rfl, rfl, rfl, rfl⟩
  · rw [if_pos rfl, if_pos rfl, Bool.true_and]
    refine .inr ?_
    rcases new_cases t id ep k with ⟨h1, h2, h3, h4, h5⟩ | ⟨h1, h2, h4, h5⟩ | ⟨h1, h2, h3, h6, h4, h5⟩
    · have h2' : (t.o k != id) = true := by simpa using h2
      by_cases h0 : t.o k = 0
      · exact .inl ⟨rfl, h2', by simpa using h0, h4, h5, h1⟩
      · exact .inr (.inl ⟨rfl, h2', by simpa using h0, by simp; omega, h4, h5, h1⟩)
    · exact .inr (.inr (.inl ⟨rfl, h2, h4, h5, h1⟩))
    · exact .inr (.inr (.inr ⟨rfl, by simpa using h2, by simpa using h3, by simp; omega, h4, h5, h1⟩))
theorem taken_lt64 (t : Tab) (id ep : Int) (p : Nat → Bool) : takenP t id ep p < 18446744073709551616 := pick_lt _

set_option maxRecDepth 100000 in
set_option maxHeartbeats 2000000 in
theorem claims_no (t : Tab) (c : Cl) (h : goodB t c.id c.ep = false) (W : World) :
    Calls Try.prog 3 #[.agg (tb t), vCl c] W (Says true W) := by
  have HC := Lib.hid (claim_no t c.id c.ep c.s h)
  have SA := fun w => same_tab Tab.zero Tab.zero w
  rw [show sameB Tab.zero Tab.zero = true by decide +kernel] at SA
  have HSA := Lib.hid SA
  obtain ⟨b1, B1⟩ : ∃ b, Hid (okB t = b) := ⟨_, Lib.hid rfl⟩
  obtain ⟨b2, B2⟩ : ∃ b, Hid (betB 1 4294967296 c.id = b) := ⟨_, Lib.hid rfl⟩
  obtain ⟨b3, B3⟩ : ∃ b, Hid (betB 0 281474976710656 c.ep = b) := ⟨_, Lib.hid rfl⟩
  have HG : Hid ((b1 && (b2 && b3)) = false) := Lib.hid (by rw [← B1.out, ← B2.out, ← B3.out]; exact h)
  have RA : Hid (∀ W, Calls Try.prog 14 #[.agg (tb t)] W (Says b1 W)) := fun W => by have h := right_any t W; rwa [B1.out] at h
  have RB : Hid (∀ W, Calls Try.prog 15 #[.agg (tb t)] W (Says b1 W)) := fun W => by have h := lawright_any t W; rwa [B1.out] at h
  clear h SA
  go_enter Try.func3, Try.ntmps3
  go_wp2_with (fail)
  refine (anchor_any _).mono ?_
  rintro e w1 ⟨rfl, hb1⟩
  have K1 := Lib.hid (((TabAt.new W t).alloc (.cells #[.int .i64 c.id, .int .i64 c.ep, .int .u64 (c.s : Int)] 28)).later hb1)
  have c1 : Bx ((W.alloc (.cells (tb t) 24)).alloc (.cells #[.int .i64 c.id, .int .i64 c.ep, .int .u64 (c.s : Int)] 28)) (W.heap.size + 1) c := by
    have := Bx.new (W.alloc (.cells (tb t) 24)) c
    simpa using this
  have C1 := Lib.hid (c1.later hb1)
  have HB1 := Lib.hid ((((Below.refl W.heap.size W).alloc (Nat.le_refl _) (.cells (tb t) 24)).alloc (by simp) (.cells #[.int .i64 c.id, .int .i64 c.ep, .int .u64 (c.s : Int)] 28)).trans (hb1.mono (by simp; omega)))
  obtain ⟨a0, a1, a2⟩ := C1.out.box
  clear hb1 c1
  go_wp2_with (refine at_load rfl K1.out rfl ?_)
  refine (HC.out _).mono ?_
  rintro e w2 ⟨rfl, hb2⟩
  have K2 := Lib.hid ((K1.out.later hb2).alloc (.cells (tb Tab.zero) 24))
  have C2 := Lib.hid ((C1.out.later hb2).alloc (.cells (tb Tab.zero) 24))
  have L2 := Lib.hid (TabAt.new w2 Tab.zero)
  have HB2 := Lib.hid (below_new (HB1.out.trans (hb2.mono HB1.out.size)) (Nat.le_trans HB1.out.size hb2.size) (.cells (tb Tab.zero) 24))
  clear hb2 a0 a1 a2
  go_wp2_with (first | refine at_alloc rfl ?_ | refine at_store_new rfl rfl rfl ?_)
  refine wp_region_later (by kernel_rfl) (by kernel_rfl) ?_
  repeat (first
    | (refine quiet_load rfl K2.out rfl ?_; simp only [Act.put, List.setIfInBounds_toArray, List.set_cons_zero, List.set_cons_succ])
    | quiet_step (first | (go_at_call 14; exact Later.calls (RA.out _)) | (go_at_call 15; exact Later.calls (RB.out _))))
  refine wpQuiet_nil ?_
  intro _ hw'
  obtain ⟨pq, hw''⟩ := hw'
  subst hw''
  have hb3 := pq.below
  have K3 := Lib.hid (K2.out.later hb3)
  have C3 := Lib.hid (C2.out.later hb3)
  have L3 := Lib.hid (L2.out.later hb3)
  have HB3 := Lib.hid (HB2.out.trans (hb3.mono HB2.out.size))
  clear hb3
  obtain ⟨w3, e3⟩ : ∃ w3, pq.now = w3 := ⟨_, rfl⟩
  rw [e3] at K3 C3 L3 HB3 ⊢
  clear e3
  go_wp2_with (refine at_load rfl K3.out rfl ?_)
  refine (RB.out _).mono ?_
  rintro e w4 ⟨rfl, hb4⟩
  have L4 := Lib.hid (L3.out.later hb4)
  have HB4 := Lib.hid (HB3.out.trans (hb4.mono HB3.out.size))
  obtain ⟨a0, a1, a2⟩ := (C3.out.later hb4).box
  clear hb4
  have S4 := HSA.out
  cases b1
  · go_wp2_with (first | refine at_load rfl L4.out rfl ?_ | refine at_build rfl ?_)
    go_ret
    exact ⟨rfl, HB4.out⟩
  · go_wp2_with (fail)
    refine (lawid_any _ _).mono ?_
    rintro e w5 ⟨rfl, rfl⟩
    rw [B2.out]
    cases b2
    · go_wp2_with (first | refine at_load rfl L4.out rfl ?_ | refine at_build rfl ?_)
      go_ret
      exact ⟨rfl, HB4.out⟩
    · go_wp2_with (fail)
      refine (lawepoch_any _ _).mono ?_
      rintro e w5 ⟨rfl, rfl⟩
      rw [B3.out]
      cases b3
      · go_wp2_with (first | refine at_load rfl L4.out rfl ?_ | refine at_build rfl ?_)
        go_ret
        exact ⟨rfl, HB4.out⟩
      · exact absurd HG.out (by decide)

set_option maxRecDepth 100000 in
set_option maxHeartbeats 4000000 in
theorem claims_yes (t : Tab) (c : Cl) (hc : c.fits) (h : goodB t c.id c.ep = true) (W : World) :
    Calls Try.prog 3 #[.agg (tb t), vCl c] W (Says true W) := by
  have HC := Lib.hid (claim_yes t c.id c.ep c.s hc h)
  have B1 : Hid (okB t = true) := Lib.hid (good_iff.1 h).1
  have B2 : Hid (betB 1 4294967296 c.id = true) := Lib.hid (bet_iff.2 (good_iff.1 h).2.1)
  have B3 : Hid (betB 0 281474976710656 c.ep = true) := Lib.hid (bet_iff.2 (good_iff.1 h).2.2)
  have RA : Hid (∀ W, Calls Try.prog 14 #[.agg (tb t)] W (Says true W)) := fun W => by have h := right_any t W; rwa [B1.out] at h
  have RB : Hid (∀ W, Calls Try.prog 15 #[.agg (tb t)] W (Says true W)) := fun W => by have h := lawright_any t W; rwa [B1.out] at h
  have B4 : Hid (okB (claimP t c.id c.ep c.s.testBit) = true) := Lib.hid (claim_ok h)
  have RN : Hid (∀ W, Calls Try.prog 14 #[.agg (tb (claimP t c.id c.ep c.s.testBit))] W (Says true W)) := fun W => by have h := right_any (claimP t c.id c.ep c.s.testBit) W; rwa [B4.out] at h
  have HSL := Lib.hid (slot_cases t c.id c.ep c.s)
  have HCF : Hid (c.s < 18446744073709551616) := hc
  have HTL := Lib.hid (taken_lt64 t c.id c.ep c.s.testBit)
  generalize claimP t c.id c.ep c.s.testBit = n at *
  generalize takenP t c.id c.ep c.s.testBit = tk at *
  clear h hc
  go_enter Try.func3, Try.ntmps3
  go_wp2_with (fail)
  refine (anchor_any _).mono ?_
  rintro e w1 ⟨rfl, hb1⟩
  have K1 := Lib.hid (((TabAt.new W t).alloc (.cells #[.int .i64 c.id, .int .i64 c.ep, .int .u64 (c.s : Int)] 28)).later hb1)
  have c1 : Bx ((W.alloc (.cells (tb t) 24)).alloc (.cells #[.int .i64 c.id, .int .i64 c.ep, .int .u64 (c.s : Int)] 28)) (W.heap.size + 1) c := by
    have := Bx.new (W.alloc (.cells (tb t) 24)) c
    simpa using this
  have C1 := Lib.hid (c1.later hb1)
  have HB1 := Lib.hid ((((Below.refl W.heap.size W).alloc (Nat.le_refl _) (.cells (tb t) 24)).alloc (by simp) (.cells #[.int .i64 c.id, .int .i64 c.ep, .int .u64 (c.s : Int)] 28)).trans (hb1.mono (by simp; omega)))
  obtain ⟨a0, a1, a2⟩ := C1.out.box
  clear hb1 c1
  go_wp2_with (refine at_load rfl K1.out rfl ?_)
  refine (HC.out _).mono ?_
  rintro e w2 ⟨rfl, hb2⟩
  have K2 := Lib.hid ((K1.out.later hb2).alloc (.cells (tb n) 24))
  have C2 := Lib.hid ((C1.out.later hb2).alloc (.cells (tb n) 24))
  have L2 := Lib.hid (TabAt.new w2 n)
  have HB2 := Lib.hid (below_new (HB1.out.trans (hb2.mono HB1.out.size)) (Nat.le_trans HB1.out.size hb2.size) (.cells (tb n) 24))
  clear hb2 a0 a1 a2
  go_wp2_with (first | refine at_alloc rfl ?_ | refine at_store_new rfl rfl rfl ?_)
  refine wp_region_later (by kernel_rfl) (by kernel_rfl) ?_
  repeat (first
    | (refine quiet_load rfl K2.out rfl ?_; simp only [Act.put, List.setIfInBounds_toArray, List.set_cons_zero, List.set_cons_succ])
    | quiet_step (first | (go_at_call 14; exact Later.calls (RA.out _)) | (go_at_call 15; exact Later.calls (RB.out _))))
  refine wpQuiet_nil ?_
  intro _ hw'
  obtain ⟨pq, hw''⟩ := hw'
  subst hw''
  have hb3 := pq.below
  have K3 := Lib.hid (K2.out.later hb3)
  have C3 := Lib.hid (C2.out.later hb3)
  have L3 := Lib.hid (L2.out.later hb3)
  have HB3 := Lib.hid (HB2.out.trans (hb3.mono HB2.out.size))
  clear hb3
  obtain ⟨w3, e3⟩ : ∃ w3, pq.now = w3 := ⟨_, rfl⟩
  rw [e3] at K3 C3 L3 HB3 ⊢
  clear e3
  go_wp2_with (refine at_load rfl K3.out rfl ?_)
  refine (RB.out _).mono ?_
  rintro e w4 ⟨rfl, hb4⟩
  have K4 := Lib.hid (K3.out.later hb4)
  have C4 := Lib.hid (C3.out.later hb4)
  have L4 := Lib.hid (L3.out.later hb4)
  have HB4 := Lib.hid (HB3.out.trans (hb4.mono HB3.out.size))
  obtain ⟨a0, a1, a2⟩ := C4.out.box
  clear hb4
  go_wp2_with (fail)
  refine (lawid_any _ _).mono ?_
  rintro e w5 ⟨rfl, rfl⟩
  rw [B2.out]
  go_wp2_with (fail)
  refine (lawepoch_any _ _).mono ?_
  rintro e w5 ⟨rfl, rfl⟩
  rw [B3.out]
  go_wp2_with (refine at_load rfl L4.out rfl ?_)
  refine (RN.out _).mono ?_
  rintro e w5 ⟨rfl, hb5⟩
  have K5 := Lib.hid (K4.out.later hb5)
  have C5 := Lib.hid (C4.out.later hb5)
  have L5 := Lib.hid (L4.out.later hb5)
  have HB5 := Lib.hid (HB4.out.trans (hb5.mono HB4.out.size))
  clear hb5 a0 a1 a2
  go_wp2
  go_loopw [64] (fun i wr => ∃ k : Nat, k ≤ 64 ∧ i = .int .i64 k ∧ Hid (Below W.heap.size W wr) ∧ Hid (TabAt wr W.heap.size t) ∧ Hid (Bx wr (W.heap.size + 1) c) ∧ Hid (TabAt wr w2.heap.size n)) (fun i _ => 64 - (intOf i).toNat)
  case atStart => exact ⟨0, by omega, rfl, HB5, K5, C5, L5⟩
  case round =>
    obtain ⟨k, hk, rfl, hb, hT, hB, hN⟩ := hrel
    by_cases hlt : k < 64
    · have hO := hT.out.o hlt
      have hE := hT.out.e hlt
      have hk0 : (0 : Int) ≤ k := by omega
      have hk1 : (k : Int) < 64 := by omega
      go_wp2
      go_quiet (fail)
      have HB6 := Lib.hid (below_drewN hb.out nq)
      have HT6 := Lib.hid (drewN_tab hT.out nq)
      have HN6 := Lib.hid (drewN_tab hN.out nq)
      have HX6 : Hid (Bx (wr.drewN nq) (W.heap.size + 1) c) := hB.out
      generalize wr.drewN nq = w6 at *
      clear hb hT hN hB hO hE
      have hO' := HN6.out.o hlt
      have hE' := HN6.out.e hlt
      obtain ⟨a0, a1, a2⟩ := HX6.out.box
      have HSK := Lib.hid (HSL.out k hlt)
      have HS1 := Lib.hid (has_at (s := c.s) hlt)
      have HS2 := Lib.hid (has_at (s := tk) hlt)
      generalize c.s.testBit k = bit at *
      generalize tk.testBit k = tkb at *
      generalize t.o k = o at *
      generalize t.e k = p at *
      generalize n.o k = o' at *
      generalize n.e k = p' at *
      go_wp2_with (fail)
      refine (has_any c.s HCF.out _ _).mono ?_
      rintro e w7 ⟨rfl, rfl⟩
      rw [HS1.out]
      rcases HSK.out with ⟨rfl, rfl, rfl, rfl⟩ | ⟨rfl, h1, h2, rfl, rfl, rfl⟩ | ⟨rfl, h1, h2, h3, rfl, rfl, rfl⟩ | ⟨rfl, rfl, rfl, rfl, rfl⟩ | ⟨rfl, h1, h2, h3, rfl, rfl, rfl⟩
      all_goals clear HSK
      · go_wp2_with (first
        | (go_at_call 18; with_reducible refine (has_any c.s HCF.out _ _).mono ?_; rintro e w8 ⟨rfl, rfl⟩; rw [HS1.out])
        | (go_at_call 18; with_reducible refine (has_any tk HTL.out _ _).mono ?_; rintro e w8 ⟨rfl, rfl⟩; rw [HS2.out]))
        go_roundw
        case rel => exact ⟨k + 1, by omega, by go_num, HB6, HT6, HX6, HN6⟩
        case measure => simp [intOf]; omega
      · go_wp2
        go_quiet (fail)
        go_wp2_with (first
        | (go_at_call 18; with_reducible refine (has_any c.s HCF.out _ _).mono ?_; rintro e w8 ⟨rfl, rfl⟩; rw [HS1.out])
        | (go_at_call 18; with_reducible refine (has_any tk HTL.out _ _).mono ?_; rintro e w8 ⟨rfl, rfl⟩; rw [HS2.out]))
        go_roundw
        case rel => exact ⟨k + 1, by omega, by go_num, Lib.hid (below_drewN HB6.out _), Lib.hid (drewN_tab HT6.out _), HX6, Lib.hid (drewN_tab HN6.out _)⟩
        case measure => simp [intOf]; omega
      · go_wp2
        go_quiet (fail)
        go_wp2_with (first
        | (go_at_call 18; with_reducible refine (has_any c.s HCF.out _ _).mono ?_; rintro e w8 ⟨rfl, rfl⟩; rw [HS1.out])
        | (go_at_call 18; with_reducible refine (has_any tk HTL.out _ _).mono ?_; rintro e w8 ⟨rfl, rfl⟩; rw [HS2.out]))
        go_roundw
        case rel => exact ⟨k + 1, by omega, by go_num, Lib.hid (below_drewN HB6.out _), Lib.hid (drewN_tab HT6.out _), HX6, Lib.hid (drewN_tab HN6.out _)⟩
        case measure => simp [intOf]; omega
      · go_wp2_with (first
        | (go_at_call 18; with_reducible refine (has_any c.s HCF.out _ _).mono ?_; rintro e w8 ⟨rfl, rfl⟩; rw [HS1.out])
        | (go_at_call 18; with_reducible refine (has_any tk HTL.out _ _).mono ?_; rintro e w8 ⟨rfl, rfl⟩; rw [HS2.out]))
        go_roundw
        case rel => exact ⟨k + 1, by omega, by go_num, HB6, HT6, HX6, HN6⟩
        case measure => simp [intOf]; omega
      · go_wp2_with (first
        | (go_at_call 18; with_reducible refine (has_any c.s HCF.out _ _).mono ?_; rintro e w8 ⟨rfl, rfl⟩; rw [HS1.out])
        | (go_at_call 18; with_reducible refine (has_any tk HTL.out _ _).mono ?_; rintro e w8 ⟨rfl, rfl⟩; rw [HS2.out]))
        go_roundw
        case rel => exact ⟨k + 1, by omega, by go_num, HB6, HT6, HX6, HN6⟩
        case measure => simp [intOf]; omega
    · obtain rfl : k = 64 := by omega
      go_wp2
      go_ret
      exact ⟨rfl, hb.out⟩

theorem claimslaw_any (t : Tab) (c : Cl) (hc : c.fits) (W : World) : Calls Try.prog 3 #[.agg (tb t), vCl c] W (Says true W) := by
  cases h : goodB t c.id c.ep
  · exact claims_no t c h W
  · exact claims_yes t c hc h W
end Go.Proofs.Ytkkjciomgcgdiaa
