/-
  WHAT IS PROVED: the law ClaimsWins answers true for all arguments, which read behind the call as before it (a claim with an epoch above all in a table gets all of its set; one with 0 only what nobody has, and its own). No condition beyond those of the given row.
-/
import Derived.Test.YtkkjciomgcgdiaaAnchor
import Derived.Test.YtkkjciomgcgdiaaNewer
import Derived.Test.YtkkjciomgcgdiaaQuiet
import Derived.Test.YtkkjciomgcgdiaaArgs
namespace Go.Proofs.Ytkkjciomgcgdiaa
open Go.RowKit Go.Lib

/-- the greatest epoch of the slots ahead of k -/
def mostTo (t : Tab) : Nat → Int
  | 0 => 0
  | k + 1 => if mostTo t k < t.e k then t.e k else mostTo t k
theorem most_ge (t : Tab) : ∀ k i, i < k → t.e i ≤ mostTo t k
  | 0, i, h => by omega
  | k + 1, i, h => by
    unfold mostTo
    rcases Nat.lt_or_ge i k with h' | h'
    · have := most_ge t k i h'
      split <;> omega
    · obtain rfl : i = k := by omega
      split <;> omega
theorem most_le {t : Tab} (h : okB t = true) : ∀ k, k ≤ 64 → 0 ≤ mostTo t k ∧ mostTo t k ≤ 281474976710656
  | 0, _ => ⟨by simp [mostTo], by simp [mostTo]⟩
  | k + 1, hk => by
    have ih := most_le h k (by omega)
    have h2 := ok_held h (i := k) (by omega)
    unfold mostTo
    split <;> omega

section
variable {t : Tab} {who m : Int} {s : Nat}
theorem none_taken (hok : okB t = true) (hw : 1 ≤ who) (hs : s < 18446744073709551616) : takenP t who 0 s.testBit = s &&& ofN t 0 :=
  ext64 (pick_lt _) (and_lt hs) fun i hi => by
    have h1 : (takenP t who 0 s.testBit).testBit i = (s.testBit i && tookB t who 0 i) := pick_bit _ hi
    rw [h1, Nat.testBit_and, ofN_bit t 0 hi]
    congr 1
    rw [Bool.eq_iff_iff, took_iff, beq_iff_eq]
    have := ok_held hok hi
    omega
theorem claimed_of (ep : Int) (hs : s < 18446744073709551616) : ofN (claimP t who ep s.testBit) who = ofN t who ||| takenP t who ep s.testBit :=
  ext64 (ofN_lt _ _) (or_lt (ofN_lt _ _) (pick_lt _)) fun i hi => by
    have h1 : (takenP t who ep s.testBit).testBit i = (s.testBit i && tookB t who ep i) := pick_bit _ hi
    rw [Nat.testBit_or, h1, ofN_bit _ _ hi, ofN_bit _ _ hi]
    have eo : (claimP t who ep s.testBit).o i = if s.testBit i = true then newO t who ep i else t.o i := rfl
    rw [eo]
    have := hs
    cases s.testBit i
    · simp
    · rw [if_pos rfl, Bool.true_and]
      rcases new_cases t who ep i with ⟨h2, h3, _, h4, _⟩ | ⟨h2, h3, h4, _⟩ | ⟨h2, h3, _, _, h4, _⟩
      · rw [h4, h2]; simp
      · rw [h4, h2, h3]; simp
      · rw [h4, h2]; simp
theorem all_taken (hm : ∀ i, i < 64 → t.e i < m) : takenP t who m s.testBit = less s (ofN t who) :=
  ext64 (pick_lt _) (less_lt _ _) fun i hi => by
    have h1 : (takenP t who m s.testBit).testBit i = (s.testBit i && tookB t who m i) := pick_bit _ hi
    rw [h1, less_bit hi, ofN_bit t who hi]
    congr 1
    have := hm i hi
    rw [Bool.eq_iff_iff, took_iff]
    simp
    omega
theorem all_of (hs : s < 18446744073709551616) (hm : ∀ i, i < 64 → t.e i < m) : ofN (claimP t who m s.testBit) who = ofN t who ||| s := by
  rw [claimed_of m hs, all_taken hm]
  refine ext64 (or_lt (ofN_lt _ _) (less_lt _ _)) (or_lt (ofN_lt _ _) hs) fun i hi => ?_
  rw [Nat.testBit_or, Nat.testBit_or, less_bit hi]
  cases s.testBit i <;> cases (ofN t who).testBit i <;> rfl
theorem all_newer (hs : s < 18446744073709551616) (hm : ∀ i, i < 64 → t.e i < m) : newerZ (claimP t who m s.testBit) who m s = 0 := by
  unfold newerZ
  split
  · suffices h : ∀ l : List Nat, (∀ i ∈ l, (claimP t who m s.testBit).o i = who) → lowL (claimP t who m s.testBit) who m l = 0 by
      refine h _ fun i hi => ?_
      have hb := (slotsTo_mem.1 hi)
      have eo : (claimP t who m s.testBit).o i = if s.testBit i = true then newO t who m i else t.o i := rfl
      rw [eo, if_pos hb.2]
      rcases new_cases t who m i with ⟨_, _, _, h4, _⟩ | ⟨_, _, h4, _⟩ | ⟨_, _, _, h6, _, _⟩
      · exact h4
      · exact h4
      · have := hm i hb.1; omega
    intro l hl
    unfold lowL
    have hz : ∀ (l : List Nat) (a : Int), (∀ i ∈ l, (claimP t who m s.testBit).o i = who) → l.foldl (lowStep (claimP t who m s.testBit) who m) a = a := by
      intro l
      induction l with
      | nil => intro a _; rfl
      | cons i r ih =>
        intro a h
        have hi := h i (by simp)
        have hc : candB (claimP t who m s.testBit) who m i = false := by
          cases e : candB (claimP t who m s.testBit) who m i with
          | false => rfl
          | true => exact absurd hi (cand_iff.1 e).1
        rw [List.foldl_cons]
        unfold lowStep
        rw [hc, if_neg (by simp)]
        exact ih a (fun j hj => h j (by simp [hj]))
    have := hs
    exact hz l 0 hl
  · rfl
end

set_option maxRecDepth 100000 in
set_option maxHeartbeats 2000000 in
theorem wins_early (t : Tab) (who : Int) (s : Nat) (h : (okB t && idB who) = false) (W : World) :
    Calls Try.prog 11 #[.agg (tb t), .int .i64 who, .int .u64 (s : Int)] W (Says true W) := by
  obtain ⟨b1, B1⟩ : ∃ b, Hid (okB t = b) := ⟨_, Lib.hid rfl⟩
  obtain ⟨b2, B2⟩ : ∃ b, Hid (betB 1 4294967296 who = b) := ⟨_, Lib.hid rfl⟩
  have HG : Hid ((b1 && b2) = false) := Lib.hid (by rw [← B1.out, ← B2.out]; exact h)
  have RB : Hid (∀ W, Calls Try.prog 15 #[.agg (tb t)] W (Says b1 W)) := fun W => by have h := lawright_any t W; rwa [B1.out] at h
  clear h
  go_enter Try.func11, Try.ntmps11
  go_wp2_with (fail)
  refine (anchor_any _).mono ?_
  rintro e w1 ⟨rfl, hb1⟩
  have K1 := Lib.hid ((TabAt.new W t).later hb1)
  have HB1 := Lib.hid (((Below.refl W.heap.size W).alloc (Nat.le_refl _) (.cells (tb t) 24)).trans (hb1.mono (by simp)))
  clear hb1
  go_wp2_with (refine at_load rfl K1.out rfl ?_)
  refine (RB.out _).mono ?_
  rintro e w2 ⟨rfl, hb2⟩
  have K2 := Lib.hid (K1.out.later hb2)
  have HB2 := Lib.hid (HB1.out.trans (hb2.mono HB1.out.size))
  clear hb2
  cases b1
  · go_wp2
    go_ret
    exact ⟨rfl, HB2.out⟩
  · go_wp2_with (fail)
    refine (lawid_any _ _).mono ?_
    rintro e w3 ⟨rfl, rfl⟩
    rw [B2.out]
    cases b2
    · go_wp2
      go_ret
      exact ⟨rfl, HB2.out⟩
    · exact absurd HG.out (by decide)

set_option maxRecDepth 100000 in
set_option maxHeartbeats 8000000 in
theorem wins_main (t : Tab) (who : Int) (s : Nat) (hs : s < 18446744073709551616) (h : (okB t && idB who) = true) (W : World) :
    Calls Try.prog 11 #[.agg (tb t), .int .i64 who, .int .u64 (s : Int)] W (Says true W) := by
  simp only [Bool.and_eq_true] at h
  obtain ⟨g1, g2⟩ := h
  have B2 : Hid (betB 1 4294967296 who = true) := Lib.hid g2
  have RB : Hid (∀ W, Calls Try.prog 15 #[.agg (tb t)] W (Says true W)) := fun W => by have h := lawright_any t W; rwa [g1] at h
  have i2 := bet_iff.1 g2
  have c1 : ∀ w, Calls Try.prog 13 #[.agg (tb t), .int .i64 who, .int .i64 0, .int .u64 (s : Int)] w (Gives (claimP t who 0 s.testBit) (takenP t who 0 s.testBit) 0 w) := claim_yes t who 0 s hs (good_iff.2 ⟨g1, i2, by omega, by omega⟩)
  have o1 := of_any (claimP t who 0 s.testBit) who
  rw [claimed_of 0 hs] at o1
  have o2 := of_any t 0
  have o3 := of_any t who
  have e1 := and_int hs (ofN_lt t 0)
  rw [← none_taken g1 i2.1 hs] at e1
  have e2 := orr_int (ofN_lt t who) (pick_lt fun i => s.testBit i && tookB t who 0 i)
  have e2' : bits .or .u64 ((ofN t who : Nat) : Int) ((takenP t who 0 s.testBit : Nat) : Int) = ((ofN t who ||| takenP t who 0 s.testBit : Nat) : Int) := e2
  have hge := fun i (hi : i < 64) => most_ge t 64 i hi
  have hle := most_le g1 64 (Nat.le_refl _)
  have hbig : mostTo t 64 ≠ 281474976710656 → ∃ (E : Tab) (n x : Nat), (∀ w, Calls Try.prog 13 #[.agg (tb t), .int .i64 who, .int .i64 (mostTo t 64 + 1), .int .u64 (s : Int)] w (Gives E n 0 w)) ∧
      (∀ w, Calls Try.prog 20 #[.agg (tb E), .int .i64 who] w fun d w' => d = .returned (.int .u64 (x : Int)) ∧ Below w.heap.size w w') ∧
      (∀ w, Calls Try.prog 23 #[.agg (tb E), .int .i64 who, .int .i64 (mostTo t 64 + 1), .int .u64 (s : Int)] w fun d w' => d = .returned (.int .i64 0) ∧ Below w.heap.size w w') ∧
      bits .or .u64 ((ofN t who : Nat) : Int) (s : Int) = (x : Int) ∧ bits .andNot .u64 (s : Int) ((ofN t who : Nat) : Int) = (n : Int) := fun hne => by
    have hm : ∀ i, i < 64 → t.e i < mostTo t 64 + 1 := fun i hi => by have := hge i hi; omega
    refine ⟨claimP t who (mostTo t 64 + 1) s.testBit, takenP t who (mostTo t 64 + 1) s.testBit, ofN t who ||| s, claim_yes t who (mostTo t 64 + 1) s hs (good_iff.2 ⟨g1, i2, by omega, by omega⟩), fun w => ?_, fun w => ?_, orr_int (ofN_lt t who) hs, ?_⟩
    · have h := of_any (claimP t who (mostTo t 64 + 1) s.testBit) who w
      rwa [all_of hs hm] at h
    · have h := newer_any (claimP t who (mostTo t 64 + 1) s.testBit) who (mostTo t 64 + 1) s hs w
      rwa [all_newer hs hm] at h
    · rw [less_int hs (ofN_lt t who), all_taken hm]
  have HBIG := Lib.hid hbig
  have HLE := Lib.hid hle
  generalize ofN t who ||| takenP t who 0 s.testBit = x1 at *
  generalize takenP t who 0 s.testBit = n1 at *
  generalize claimP t who 0 s.testBit = D at *
  have C1 := Lib.hid c1
  have O1 := Lib.hid o1
  have O2 := Lib.hid o2
  have O3 := Lib.hid o3
  have E1 := Lib.hid e1
  have E2 := Lib.hid e2'
  clear c1 o1 o2 o3 e1 e2 e2' hbig hge hle g1 g2 i2 hs
  go_enter Try.func11, Try.ntmps11
  go_wp2_with (fail)
  refine (anchor_any _).mono ?_
  rintro e w1 ⟨rfl, hb1⟩
  have K1 := Lib.hid ((TabAt.new W t).later hb1)
  have HB1 := Lib.hid (((Below.refl W.heap.size W).alloc (Nat.le_refl _) (.cells (tb t) 24)).trans (hb1.mono (by simp)))
  clear hb1
  go_wp2_with (refine at_load rfl K1.out rfl ?_)
  refine (RB.out _).mono ?_
  rintro e w2 ⟨rfl, hb2⟩
  have K2 := Lib.hid (K1.out.later hb2)
  have HB2 := Lib.hid (HB1.out.trans (hb2.mono HB1.out.size))
  clear hb2
  go_wp2_with (fail)
  refine (lawid_any _ _).mono ?_
  rintro e w3 ⟨rfl, rfl⟩
  rw [B2.out]
  go_wp2_with (refine at_epochs rfl K2.out rfl ?_)
  go_loop [7, 28] (fun q i => ∃ k : Nat, k ≤ 64 ∧ i = .int .i64 k ∧ q = .int .i64 (mostTo t k)) (fun _ i => 64 - (intOf i).toNat)
  case atStart => exact ⟨0, by omega, rfl, rfl⟩
  case round =>
    obtain ⟨k, hk, rfl, rfl⟩ := hrel
    by_cases hlt : k < 64
    · have hidx := index_row t.e hlt
      have HM : Hid (mostTo t (k + 1) = if mostTo t k < t.e k then t.e k else mostTo t k) := Lib.hid rfl
      generalize mostTo t k = m at *
      generalize t.e k = v at *
      go_wp2
      go_round
      case rel => exact ⟨k + 1, by omega, by go_num, by rw [HM.out]⟩
      case measure => simp [intOf]; omega
    · obtain rfl : k = 64 := by omega
      obtain ⟨m, hm⟩ : ∃ m, mostTo t 64 = m := ⟨_, rfl⟩
      rw [hm] at HBIG HLE ⊢
      clear hm
      have m0 := HLE.out.1
      have m1 := HLE.out.2
      go_wp2_with (first | (refine at_load (t := t) rfl ?_ rfl ?_; with_reducible exact K2.out))
      refine (C1.out _).mono ?_
      rintro e w4 ⟨rfl, hb4⟩
      have K4 := Lib.hid ((K2.out.later hb4).alloc (.cells (tb D) 24))
      have L4 := Lib.hid (TabAt.new w4 D)
      have HB4 := Lib.hid (below_new (HB2.out.trans (hb4.mono HB2.out.size)) (Nat.le_trans HB2.out.size hb4.size) (.cells (tb D) 24))
      clear hb4
      go_wp2_with (first | refine at_alloc rfl ?_ | refine at_store_new rfl rfl rfl ?_)
      refine wp_region_later (by kernel_rfl) (by kernel_rfl) ?_
      have e1 := E1.out
      have e2 := E2.out
      repeat (first
        | (refine quiet_load (t := D) rfl ?_ rfl ?_; (with_reducible exact L4.out); simp only [Act.put, List.setIfInBounds_toArray, List.set_cons_zero, List.set_cons_succ])
        | (refine quiet_load (t := t) rfl ?_ rfl ?_; (with_reducible exact K4.out); simp only [Act.put, List.setIfInBounds_toArray, List.set_cons_zero, List.set_cons_succ])
        | go_big_quiet_step (first | (go_at_call 20; with_reducible exact Later.calls (O1.out _)) | (go_at_call 20; with_reducible exact Later.calls (O2.out _)) | (go_at_call 20; with_reducible exact Later.calls (O3.out _))))
      refine wpQuiet_nil ?_
      intro _ hw'
      obtain ⟨pq, hw''⟩ := hw'
      subst hw''
      have K5 := Lib.hid (K4.out.later pq.below)
      have HB5 := Lib.hid (HB4.out.trans (pq.below.mono HB4.out.size))
      obtain ⟨w5, e5⟩ : ∃ w5, pq.now = w5 := ⟨_, rfl⟩
      rw [e5] at K5 HB5 ⊢
      clear e5 e1 e2
      by_cases hbig : m = 281474976710656
      · have hb1 : (m == 281474976710656) = true := by simpa using hbig
        clear hbig
        go_wp2
        go_ret
        exact ⟨rfl, HB5.out⟩
      · obtain ⟨E, n, x, h1, h2, h3, h4, h5⟩ := HBIG.out hbig
        have hb1 : (m == 281474976710656) = false := by simpa using hbig
        have H1 := Lib.hid h1
        have H2 := Lib.hid h2
        have H3 := Lib.hid h3
        have H4 := Lib.hid h4
        have H5 := Lib.hid h5
        clear hbig h1 h2 h3 h4 h5 HBIG
        go_wp2_with (first | (refine at_load (t := t) rfl ?_ rfl ?_; with_reducible exact K5.out))
        refine (H1.out _).mono ?_
        rintro e w6 ⟨rfl, hb6⟩
        have K6 := Lib.hid ((K5.out.later hb6).alloc (.cells (tb E) 24))
        have M6 := Lib.hid (TabAt.new w6 E)
        have HB6 := Lib.hid (below_new (HB5.out.trans (hb6.mono HB5.out.size)) (Nat.le_trans HB5.out.size hb6.size) (.cells (tb E) 24))
        clear hb6
        have hw : IntKind.i64.wrap (m + 1) = m + 1 := by rw [IntKind.wrap_i64]; omega
        go_wp2_with (first | refine at_alloc rfl ?_ | refine at_store_new rfl rfl rfl ?_)
        refine wp_region_later (by kernel_rfl) (by kernel_rfl) ?_
        have e1 := H4.out
        have e2 := H5.out
        repeat (first
          | (refine quiet_load (t := E) rfl ?_ rfl ?_; (with_reducible exact M6.out); simp only [Act.put, List.setIfInBounds_toArray, List.set_cons_zero, List.set_cons_succ])
          | (refine quiet_load (t := t) rfl ?_ rfl ?_; (with_reducible exact K6.out); simp only [Act.put, List.setIfInBounds_toArray, List.set_cons_zero, List.set_cons_succ])
          | go_big_quiet_step (first | (go_at_call 20; with_reducible exact Later.calls (H2.out _)) | (go_at_call 20; with_reducible exact Later.calls (O3.out _)) | (go_at_call 23; with_reducible exact Later.calls (H3.out _))))
        refine wpQuiet_nil ?_
        intro _ hw'
        obtain ⟨pq, hw''⟩ := hw'
        subst hw''
        have HB7 := Lib.hid (HB6.out.trans (pq.below.mono HB6.out.size))
        clear e1 e2
        go_wp2
        go_ret
        exact ⟨rfl, HB7.out⟩
theorem winslaw_any (t : Tab) (who : Int) (s : Nat) (hs : s < 18446744073709551616) (W : World) : Calls Try.prog 11 #[.agg (tb t), .int .i64 who, .int .u64 (s : Int)] W (Says true W) := by
  cases h : okB t && idB who
  · exact wins_early t who s h W
  · exact wins_main t who s hs h W
end Go.Proofs.Ytkkjciomgcgdiaa
