/-
  WHAT IS PROVED: the law ClaimsDrops answers true for all arguments, which read behind the call as before it (what somebody doesn't keep nobody has behind that; all else stays). No condition beyond those of the given row.
-/
import Derived.Test.YtkkjciomgcgdiaaAnchor
import Derived.Test.YtkkjciomgcgdiaaDrop
import Derived.Test.YtkkjciomgcgdiaaQuiet
import Derived.Test.YtkkjciomgcgdiaaArgs
namespace Go.Proofs.Ytkkjciomgcgdiaa
open Go.RowKit Go.Lib

theorem drop_slot (t : Tab) (id : Int) (s k : Nat) (hk : k < 64) :
    ((t.o k == id) = true ∧ s.testBit k = false ∧ (dropP t (goneN t id s).testBit).o k = 0 ∧ (dropP t (goneN t id s).testBit).e k = 0 ∧ (goneN t id s).testBit k = true) ∨
    ((t.o k == id) = true ∧ s.testBit k = true ∧ (dropP t (goneN t id s).testBit).o k = t.o k ∧ (dropP t (goneN t id s).testBit).e k = t.e k ∧ (goneN t id s).testBit k = false) ∨
    ((t.o k == id) = false ∧ (dropP t (goneN t id s).testBit).o k = t.o k ∧ (dropP t (goneN t id s).testBit).e k = t.e k ∧ (goneN t id s).testBit k = false) := by
  have hG := gone_bit t id s hk
  have eo : (dropP t (goneN t id s).testBit).o k = if (goneN t id s).testBit k = true then 0 else t.o k := rfl
  have ee : (dropP t (goneN t id s).testBit).e k = if (goneN t id s).testBit k = true then 0 else t.e k := rfl
  rw [eo, ee, hG]
  cases t.o k == id <;> cases s.testBit k <;> simp
theorem drop_of {t : Tab} {id : Int} {s : Nat} (hid : 1 ≤ id) : ofN (dropP t (goneN t id s).testBit) id = ofN t id &&& s := by
  refine pick_eq (and_lt (ofN_lt t id)) fun i hi => ?_
  rw [Nat.testBit_and, ofN_bit t id hi]
  show ((if (goneN t id s).testBit i = true then 0 else t.o i) == id) = _
  rw [gone_bit t id s hi]
  have h0 : ((0 : Int) == id) = false := by simp; omega
  cases h : t.o i == id <;> cases s.testBit i <;> simp [h, h0]

set_option maxRecDepth 100000 in
set_option maxHeartbeats 2000000 in
theorem drops_no (t : Tab) (id : Int) (s : Nat) (h : (okB t && idB id) = false) (W : World) :
    Calls Try.prog 4 #[.agg (tb t), .int .i64 id, .int .u64 (s : Int)] W (Says true W) := by
  have HC := Lib.hid (drop_no t id s h)
  have SA := fun w => same_tab Tab.zero Tab.zero w
  rw [show sameB Tab.zero Tab.zero = true by decide +kernel] at SA
  have HSA := Lib.hid SA
  obtain ⟨b1, B1⟩ : ∃ b, Hid (okB t = b) := ⟨_, Lib.hid rfl⟩
  obtain ⟨b2, B2⟩ : ∃ b, Hid (betB 1 4294967296 id = b) := ⟨_, Lib.hid rfl⟩
  have HG : Hid ((b1 && b2) = false) := Lib.hid (by rw [← B1.out, ← B2.out]; exact h)
  have RB : Hid (∀ W, Calls Try.prog 15 #[.agg (tb t)] W (Says b1 W)) := fun W => by have h := lawright_any t W; rwa [B1.out] at h
  clear h SA
  go_enter Try.func4, Try.ntmps4
  go_wp2_with (fail)
  refine (anchor_any _).mono ?_
  rintro e w1 ⟨rfl, hb1⟩
  have K1 := Lib.hid ((TabAt.new W t).later hb1)
  have HB1 := Lib.hid (((Below.refl W.heap.size W).alloc (Nat.le_refl _) (.cells (tb t) 24)).trans (hb1.mono (by simp)))
  clear hb1
  go_wp2_with (refine at_load rfl K1.out rfl ?_)
  refine (HC.out _).mono ?_
  rintro e w2 ⟨rfl, hb2⟩
  have K2 := Lib.hid ((K1.out.later hb2).alloc (.cells (tb Tab.zero) 24))
  have L2 := Lib.hid (TabAt.new w2 Tab.zero)
  have HB2 := Lib.hid (below_new (HB1.out.trans (hb2.mono HB1.out.size)) (Nat.le_trans HB1.out.size hb2.size) (.cells (tb Tab.zero) 24))
  clear hb2
  go_wp2_with (first | refine at_alloc rfl ?_ | refine at_store_new rfl rfl rfl ?_ | refine at_load rfl K2.out rfl ?_)
  refine (RB.out _).mono ?_
  rintro e w4 ⟨rfl, hb4⟩
  have L4 := Lib.hid (L2.out.later hb4)
  have HB4 := Lib.hid (HB2.out.trans (hb4.mono HB2.out.size))
  clear hb4
  have S4 := HSA.out
  cases b1
  · go_wp2_with (first | refine at_load rfl L4.out rfl ?_ | refine at_build rfl ?_)
    go_ret
    exact ⟨rfl, HB4.out⟩
  · go_wp2_with (fail)
    refine (lawid_any _ _).mono ?_
    rintro e w5 ⟨rfl, rfl⟩
    rw [B2.out]
    cases b2
    · go_wp2_with (first | refine at_load rfl L4.out rfl ?_ | refine at_build rfl ?_)
      go_ret
      exact ⟨rfl, HB4.out⟩
    · exact absurd HG.out (by decide)

set_option maxRecDepth 100000 in
set_option maxHeartbeats 4000000 in
theorem drops_yes (t : Tab) (id : Int) (s : Nat) (hs : s < 18446744073709551616) (h : (okB t && idB id) = true) (W : World) :
    Calls Try.prog 4 #[.agg (tb t), .int .i64 id, .int .u64 (s : Int)] W (Says true W) := by
  have HC := Lib.hid (drop_yes t id s hs h)
  have B1 : Hid (okB t = true) := Lib.hid (by simp at h; exact h.1)
  have B2 : Hid (betB 1 4294967296 id = true) := Lib.hid (by simp at h; exact h.2)
  have RB : Hid (∀ W, Calls Try.prog 15 #[.agg (tb t)] W (Says true W)) := fun W => by have h := lawright_any t W; rwa [B1.out] at h
  have HSL := Lib.hid (drop_slot t id s)
  have HSF : Hid (s < 18446744073709551616) := hs
  have HO := drop_of (t := t) (s := s) (bet_iff.1 B2.out).1
  have HD : Hid (goneN t id s < 18446744073709551616) := Lib.hid (less_lt _ _)
  have ON := of_any (dropP t (goneN t id s).testBit) id
  have OT := of_any t id
  rw [HO] at ON
  have HAN := Lib.hid (and_int (ofN_lt t id) hs)
  have HTL := HD
  generalize dropP t (goneN t id s).testBit = n at *
  generalize goneN t id s = d at *
  generalize ofN t id &&& s = x at *
  generalize ofN t id = y at *
  have HON := Lib.hid ON
  have HOT := Lib.hid OT
  clear h hs ON OT HO
  go_enter Try.func4, Try.ntmps4
  go_wp2_with (fail)
  refine (anchor_any _).mono ?_
  rintro e w1 ⟨rfl, hb1⟩
  have K1 := Lib.hid ((TabAt.new W t).later hb1)
  have HB1 := Lib.hid (((Below.refl W.heap.size W).alloc (Nat.le_refl _) (.cells (tb t) 24)).trans (hb1.mono (by simp)))
  clear hb1
  go_wp2_with (refine at_load rfl K1.out rfl ?_)
  refine (HC.out _).mono ?_
  rintro e w2 ⟨rfl, hb2⟩
  have K2 := Lib.hid ((K1.out.later hb2).alloc (.cells (tb n) 24))
  have L2 := Lib.hid (TabAt.new w2 n)
  have HB2 := Lib.hid (below_new (HB1.out.trans (hb2.mono HB1.out.size)) (Nat.le_trans HB1.out.size hb2.size) (.cells (tb n) 24))
  clear hb2
  go_wp2_with (first | refine at_alloc rfl ?_ | refine at_store_new rfl rfl rfl ?_ | refine at_load rfl K2.out rfl ?_)
  refine (RB.out _).mono ?_
  rintro e w4 ⟨rfl, hb4⟩
  have K5 := Lib.hid (K2.out.later hb4)
  have L5 := Lib.hid (L2.out.later hb4)
  have HB5 := Lib.hid (HB2.out.trans (hb4.mono HB2.out.size))
  clear hb4
  go_wp2_with (fail)
  refine (lawid_any _ _).mono ?_
  rintro e w5 ⟨rfl, rfl⟩
  rw [B2.out]
  go_wp2
  go_loopw [45] (fun i wr => ∃ k : Nat, k ≤ 64 ∧ i = .int .i64 k ∧ Hid (Below W.heap.size W wr) ∧ Hid (TabAt wr W.heap.size t) ∧ Hid (TabAt wr w2.heap.size n)) (fun i _ => 64 - (intOf i).toNat)
  case atStart => exact ⟨0, by omega, rfl, HB5, K5, L5⟩
  case round =>
    obtain ⟨k, hk, rfl, hb, hT, hN⟩ := hrel
    by_cases hlt : k < 64
    · have hO := hT.out.o hlt
      have hE := hT.out.e hlt
      have hk0 : (0 : Int) ≤ k := by omega
      have hk1 : (k : Int) < 64 := by omega
      go_wp2
      go_quiet (fail)
      have HB6 := Lib.hid (below_drewN hb.out nq)
      have HT6 := Lib.hid (drewN_tab hT.out nq)
      have HN6 := Lib.hid (drewN_tab hN.out nq)
      generalize wr.drewN nq = w6 at *
      clear hb hT hN hO hE
      have hO' := HN6.out.o hlt
      have hE' := HN6.out.e hlt
      have HSK := Lib.hid (HSL.out k hlt)
      have HS1 := Lib.hid (has_at (s := s) hlt)
      have HS2 := Lib.hid (has_at (s := d) hlt)
      generalize s.testBit k = bit at *
      generalize d.testBit k = db at *
      generalize t.o k = o at *
      generalize t.e k = p at *
      generalize n.o k = o' at *
      generalize n.e k = p' at *
      rcases HSK.out with ⟨h1, rfl, rfl, rfl, rfl⟩ | ⟨h1, rfl, rfl, rfl, rfl⟩ | ⟨h1, rfl, rfl, rfl⟩
      all_goals clear HSK
      · go_wp2_with (first
        | (go_at_call 18; with_reducible refine (has_any s HSF.out _ _).mono ?_; rintro e w8 ⟨rfl, rfl⟩; rw [HS1.out])
        | (go_at_call 18; with_reducible refine (has_any d HTL.out _ _).mono ?_; rintro e w8 ⟨rfl, rfl⟩; rw [HS2.out]))
        go_roundw
        case rel => exact ⟨k + 1, by omega, by go_num, HB6, HT6, HN6⟩
        case measure => simp [intOf]; omega
      · go_wp2_with (first
        | (go_at_call 18; with_reducible refine (has_any s HSF.out _ _).mono ?_; rintro e w8 ⟨rfl, rfl⟩; rw [HS1.out])
        | (go_at_call 18; with_reducible refine (has_any d HTL.out _ _).mono ?_; rintro e w8 ⟨rfl, rfl⟩; rw [HS2.out]))
        go_roundw
        case rel => exact ⟨k + 1, by omega, by go_num, HB6, HT6, HN6⟩
        case measure => simp [intOf]; omega
      · go_wp2_with (first
        | (go_at_call 18; with_reducible refine (has_any s HSF.out _ _).mono ?_; rintro e w8 ⟨rfl, rfl⟩; rw [HS1.out])
        | (go_at_call 18; with_reducible refine (has_any d HTL.out _ _).mono ?_; rintro e w8 ⟨rfl, rfl⟩; rw [HS2.out]))
        go_roundw
        case rel => exact ⟨k + 1, by omega, by go_num, HB6, HT6, HN6⟩
        case measure => simp [intOf]; omega
    · obtain rfl : k = 64 := by omega
      go_wp2
      refine wp_region_later (by kernel_rfl) (by kernel_rfl) ?_
      have HA := HAN.out
      repeat (first
        | (refine quiet_load rfl hT.out rfl ?_; simp only [Act.put, List.setIfInBounds_toArray, List.set_cons_zero, List.set_cons_succ])
        | (refine quiet_load rfl hN.out rfl ?_; simp only [Act.put, List.setIfInBounds_toArray, List.set_cons_zero, List.set_cons_succ])
        | quiet_step (first | (go_at_call 20; with_reducible exact Later.calls (HON.out _)) | (go_at_call 20; with_reducible exact Later.calls (HOT.out _))))
      refine wpQuiet_nil ?_
      intro _ hw'
      obtain ⟨pq, hw''⟩ := hw'
      subst hw''
      have HB9 := Lib.hid (hb.out.trans (pq.below.mono hb.out.size))
      go_wp2
      go_ret
      exact ⟨rfl, HB9.out⟩
theorem dropslaw_any (t : Tab) (id : Int) (s : Nat) (hs : s < 18446744073709551616) (W : World) : Calls Try.prog 4 #[.agg (tb t), .int .i64 id, .int .u64 (s : Int)] W (Says true W) := by
  cases h : okB t && idB id
  · exact drops_no t id s h W
  · exact drops_yes t id s hs h W
end Go.Proofs.Ytkkjciomgcgdiaa
