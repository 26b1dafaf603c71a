/-
  WHAT IS PROVED: the law RosterForgets answers true for all arguments: who is forgotten is told of no more, all others are as they were; nobody is spoken of who is no member. No condition beyond those of the given row.
-/
import Derived.Test.YtfchhlibjhblmaaPlays
import Derived.Test.YtfchhlibjhblmaaBounds
namespace Go.Proofs.Ytfchhlibjhblmaa
open Go.RowKit Go.Lib Go.Maps

/-- a roster to which members were added alone: of the id 1, which is no member; no bans; the cursor as it was -/
structure Fresh (R : Ro) : Prop where
  s : R.s = 1
  self : hasL R.L 1 = false
  b : R.B.length = 0
  c : R.c = 0
theorem Fresh.nil : Fresh ⟨1, [], [], 0⟩ := ⟨rfl, rfl, rfl, rfl⟩
theorem Fresh.add {R : Ro} (h : Fresh R) (hg : Good R) (x t : Int) : Fresh (addR R x t) := by
  have hs := add_small R x t
  refine ⟨?_, ?_, by have := h.b; omega, by rw [hs.1]; exact h.c⟩
  · unfold addR; split <;> exact h.s
  · by_cases he : addE R x t = 0
    · rw [addR_ok he]
      show hasL (insL R.L _) 1 = false
      rw [has_ins hg.up, h.self, Bool.false_or]
      have := (chk_zero (addE_zero he).1).2.2
      rw [h.s] at this
      simpa using this
    · rw [addR_no he]; exact h.self
/-- who is forgotten: just a member -/
theorem for_ways {R : Ro} (h : Fresh R) (hg : Good R) (x : Int) : (hasL R.L x = true ∧ forE R x 0 = 0 ∧ (forR R x 0).L.length + 1 = R.L.length ∧ hasL (forR R x 0).L x = false ∧ (forR R x 0).c = 0) ∨ (hasL R.L x = false ∧ (forE R x 0 == 0) = false ∧ forR R x 0 = R) := by
  cases hq : hasL R.L x
  · refine .inr ⟨rfl, ?_, ?_⟩
    · by_cases hc : chkE R.s x 0 = 0
      · rw [forE_none hc hq]; rfl
      · rw [forE_chk hc]; simpa using hc
    · refine forR_no ?_
      by_cases hc : chkE R.s x 0 = 0
      · rw [forE_none hc hq]; decide
      · rw [forE_chk hc]; exact hc
  · refine .inl ⟨rfl, ?_⟩
    obtain ⟨p, hp, e⟩ := hasL_iff.1 hq
    have h1 := (hg.ok p hp).1
    have hx : x ≠ R.s := fun e2 => by rw [h.s] at e2; rw [e2, h.self] at hq; cases hq
    have hc : chkE R.s x 0 = 0 := by
      unfold chkE
      rw [if_pos ⟨id_in (by rw [← e]; exact h1), by decide⟩, if_neg hx]
    have he := forE_ok hc hq
    refine ⟨he, ?_, ?_, ?_⟩
    · rw [forR_ok he]
      have := len_del hg.up (x := x)
      rw [hq] at this
      simpa using this
    · rw [forR_ok he]
      show hasL (delL R.L x) x = false
      rw [has_del]; simp
    · rw [forR_ok he]; exact h.c
theorem next_has {R : Ro} {n x y : Int} (h : y ∈ nextL R n x) : hasL R.L y = true := by
  unfold nextL at h
  rcases Nat.eq_zero_or_pos (butL R.L x).length with h0 | h0
  · have := num_le (butL R.L x) n
    rw [show numN (butL R.L x) n = 0 by omega] at h
    cases h
  · exact (but_mem.1 (pick_mem h0 h)).1

set_option maxRecDepth 100000 in
set_option maxHeartbeats 4000000 in
theorem forgets_in (A : Option Addr) (n c : Nat) (l : List Int) (out q : Int) (W : World) (hn : n ≤ 40) (hq : q ≤ 100) (hr : Reads W W.heap.size A n (zints l)) :
    Calls Try.prog 9 #[.slice A n c, .int .i64 out, .int .i64 q] W (Says true W) := by
  have d0 : (n : Int) ≤ 40 := by omega
  have HR := Lib.hid hr
  clear hr
  go_enter Try.func9, Try.ntmps9
  go_wp2_with (fail)
  refine (anchor_any _).mono ?_
  rintro e w0 ⟨rfl, hb0⟩
  have HB0 := Lib.hid hb0
  clear hb0
  go_wp2_with (fail)
  refine (new_yes 1 _ id1).mono ?_
  rintro e w1 ⟨g, F, rfl, k1, hb1⟩
  have K1 := Lib.hid (k1.low HB0.out.size)
  have HB1 := Lib.hid (HB0.out.trans (hb1.mono HB0.out.size))
  clear k1 hb1
  go_wp2
  go_loopw [40] (fun i wr => ∃ (k : Nat) (F : Nat → Prop) (R : Ro), k ≤ n ∧ i = .int .i64 k ∧ Rs wr W.heap.size g F R ∧ Fresh R ∧ Below W.heap.size W wr) (fun i _ => n - (RowKit.intOf i).toNat)
  case atStart => exact ⟨0, F, _, by omega, rfl, K1.out, Fresh.nil, HB1.out⟩
  case round =>
    obtain ⟨w3, rfl⟩ : ∃ w3, w3 = wr := ⟨_, rfl⟩
    obtain ⟨k, F, R, hk, rfl, hwt, hfr, hbw⟩ := hrel
    have HK := Lib.hid hwt
    have HFR := Lib.hid hfr
    have HW := Lib.hid hbw
    clear hwt hbw hfr
    by_cases hlt : k < n
    · obtain ⟨ad, u, rfl, hu, hcx⟩ := (HR.out.old HW.out HW.out.size).at_ hlt
      obtain ⟨x, _, rfl⟩ := zints_at hu
      clear hu
      go_wp2_with (fail)
      refine (add_any _ g F R _ HK.out x 0).mono ?_
      rintro e w5 ⟨rfl, F5, k5, t5, _⟩
      have K5 := Lib.hid k5
      have HB5 := Lib.hid (HK.out.go HW.out t5)
      clear k5 t5
      go_wp2
      go_roundw
      case rel => exact ⟨k + 1, F5, _, by omega, by go_num, K5.out, HFR.out.add HK.out.good x 0, HB5.out⟩
      case measure => simp [RowKit.intOf]; omega
    · obtain rfl : k = n := by omega
      obtain ⟨a, ha⟩ : ∃ a, R.L.length = a := ⟨_, rfl⟩
      have HLA := Lib.hid ha
      have ha15 : a ≤ 15 := by rw [← ha]; exact HK.out.good.len
      obtain ⟨p, HP⟩ : ∃ p, Hid (getL R.L out = p) := ⟨_, Lib.hid rfl⟩
      obtain ⟨u, HU⟩ : ∃ u, Hid (hasL R.L out = u) := ⟨_, Lib.hid rfl⟩
      obtain ⟨er, HE⟩ : ∃ er, Hid (forE R out 0 = er) := ⟨_, Lib.hid rfl⟩
      obtain ⟨R5, HR5⟩ : ∃ y, Hid (forR R out 0 = y) := ⟨_, Lib.hid rfl⟩
      have hways := for_ways HFR.out HK.out.good out
      rw [HE.out, HR5.out, HU.out, ha] at hways
      have HWS := Lib.hid hways
      have HF0 := Lib.hid HFR.out.c
      have HBL := Lib.hid HFR.out.b
      clear hways ha
      go_wp2_with (fail)
      refine (list_any _ g F R _ HK.out).mono ?_
      rintro e w4 ⟨hb4, v4, rfl, ho4⟩
      rw [HLA.out] at ho4
      obtain ⟨A4, c4, rfl, hc4, hcm4⟩ := own_form ho4
      have K4 := Lib.hid (HK.out.below hb4)
      have HB4 := Lib.hid (HW.out.trans (hb4.mono HW.out.size))
      clear hb4 ho4
      go_wp2_with (fail)
      refine (get_any _ g F R _ K4.out out).mono ?_
      rintro e w5 ⟨rfl, hb5⟩
      rw [HP.out, HU.out]
      have K5 := Lib.hid ((K4.out.below hb5).alloc (.cells #[.int .i64 p.id, .int .i64 p.ma, .int .i64 p.co, .int .i64 p.of_, .int .i64 p.fa] 34))
      have HB5 := Lib.hid ((HB4.out.trans (hb5.mono HB4.out.size)).alloc (HB4.out.trans (hb5.mono HB4.out.size)).size (.cells #[.int .i64 p.id, .int .i64 p.ma, .int .i64 p.co, .int .i64 p.of_, .int .i64 p.fa] 34))
      clear hb5
      go_wp2_with (fail)
      refine (forget_any _ g F R _ K5.out (by rw [HBL.out]; omega) out 0).mono ?_
      rintro e w6 ⟨rfl, F6, k6, t6, _⟩
      rw [HE.out]
      rw [HR5.out] at k6
      have K6 := Lib.hid k6
      have HB6 := Lib.hid (K5.out.go HB5.out t6)
      clear k6 t6
      rcases HWS.out with ⟨rfl, rfl, h5, h6, h7⟩ | ⟨rfl, t1, h5⟩
      · obtain ⟨b, hb⟩ : ∃ b, R5.L.length = b := ⟨_, rfl⟩
        obtain rfl : a = b + 1 := by omega
        have HLB := Lib.hid hb
        have HNO := Lib.hid h6
        have HC5 : Hid (R5.c = 0) := Lib.hid h7
        clear hb h5 h6 h7
        go_wp2_with (fail)
        refine (list_any _ g F6 R5 _ K6.out).mono ?_
        rintro e w7 ⟨hb7, v7, rfl, ho7⟩
        rw [HLB.out] at ho7
        obtain ⟨A7, c7, rfl, hc7, hcm7⟩ := own_form ho7
        have K7 := Lib.hid (K6.out.below hb7)
        have HB7 := Lib.hid (HB6.out.trans (hb7.mono HB6.out.size))
        clear hb7 ho7
        obtain ⟨LT, HLT⟩ : ∃ y, Hid (nextL R5 q 0 = y) := ⟨_, Lib.hid rfl⟩
        have HNH : Hid (∀ y ∈ LT, hasL R5.L y = true) := Lib.hid (fun y hy => next_has (by rw [HLT.out]; exact hy))
        go_wp2_with (fail)
        refine (next_any _ g F6 R5 _ K7.out (by rw [HC5.out]; omega) q 0).mono ?_
        rintro e w8 ⟨⟨v8, rfl, ho8⟩, k8, t8⟩
        rw [HLT.out] at ho8
        obtain ⟨q8, hq8⟩ : ∃ q8, LT.length = q8 := ⟨_, rfl⟩
        have hq15 : q8 ≤ 15 := by
          have h1 := num_le (butL R5.L 0) q
          have h2 := but_len R5.L 0
          have h3 := K7.out.good.len
          rw [← hq8, ← HLT.out]
          unfold nextL
          rw [pick_len]
          omega
        rw [hq8] at ho8
        obtain ⟨A8, c8, rfl, hc8, hcm8⟩ := own_form ho8
        have HO8 : Hid (Rd w8 no 1 A8 q8 (zints LT)) := Lib.hid (Rd.of_own ho8 rfl (fun _ _ f => f))
        have K8 := Lib.hid k8
        have HB8 := Lib.hid (K7.out.go HB7.out t8)
        clear ho8 k8 t8
        go_wp2
        go_loopw [90] (fun i wr => ∃ (j : Nat), j ≤ q8 ∧ i = .int .i64 j ∧ Below w8.heap.size w8 wr) (fun i _ => q8 - (RowKit.intOf i).toNat)
        case atStart => exact ⟨0, by omega, rfl, Below.refl _ _⟩
        case round =>
          obtain ⟨w9, rfl⟩ : ∃ w9, w9 = wr := ⟨_, rfl⟩
          obtain ⟨j, hj, rfl, hb9⟩ := hrel
          have HB9 := Lib.hid hb9
          have K9 := Lib.hid (K8.out.below hb9)
          have HO9 := Lib.hid (HO8.out.below hb9)
          clear hb9
          by_cases hjl : j < q8
          · obtain ⟨ad, z, rfl, hz, _, _, e0⟩ := HO9.out.atZ hjl
            have HZ : Hid (hasL R5.L z = true) := Lib.hid (HNH.out z (List.mem_of_getElem? hz))
            obtain ⟨p', HP'⟩ : ∃ p, Hid (getL R5.L z = p) := ⟨_, Lib.hid rfl⟩
            have tz : (z == out) = false := by
              have h1 := HZ.out
              have h2 := HNO.out
              simp only [beq_eq_false_iff_ne]
              intro e
              rw [e, h2] at h1
              cases h1
            clear hz
            go_wp2_with (fail)
            refine (get_any _ g F6 _ _ K9.out z).mono ?_
            rintro e w10 ⟨rfl, hb10⟩
            rw [show getL (nextR R5 q 0).L z = p' from HP'.out, show hasL (nextR R5 q 0).L z = true from HZ.out]
            have HB10 := Lib.hid ((HB9.out.trans (hb10.mono HB9.out.size)).alloc (HB9.out.trans (hb10.mono HB9.out.size)).size (.cells #[.int .i64 p'.id, .int .i64 p'.ma, .int .i64 p'.co, .int .i64 p'.of_, .int .i64 p'.fa] 34))
            clear hb10
            go_wp2
            go_roundw
            case rel => exact ⟨j + 1, by omega, by go_num, HB10.out⟩
            case measure => simp [RowKit.intOf]; omega
          · obtain rfl : j = q8 := by omega
            go_wp2
            go_ret
            exact ⟨rfl, HB8.out.trans (HB9.out.mono HB8.out.size)⟩
      · have HLB : Hid (R5.L.length = a) := Lib.hid (by rw [h5]; exact HLA.out)
        have HC5 : Hid (R5.c = 0) := Lib.hid (by rw [h5]; exact HF0.out)
        clear h5
        go_wp2_with (fail)
        refine (list_any _ g F6 R5 _ K6.out).mono ?_
        rintro e w7 ⟨hb7, v7, rfl, ho7⟩
        rw [HLB.out] at ho7
        obtain ⟨A7, c7, rfl, hc7, hcm7⟩ := own_form ho7
        have K7 := Lib.hid (K6.out.below hb7)
        have HB7 := Lib.hid (HB6.out.trans (hb7.mono HB6.out.size))
        clear hb7 ho7
        obtain ⟨LT, HLT⟩ : ∃ y, Hid (nextL R5 q 0 = y) := ⟨_, Lib.hid rfl⟩
        have HNH : Hid (∀ y ∈ LT, hasL R5.L y = true) := Lib.hid (fun y hy => next_has (by rw [HLT.out]; exact hy))
        go_wp2_with (fail)
        refine (next_any _ g F6 R5 _ K7.out (by rw [HC5.out]; omega) q 0).mono ?_
        rintro e w8 ⟨⟨v8, rfl, ho8⟩, k8, t8⟩
        rw [HLT.out] at ho8
        obtain ⟨q8, hq8⟩ : ∃ q8, LT.length = q8 := ⟨_, rfl⟩
        have hq15 : q8 ≤ 15 := by
          have h1 := num_le (butL R5.L 0) q
          have h2 := but_len R5.L 0
          have h3 := K7.out.good.len
          rw [← hq8, ← HLT.out]
          unfold nextL
          rw [pick_len]
          omega
        rw [hq8] at ho8
        obtain ⟨A8, c8, rfl, hc8, hcm8⟩ := own_form ho8
        have HO8 : Hid (Rd w8 no 1 A8 q8 (zints LT)) := Lib.hid (Rd.of_own ho8 rfl (fun _ _ f => f))
        have K8 := Lib.hid k8
        have HB8 := Lib.hid (K7.out.go HB7.out t8)
        clear ho8 k8 t8
        go_wp2
        go_loopw [90] (fun i wr => ∃ (j : Nat), j ≤ q8 ∧ i = .int .i64 j ∧ Below w8.heap.size w8 wr) (fun i _ => q8 - (RowKit.intOf i).toNat)
        case atStart => exact ⟨0, by omega, rfl, Below.refl _ _⟩
        case round =>
          obtain ⟨w9, rfl⟩ : ∃ w9, w9 = wr := ⟨_, rfl⟩
          obtain ⟨j, hj, rfl, hb9⟩ := hrel
          have HB9 := Lib.hid hb9
          have K9 := Lib.hid (K8.out.below hb9)
          have HO9 := Lib.hid (HO8.out.below hb9)
          clear hb9
          by_cases hjl : j < q8
          · obtain ⟨ad, z, rfl, hz, _, _, e0⟩ := HO9.out.atZ hjl
            have HZ : Hid (hasL R5.L z = true) := Lib.hid (HNH.out z (List.mem_of_getElem? hz))
            obtain ⟨p', HP'⟩ : ∃ p, Hid (getL R5.L z = p) := ⟨_, Lib.hid rfl⟩
            clear hz
            go_wp2_with (fail)
            refine (get_any _ g F6 _ _ K9.out z).mono ?_
            rintro e w10 ⟨rfl, hb10⟩
            rw [show getL (nextR R5 q 0).L z = p' from HP'.out, show hasL (nextR R5 q 0).L z = true from HZ.out]
            have HB10 := Lib.hid ((HB9.out.trans (hb10.mono HB9.out.size)).alloc (HB9.out.trans (hb10.mono HB9.out.size)).size (.cells #[.int .i64 p'.id, .int .i64 p'.ma, .int .i64 p'.co, .int .i64 p'.of_, .int .i64 p'.fa] 34))
            clear hb10
            go_wp2
            go_roundw
            case rel => exact ⟨j + 1, by omega, by go_num, HB10.out⟩
            case measure => simp [RowKit.intOf]; omega
          · obtain rfl : j = q8 := by omega
            go_wp2
            go_ret
            exact ⟨rfl, HB8.out.trans (HB9.out.mono HB8.out.size)⟩
set_option maxRecDepth 100000 in
set_option maxHeartbeats 2000000 in
theorem forgets_out (A : Option Addr) (n c : Nat) (out q : Int) (W : World) (h : 40 < n ∨ (n ≤ 40 ∧ 100 < q)) :
    Calls Try.prog 9 #[.slice A n c, .int .i64 out, .int .i64 q] W (Says true W) := by
  rcases h with h | ⟨h1, h⟩
  all_goals
    go_enter Try.func9, Try.ntmps9
    go_wp2_with (fail)
    refine (anchor_any _).mono ?_
    rintro e w0 ⟨rfl, hb0⟩
    have HB0 := Lib.hid hb0
    clear hb0
    go_wp2_with (fail)
    refine (new_yes 1 _ id1).mono ?_
    rintro e w1 ⟨g, F, rfl, k1, hb1⟩
    have K1 := Lib.hid (k1.low HB0.out.size)
    have HB1 := Lib.hid (HB0.out.trans (hb1.mono HB0.out.size))
    clear k1 hb1
    go_wp2
    go_ret
    exact ⟨rfl, HB1.out⟩
theorem forgets_any (A : Option Addr) (n c : Nat) (l : List Int) (out q : Int) (W : World) (hr : ∀ g, W.heap.size ≤ g → Reads W g A n (zints l)) :
    Calls Try.prog 9 #[.slice A n c, .int .i64 out, .int .i64 q] W (Says true W) := by
  by_cases hn : n ≤ 40
  · by_cases hq : q ≤ 100
    · exact forgets_in A n c l out q W hn hq (hr _ (Nat.le_refl _))
    · exact forgets_out A n c out q W (.inr ⟨hn, by omega⟩)
  · exact forgets_out A n c out q W (.inl (by omega))
end Go.Proofs.Ytfchhlibjhblmaa
