/-
  WHAT IS PROVED: the contract of Claim. Condition: none.
-/
import Derived.Test.YtngammeppiadgaaGreatDoorCPlain
import Derived.Test.YtngammeppiadgaaGreatDoorCList
import Derived.BigQuiet
namespace Go.Proofs.YtngammeppiadgaaGreatDoor.C
open Go.RowKit

/-- a table, a set and an error are handed back; nothing that was there has turned -/
def Gives (T : Tab) (n : Nat) (f : Int) (w : World) (e : Ending) (w' : World) : Prop := e = .returned (.tuple #[.agg (tb T), .int .u64 (n : Int), .int .i64 f]) ∧ Below w.heap.size w w'

theorem ints_at {l : List Nat} {k m : Nat} (h : l[k]? = some m) : (ints l)[k]? = some (.int .i64 (m : Int)) := by simp [ints, h]

/-- a box of one's own and a new result, behind a call -/
theorem two_tabs {w w1 : World} {t u : Tab} (hb1 : Below ((w.alloc (.cells (tb t) 27)).alloc (.cells (tb u) 27)).heap.size ((w.alloc (.cells (tb t) 27)).alloc (.cells (tb u) 27)) w1) :
    TabAt w1 w.heap.size t ∧ TabAt w1 (w.heap.size + 1) u ∧ Below w.heap.size w w1 ∧ w.heap.size + 1 < w1.heap.size := by
  have h1 : TabAt w1 (w.heap.size + 1) u := (show TabAt ((w.alloc (.cells (tb t) 27)).alloc (.cells (tb u) 27)) (w.heap.size + 1) u by
    have := TabAt.new (w.alloc (.cells (tb t) 27)) u
    simpa using this).later hb1
  exact ⟨((TabAt.new w t).alloc _).later hb1, h1, (((Below.refl _ w).alloc (Nat.le_refl _) _).alloc (by simp) _).trans (hb1.mono (by simp; omega)), h1.lt⟩

set_option maxRecDepth 100000 in
set_option maxHeartbeats 2000000 in
theorem claim_no (t : Tab) (id ep : Int) (s : Nat) (h : goodB t id ep = false) (w : World) :
    Calls Tryz.prog 93 #[.agg (tb t), .int .i64 id, .int .i64 ep, .int .u64 (s : Int)] w (Gives Tab.zero 0 10 w) := by
  have HT : Hid (TabAt ((w.alloc (.cells (tb t) 27)).alloc (.cells (tb Tab.zero) 27)) w.heap.size t) := Lib.hid ((TabAt.new w t).alloc _)
  obtain ⟨b1, B1⟩ : ∃ b, Hid (okB t = b) := ⟨_, Lib.hid rfl⟩
  obtain ⟨b2, B2⟩ : ∃ b, Hid (betB 1 4294967296 id = b) := ⟨_, Lib.hid rfl⟩
  obtain ⟨b3, B3⟩ : ∃ b, Hid (betB 0 281474976710656 ep = b) := ⟨_, Lib.hid rfl⟩
  have HG : Hid ((b1 && (b2 && b3)) = false) := Lib.hid (by rw [← B1.out, ← B2.out, ← B3.out]; exact h)
  clear h
  go_enter Tryz.func93, Tryz.ntmps93
  go_wp2_with (first | refine at_alloc rfl ?_ | refine at_load rfl HT.out rfl ?_)
  refine (right_any t _).mono ?_
  rintro e w1 ⟨rfl, hb1⟩
  obtain ⟨_, k2, hb2, _⟩ := two_tabs hb1
  have K2 := Lib.hid k2
  have HB2 := Lib.hid hb2
  clear hb1 k2 hb2
  rw [B1.out]
  cases b1
  · go_wp2_with (first | refine at_build rfl ?_ | refine at_store rfl rfl K2.out rfl ?_)
    exact bodyPost_ret (results_tab3 rfl _ _ (w.heap.size + 1) Tab.zero rfl (K2.out.store _)) rfl ⟨rfl, below_row HB2.out (by omega) _⟩
  · go_wp2_with (fail)
    refine (isid_any id _).mono ?_
    rintro e w2 ⟨rfl, rfl⟩
    rw [B2.out]
    cases b2
    · go_wp2_with (first | refine at_build rfl ?_ | refine at_store rfl rfl K2.out rfl ?_)
      exact bodyPost_ret (results_tab3 rfl _ _ (w.heap.size + 1) Tab.zero rfl (K2.out.store _)) rfl ⟨rfl, below_row HB2.out (by omega) _⟩
    · go_wp2_with (fail)
      refine (isepoch_any ep _).mono ?_
      rintro e w2 ⟨rfl, rfl⟩
      rw [B3.out]
      cases b3
      · go_wp2_with (first | refine at_build rfl ?_ | refine at_store rfl rfl K2.out rfl ?_)
        exact bodyPost_ret (results_tab3 rfl _ _ (w.heap.size + 1) Tab.zero rfl (K2.out.store _)) rfl ⟨rfl, below_row HB2.out (by omega) _⟩
      · exact absurd HG.out (by decide)

theorem _root_.Go.Proofs.YtngammeppiadgaaGreatDoor.Reads.set {w : World} {g n : Nat} {A : Option Addr} {xs : List Value} (h : Reads w g A n xs) (i : Nat) (u : Value) : Reads (w.setCell ⟨g, i, none⟩ u) g A n xs :=
  h.only (only_setCell (World.grownBy.refl _ _) (.inl rfl) u)
theorem max_if (a b : Int) : (if a < b then b else a) = max a b := by split <;> omega
theorem drewN_tab {w : World} {b : Nat} {t : Tab} (h : TabAt w b t) (n : Nat) : TabAt (w.drewN n) b t := h

set_option maxRecDepth 100000 in
set_option maxHeartbeats 2000000 in
theorem claim_yes (t : Tab) (id ep : Int) (s : Nat) (hs : s < 18446744073709551616) (h : goodB t id ep = true) (w : World) :
    Calls Tryz.prog 93 #[.agg (tb t), .int .i64 id, .int .i64 ep, .int .u64 (s : Int)] w (Gives (claimP t id ep s.testBit) (takenP t id ep s.testBit) 0 w) := by
  have HT : Hid (TabAt ((w.alloc (.cells (tb t) 27)).alloc (.cells (tb Tab.zero) 27)) w.heap.size t) := Lib.hid ((TabAt.new w t).alloc _)
  have B1 : Hid (okB t = true) := Lib.hid (good_iff.1 h).1
  have B2 : Hid (betB 1 4294967296 id = true) := Lib.hid (bet_iff.2 (good_iff.1 h).2.1)
  have B3 : Hid (betB 0 281474976710656 ep = true) := Lib.hid (bet_iff.2 (good_iff.1 h).2.2)
  have HE := Lib.hid (tb_congr (claim_all (t := t) (id := id) (ep := ep) hs))
  have HN := Lib.hid (taken_all (t := t) (id := id) (ep := ep) hs)
  have HLT : Hid (∀ i, i ∈ slotsTo s 64 → i < 64) := Lib.hid fun i hi => (slotsTo_mem.1 hi).1
  have HND := Lib.hid (slotsTo_nodup s 64)
  have HLE := Lib.hid (slotsTo_le s 64)
  clear h
  go_enter Tryz.func93, Tryz.ntmps93
  go_wp2_with (first | refine at_alloc rfl ?_ | refine at_load rfl HT.out rfl ?_)
  refine (right_any t _).mono ?_
  rintro e w1 ⟨rfl, hb1⟩
  obtain ⟨k1, k2, hb2, hlt2⟩ := two_tabs hb1
  have K1 := Lib.hid k1
  have K2 := Lib.hid k2
  have HB2 := Lib.hid hb2
  have HLT2 := Lib.hid hlt2
  clear hb1 k1 k2 hb2 hlt2
  rw [B1.out]
  go_wp2_with (fail)
  refine (isid_any id _).mono ?_
  rintro e w2 ⟨rfl, rfl⟩
  rw [B2.out]
  go_wp2_with (fail)
  refine (isepoch_any ep _).mono ?_
  rintro e w2 ⟨rfl, rfl⟩
  rw [B3.out]
  go_wp2_with (first | refine at_load rfl K1.out rfl ?_ | refine at_store rfl rfl K2.out rfl ?_)
  refine (list_any s hs _).mono ?_
  rintro e w2 ⟨hb3, A, c, rfl, hnc, hcm, hr⟩
  have K3 := Lib.hid (((K1.out.row_far (by omega) (tb t)) : TabAt (w1.setRow (w.heap.size + 1) (tb t)) w.heap.size t).later hb3)
  have L3 := Lib.hid ((K2.out.store t).later hb3)
  have HB3 := Lib.hid ((below_row HB2.out (Nat.le_succ _) (tb t)).trans (hb3.mono (by rw [size_setRow]; exact HB2.out.size)))
  have HR3 := Lib.hid (hr (w.heap.size + 1) (.inr (by rw [size_setRow]; exact HLT2.out)))
  clear hb3 hr
  generalize slotsTo s 64 = L at *
  go_wp2
  go_loopw [9, 33] (fun q i wr => ∃ k : Nat, k ≤ L.length ∧ i = .int .i64 k ∧ q = .int .u64 ((takenL t id ep (L.take k) : Nat) : Int) ∧ Hid (Below w.heap.size w wr) ∧ Hid (TabAt wr w.heap.size t) ∧ Hid (TabAt wr (w.heap.size + 1) (claimP t id ep fun i => decide (i ∈ L.take k))) ∧ Hid (Reads wr (w.heap.size + 1) A L.length (ints L))) (fun _ i _ => L.length - (intOf i).toNat)
  case atStart =>
    exact ⟨0, by omega, rfl, rfl, HB3, K3, Lib.hid (L3.out.like (claim_none t id ep)), HR3⟩
  case round =>
    obtain ⟨k, hk, rfl, rfl, hb, hT, hU, hR⟩ := hrel
    by_cases hlt : k < L.length
    · obtain ⟨ad, u, rfl, hu, hc⟩ := hR.out.at_ hlt
      obtain ⟨m, hm⟩ : ∃ m, L[k]? = some m := ⟨L[k], List.getElem?_eq_getElem hlt⟩
      rw [ints_at hm] at hu
      injection hu with hu
      subst hu
      have hm64 := HLT.out m (List.mem_of_getElem? hm)
      have hm0 : (0 : Int) ≤ m := by omega
      have hm1 : (m : Int) < 64 := by omega
      have HS := Lib.hid (take_snoc hm)
      have HM := Lib.hid (not_ahead HND.out hm)
      have HTL : Hid (takenL t id ep (L.take k) < 18446744073709551616) := Lib.hid (taken_lt fun i hi => HLT.out i (List.mem_of_mem_take hi))
      have hO := hT.out.o hm64
      have hE := hT.out.e hm64
      go_wp2
      go_quiet (fail)
      have HB4 := Lib.hid (below_drewN hb.out nq)
      have HT4 := Lib.hid (drewN_tab hT.out nq)
      have HU4 := Lib.hid (drewN_tab hU.out nq)
      have HR4 : Hid (Reads (wr.drewN nq) (w.heap.size + 1) (some ad) L.length (ints L)) := Lib.hid hR.out
      generalize wr.drewN nq = w4 at *
      clear hb hT hU hR hc hO hE
      have f0 := fun x => HU4.out.fz x
      obtain ⟨v0, hv0⟩ : ∃ v, w4.cell? ⟨w.heap.size + 1, m, none⟩ = some v := ⟨_, HU4.out.o hm64⟩
      obtain ⟨v1, hv1⟩ : ∃ v, w4.cell? ⟨w.heap.size + 1, 64 + m, none⟩ = some v := ⟨_, HU4.out.e hm64⟩
      have HTO : Hid (t.o m = t.o m) := rfl
      by_cases hown : t.o m = id
      · have HN1 := Lib.hid (taken_no (l := L.take k) (took_no.2 (.inl hown) : tookB t id ep m = false))
        have HC1 := Lib.hid (claim_own (ep := ep) HM.out hown)
        rw [← max_if] at HC1
        have hq : (t.o m == id) = true := by simpa using hown
        clear hown
        go_wp2
        go_roundw
        case rel => exact ⟨k + 1, by omega, by go_num, by rw [HS.out, HN1.out], Lib.hid (below_set HB4.out (p := ⟨w.heap.size + 1, 64 + m, none⟩) (Nat.le_succ _) _), Lib.hid (HT4.out.far (p := ⟨w.heap.size + 1, 64 + m, none⟩) (by show w.heap.size ≠ w.heap.size + 1; omega) _), Lib.hid (by rw [HS.out]; exact (HU4.out.setE hm64 _).like HC1.out), Lib.hid (HR4.out.set _ _)⟩
        case measure => simp [intOf]; omega
      · have hq : (t.o m == id) = false := by simpa using hown
        by_cases htk : tookB t id ep m = true
        · have HN1 := Lib.hid (taken_yes (l := L.take k) htk)
          have HO1 := Lib.hid (or_int HTL.out hm64)
          have HC1 := Lib.hid (claim_take (l := L.take k) htk)
          have hcase := (took_iff.1 htk).2
          clear hown htk
          by_cases hz : t.o m = 0
          · have hz1 : (t.o m == 0) = true := by simpa using hz
            clear hz hcase
            go_wp2_with (fail)
            refine (one_any m hm64 _).mono ?_
            rintro e w5 ⟨rfl, rfl⟩
            have HO2 := HO1.out
            go_wp2
            go_roundw
            case rel => exact ⟨k + 1, by omega, by go_num, by rw [HS.out, HN1.out], Lib.hid (below_set (below_set HB4.out (p := ⟨w.heap.size + 1, m, none⟩) (Nat.le_succ _) _) (p := ⟨w.heap.size + 1, 64 + m, none⟩) (Nat.le_succ _) _), Lib.hid ((HT4.out.far (p := ⟨w.heap.size + 1, m, none⟩) (by show w.heap.size ≠ w.heap.size + 1; omega) _).far (p := ⟨w.heap.size + 1, 64 + m, none⟩) (by show w.heap.size ≠ w.heap.size + 1; omega) _), Lib.hid (by rw [HS.out]; exact ((HU4.out.setO hm64 _).setE hm64 _).like HC1.out), Lib.hid ((HR4.out.set _ _).set _ _)⟩
            case measure => simp [intOf]; omega
          · have hz1 : (t.o m == 0) = false := by simpa using hz
            have hz2 : t.e m < ep := by omega
            clear hz hcase
            go_wp2_with (fail)
            refine (one_any m hm64 _).mono ?_
            rintro e w5 ⟨rfl, rfl⟩
            have HO2 := HO1.out
            go_wp2
            go_roundw
            case rel => exact ⟨k + 1, by omega, by go_num, by rw [HS.out, HN1.out], Lib.hid (below_set (below_set HB4.out (p := ⟨w.heap.size + 1, m, none⟩) (Nat.le_succ _) _) (p := ⟨w.heap.size + 1, 64 + m, none⟩) (Nat.le_succ _) _), Lib.hid ((HT4.out.far (p := ⟨w.heap.size + 1, m, none⟩) (by show w.heap.size ≠ w.heap.size + 1; omega) _).far (p := ⟨w.heap.size + 1, 64 + m, none⟩) (by show w.heap.size ≠ w.heap.size + 1; omega) _), Lib.hid (by rw [HS.out]; exact ((HU4.out.setO hm64 _).setE hm64 _).like HC1.out), Lib.hid ((HR4.out.set _ _).set _ _)⟩
            case measure => simp [intOf]; omega
        · have htk' : tookB t id ep m = false := by simpa using htk
          have HN1 := Lib.hid (taken_no (l := L.take k) htk')
          have HC1 := Lib.hid (claim_leave HM.out htk' hown)
          have h2 := took_no.1 htk'
          have hz1 : (t.o m == 0) = false := by simp; omega
          have hz2 : decide (t.e m < ep) = false := by simp; omega
          clear hown htk htk' h2
          go_wp2
          go_roundw
          case rel => exact ⟨k + 1, by omega, by go_num, by rw [HS.out, HN1.out], HB4, HT4, Lib.hid (by rw [HS.out]; exact HU4.out.like HC1.out), HR4⟩
          case measure => simp [intOf]; omega
    · obtain rfl : k = L.length := by omega
      have e := List.take_length (l := L)
      rw [e] at hU
      rw [e, HN.out]
      have HU5 : Hid (TabAt wr (w.heap.size + 1) (claimP t id ep s.testBit)) := Lib.hid (by unfold TabAt; rw [← HE.out]; exact hU.out)
      clear e
      go_wp2_with (first | refine at_load rfl HU5.out rfl ?_ | refine at_store rfl rfl HU5.out rfl ?_)
      exact bodyPost_ret (results_tab3 rfl _ _ (w.heap.size + 1) _ rfl (HU5.out.store _)) rfl ⟨rfl, below_row hb.out (Nat.le_succ _) _⟩
end Go.Proofs.YtngammeppiadgaaGreatDoor.C
