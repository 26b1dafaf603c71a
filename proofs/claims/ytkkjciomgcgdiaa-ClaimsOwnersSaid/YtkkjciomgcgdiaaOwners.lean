/-
  WHAT IS PROVED: the law ClaimsOwners answers true for all arguments, which read behind the call as before it (all ids that have a slot are told, rising; their slots, and nobody's, are all slots, each once). No condition beyond those of the given row.
-/
import Derived.Test.YtkkjciomgcgdiaaAnchor
import Derived.Test.YtkkjciomgcgdiaaOwn
import Derived.Test.YtkkjciomgcgdiaaArgs
namespace Go.Proofs.Ytkkjciomgcgdiaa
open Go.RowKit Go.Lib

/-- the slots of nobody and of some -/
def allOf (t : Tab) (l : List Int) : Nat := pick fun i => (t.o i == 0) || decide (t.o i ∈ l)
theorem all_lt (t : Tab) (l : List Int) : allOf t l < 18446744073709551616 := pick_lt _
theorem all_nil (t : Tab) : allOf t [] = ofN t 0 := by unfold allOf ofN; simp
theorem all_snoc (t : Tab) (l : List Int) (x : Int) : allOf t (l ++ [x]) = allOf t l ||| ofN t x := by
  refine ext64 (all_lt _ _) (or_lt (all_lt _ _) (ofN_lt _ _)) fun i hi => ?_
  have e1 : (allOf t (l ++ [x])).testBit i = ((t.o i == 0) || decide (t.o i ∈ l ++ [x])) := pick_bit _ hi
  have e2 : (allOf t l).testBit i = ((t.o i == 0) || decide (t.o i ∈ l)) := pick_bit _ hi
  rw [Nat.testBit_or, e1, e2, ofN_bit t x hi, Bool.or_assoc]
  congr 1
  rw [Bool.eq_iff_iff]
  simp
theorem all_apart {t : Tab} {l : List Int} {x : Int} (hx : x ∉ l) (h0 : x ≠ 0) : allOf t l &&& ofN t x = 0 := by
  refine ext64 (and_lt (all_lt _ _)) (by decide) fun i hi => ?_
  have e2 : (allOf t l).testBit i = ((t.o i == 0) || decide (t.o i ∈ l)) := pick_bit _ hi
  rw [Nat.testBit_and, e2, ofN_bit t x hi, Nat.zero_testBit]
  by_cases h : t.o i = x
  · rw [h]; simp [hx, h0]
  · simp [h]
theorem all_full {t : Tab} (h : okB t = true) : allOf t (ownersL t) = 18446744073709551615 := by
  refine ext64 (all_lt _ _) (by decide) fun i hi => ?_
  have e2 : (allOf t (ownersL t)).testBit i = ((t.o i == 0) || decide (t.o i ∈ ownersL t)) := pick_bit _ hi
  have e3 : (18446744073709551615 : Nat).testBit i = decide (i < 64) := Nat.testBit_two_pow_sub_one 64 i
  rw [e2, e3]
  have h2 := ok_held h hi
  rcases h2 with h2 | h2
  · simp [h2.1, hi]
  · have hm : t.o i ∈ ownersL t := owners_mem.2 ⟨i, hi, bet_iff.2 ⟨h2.1, h2.2.1⟩, rfl⟩
    simp [hm, hi]
/-- the last of a list, or 0 -/
def lastZ (l : List Int) : Int := l.getLastD 0
theorem last_snoc (l : List Int) (x : Int) : lastZ (l ++ [x]) = x := by unfold lastZ; simp
theorem z_snoc {l : List Int} {k : Nat} {x : Int} (h : l[k]? = some x) : l.take (k + 1) = l.take k ++ [x] := by
  rw [List.take_add_one, h]; rfl
theorem owner_fine {t : Tab} {x : Int} (h : x ∈ ownersL t) : 1 ≤ x ∧ ofN t x ≠ 0 := by
  obtain ⟨i, hi, h1, h2⟩ := owners_mem.1 h
  have h3 := bet_iff.1 h1
  rw [h2] at h3
  refine ⟨h3.1, fun e => ?_⟩
  have := ofN_bit t x hi
  rw [e, Nat.zero_testBit, h2] at this
  simp at this
theorem owner_above {t : Tab} {k : Nat} {x : Int} (h : (ownersL t)[k]? = some x) : lastZ ((ownersL t).take k) < x ∧ x ∉ (ownersL t).take k := by
  obtain ⟨hk, e⟩ := List.getElem?_eq_some_iff.1 h
  have hp : ∀ y ∈ (ownersL t).take k, y < x := fun y hy => by
    obtain ⟨j, hj, rfl⟩ := List.mem_take_iff_getElem.1 hy
    rw [← e]
    exact List.pairwise_iff_getElem.1 (owners_lt t) j k (by omega) hk (by omega)
  refine ⟨?_, fun hm => by have := hp x hm; omega⟩
  cases k with
  | zero =>
    have := (owner_fine (List.mem_of_getElem? h)).1
    simp [lastZ]; omega
  | succ j =>
    have hj : (ownersL t)[j]? = some ((ownersL t)[j]'(by omega)) := List.getElem?_eq_getElem (by omega)
    have e2 := z_snoc hj
    have := hp ((ownersL t)[j]'(by omega)) (List.mem_take_iff_getElem.2 ⟨j, by omega, rfl⟩)
    rw [e2, last_snoc]; exact this

set_option maxRecDepth 100000 in
set_option maxHeartbeats 4000000 in
theorem ownerslaw_any (t : Tab) (W : World) : Calls Try.prog 5 #[.agg (tb t)] W (Says true W) := by
  obtain ⟨b1, B1⟩ : ∃ b, Hid (okB t = b) := ⟨_, Lib.hid rfl⟩
  have RB : Hid (∀ W, Calls Try.prog 15 #[.agg (tb t)] W (Says b1 W)) := fun W => by have h := lawright_any t W; rwa [B1.out] at h
  go_enter Try.func5, Try.ntmps5
  go_wp2_with (fail)
  refine (anchor_any _).mono ?_
  rintro e w1 ⟨rfl, hb1⟩
  have K1 := Lib.hid ((TabAt.new W t).later hb1)
  have HB1 := Lib.hid (((Below.refl W.heap.size W).alloc (Nat.le_refl _) (.cells (tb t) 24)).trans (hb1.mono (by simp)))
  clear hb1
  go_wp2_with (refine at_load rfl K1.out rfl ?_)
  refine (RB.out _).mono ?_
  rintro e w2 ⟨rfl, hb2⟩
  have K2 := Lib.hid (K1.out.later hb2)
  have HB2 := Lib.hid (HB1.out.trans (hb2.mono HB1.out.size))
  clear hb2
  cases b1
  · go_wp2
    go_ret
    exact ⟨rfl, HB2.out⟩
  · have HFULL := Lib.hid (all_full B1.out)
    have HAB : Hid (∀ k x, (ownersL t)[k]? = some x → lastZ ((ownersL t).take k) < x ∧ x ∉ (ownersL t).take k) := Lib.hid fun k x h => owner_above h
    have HFI : Hid (∀ x, x ∈ ownersL t → 1 ≤ x ∧ ofN t x ≠ 0) := Lib.hid fun x h => owner_fine h
    go_wp2_with (refine at_load rfl K2.out rfl ?_)
    refine (of_any t 0 _).mono ?_
    rintro e w3 ⟨rfl, hb3⟩
    have K3 := Lib.hid (K2.out.later hb3)
    have HB3 := Lib.hid (HB2.out.trans (hb3.mono HB2.out.size))
    clear hb3
    rw [← all_nil]
    go_wp2_with (refine at_load rfl K3.out rfl ?_)
    refine (owners_any t _).mono ?_
    rintro e w4 ⟨hb4, A, c, rfl, hnc, hcm, hr⟩
    have K4 := Lib.hid (K3.out.later hb4)
    have HB4 := Lib.hid (HB3.out.trans (hb4.mono HB3.out.size))
    have HR4 := Lib.hid (hr w4.heap.size (.inl (Nat.le_refl _)))
    clear hb4 hr
    obtain ⟨OL, hOL⟩ : ∃ OL, ownersL t = OL := ⟨_, rfl⟩
    rw [hOL] at HFULL HAB HFI HR4 hnc ⊢
    clear hOL
    go_wp2
    go_loopw [3, 4, 20] (fun q1 q2 i wr => ∃ k : Nat, k ≤ OL.length ∧ i = .int .i64 k ∧ q1 = .int .u64 ((allOf t (OL.take k) : Nat) : Int) ∧ q2 = .int .i64 (lastZ (OL.take k)) ∧ Hid (Below w4.heap.size w4 wr)) (fun _ _ i _ => OL.length - (intOf i).toNat)
    case atStart => exact ⟨0, by omega, rfl, rfl, rfl, Lib.hid (Below.refl _ _)⟩
    case round =>
      obtain ⟨k, hk, rfl, rfl, rfl, hb⟩ := hrel
      have HBW := Lib.hid (HB4.out.trans (hb.out.mono HB4.out.size))
      by_cases hlt : k < OL.length
      · obtain ⟨ad, u, rfl, hu, hc⟩ := (HR4.out.below hb.out).at_ hlt
        obtain ⟨x, hx⟩ : ∃ x, OL[k]? = some x := ⟨OL[k], List.getElem?_eq_getElem hlt⟩
        obtain ⟨z, hz, rfl⟩ := zints_at hu
        obtain rfl : z = x := by rw [hx] at hz; injection hz with hz; exact hz.symm
        have HS := Lib.hid (z_snoc hx)
        have hab := HAB.out k z hx
        have hfi := HFI.out z (List.mem_of_getElem? hx)
        have HAS := Lib.hid (all_snoc t (OL.take k) z)
        have HLS := Lib.hid (last_snoc (OL.take k) z)
        have HAP : bits .and .u64 ((allOf t (OL.take k) : Nat) : Int) ((ofN t z : Nat) : Int) = 0 := by rw [and_int (all_lt _ _) (ofN_lt _ _), all_apart hab.2 (by omega)]; rfl
        have HOR := Lib.hid (orr_int (all_lt t (OL.take k)) (ofN_lt t z))
        have h1 : decide (z ≤ lastZ (OL.take k)) = false := by simp; exact hab.1
        have h2 : (((ofN t z : Nat) : Int) == 0) = false := by simp; exact hfi.2
        have HK := Lib.hid (K4.out.later hb.out)
        have HSL : Hid (∀ m, m < 64 → (ofN t z).testBit m = (t.o m == z)) := Lib.hid fun m hm => ofN_bit t z hm
        have HSZ : Hid (ofN t z < 18446744073709551616) := Lib.hid (ofN_lt t z)
        have OF := Lib.hid (of_any t z)
        generalize allOf t (OL.take k) = a at *
        generalize lastZ (OL.take k) = la at *
        obtain ⟨s, hs⟩ : ∃ s, ofN t z = s := ⟨_, rfl⟩
        rw [hs] at HAS HAP HOR h2 HSL HSZ OF
        clear hs hu hx hz hab hfi
        go_wp2_with (refine at_load rfl HK.out rfl ?_)
        refine (OF.out _).mono ?_
        rintro e w5 ⟨rfl, hb5⟩
        have HK5 := Lib.hid (HK.out.later hb5)
        have HB5 := Lib.hid (hb.out.trans (hb5.mono hb.out.size))
        clear hb5
        go_wp2_with (fail)
        refine (list_any s HSZ.out _).mono ?_
        rintro e w6 ⟨hb6, A6, c6, rfl, hnc6, hcm6, hr6⟩
        have HK6 := Lib.hid (HK5.out.later hb6)
        have HB6 := Lib.hid (HB5.out.trans (hb6.mono HB5.out.size))
        have HR6 := Lib.hid (hr6 w6.heap.size (.inl (Nat.le_refl _)))
        have HLT : Hid (∀ i, i ∈ slotsTo s 64 → i < 64 ∧ t.o i = z) := Lib.hid fun i hi => by
          have h := slotsTo_mem.1 hi
          refine ⟨h.1, ?_⟩
          have h' := HSL.out i h.1
          rw [h.2] at h'
          simpa using h'.symm
        have HLE := Lib.hid (slotsTo_le s 64)
        clear hb6 hr6
        generalize slotsTo s 64 = L at *
        have HOR1 := HOR.out
        go_wp2
        go_loop [43] (fun i => ∃ j : Nat, j ≤ L.length ∧ i = .int .i64 j) (fun i => L.length - (intOf i).toNat)
        case atStart => exact ⟨0, by omega, rfl⟩
        case round =>
          obtain ⟨j, hj, rfl⟩ := hrel
          by_cases hjl : j < L.length
          · obtain ⟨ad6, u6, rfl, hu6, hc6⟩ := HR6.out.at_ hjl
            obtain ⟨m, hm⟩ : ∃ m, L[j]? = some m := ⟨L[j], List.getElem?_eq_getElem hjl⟩
            rw [ints_at hm] at hu6
            injection hu6 with hu6
            subst hu6
            have hml := HLT.out m (List.mem_of_getElem? hm)
            have hO := HK6.out.o hml.1
            rw [hml.2] at hO
            have hm0 : (0 : Int) ≤ m := by omega
            have hm1 : (m : Int) < 64 := by have := hml.1; omega
            clear hml hm
            go_wp2
            go_round
            case rel => exact ⟨j + 1, by omega, by go_num⟩
            case measure => simp [intOf]; omega
          · obtain rfl : j = L.length := by omega
            go_wp2
            go_roundw
            case rel => exact ⟨k + 1, by omega, by go_num, by rw [HS.out, HAS.out, ← HOR.out], by rw [HS.out, HLS.out], HB6⟩
            case measure => simp [intOf]; omega
      · obtain rfl : k = OL.length := by omega
        rw [List.take_length, HFULL.out]
        go_wp2
        go_ret
        exact ⟨rfl, HBW.out⟩
end Go.Proofs.Ytkkjciomgcgdiaa
