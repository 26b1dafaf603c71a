/-
  WHAT IS PROVED: the contract of Newer. Condition: none.
-/
import Derived.Test.YtkkjciomgcgdiaaClaim
namespace Go.Proofs.Ytkkjciomgcgdiaa
open Go.RowKit

/-- is a slot another one's with a greater epoch -/
def candB (t : Tab) (id ep : Int) (i : Nat) : Bool := decide (t.o i ≠ id) && (decide (t.o i ≠ 0) && decide (ep < t.e i))
def lowStep (t : Tab) (id ep : Int) (a : Int) (i : Nat) : Int := if candB t id ep i = true ∧ (a = 0 ∨ t.o i < a) then t.o i else a
def lowL (t : Tab) (id ep : Int) (l : List Nat) : Int := l.foldl (lowStep t id ep) 0
theorem lowL_snoc (t : Tab) (id ep : Int) (l : List Nat) (m : Nat) : lowL t id ep (l ++ [m]) = lowStep t id ep (lowL t id ep l) m := by simp [lowL]
theorem cand_iff {t : Tab} {id ep : Int} {i : Nat} : candB t id ep i = true ↔ t.o i ≠ id ∧ t.o i ≠ 0 ∧ ep < t.e i := by unfold candB; simp
def lowI (o e id ep a : Int) : Int := if (o ≠ id ∧ o ≠ 0 ∧ ep < e) ∧ (a = 0 ∨ o < a) then o else a
theorem lowStep_eq (t : Tab) (id ep a : Int) (i : Nat) : lowStep t id ep a i = lowI (t.o i) (t.e i) id ep a := by
  unfold lowStep lowI; simp only [cand_iff]
theorem low_cases (o e id ep a : Int) :
    (o = id ∧ lowI o e id ep a = a) ∨ ((o != id) = true ∧ o = 0 ∧ lowI o e id ep a = a) ∨ ((o != id) = true ∧ (o != 0) = true ∧ decide (ep < e) = false ∧ lowI o e id ep a = a) ∨
    ((o != id) = true ∧ (o != 0) = true ∧ decide (ep < e) = true ∧ a = 0 ∧ lowI o e id ep a = o) ∨
    ((o != id) = true ∧ (o != 0) = true ∧ decide (ep < e) = true ∧ (a == 0) = false ∧ decide (o < a) = true ∧ lowI o e id ep a = o) ∨
    ((o != id) = true ∧ (o != 0) = true ∧ decide (ep < e) = true ∧ (a == 0) = false ∧ decide (o < a) = false ∧ lowI o e id ep a = a) := by
  unfold lowI
  simp only [decide_eq_true_eq, decide_eq_false_iff_not, beq_eq_false_iff_ne, bne_iff_ne, ne_eq]
  by_cases h : (¬ o = id ∧ ¬ o = 0 ∧ ep < e) ∧ (a = 0 ∨ o < a)
  · rw [if_pos h]; omega
  · rw [if_neg h]; omega

def newerZ (t : Tab) (id ep : Int) (s : Nat) : Int := if okB t = true then lowL t id ep (slotsTo s 64) else 0

set_option maxRecDepth 100000 in
set_option maxHeartbeats 2000000 in
theorem newer_any (t : Tab) (id ep : Int) (s : Nat) (hs : s < 18446744073709551616) (w : World) :
    Calls Try.prog 23 #[.agg (tb t), .int .i64 id, .int .i64 ep, .int .u64 (s : Int)] w fun d w' => d = .returned (.int .i64 (newerZ t id ep s)) ∧ Below w.heap.size w w' := by
  have hT := Lib.hid (TabAt.new w t)
  obtain ⟨b1, B1⟩ : ∃ b, Hid (okB t = b) := ⟨_, Lib.hid rfl⟩
  cases b1
  · have HZ : Hid (newerZ t id ep s = 0) := Lib.hid (by unfold newerZ; rw [B1.out]; rfl)
    go_enter Try.func23, Try.ntmps23
    go_wp2_with (refine at_load rfl hT.out rfl ?_)
    refine (right_any t _).mono ?_
    rintro e w1 ⟨rfl, hb1⟩
    rw [B1.out]
    have HB1 := Lib.hid (((Below.refl w.heap.size w).alloc (Nat.le_refl _) (.cells (tb t) 24)).trans (hb1.mono (by simp)))
    clear hb1
    go_wp2
    go_ret
    exact ⟨by rw [HZ.out]; rfl, HB1.out⟩
  · have HZ : Hid (newerZ t id ep s = lowL t id ep (slotsTo s 64)) := Lib.hid (by unfold newerZ; rw [B1.out]; rfl)
    have HLT : Hid (∀ i, i ∈ slotsTo s 64 → i < 64) := Lib.hid fun i hi => (slotsTo_mem.1 hi).1
    have HLE := Lib.hid (slotsTo_le s 64)
    go_enter Try.func23, Try.ntmps23
    go_wp2_with (refine at_load rfl hT.out rfl ?_)
    refine (right_any t _).mono ?_
    rintro e w1 ⟨rfl, hb1⟩
    rw [B1.out]
    have HB1 := Lib.hid (((Below.refl w.heap.size w).alloc (Nat.le_refl _) (.cells (tb t) 24)).trans (hb1.mono (by simp)))
    have K1 := Lib.hid (hT.out.later hb1)
    clear hb1
    go_wp2_with (fail)
    refine (list_any s hs _).mono ?_
    rintro e w2 ⟨hb2, A, c, rfl, hnc, hcm, hr⟩
    have K2 := Lib.hid (K1.out.later hb2)
    have HB2 := Lib.hid (HB1.out.trans (hb2.mono HB1.out.size))
    have HR2 := Lib.hid (hr w2.heap.size (.inl (Nat.le_refl _)))
    clear hb2 hr
    generalize slotsTo s 64 = L at *
    go_wp2
    go_loop [9, 20] (fun q i => ∃ k : Nat, k ≤ L.length ∧ i = .int .i64 k ∧ q = .int .i64 (lowL t id ep (L.take k))) (fun _ i => L.length - (intOf i).toNat)
    case atStart => exact ⟨0, by omega, rfl, rfl⟩
    case round =>
      obtain ⟨k, hk, rfl, rfl⟩ := hrel
      by_cases hlt : k < L.length
      · obtain ⟨ad, u, rfl, hu, hc⟩ := HR2.out.at_ hlt
        obtain ⟨m, hm⟩ : ∃ m, L[k]? = some m := ⟨L[k], List.getElem?_eq_getElem hlt⟩
        rw [ints_at hm] at hu
        injection hu with hu
        subst hu
        have hm64 := HLT.out m (List.mem_of_getElem? hm)
        have hm0 : (0 : Int) ≤ m := by omega
        have hm1 : (m : Int) < 64 := by omega
        have HS : Hid (lowL t id ep (L.take (k + 1)) = lowI (t.o m) (t.e m) id ep (lowL t id ep (L.take k))) := Lib.hid (by rw [take_snoc hm, lowL_snoc, lowStep_eq])
        have hO := K2.out.o hm64
        have hE := K2.out.e hm64
        generalize lowL t id ep (L.take k) = a at *
        have HC := Lib.hid (low_cases (t.o m) (t.e m) id ep a)
        generalize t.o m = o at *
        generalize t.e m = e at *
        rcases HC.out with h | h | h | h | h | h
        · obtain ⟨rfl, h9⟩ := h
          rw [h9] at HS
          clear h9 HC
          go_wp2
          go_round
          case rel => exact ⟨k + 1, by omega, by go_num, by rw [HS.out]⟩
          case measure => simp [intOf]; omega
        · obtain ⟨h1, rfl, h9⟩ := h
          rw [h9] at HS
          clear h9 HC
          go_wp2
          go_round
          case rel => exact ⟨k + 1, by omega, by go_num, by rw [HS.out]⟩
          case measure => simp [intOf]; omega
        · obtain ⟨h1, h2, h3, h9⟩ := h
          rw [h9] at HS
          clear h9 HC
          go_wp2
          go_round
          case rel => exact ⟨k + 1, by omega, by go_num, by rw [HS.out]⟩
          case measure => simp [intOf]; omega
        · obtain ⟨h1, h2, h3, rfl, h9⟩ := h
          rw [h9] at HS
          clear h9 HC
          go_wp2
          go_round
          case rel => exact ⟨k + 1, by omega, by go_num, by rw [HS.out]⟩
          case measure => simp [intOf]; omega
        · obtain ⟨h1, h2, h3, h4, h5, h9⟩ := h
          rw [h9] at HS
          clear h9 HC
          go_wp2
          go_round
          case rel => exact ⟨k + 1, by omega, by go_num, by rw [HS.out]⟩
          case measure => simp [intOf]; omega
        · obtain ⟨h1, h2, h3, h4, h5, h9⟩ := h
          rw [h9] at HS
          clear h9 HC
          go_wp2
          go_round
          case rel => exact ⟨k + 1, by omega, by go_num, by rw [HS.out]⟩
          case measure => simp [intOf]; omega
      · obtain rfl : k = L.length := by omega
        rw [List.take_length]
        go_wp2
        go_ret
        exact ⟨by rw [HZ.out]; rfl, HB2.out⟩
end Go.Proofs.Ytkkjciomgcgdiaa
