/-
  WHAT IS PROVED: plain facts on sets of slots as numbers (the slots for which a test holds, the slots of a list). No condition.
-/
import Derived.Test.YtngammeppiadgaaGreatDoorBase
namespace Go.Proofs.YtngammeppiadgaaGreatDoor.C

theorem or_lt {a b : Nat} (ha : a < 18446744073709551616) (hb : b < 18446744073709551616) : a ||| b < 18446744073709551616 := Nat.or_lt_two_pow (n := 64) ha hb
theorem and_lt {a b : Nat} (ha : a < 18446744073709551616) : a &&& b < 18446744073709551616 := Nat.lt_of_le_of_lt Nat.and_le_left ha
theorem bit_far {s i : Nat} (hs : s < 18446744073709551616) (hi : 64 ≤ i) : s.testBit i = false :=
  Nat.testBit_lt_two_pow (Nat.lt_of_lt_of_le hs (Nat.pow_le_pow_right (show 0 < 2 by decide) hi))
theorem ext64 {s t : Nat} (hs : s < 18446744073709551616) (ht : t < 18446744073709551616) (h : ∀ i, i < 64 → s.testBit i = t.testBit i) : s = t := by
  apply Nat.eq_of_testBit_eq
  intro i
  by_cases hi : i < 64
  · exact h i hi
  · rw [bit_far hs (by omega), bit_far ht (by omega)]
theorem bit_lt {s i : Nat} (hs : s < 18446744073709551616) (h : s.testBit i = true) : i < 64 := by
  rcases Nat.lt_or_ge i 64 with hi | hi
  · exact hi
  · rw [bit_far hs hi] at h; cases h

/-- the slots of a list -/
def ors : List Nat → Nat
  | [] => 0
  | i :: r => 2 ^ i ||| ors r
theorem ors_bit (l : List Nat) (i : Nat) : (ors l).testBit i = decide (i ∈ l) := by
  induction l with
  | nil => simp [ors]
  | cons j r ih =>
    rw [ors, Nat.testBit_or, ih, Nat.testBit_two_pow, Bool.eq_iff_iff, Bool.or_eq_true, decide_eq_true_eq, decide_eq_true_eq, decide_eq_true_eq, List.mem_cons]
    exact ⟨fun h => h.imp Eq.symm id, fun h => h.imp Eq.symm id⟩
theorem ors_snoc (l : List Nat) (i : Nat) : ors (l ++ [i]) = ors l ||| 2 ^ i := by
  apply Nat.eq_of_testBit_eq
  intro j
  rw [Nat.testBit_or, ors_bit, ors_bit, Nat.testBit_two_pow, Bool.eq_iff_iff, Bool.or_eq_true, decide_eq_true_eq, decide_eq_true_eq, decide_eq_true_eq, List.mem_append, List.mem_singleton]
  exact ⟨fun h => h.imp id Eq.symm, fun h => h.imp id Eq.symm⟩
theorem pow_lt64 {i : Nat} (h : i < 64) : 2 ^ i < 18446744073709551616 := Nat.pow_lt_pow_right (show 1 < 2 by decide) h
theorem ors_lt {l : List Nat} (h : ∀ i ∈ l, i < 64) : ors l < 18446744073709551616 := by
  induction l with
  | nil => decide
  | cons j r ih => exact or_lt (pow_lt64 (h j (by simp))) (ih fun i hi => h i (by simp [hi]))
/-- the slots for which a test holds -/
def pick (f : Nat → Bool) : Nat := ors ((List.range 64).filter f)
theorem pick_bit (f : Nat → Bool) {i : Nat} (h : i < 64) : (pick f).testBit i = f i := by
  unfold pick
  rw [ors_bit, Bool.eq_iff_iff]
  simp [h]
theorem pick_lt (f : Nat → Bool) : pick f < 18446744073709551616 := ors_lt fun i hi => by
  have := (List.mem_filter.1 hi).1
  simpa using this
theorem pick_eq {f : Nat → Bool} {s : Nat} (hs : s < 18446744073709551616) (h : ∀ i, i < 64 → f i = s.testBit i) : pick f = s :=
  ext64 (pick_lt f) hs fun i hi => by rw [pick_bit f hi, h i hi]
theorem pick_congr {f g : Nat → Bool} (h : ∀ i, i < 64 → f i = g i) : pick f = pick g :=
  pick_eq (pick_lt g) fun i hi => by rw [h i hi, pick_bit g hi]
/-- a and not b -/
def less (a b : Nat) : Nat := pick fun i => a.testBit i && !b.testBit i
theorem less_bit {a b i : Nat} (h : i < 64) : (less a b).testBit i = (a.testBit i && !b.testBit i) := pick_bit _ h
theorem less_lt (a b : Nat) : less a b < 18446744073709551616 := pick_lt _

/-- the slots of a set ahead of n, rising -/
def slotsTo (s n : Nat) : List Nat := (List.range n).filter s.testBit
theorem slotsTo_mem {s n i : Nat} : i ∈ slotsTo s n ↔ i < n ∧ s.testBit i = true := by unfold slotsTo; simp
theorem slotsTo_all {s : Nat} (hs : s < 18446744073709551616) {i : Nat} : i ∈ slotsTo s 64 ↔ s.testBit i = true := by
  rw [slotsTo_mem]; exact ⟨fun h => h.2, fun h => ⟨bit_lt hs h, h⟩⟩
theorem slotsTo_nodup (s n : Nat) : (slotsTo s n).Nodup := List.Nodup.sublist List.filter_sublist List.nodup_range
theorem slotsTo_le (s n : Nat) : (slotsTo s n).length ≤ n := by
  unfold slotsTo
  have := List.length_filter_le s.testBit (List.range n)
  simpa using this
theorem slotsTo_yes {s n : Nat} (h : s.testBit n = true) : slotsTo s (n + 1) = slotsTo s n ++ [n] := by
  unfold slotsTo; rw [List.range_succ, List.filter_append]; simp [h]
theorem slotsTo_no {s n : Nat} (h : s.testBit n = false) : slotsTo s (n + 1) = slotsTo s n := by
  unfold slotsTo; rw [List.range_succ, List.filter_append]; simp [h]
theorem take_snoc {l : List Nat} {k m : Nat} (h : l[k]? = some m) : l.take (k + 1) = l.take k ++ [m] := by
  rw [List.take_add_one, h]; rfl
/-- what stands at a place of a list without doubles stands not ahead of it -/
theorem not_ahead {l : List Nat} (hn : l.Nodup) {k m : Nat} (h : l[k]? = some m) : m ∉ l.take k := by
  intro hm
  obtain ⟨j, hj, e⟩ := List.getElem_of_mem hm
  rw [List.getElem_take] at e
  rw [List.length_take] at hj
  obtain ⟨hk, e2⟩ := List.getElem?_eq_some_iff.1 h
  exact List.pairwise_iff_getElem.1 hn j k (by omega) hk (by omega) (e.trans e2.symm)
end Go.Proofs.YtngammeppiadgaaGreatDoor.C
