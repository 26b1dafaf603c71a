/-
  WHAT IS PROVED: plain facts on claims and drops, slot by slot. No condition.
-/
import Derived.Test.YtngammeppiadgaaGreatDoorCReads
namespace Go.Proofs.YtngammeppiadgaaGreatDoor.C
open Go.RowKit

/-- does a claim take a slot of its set -/
def tookB (t : Tab) (id ep : Int) (i : Nat) : Bool := decide (t.o i ≠ id) && (decide (t.o i = 0) || decide (t.e i < ep))
def newO (t : Tab) (id ep : Int) (i : Nat) : Int := if tookB t id ep i = true then id else t.o i
def newE (t : Tab) (id ep : Int) (i : Nat) : Int := if tookB t id ep i = true then ep else if t.o i = id then max (t.e i) ep else t.e i
/-- the table behind a claim of the slots for which p holds -/
def claimP (t : Tab) (id ep : Int) (p : Nat → Bool) : Tab := ⟨fun i => if p i = true then newO t id ep i else t.o i, fun i => if p i = true then newE t id ep i else t.e i⟩
def takenP (t : Tab) (id ep : Int) (p : Nat → Bool) : Nat := pick fun i => p i && tookB t id ep i
def goodB (t : Tab) (id ep : Int) : Bool := okB t && (idB id && epB ep)
theorem good_iff {t : Tab} {id ep : Int} : goodB t id ep = true ↔ okB t = true ∧ (1 ≤ id ∧ id ≤ 4294967296) ∧ (0 ≤ ep ∧ ep ≤ 281474976710656) := by
  unfold goodB idB epB; rw [Bool.and_eq_true, Bool.and_eq_true, bet_iff, bet_iff]
theorem ok_held {t : Tab} (h : okB t = true) {i : Nat} (hi : i < 64) : (t.o i = 0 ∧ t.e i = 0) ∨ (1 ≤ t.o i ∧ t.o i ≤ 4294967296 ∧ 0 ≤ t.e i ∧ t.e i ≤ 281474976710656) := held_iff.1 (okB_iff.1 h i hi)
theorem ok_of {t : Tab} (h : ∀ i, i < 64 → (t.o i = 0 ∧ t.e i = 0) ∨ (1 ≤ t.o i ∧ t.o i ≤ 4294967296 ∧ 0 ≤ t.e i ∧ t.e i ≤ 281474976710656)) : okB t = true := okB_iff.2 fun i hi => held_iff.2 (h i hi)
theorem took_iff {t : Tab} {id ep : Int} {i : Nat} : tookB t id ep i = true ↔ t.o i ≠ id ∧ (t.o i = 0 ∨ t.e i < ep) := by
  unfold tookB; simp
theorem took_no {t : Tab} {id ep : Int} {i : Nat} : tookB t id ep i = false ↔ t.o i = id ∨ (t.o i ≠ 0 ∧ ep ≤ t.e i) := by
  rw [← Bool.not_eq_true, took_iff]; omega
/-- what a slot has behind a claim of it -/
theorem new_cases (t : Tab) (id ep : Int) (i : Nat) :
    (tookB t id ep i = true ∧ t.o i ≠ id ∧ (t.o i = 0 ∨ t.e i < ep) ∧ newO t id ep i = id ∧ newE t id ep i = ep) ∨
    (tookB t id ep i = false ∧ t.o i = id ∧ newO t id ep i = id ∧ newE t id ep i = max (t.e i) ep) ∨
    (tookB t id ep i = false ∧ t.o i ≠ id ∧ t.o i ≠ 0 ∧ ep ≤ t.e i ∧ newO t id ep i = t.o i ∧ newE t id ep i = t.e i) := by
  unfold newO newE
  by_cases h : tookB t id ep i = true
  · have h' := took_iff.1 h
    rw [if_pos h, if_pos h]
    exact .inl ⟨h, h'.1, h'.2, rfl, rfl⟩
  · have h2 : tookB t id ep i = false := by simpa using h
    have h' := took_no.1 h2
    rw [if_neg h, if_neg h]
    by_cases e : t.o i = id
    · rw [if_pos e]; exact .inr (.inl ⟨h2, e, e, rfl⟩)
    · rw [if_neg e]; exact .inr (.inr ⟨h2, e, by omega, by omega, rfl, rfl⟩)
theorem claim_ok {t : Tab} {id ep : Int} {p : Nat → Bool} (h : goodB t id ep = true) : okB (claimP t id ep p) = true := by
  obtain ⟨h1, h2, h3⟩ := good_iff.1 h
  refine ok_of fun i hi => ?_
  have h4 := ok_held h1 hi
  show ((if p i = true then _ else _) = 0 ∧ (if p i = true then _ else _) = 0) ∨ (1 ≤ (if p i = true then _ else _) ∧ (if p i = true then _ else _) ≤ _ ∧ 0 ≤ (if p i = true then _ else _) ∧ (if p i = true then _ else _) ≤ _)
  cases p i
  · simpa using h4
  · simp only [if_true]
    rcases new_cases t id ep i with ⟨_, _, _, e1, e2⟩ | ⟨_, h5, e1, e2⟩ | ⟨_, _, _, _, e1, e2⟩ <;> rw [e1, e2] <;> omega
theorem claim_good {t : Tab} {id ep : Int} {p : Nat → Bool} (h : goodB t id ep = true) : goodB (claimP t id ep p) id ep = true :=
  good_iff.2 ⟨claim_ok h, (good_iff.1 h).2⟩

/-! ### one slot more -/
theorem mem_snoc {l : List Nat} {m i : Nat} : i ∈ l ++ [m] ↔ i ∈ l ∨ i = m := by simp
section
variable {t : Tab} {id ep : Int} {l : List Nat} {m : Nat}
theorem claim_own (hm : m ∉ l) (h : t.o m = id) : same (setE (claimP t id ep fun i => decide (i ∈ l)) m (max (t.e m) ep)) (claimP t id ep fun i => decide (i ∈ l ++ [m])) := fun i _ => by
  by_cases e : i = m
  · subst e
    have hn : tookB t id ep i = false := took_no.2 (.inl h)
    simp [claimP, setE, hm, newO, newE, hn, h]
  · simp [claimP, setE, e]
theorem claim_take (h : tookB t id ep m = true) : same (setE (setO (claimP t id ep fun i => decide (i ∈ l)) m id) m ep) (claimP t id ep fun i => decide (i ∈ l ++ [m])) := fun i _ => by
  by_cases e : i = m
  · subst e
    simp [claimP, setE, setO, newO, newE, h]
  · simp [claimP, setE, setO, e]
theorem claim_leave (hm : m ∉ l) (h : tookB t id ep m = false) (ho : t.o m ≠ id) : same (claimP t id ep fun i => decide (i ∈ l)) (claimP t id ep fun i => decide (i ∈ l ++ [m])) := fun i _ => by
  by_cases e : i = m
  · subst e
    simp [claimP, hm, newO, newE, h, ho]
  · simp [claimP, e]
end
def takenL (t : Tab) (id ep : Int) (l : List Nat) : Nat := ors (l.filter (tookB t id ep))
theorem taken_yes {t : Tab} {id ep : Int} {l : List Nat} {m : Nat} (h : tookB t id ep m = true) : takenL t id ep (l ++ [m]) = takenL t id ep l ||| pw m := by
  unfold takenL; rw [List.filter_append, List.filter_cons, if_pos h, List.filter_nil, ors_snoc]; rfl
theorem taken_no {t : Tab} {id ep : Int} {l : List Nat} {m : Nat} (h : tookB t id ep m = false) : takenL t id ep (l ++ [m]) = takenL t id ep l := by
  unfold takenL; rw [List.filter_append, List.filter_cons, if_neg (by rw [h]; simp), List.filter_nil, List.append_nil]
theorem taken_lt {t : Tab} {id ep : Int} {l : List Nat} (h : ∀ i ∈ l, i < 64) : takenL t id ep l < 18446744073709551616 := ors_lt fun i hi => h i (List.mem_filter.1 hi).1
theorem taken_all {t : Tab} {id ep : Int} {s : Nat} (hs : s < 18446744073709551616) : takenL t id ep (slotsTo s 64) = takenP t id ep s.testBit := by
  refine (pick_eq (taken_lt fun i hi => (slotsTo_mem.1 hi).1) fun i hi => ?_).symm
  unfold takenL
  rw [ors_bit, Bool.eq_iff_iff, decide_eq_true_eq, List.mem_filter, slotsTo_all hs, Bool.and_eq_true]
theorem claim_all {t : Tab} {id ep : Int} {s : Nat} (hs : s < 18446744073709551616) : same (claimP t id ep fun i => decide (i ∈ slotsTo s 64)) (claimP t id ep s.testBit) := fun i _ => by
  have e : decide (i ∈ slotsTo s 64) = s.testBit i := by rw [Bool.eq_iff_iff, decide_eq_true_eq, slotsTo_all hs]
  constructor
  · show (if decide (i ∈ slotsTo s 64) = true then _ else _) = _
    rw [e]; rfl
  · show (if decide (i ∈ slotsTo s 64) = true then _ else _) = _
    rw [e]; rfl
theorem claim_none (t : Tab) (id ep : Int) : same t (claimP t id ep fun i => decide (i ∈ ([] : List Nat))) := fun i _ => by simp [claimP]

/-! ### drops -/
def dropP (t : Tab) (p : Nat → Bool) : Tab := ⟨fun i => if p i = true then 0 else t.o i, fun i => if p i = true then 0 else t.e i⟩
theorem drop_step {t : Tab} {l : List Nat} {m : Nat} : same (setE (setO (dropP t fun i => decide (i ∈ l)) m 0) m 0) (dropP t fun i => decide (i ∈ l ++ [m])) := fun i _ => by
  by_cases e : i = m
  · subst e; simp [dropP, setE, setO]
  · simp [dropP, setE, setO, e]
theorem drop_none (t : Tab) : same t (dropP t fun i => decide (i ∈ ([] : List Nat))) := fun i _ => by simp [dropP]
theorem drop_all {t : Tab} {s : Nat} (hs : s < 18446744073709551616) : same (dropP t fun i => decide (i ∈ slotsTo s 64)) (dropP t s.testBit) := fun i _ => by
  have e : decide (i ∈ slotsTo s 64) = s.testBit i := by rw [Bool.eq_iff_iff, decide_eq_true_eq, slotsTo_all hs]
  constructor
  · show (if decide (i ∈ slotsTo s 64) = true then _ else _) = _
    rw [e]; rfl
  · show (if decide (i ∈ slotsTo s 64) = true then _ else _) = _
    rw [e]; rfl
/-- what somebody drops -/
def goneN (t : Tab) (id : Int) (keep : Nat) : Nat := less (ofN t id) keep
theorem ofN_lt (t : Tab) (id : Int) : ofN t id < 18446744073709551616 := pick_lt _
theorem ofN_bit (t : Tab) (id : Int) {i : Nat} (h : i < 64) : (ofN t id).testBit i = (t.o i == id) := pick_bit _ h
theorem gone_bit (t : Tab) (id : Int) (keep : Nat) {i : Nat} (h : i < 64) : (goneN t id keep).testBit i = ((t.o i == id) && !keep.testBit i) := by
  unfold goneN; rw [less_bit h, ofN_bit t id h]
theorem drop_ok {t : Tab} {p : Nat → Bool} (h : okB t = true) : okB (dropP t p) = true := by
  refine ok_of fun i hi => ?_
  have h4 := ok_held h hi
  cases e : p i <;> simp [dropP, e]
  exact h4
end Go.Proofs.YtngammeppiadgaaGreatDoor.C
