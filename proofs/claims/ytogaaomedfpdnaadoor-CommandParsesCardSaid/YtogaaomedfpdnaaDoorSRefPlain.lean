/-
  WHAT IS PROVED: plain facts on the document's reader, place by place. No condition.
-/
import Derived.Test.YtogaaomedfpdnaaDoorSRefNum
namespace Go.Proofs.YtogaaomedfpdnaaDoor.S

def off (a : Nat) : Nat := if a = 0 then 0 else 1
theorem stepR_eq (t : List UInt8) (a least : Nat) : stepR (decide (a = 0)) (t.drop a) least =
    if a ≠ 0 ∧ t[a]? ≠ some 32 then none else
    match numAt (t.drop (a + off a)) with
    | none => none
    | some (p, n) => if p < least then none else
      if t[a + off a + n]? = some 45 then
        (match numAt (t.drop (a + off a + n + 1)) with
        | none => none
        | some (c, m) => if c ≤ p then none else some (p, c, off a + n + 1 + m))
      else some (p, p, off a + n) := by
  have e : (if decide (a = 0) = true then 0 else 1 : Nat) = off a := by unfold off; simp
  unfold stepR
  rw [e]
  simp only [List.head?_drop, List.drop_drop, decide_eq_false_iff_not, ne_eq, Nat.add_assoc]
  rfl

/-- how far the reader has come -/
def Far (t : List UInt8) (a least : Nat) (L : List (Nat × Nat)) : Prop :=
  ∃ k, (t.drop a).length < k ∧ refParse t = (readR k (decide (a = 0)) (t.drop a) least).map (L ++ ·)
theorem far_start (t : List UInt8) : Far t 0 0 [] := ⟨t.length + 1, by simp, by simp [refParse]⟩
theorem far_end {t : List UInt8} {a least : Nat} {L : List (Nat × Nat)} (h : Far t a least L) (ha : t.length ≤ a) : refParse t = some L := by
  obtain ⟨k, hk, h⟩ := h
  obtain ⟨k, rfl⟩ : ∃ j, k = j + 1 := ⟨k - 1, by omega⟩
  rw [h, readR, if_pos (List.drop_eq_nil_of_le ha)]
  simp
theorem far_no {t : List UInt8} {a least : Nat} {L : List (Nat × Nat)} (h : Far t a least L) (ha : a < t.length) (hs : stepR (decide (a = 0)) (t.drop a) least = none) : refParse t = none := by
  obtain ⟨k, hk, h⟩ := h
  obtain ⟨k, rfl⟩ : ∃ j, k = j + 1 := ⟨k - 1, by omega⟩
  have hne : t.drop a ≠ [] := fun e => by have := congrArg List.length e; simp at this; omega
  rw [h, readR, if_neg hne, hs]
  rfl
theorem far_go {t : List UInt8} {a least p b n : Nat} {L : List (Nat × Nat)} (h : Far t a least L) (ha : a < t.length) (hs : stepR (decide (a = 0)) (t.drop a) least = some (p, b, n)) :
    Far t (a + n) (b + 2) (L ++ [(p, b)]) ∧ 1 ≤ n ∧ a + n ≤ t.length ∧ p ≤ b ∧ b < 64 := by
  obtain ⟨h1, h2, h3, _, h5, h6⟩ := step_sound hs
  rw [List.length_drop] at h6
  obtain ⟨k, hk, h⟩ := h
  obtain ⟨k, rfl⟩ : ∃ j, k = j + 1 := ⟨k - 1, by omega⟩
  have hne : t.drop a ≠ [] := fun e => by have := congrArg List.length e; simp at this; omega
  refine ⟨⟨k, by rw [List.length_drop] at hk ⊢; omega, ?_⟩, h5, by omega, h2, h3⟩
  rw [h, readR, if_neg hne, hs]
  have hd : decide (a + n = 0) = false := by rw [decide_eq_false_iff_not]; omega
  simp only [List.drop_drop, hd, Option.map_map]
  congr 1
  funext x
  simp

/-- the document's answer: its flags, and whether there are any -/
def refSet (t : List UInt8) : Nat := match refParse t with
  | some L => setOf L
  | none => 0
theorem refSet_some {t : List UInt8} {L : List (Nat × Nat)} (h : refParse t = some L) : refSet t = setOf L := by unfold refSet; rw [h]
theorem refSet_none {t : List UInt8} (h : refParse t = none) : refSet t = 0 := by unfold refSet; rw [h]
theorem refSet_lt (t : List UInt8) : refSet t < 18446744073709551616 := by
  unfold refSet
  split
  · exact set_lt _
  · decide

/-- the number at a place, and the place behind it -/
theorem numV_none {t : List UInt8} {x : Nat} (h : numAt (t.drop x) = none) : numV t x = (-1, x) := by unfold numV; rw [h]
theorem numV_some {t : List UInt8} {x p n : Nat} (h : numAt (t.drop x) = some (p, n)) : numV t x = ((p : Int), x + n) := by unfold numV; rw [h]
theorem num_len {t : List UInt8} {x p n : Nat} (h : numAt (t.drop x) = some (p, n)) : p < 64 ∧ 1 ≤ n ∧ x + n ≤ t.length := by
  obtain ⟨h1, _, h3, h4⟩ := numAt_sound h
  rw [List.length_drop] at h4
  exact ⟨h1, h3, by omega⟩
theorem str_at {t : List UInt8} {i : Nat} (h : i < (str t).size) : t[i]? = some (str t)[i] := by
  have : i < t.length := h
  rw [List.getElem?_eq_getElem this]; rfl

/-- the slots from p on, j of them -/
def accR (p : Nat) : Nat → Nat
  | 0 => 0
  | j + 1 => accR p j ||| 2 ^ (p + j)
theorem accR_bit (a : Nat) : ∀ j i, (accR a j).testBit i = decide (a ≤ i ∧ i < a + j)
  | 0, i => by simp [accR]
  | j + 1, i => by
    rw [accR, Nat.testBit_or, accR_bit a j i, Nat.testBit_two_pow, Bool.eq_iff_iff]
    simp
    omega
theorem accR_lt (a : Nat) : ∀ j, a + j ≤ 64 → accR a j < 18446744073709551616
  | 0, _ => by show 0 < _; decide
  | j + 1, h => or_lt (accR_lt a j (by omega)) (Nat.lt_of_lt_of_le (Nat.pow_lt_pow_right (by omega) (show a + j < 64 by omega)) (Nat.le_refl _))
theorem accR_span {a b : Nat} (h : a ≤ b) (hb : b < 64) : accR a (b + 1 - a) = spanN a b := by
  refine ext64 (accR_lt a _ (by omega)) (span_lt a b) fun i _ => ?_
  rw [accR_bit, span_bit hb]
  simp; omega
theorem accR_set (L : List (Nat × Nat)) {p b : Nat} (h : p ≤ b) (hb : b < 64) : setOf L ||| accR p (b + 1 - p) = setOf (L ++ [(p, b)]) := by rw [accR_span h hb, set_snoc]
theorem acc_or_bit (S p j i : Nat) (hi : i ≠ p + j) : (S ||| accR p (j + 1)).testBit i = (S ||| accR p j).testBit i := by
  rw [Nat.testBit_or, Nat.testBit_or, accR, Nat.testBit_or, Nat.testBit_two_pow]
  have : ¬ p + j = i := fun e => hi e.symm
  simp [this]
theorem acc_or_at (S p j : Nat) : (S ||| accR p (j + 1)).testBit (p + j) = true := by
  rw [Nat.testBit_or, accR, Nat.testBit_or, Nat.testBit_two_pow]; simp
theorem byte_ne {c : UInt8} {k : Nat} (h : c ≠ UInt8.ofNat k) : (c.toNat : Int) ≠ k := fun e => h (by
  have : c.toNat = k := by omega
  rw [← this]; simp)
end Go.Proofs.YtogaaomedfpdnaaDoor.S
