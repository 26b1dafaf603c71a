/-
  WHAT IS PROVED: layer 2's contracts: sets of slots, their texts written and read. Conditions: each states its own.
-/
import Derived.Test.YtmjbacmaafbdlaaGreatDoorCut
import Derived.Lib.AtoiAll
import Derived.Lib.IndexLaws
import Derived.Test.YtmjbacmaafbdlaaGreatDoorBytes
import Derived.Deep.QuietTactic
import Derived.BigQuiet
import Derived.IntWalk
import Derived.Laws.BitsAllLaws
import Derived.Laws.BitsLemmas
import Derived.Outline
import Derived.Maps.AppendAt
import Derived.OwnWalk
import Derived.LoopTactic
import Derived.Test.YtmjbacmaafbdlaaGreatDoorShelf
import Derived.Lib.Join
import Derived.Lib.ItoaNum
import Derived.Lib.AtoiErrMem
import Derived.RangeFuncNested
import Derived.RangeFuncBound
import Derived.RangeFuncCalls
import Derived.RangeFuncLeaves
import Derived.RangeFuncFrom
import Derived.Shelf.Abstract
import Derived.Shelf.RegionOpen
import Derived.WalkKit
import Derived.OwnWalkIn
import Derived.TacticsInMore
import Derived.LoopNIn
import Derived.LoopIn

/-
  WHAT IS PROVED: plain facts on sets of slots, their stretches and their texts (lists and numbers; no program): the text of a set is read back as that set; two sets have one text only if they are one. No condition.
-/
namespace Go.Proofs.YtmjbacmaafbdlaaGreatDoor.S

/-! ### cuts -/
theorem cutL_nil (c : UInt8) : cutL [] c = ([], [], false) := rfl
theorem cutL_cons (x : UInt8) (l : List UInt8) (c : UInt8) : cutL (x :: l) c = if x = c then ([], l, true) else (x :: (cutL l c).1, (cutL l c).2.1, (cutL l c).2.2) := by
  unfold cutL
  simp only [Lib.indexByte]
  have hge := Lib.indexByte_ge l c
  by_cases h : x = c
  · simp [h]
  · have h' : (x == c) = false := by simpa using h
    simp only [h', h, if_false, Bool.false_eq_true]
    by_cases hn : Lib.indexByte l c = -1
    · simp [hn]
    · have hb : (Lib.indexByte l c == -1) = false := by simpa using hn
      obtain ⟨k, hk⟩ := Int.eq_ofNat_of_zero_le (show 0 ≤ Lib.indexByte l c by omega)
      simp only [hk]
      have e1 : (0 : Int) ≤ (k : Int) + 1 := by omega
      have e2 : (0 : Int) ≤ (k : Int) := by omega
      have e3 : ((k : Int) + 1).toNat = k + 1 := by omega
      simp [e1, e2, e3]
theorem cutL_at {c : UInt8} : ∀ {a b : List UInt8}, (∀ x ∈ a, x ≠ c) → cutL (a ++ c :: b) c = (a, b, true)
  | [], b, _ => by simp [cutL_cons]
  | x :: a, b, h => by
    rw [List.cons_append, cutL_cons, if_neg (h x (by simp)), cutL_at (fun y hy => h y (by simp [hy]))]
theorem cutL_none {c : UInt8} : ∀ {a : List UInt8}, (∀ x ∈ a, x ≠ c) → cutL a c = (a, [], false)
  | [], _ => rfl
  | x :: a, h => by
    rw [cutL_cons, if_neg (h x (by simp)), cutL_none (fun y hy => h y (by simp [hy]))]
theorem cutL_shorter {l : List UInt8} {c : UInt8} (h : l ≠ []) : (cutL l c).2.1.length < l.length := by
  unfold cutL
  split
  · simp; have := List.length_pos_iff.2 h; omega
  · simp; exact List.length_pos_iff.2 h
theorem cutL_first_le (l : List UInt8) (c : UInt8) : (cutL l c).1.length ≤ l.length := by
  unfold cutL; split
  · simp; omega
  · simp
theorem cutL_rest_le (l : List UInt8) (c : UInt8) : (cutL l c).2.1.length ≤ l.length := by
  unfold cutL; split <;> simp

/-! ### digits, stretches -/
def dig (n : Nat) : List UInt8 := if n < 10 then [UInt8.ofNat (48 + n)] else [UInt8.ofNat (48 + n / 10), UInt8.ofNat (48 + n % 10)]
def part (p : Nat × Nat) : List UInt8 := if p.1 = p.2 then dig p.1 else dig p.1 ++ 45 :: dig p.2

theorem dig_no : ∀ n, n < 64 → ∀ x ∈ dig n, x ≠ 32 ∧ x ≠ 45 := by decide +kernel
theorem dig_ne (n : Nat) : dig n ≠ [] := by unfold dig; split <;> simp
theorem part_no {p : Nat × Nat} (h1 : p.1 < 64) (h2 : p.2 < 64) : ∀ x ∈ part p, x ≠ 32 := by
  intro x hx
  unfold part at hx
  split at hx
  · exact (dig_no _ h1 x hx).1
  · rw [List.mem_append, List.mem_cons] at hx
    rcases hx with hx | rfl | hx
    · exact (dig_no _ h1 x hx).1
    · decide
    · exact (dig_no _ h2 x hx).1
theorem part_ne (p : Nat × Nat) : part p ≠ [] := by
  unfold part
  split
  · exact dig_ne _
  · simp
theorem dig_le (n : Nat) : (dig n).length ≤ 2 := by unfold dig; split <;> simp
theorem part_le (p : Nat × Nat) : (part p).length ≤ 5 := by
  have h1 := dig_le p.1
  have h2 := dig_le p.2
  unfold part
  split
  · omega
  · simp; omega

/-- what a slot's digits are read as -/
def num (w : List UInt8) : Option Nat := match Lib.atoiAll w with
  | .ok v => if 0 ≤ v ∧ v < 64 then some v.toNat else none
  | _ => none
theorem num_lt {w : List UInt8} {n : Nat} (h : num w = some n) : n < 64 := by
  unfold num at h
  split at h
  · split at h
    · injection h with h; omega
    · cases h
  · cases h
theorem num_dig : ∀ n, n < 64 → num (dig n) = some n := by decide +kernel

def ends (w : List UInt8) : Option (Nat × Nat) :=
  match num (cutL w 45).1, num (if (cutL w 45).2.2 = true then (cutL w 45).2.1 else (cutL w 45).1) with
  | some a, some b => some (a, b)
  | _, _ => none
theorem ends_part {p : Nat × Nat} (h1 : p.1 < 64) (h2 : p.2 < 64) : ends (part p) = some p := by
  unfold ends part
  by_cases h : p.1 = p.2
  · rw [if_pos h, cutL_none (fun x hx => (dig_no _ h1 x hx).2)]
    simp only [num_dig _ h1, Bool.false_eq_true, if_false]
    exact congrArg some (Prod.ext rfl h)
  · rw [if_neg h, cutL_at (fun x hx => (dig_no _ h1 x hx).2)]
    simp [num_dig _ h1, num_dig _ h2]
theorem ends_lt {w : List UInt8} {p : Nat × Nat} (h : ends w = some p) : p.1 < 64 ∧ p.2 < 64 := by
  unfold ends at h
  split at h
  · rename_i a b ha hb
    injection h with h
    subst h
    exact ⟨num_lt ha, num_lt hb⟩
  · cases h

/-- the stretches of a text, up to a part that is none -/
def lens : Nat → List UInt8 → List (Nat × Nat)
  | 0, _ => []
  | k + 1, l => if l = [] then [] else match ends (cutL l 32).1 with
    | none => []
    | some p => p :: lens k (cutL l 32).2.1

/-! ### joined parts -/
def tx' (L : List (Nat × Nat)) : List UInt8 := L.flatMap fun p => 32 :: part p
def tx : List (Nat × Nat) → List UInt8
  | [] => []
  | p :: r => part p ++ tx' r
theorem tx'_cons (p : Nat × Nat) (r : List (Nat × Nat)) : tx' (p :: r) = 32 :: (part p ++ tx' r) := by simp [tx']
theorem tx_snoc (L : List (Nat × Nat)) (p : Nat × Nat) : tx (L ++ [p]) = if L = [] then part p else tx L ++ 32 :: part p := by
  cases L with
  | nil => simp [tx, tx']
  | cons q r => simp [tx, tx']
theorem tx_append {L M : List (Nat × Nat)} (hL : L ≠ []) (hM : M ≠ []) : tx (L ++ M) = tx L ++ 32 :: tx M := by
  cases L with
  | nil => exact absurd rfl hL
  | cons q r =>
    cases M with
    | nil => exact absurd rfl hM
    | cons q' r' => simp [tx, tx']
theorem tx_ne {L : List (Nat × Nat)} (h : L ≠ []) : tx L ≠ [] := by
  cases L with
  | nil => exact absurd rfl h
  | cons p r => simp [tx, part_ne]

theorem lens_tx : ∀ {L : List (Nat × Nat)} {k : Nat}, L.length ≤ k → (∀ p ∈ L, p.1 < 64 ∧ p.2 < 64) → lens k (tx L) = L
  | [], k, _, _ => by cases k <;> simp [lens, tx]
  | [p], k, hk, h => by
    obtain ⟨k, rfl⟩ : ∃ j, k = j + 1 := ⟨k - 1, by simp at hk; omega⟩
    have hp := h p (by simp)
    have e : tx [p] = part p := by simp [tx, tx']
    rw [e, lens, if_neg (part_ne p), cutL_none (part_no hp.1 hp.2), ends_part hp.1 hp.2]
    cases k <;> simp [lens]
  | p :: q :: r, k, hk, h => by
    obtain ⟨k, rfl⟩ : ∃ j, k = j + 1 := ⟨k - 1, by simp at hk; omega⟩
    have hp := h p (by simp)
    have e : tx (p :: q :: r) = part p ++ 32 :: tx (q :: r) := by simp [tx, tx'_cons]
    rw [e, lens, if_neg (by simp), cutL_at (part_no hp.1 hp.2), ends_part hp.1 hp.2]
    simp only
    rw [lens_tx (by simp at hk ⊢; omega) (fun x hx => h x (by simp at hx ⊢; exact .inr hx))]

/-! ### words -/
def words : List UInt8 → List (List UInt8)
  | [] => [[]]
  | c :: l => if c = 32 then [] :: words l else match words l with
    | [] => [[c]]
    | w :: r => (c :: w) :: r
theorem words_cons (c : UInt8) (l : List UInt8) : words (c :: l) = if c = 32 then [] :: words l else match words l with
    | [] => [[c]]
    | w :: r => (c :: w) :: r := rfl
theorem words_ne : ∀ l, words l ≠ []
  | [] => by simp [words]
  | c :: l => by
    unfold words
    split
    · simp
    · split <;> simp
theorem words_at : ∀ (a b : List UInt8), words (a ++ 32 :: b) = words a ++ words b
  | [], b => by simp [words]
  | c :: a, b => by
    rw [List.cons_append]
    rw [words_cons, words_cons, words_at a b]
    by_cases h : c = 32
    · simp [h]
    · simp only [h, if_false]
      cases e : words a with
      | nil => exact absurd e (words_ne a)
      | cons w r => simp
theorem words_one : ∀ {a : List UInt8}, (∀ x ∈ a, x ≠ 32) → words a = [a]
  | [], _ => rfl
  | c :: a, h => by
    rw [words_cons, if_neg (h c (by simp)), words_one (fun x hx => h x (by simp [hx]))]
theorem words_tx : ∀ {L : List (Nat × Nat)}, L ≠ [] → (∀ p ∈ L, p.1 < 64 ∧ p.2 < 64) → words (tx L) = L.map part
  | [], h, _ => absurd rfl h
  | [p], _, h => by
    have hp := h p (by simp)
    have e : tx [p] = part p := by simp [tx, tx']
    rw [e, words_one (part_no hp.1 hp.2)]; rfl
  | p :: q :: r, _, h => by
    have hp := h p (by simp)
    have e : tx (p :: q :: r) = part p ++ 32 :: tx (q :: r) := by simp [tx, tx'_cons]
    rw [e, words_at, words_one (part_no hp.1 hp.2), words_tx (by simp) (fun x hx => h x (by simp at hx ⊢; exact .inr hx))]; rfl
theorem map_part_inj : ∀ {L M : List (Nat × Nat)}, (∀ p ∈ L, p.1 < 64 ∧ p.2 < 64) → (∀ p ∈ M, p.1 < 64 ∧ p.2 < 64) → L.map part = M.map part → L = M
  | [], [], _, _, _ => rfl
  | [], _ :: _, _, _, h => by simp at h
  | _ :: _, [], _, _, h => by simp at h
  | p :: L, q :: M, hL, hM, h => by
    simp only [List.map_cons, List.cons.injEq] at h
    have hp := hL p (by simp)
    have hq := hM q (by simp)
    have e : some p = some q := by rw [← ends_part hp.1 hp.2, ← ends_part hq.1 hq.2, h.1]
    injection e with e
    rw [e, map_part_inj (fun x hx => hL x (by simp [hx])) (fun x hx => hM x (by simp [hx])) h.2]
theorem tx_inj {L M : List (Nat × Nat)} (hL : ∀ p ∈ L, p.1 < 64 ∧ p.2 < 64) (hM : ∀ p ∈ M, p.1 < 64 ∧ p.2 < 64) (h : tx L = tx M) : L = M := by
  by_cases h1 : L = []
  · by_cases h2 : M = []
    · rw [h1, h2]
    · rw [h1] at h; exact absurd h.symm (tx_ne h2)
  · by_cases h2 : M = []
    · rw [h2] at h; exact absurd h (tx_ne h1)
    · exact map_part_inj hL hM (by rw [← words_tx h1 hL, ← words_tx h2 hM, h])
end Go.Proofs.YtmjbacmaafbdlaaGreatDoor.S

/-
  WHAT IS PROVED: plain facts on sets of slots as numbers: their stretches are canonical, and make the set; canonical stretches are those of their set; a text is a set's just if the document's reader takes it. No condition.
-/
namespace Go.Proofs.YtmjbacmaafbdlaaGreatDoor.S

/-! ### one stretch as a number -/
def spanN (a b : Nat) : Nat := ((18446744073709551615 <<< a) % 18446744073709551616) &&& (18446744073709551615 >>> (63 - b))
theorem all_bit (i : Nat) : (18446744073709551615 : Nat).testBit i = decide (i < 64) := by
  have h := Nat.testBit_two_pow_sub_one 64 i
  exact h
theorem span_bit {a b : Nat} (hb : b < 64) (i : Nat) : (spanN a b).testBit i = decide (a ≤ i ∧ i ≤ b) := by
  unfold spanN
  have e : (18446744073709551616 : Nat) = 2 ^ 64 := rfl
  rw [Nat.testBit_and, e, Nat.testBit_mod_two_pow, Nat.testBit_shiftLeft, Nat.testBit_shiftRight, all_bit, all_bit, Bool.eq_iff_iff]
  simp
  omega
theorem span_lt (a b : Nat) : spanN a b < 18446744073709551616 := Nat.lt_of_le_of_lt Nat.and_le_left (Nat.mod_lt _ (by decide))

def setOf : List (Nat × Nat) → Nat
  | [] => 0
  | p :: r => spanN p.1 p.2 ||| setOf r
theorem or_lt {a b : Nat} (ha : a < 18446744073709551616) (hb : b < 18446744073709551616) : a ||| b < 18446744073709551616 := Nat.or_lt_two_pow (n := 64) ha hb
theorem and_lt {a b : Nat} (ha : a < 18446744073709551616) : a &&& b < 18446744073709551616 := Nat.lt_of_le_of_lt Nat.and_le_left ha
theorem set_lt : ∀ L, setOf L < 18446744073709551616
  | [] => by decide
  | p :: r => or_lt (span_lt _ _) (set_lt r)
theorem set_snoc (L : List (Nat × Nat)) (p : Nat × Nat) : setOf (L ++ [p]) = setOf L ||| spanN p.1 p.2 := by
  induction L with
  | nil => simp [setOf]
  | cons q r ih => rw [List.cons_append, setOf, setOf, ih, Nat.or_assoc]
theorem set_append (L M : List (Nat × Nat)) : setOf (L ++ M) = setOf L ||| setOf M := by
  induction L with
  | nil => simp [setOf]
  | cons q r ih => rw [List.cons_append, setOf, setOf, ih, Nat.or_assoc]
/-- a place of one of the stretches -/
def In (L : List (Nat × Nat)) (i : Nat) : Prop := ∃ p ∈ L, p.1 ≤ i ∧ i ≤ p.2
theorem In_nil (i : Nat) : ¬ In [] i := by rintro ⟨p, hp, _⟩; cases hp
theorem In_cons (p : Nat × Nat) (r : List (Nat × Nat)) (i : Nat) : In (p :: r) i ↔ (p.1 ≤ i ∧ i ≤ p.2) ∨ In r i := by
  constructor
  · rintro ⟨q, hq, h⟩
    rw [List.mem_cons] at hq
    rcases hq with rfl | hq
    · exact .inl h
    · exact .inr ⟨q, hq, h⟩
  · rintro (h | ⟨q, hq, h⟩)
    · exact ⟨p, by simp, h⟩
    · exact ⟨q, by simp [hq], h⟩
theorem set_bit : ∀ {L : List (Nat × Nat)}, (∀ p ∈ L, p.2 < 64) → ∀ i, (setOf L).testBit i = true ↔ In L i
  | [], _, i => by simp [setOf, In_nil]
  | p :: r, h, i => by
    rw [setOf, Nat.testBit_or, span_bit (h p (by simp)), Bool.or_eq_true, set_bit (fun q hq => h q (by simp [hq])) i, In_cons, decide_eq_true_eq]
theorem ext64 {s t : Nat} (hs : s < 18446744073709551616) (ht : t < 18446744073709551616) (h : ∀ i, i < 64 → (s.testBit i = true ↔ t.testBit i = true)) : s = t := by
  apply Nat.eq_of_testBit_eq
  intro i
  rw [Bool.eq_iff_iff]
  by_cases hi : i < 64
  · exact h i hi
  · have e : ∀ x : Nat, x < 18446744073709551616 → x.testBit i = false := fun x hx => Nat.testBit_lt_two_pow (Nat.lt_of_lt_of_le hx (by
      have := Nat.pow_le_pow_right (show 0 < 2 by decide) (show 64 ≤ i by omega)
      exact this))
    rw [e s hs, e t ht]
theorem bit_lt {s i : Nat} (hs : s < 18446744073709551616) (h : s.testBit i = true) : i < 64 := by
  rcases Nat.lt_or_ge i 64 with hi | hi
  · exact hi
  · have : s.testBit i = false := Nat.testBit_lt_two_pow (Nat.lt_of_lt_of_le hs (Nat.pow_le_pow_right (show 0 < 2 by decide) hi))
    rw [this] at h; cases h

/-! ### canonical lists of stretches -/
def Canon : Nat → List (Nat × Nat) → Prop
  | _, [] => True
  | m, p :: r => m ≤ p.1 ∧ p.1 ≤ p.2 ∧ p.2 < 64 ∧ Canon (p.2 + 2) r
theorem canon_mono : ∀ {m m' : Nat} {L : List (Nat × Nat)}, m' ≤ m → Canon m L → Canon m' L
  | _, _, [], _, _ => trivial
  | _, _, _ :: _, h, ⟨h1, h2, h3, h4⟩ => ⟨Nat.le_trans h h1, h2, h3, h4⟩
theorem canon_in : ∀ {m : Nat} {L : List (Nat × Nat)} {i : Nat}, Canon m L → In L i → m ≤ i
  | _, [], i, _, h => absurd h (In_nil i)
  | m, p :: r, i, ⟨h1, h2, _, h4⟩, h => by
    rcases (In_cons p r i).1 h with h | h
    · omega
    · have := canon_in h4 h; omega
theorem canon_lt : ∀ {m : Nat} {L : List (Nat × Nat)}, Canon m L → ∀ p ∈ L, p.1 < 64 ∧ p.2 < 64
  | _, [], _, p, hp => by cases hp
  | _, q :: r, ⟨_, h2, h3, h4⟩, p, hp => by
    rw [List.mem_cons] at hp
    rcases hp with rfl | hp
    · omega
    · exact canon_lt h4 p hp
theorem canon_len : ∀ {m : Nat} {L : List (Nat × Nat)}, Canon m L → m ≤ 65 → 2 * L.length + m ≤ 65
  | _, [], _, h => by simpa using h
  | m, q :: r, ⟨h1, h2, h3, h4⟩, _ => by
    have := canon_len h4 (by omega)
    simp; omega
theorem canon_uniq : ∀ {m : Nat} {L M : List (Nat × Nat)}, Canon m L → Canon m M → (∀ i, In L i ↔ In M i) → L = M
  | _, [], [], _, _, _ => rfl
  | _, [], q :: _, _, ⟨_, h2, _, _⟩, h => absurd ((h q.1).2 ⟨q, by simp, by omega, by omega⟩) (In_nil _)
  | _, p :: _, [], ⟨_, h2, _, _⟩, _, h => absurd ((h p.1).1 ⟨p, by simp, by omega, by omega⟩) (In_nil _)
  | m, p :: r, q :: r', ⟨a1, a2, a3, a4⟩, ⟨b1, b2, b3, b4⟩, h => by
    have first : ∀ {x y : Nat × Nat} {u v : List (Nat × Nat)}, x.1 ≤ x.2 → y.1 ≤ y.2 → Canon (y.2 + 2) v → (In (x :: u) x.1 → In (y :: v) x.1) → y.1 ≤ x.1 := by
      intro x y u v hx hy hv hh
      rcases (In_cons y v x.1).1 (hh ⟨x, by simp, by omega, by omega⟩) with h | h
      · omega
      · have := canon_in hv h; omega
    have e1 : p.1 = q.1 := Nat.le_antisymm (first b2 a2 a4 (h q.1).2) (first a2 b2 b4 (h p.1).1)
    have last : ∀ {x y : Nat × Nat} {u v : List (Nat × Nat)}, x.1 = y.1 → x.1 ≤ x.2 → y.1 ≤ y.2 → Canon (y.2 + 2) v → (∀ i, In (x :: u) i → In (y :: v) i) → x.2 ≤ y.2 := by
      intro x y u v hxy hx hy hv hh
      rcases Nat.lt_or_ge y.2 x.2 with hlt | hge
      · rcases (In_cons y v (y.2 + 1)).1 (hh _ ⟨x, by simp, by omega, by omega⟩) with h | h
        · omega
        · have := canon_in hv h; omega
      · exact hge
    have e2 : p.2 = q.2 := Nat.le_antisymm (last e1 a2 b2 b4 fun i => (h i).1) (last e1.symm b2 a2 a4 fun i => (h i).2)
    have e : p = q := Prod.ext e1 e2
    subst e
    have hr : r = r' := canon_uniq a4 b4 fun i => by
      constructor
      · intro hi
        have := canon_in a4 hi
        rcases (In_cons p r' i).1 ((h i).1 ((In_cons p r i).2 (.inr hi))) with h | h
        · omega
        · exact h
      · intro hi
        have := canon_in b4 hi
        rcases (In_cons p r i).1 ((h i).2 ((In_cons p r' i).2 (.inr hi))) with h | h
        · omega
        · exact h
    rw [hr]

/-! ### the stretches of a set -/
def lastOf (s : Nat) : Nat → Nat → Nat
  | 0, i => i
  | k + 1, i => if s.testBit (i + 1) = true then lastOf s k (i + 1) else i
def isStart (s i : Nat) : Bool := s.testBit i && (decide (i = 0) || !s.testBit (i - 1))
theorem last_ge (s : Nat) : ∀ k i, i ≤ lastOf s k i
  | 0, _ => Nat.le_refl _
  | k + 1, i => by
    unfold lastOf
    split
    · have := last_ge s k (i + 1); omega
    · omega
theorem last_all (s : Nat) : ∀ k i j, i < j → j ≤ lastOf s k i → s.testBit j = true
  | 0, i, j, h1, h2 => by simp [lastOf] at h2; omega
  | k + 1, i, j, h1, h2 => by
    unfold lastOf at h2
    split at h2
    · rename_i h
      rcases Nat.lt_or_ge (i + 1) j with hj | hj
      · exact last_all s k (i + 1) j hj h2
      · obtain rfl : j = i + 1 := by omega
        exact h
    · omega
theorem last_end {s : Nat} (hs : s < 18446744073709551616) : ∀ k i, 64 ≤ k + i → s.testBit (lastOf s k i + 1) = false
  | 0, i, h => by
    cases e : s.testBit (lastOf s 0 i + 1) with
    | false => rfl
    | true => have := bit_lt hs e; simp [lastOf] at this; omega
  | k + 1, i, h => by
    unfold lastOf
    split
    · exact last_end hs k (i + 1) (by omega)
    · rename_i h; simpa using h
/-- where a stretch from i on ends -/
def lst (s i : Nat) : Nat := lastOf s 64 i
theorem lst_lt {s i : Nat} (hs : s < 18446744073709551616) (hi : i < 64) : lst s i < 64 := by
  rcases Nat.lt_or_ge i (lst s i) with h | h
  · exact bit_lt hs (last_all s 64 i _ h (Nat.le_refl _))
  · omega
theorem lst_uniq {s i l : Nat} (hs : s < 18446744073709551616) (h1 : i ≤ l) (h2 : ∀ j, i < j → j ≤ l → s.testBit j = true) (h3 : s.testBit (l + 1) = false) : l = lst s i := by
  have e1 := last_ge s 64 i
  have e2 := last_end hs 64 i (by omega)
  rcases Nat.lt_trichotomy l (lst s i) with h | h | h
  · have := last_all s 64 i (l + 1) (by omega) h
    rw [this] at h3; cases h3
  · exact h
  · have := h2 (lst s i + 1) (by unfold lst; omega) h
    unfold lst at this
    rw [this] at e2; cases e2
/-- the stretches of a set that begin ahead of n -/
def upto (s n : Nat) : List (Nat × Nat) := ((List.range n).filter (isStart s)).map fun i => (i, lst s i)
def stretches (s : Nat) : List (Nat × Nat) := upto s 64
theorem upto_zero (s : Nat) : upto s 0 = [] := rfl
theorem upto_yes {s n : Nat} (h : isStart s n = true) : upto s (n + 1) = upto s n ++ [(n, lst s n)] := by
  unfold upto; rw [List.range_succ, List.filter_append, List.map_append]; simp [h]
theorem upto_no {s n : Nat} (h : isStart s n = false) : upto s (n + 1) = upto s n := by
  unfold upto; rw [List.range_succ, List.filter_append, List.map_append]; simp [h]
theorem upto_skip {s n : Nat} : ∀ k, (∀ j, n ≤ j → j < n + k → isStart s j = false) → upto s (n + k) = upto s n
  | 0, _ => rfl
  | k + 1, h => by
    rw [← Nat.add_assoc, upto_no (h (n + k) (by omega) (by omega)), upto_skip k (fun j h1 h2 => h j h1 (by omega))]
theorem start_run {s n j : Nat} (h1 : n < j) (h2 : j ≤ lst s n + 1) (hn : s.testBit n = true) (hs : s < 18446744073709551616) : isStart s j = false := by
  unfold isStart
  rcases Nat.lt_or_ge (lst s n) j with h | h
  · have e : j = lst s n + 1 := by omega
    rw [e, lst, last_end hs 64 n (by omega)]; rfl
  · have hp : s.testBit (j - 1) = true := by
      rcases Nat.lt_or_ge n (j - 1) with h' | h'
      · exact last_all s 64 n _ h' (by unfold lst at h; omega)
      · rw [show j - 1 = n by omega]; exact hn
    rw [hp]
    have : j ≠ 0 := by omega
    simp [this]
/-- behind a stretch there is none until its end is past -/
theorem upto_run {s n : Nat} (hs : s < 18446744073709551616) (h : isStart s n = true) : upto s (lst s n + 1) = upto s n ++ [(n, lst s n)] := by
  have hn : s.testBit n = true := by unfold isStart at h; simp at h; exact h.1
  have hge : n ≤ lst s n := last_ge s 64 n
  rw [← upto_yes h, show lst s n + 1 = (n + 1) + (lst s n - n) by omega]
  exact upto_skip _ fun j h1 h2 => start_run (by omega) (by omega) hn hs

theorem canon_from {s : Nat} (hs : s < 18446744073709551616) : ∀ k m c, m + k = 64 → (∀ i, m ≤ i → isStart s i = true → c ≤ i) →
    Canon c (((List.range' m k).filter (isStart s)).map fun i => (i, lst s i))
  | 0, _, _, _, _ => trivial
  | k + 1, m, c, hm, hc => by
    rw [List.range'_succ]
    by_cases h : isStart s m = true
    · have hn : s.testBit m = true := by have h' := h; unfold isStart at h'; simp at h'; exact h'.1
      rw [List.filter_cons_of_pos h, List.map_cons]
      refine ⟨hc m (Nat.le_refl _) h, last_ge s 64 m, lst_lt hs (by omega), canon_from hs k (m + 1) _ (by omega) fun i hi hst => ?_⟩
      rcases Nat.lt_or_ge (lst s m + 1) i with h2 | h2
      · exact h2
      · rw [start_run (by omega) h2 hn hs] at hst; cases hst
    · rw [List.filter_cons_of_neg h]
      exact canon_from hs k (m + 1) c (by omega) fun i hi hst => hc i (by omega) hst
theorem canon_set {s : Nat} (hs : s < 18446744073709551616) : Canon 0 (stretches s) := by
  have := canon_from hs 64 0 0 rfl (fun _ _ _ => Nat.zero_le _)
  unfold stretches upto
  rw [List.range_eq_range']
  exact this
theorem in_stretches {s : Nat} (hs : s < 18446744073709551616) (i : Nat) : In (stretches s) i ↔ s.testBit i = true := by
  constructor
  · rintro ⟨p, hp, h1, h2⟩
    unfold stretches upto at hp
    simp only [List.mem_map, List.mem_filter, List.mem_range] at hp
    obtain ⟨a, ⟨_, ha⟩, rfl⟩ := hp
    simp only at h1 h2
    rcases Nat.lt_or_ge a i with h | h
    · exact last_all s 64 a i h h2
    · rw [show i = a by omega]
      unfold isStart at ha; simp at ha; exact ha.1
  · intro hi
    have key : ∀ i, s.testBit i = true → ∃ a, a ≤ i ∧ isStart s a = true ∧ ∀ j, a < j → j ≤ i → s.testBit j = true := by
      intro i
      induction i with
      | zero => intro h; exact ⟨0, Nat.le_refl _, by simp [isStart, h], fun j h1 h2 => by omega⟩
      | succ i ih =>
        intro h
        by_cases hp : s.testBit i = true
        · obtain ⟨a, h1, h2, h3⟩ := ih hp
          refine ⟨a, by omega, h2, fun j h4 h5 => ?_⟩
          rcases Nat.lt_or_ge i j with h6 | h6
          · rw [show j = i + 1 by omega]; exact h
          · exact h3 j h4 h6
        · exact ⟨i + 1, Nat.le_refl _, by simp [isStart, h, hp], fun j h1 h2 => by omega⟩
    obtain ⟨a, h1, h2, h3⟩ := key i hi
    have hlt := bit_lt hs hi
    refine ⟨(a, lst s a), ?_, h1, ?_⟩
    · unfold stretches upto
      simp only [List.mem_map, List.mem_filter, List.mem_range]
      exact ⟨a, ⟨by omega, h2⟩, rfl⟩
    · show i ≤ lst s a
      rcases Nat.lt_or_ge (lst s a) i with h | h
      · have e := last_end hs 64 a (by omega)
        rw [h3 (lastOf s 64 a + 1) (by have := last_ge s 64 a; omega) h] at e
        cases e
      · exact h
theorem canon_lt2 {m : Nat} {L : List (Nat × Nat)} (h : Canon m L) : ∀ p ∈ L, p.2 < 64 := fun p hp => (canon_lt h p hp).2
theorem set_stretches {s : Nat} (hs : s < 18446744073709551616) : setOf (stretches s) = s :=
  ext64 (set_lt _) hs fun i _ => (set_bit (canon_lt2 (canon_set hs)) i).trans (in_stretches hs i)
theorem stretches_set {L : List (Nat × Nat)} (h : Canon 0 L) : stretches (setOf L) = L :=
  canon_uniq (canon_set (set_lt L)) h fun i => (in_stretches (set_lt L) i).trans (set_bit (canon_lt2 h) i)

/-- A SET's TEXT -/
def txt (s : Nat) : List UInt8 := tx (stretches s)
theorem txt_set {L : List (Nat × Nat)} (h : Canon 0 L) : txt (setOf L) = tx L := by unfold txt; rw [stretches_set h]
theorem txt_inj {s t : Nat} (hs : s < 18446744073709551616) (ht : t < 18446744073709551616) (h : txt s = txt t) : s = t := by
  have := tx_inj (canon_lt (canon_set hs)) (canon_lt (canon_set ht)) h
  rw [← set_stretches hs, this, set_stretches ht]
theorem tx_len : ∀ L : List (Nat × Nat), (tx L).length ≤ 6 * L.length
  | [] => by simp [tx]
  | p :: r => by
    have h1 := part_le p
    have h2 : ∀ M : List (Nat × Nat), (tx' M).length ≤ 6 * M.length := by
      intro M
      induction M with
      | nil => simp [tx']
      | cons q M ih => rw [tx'_cons]; have := part_le q; simp; omega
    have h3 := h2 r
    simp [tx]; omega
theorem txt_len {s : Nat} (hs : s < 18446744073709551616) : (txt s).length ≤ 192 := by
  have h1 := canon_len (canon_set hs) (by omega)
  have h2 := tx_len (stretches s)
  unfold txt; omega
theorem tx_len_ge : ∀ L : List (Nat × Nat), L.length ≤ (tx L).length
  | [] => by simp
  | p :: r => by
    have h2 : ∀ M : List (Nat × Nat), M.length ≤ (tx' M).length := by
      intro M
      induction M with
      | nil => simp
      | cons q M ih => rw [tx'_cons]; simp; omega
    have h3 := h2 r
    have h4 : 0 < (part p).length := List.length_pos_iff.2 (part_ne p)
    simp [tx]; omega

/-- WHAT THE PROGRAM's READER ANSWERS -/
def parseP (t : List UInt8) : Nat × Int := if txt (setOf (lens t.length t)) = t then (setOf (lens t.length t), 0) else (0, 60)
theorem parse_txt {s : Nat} (hs : s < 18446744073709551616) : parseP (txt s) = (s, 0) := by
  have e : lens (txt s).length (txt s) = stretches s := by
    unfold txt
    exact lens_tx (tx_len_ge _) (canon_lt (canon_set hs))
  unfold parseP
  rw [e, set_stretches hs, if_pos rfl]
theorem parse_no {t : List UInt8} (h : ∀ s, s < 18446744073709551616 → txt s ≠ t) : parseP t = (0, 60) := by
  unfold parseP
  rw [if_neg (h _ (set_lt _))]
end Go.Proofs.YtmjbacmaafbdlaaGreatDoor.S

/-
  WHAT IS PROVED: contracts of the calls that look at one slot. Condition: none.
-/
namespace Go.Proofs.YtmjbacmaafbdlaaGreatDoor.S
open Go.RowKit

def slotB (n : Int) : Bool := decide (0 ≤ n ∧ n < 64)
theorem slotB_yes {n : Int} (h0 : 0 ≤ n) (h : n < 64) : slotB n = true := decide_eq_true ⟨h0, h⟩
theorem slotB_no {n : Int} (h : n < 0 ∨ 64 ≤ n) : slotB n = false := decide_eq_false (by omega)

theorem isslot_any (n : Int) (w : World) : Calls Tryz.prog 73 #[.int .i64 n] w fun e w' => e = .returned (.bool (slotB n)) ∧ w = w' := by
  by_cases h0 : 0 ≤ n
  · by_cases h1 : n < 64
    · have H := Lib.hid (slotB_yes h0 h1)
      go_enter Tryz.func73, Tryz.ntmps73
      go_wp2
      go_ret
      exact ⟨by rw [H.out]; rfl, rfl⟩
    · have H := Lib.hid (slotB_no (n := n) (.inr (by omega)))
      have h2 : 64 ≤ n := by omega
      have h3 : decide (n < 64) = false := by simpa using h2
      go_enter Tryz.func73, Tryz.ntmps73
      go_wp2
      go_ret
      exact ⟨by rw [H.out]; rfl, rfl⟩
  · have H := Lib.hid (slotB_no (n := n) (.inl (by omega)))
    have h2 : n < 0 := by omega
    have h3 : decide (0 ≤ n) = false := by simpa using h2
    go_enter Tryz.func73, Tryz.ntmps73
    go_wp2
    go_ret
    exact ⟨by rw [H.out]; rfl, rfl⟩

theorem span_int (a b : Nat) : bits .and .u64 (IntKind.u64.wrap (18446744073709551615 * 2 ^ a)) (18446744073709551615 / 2 ^ (63 - b)) = ((spanN a b : Nat) : Int) := by
  have e1 : IntKind.u64.wrap (18446744073709551615 * 2 ^ a) = (((18446744073709551615 <<< a) % 18446744073709551616 : Nat) : Int) := by
    rw [IntKind.wrap_u64, Nat.shiftLeft_eq, Int.natCast_emod, Int.natCast_mul, Int.natCast_pow]; rfl
  have e2 : (18446744073709551615 / 2 ^ (63 - b) : Int) = ((18446744073709551615 >>> (63 - b) : Nat) : Int) := by
    rw [Nat.shiftRight_eq_div_pow, Int.natCast_ediv, Int.natCast_pow]; rfl
  have h2 : (18446744073709551615 >>> (63 - b) : Nat) < 18446744073709551616 := by
    rw [Nat.shiftRight_eq_div_pow]
    exact Nat.lt_of_le_of_lt (Nat.div_le_self _ _) (by decide)
  rw [e1, e2, u64_and_nat _ _ (Nat.mod_lt _ (by decide)) h2]; rfl

set_option maxRecDepth 100000 in
theorem span_any (a b : Nat) (ha : a < 64) (hb : b < 64) (w : World) : Calls Tryz.prog 94 #[.int .i64 (a : Int), .int .i64 (b : Int)] w fun e w' => e = .returned (.int .u64 ((spanN a b : Nat) : Int)) ∧ ∃ n, w' = w.drewN n := by
  have h1 : (0 : Int) ≤ a := by omega
  have h2 : (a : Int) < 64 := by omega
  have h3 : (0 : Int) ≤ b := by omega
  have h4 : (b : Int) ≤ 63 := by omega
  have H := Lib.hid (span_int a b)
  go_enter Tryz.func94, Tryz.ntmps94
  go_wp2
  go_quiet (fail)
  go_wp2
  go_ret
  exact ⟨by rw [← H.out]; rfl, _, rfl⟩

/-- whether a set has a slot, as a number may ask -/
def hasB (s : Nat) (n : Int) : Bool := slotB n && s.testBit n.toNat
theorem has_at {s i : Nat} (hi : i < 64) : hasB s (i : Int) = s.testBit i := by
  unfold hasB; rw [slotB_yes (by omega) (by omega)]; simp
theorem has_out {s : Nat} {n : Int} (h : n < 0 ∨ 64 ≤ n) : hasB s n = false := by
  unfold hasB; rw [slotB_no h]; rfl
theorem bit_int {s : Nat} (hs : s < 18446744073709551616) (i : Nat) : bits .and .u64 ((s : Int) / 2 ^ i) 1 = ((if s.testBit i = true then 1 else 0 : Nat) : Int) := by
  have e : ((s : Int) / 2 ^ i) = ((s >>> i : Nat) : Int) := by rw [Nat.shiftRight_eq_div_pow, Int.natCast_ediv, Int.natCast_pow]; rfl
  have h2 : s >>> i < 18446744073709551616 := by rw [Nat.shiftRight_eq_div_pow]; exact Nat.lt_of_le_of_lt (Nat.div_le_self _ _) hs
  rw [e]
  have h := u64_and_nat (s >>> i) 1 h2 (by decide)
  rw [show ((1 : Nat) : Int) = 1 from rfl] at h
  rw [h]
  congr 1
  unfold Nat.testBit
  rw [Nat.and_comm, Nat.one_and_eq_mod_two]
  rcases Nat.mod_two_eq_zero_or_one (s >>> i) with h | h <;> simp [h]

set_option maxRecDepth 100000 in
theorem has_any (s : Nat) (hs : s < 18446744073709551616) (n : Int) (w : World) : Calls Tryz.prog 57 #[.int .u64 (s : Int), .int .i64 n] w fun e w' => e = .returned (.bool (hasB s n)) ∧ w = w' := by
  by_cases h : 0 ≤ n ∧ n < 64
  · obtain ⟨i, rfl⟩ := Int.eq_ofNat_of_zero_le h.1
    have hi : i < 64 := by omega
    have h1 : (0 : Int) ≤ i := by omega
    have h2 : (i : Int) < 64 := by omega
    have HH := Lib.hid (has_at (s := s) hi)
    have HB := Lib.hid (bit_int hs i)
    have HY := Lib.hid (slotB_yes h1 h2)
    clear h
    go_enter Tryz.func57, Tryz.ntmps57
    go_wp2_with (go_at_call 73; refine (isslot_any _ _).mono ?_; rintro e w' ⟨rfl, rfl⟩; rw [HY.out])
    go_ret
    refine ⟨?_, rfl⟩
    rw [HH.out]
    show Ending.returned (.bool (bits .and .u64 ((s : Int) / 2 ^ i) 1 == 1)) = _
    rw [HB.out]
    cases s.testBit i <;> rfl
  · have HH := Lib.hid (has_out (s := s) (show n < 0 ∨ 64 ≤ n by omega))
    have HN := Lib.hid (slotB_no (show n < 0 ∨ 64 ≤ n by omega))
    clear h
    go_enter Tryz.func57, Tryz.ntmps57
    go_wp2_with (go_at_call 73; refine (isslot_any _ _).mono ?_; rintro e w' ⟨rfl, rfl⟩; rw [HN.out])
    go_ret
    exact ⟨by rw [HH.out]; rfl, rfl⟩
end Go.Proofs.YtmjbacmaafbdlaaGreatDoor.S

/-
  WHAT IS PROVED: the contract of a set's list: its slots, rising, in memory of its own. Condition: none.
-/
namespace Go.Proofs.YtmjbacmaafbdlaaGreatDoor.S
open Go.RowKit

/-- the slots of a set ahead of n, rising -/
def slotsTo (s n : Nat) : List Nat := (List.range n).filter s.testBit
def ints (l : List Nat) : List Value := l.map fun (i : Nat) => Value.int .i64 (i : Int)
theorem slotsTo_yes {s n : Nat} (h : s.testBit n = true) : slotsTo s (n + 1) = slotsTo s n ++ [n] := by
  unfold slotsTo; rw [List.range_succ, List.filter_append]; simp [h]
theorem slotsTo_no {s n : Nat} (h : s.testBit n = false) : slotsTo s (n + 1) = slotsTo s n := by
  unfold slotsTo; rw [List.range_succ, List.filter_append]; simp [h]
theorem slotsTo_le (s n : Nat) : (slotsTo s n).length ≤ n := by
  unfold slotsTo
  have := List.length_filter_le s.testBit (List.range n)
  simpa using this
theorem ints_append (l m : List Nat) : ints (l ++ m) = ints l ++ ints m := by simp [ints]
theorem int_info : (Tryz.prog.info? 3).map (fun i => (i.zero, i.size, i.bytes)) = some (some (.int .i64 0), 1, 8) := by kernel_rfl

theorem own_reads {w : World} {base n : Nat} {e : TypeId} {v : Value} {xs : List Value} (h : w.ownsRow base e 1 v n xs) :
    ∃ A cap, v = .slice A n cap ∧ n ≤ cap ∧ cap ≤ 9223372036854775807 ∧ (∀ g, w.heap.size ≤ g ∨ g < base → Reads w g A n xs) := by
  have hl : xs.length = n := by have := h.1; omega
  rcases h.2 with ⟨rfl, rfl⟩ | ⟨b, cap, cur, rfl, hb, hh, hnc, hcm, _⟩
  · obtain rfl := List.eq_nil_of_length_eq_zero hl
    exact ⟨none, 0, rfl, Nat.le_refl _, by omega, fun g _ => Reads.none_⟩
  · have hlt : b < w.heap.size := by
      rcases Nat.lt_or_ge b w.heap.size with hlt | hge
      · exact hlt
      · rw [Array.getElem?_eq_none hge] at hh; cases hh
    exact ⟨some ⟨b, 0, none⟩, cap, rfl, hnc, by unfold maxLen at hcm; omega, fun g hg => ⟨hl, fun _ => ⟨_, rfl, hlt, by show b ≠ g; omega, h.cells rfl⟩⟩⟩

/-- a list of slots is handed back, in memory of its own -/
def Listed (L : List Nat) (w : World) (e : Ending) (w' : World) : Prop :=
  Below w.heap.size w w' ∧ ∃ A c, e = .returned (.slice A L.length c) ∧ L.length ≤ c ∧ c ≤ 9223372036854775807 ∧ ∀ g, w'.heap.size ≤ g ∨ g < w.heap.size → Reads w' g A L.length (ints L)

set_option maxRecDepth 100000 in
set_option maxHeartbeats 1000000 in
theorem list_any (s : Nat) (hs : s < 18446744073709551616) (w : World) : Calls Tryz.prog 42 #[.int .u64 (s : Int)] w (Listed (slotsTo s 64) w) := by
  obtain ⟨i0, hi0, hz0, hz1, hz2⟩ := info_parts int_info
  have HI : Hid (Tryz.prog.info? 3 = some i0) := hi0
  have HZ0 := Lib.hid hz0
  have HZ1 := Lib.hid hz1
  have HZ2 := Lib.hid hz2
  clear hi0 hz0 hz1 hz2
  go_enter Tryz.func42, Tryz.ntmps42
  go_wp2
  go_loopw [3, 5] (fun va i wr => ∃ k : Nat, k ≤ 64 ∧ i = .int .i64 k ∧ Below w.heap.size w wr ∧ wr.ownsRow w.heap.size 3 1 va (slotsTo s k).length (ints (slotsTo s k))) (fun _ i _ => 64 - (intOf i).toNat)
  case atStart => exact ⟨0, by omega, rfl, Below.refl _ _, rfl, .inl ⟨rfl, rfl⟩⟩
  case round =>
    obtain ⟨k, hk, rfl, hb, hown⟩ := hrel
    have hle := slotsTo_le s k
    by_cases hlt : k < 64
    · have HH := Lib.hid (has_at (s := s) hlt)
      by_cases hbit : s.testBit k = true
      · have HS := Lib.hid (slotsTo_yes hbit)
        have HB := Lib.hid hbit
        clear hbit
        have hbs := hb.size
        generalize slotsTo s k = F at *
        go_wp2_with (fail)
        refine (has_any s hs (k : Int) _).mono ?_
        rintro e w2 ⟨rfl, rfl⟩
        rw [HH.out, HB.out]
        go_wp2_with (at_builtin; refine wpList_append_own _ rfl _ _ 53 rfl w.heap.size 3 i0 (.int .i64 0) 1 8 Tryz.underlying53 HI.out HZ0.out HZ1.out HZ2.out rfl (by decide) _ _ _ rfl (hown.alloc _) ⟨wr.heap.size, 0, none⟩ 1 1 [.int .i64 (k : Int)] rfl rfl (cell_one_new _ _ _) (by simp [Value.oneCell']) (by unfold maxLen; omega) (by omega) (by simp; omega) ?_; intro v' w3 hown' hg3 _)
        have hb3 : Below w.heap.size w w3 := (hb.alloc hbs _).grown hg3 (by simp; omega) (fun g e => (hown.lt g e).1)
        go_wp2
        go_roundw
        case rel => exact ⟨k + 1, by omega, by go_num, hb3, by rw [HS.out, ints_append]; simpa [ints] using hown'⟩
        case measure => simp [intOf]; omega
      · have hbit' : s.testBit k = false := by simpa using hbit
        have HS := Lib.hid (slotsTo_no hbit')
        have HB := Lib.hid hbit'
        clear hbit hbit'
        generalize slotsTo s k = F at *
        go_wp2_with (fail)
        refine (has_any s hs (k : Int) _).mono ?_
        rintro e w2 ⟨rfl, rfl⟩
        rw [HH.out, HB.out]
        go_wp2
        go_roundw
        case rel => exact ⟨k + 1, by omega, by go_num, hb, by rw [HS.out]; exact hown⟩
        case measure => simp [intOf]; omega
    · obtain rfl : k = 64 := by omega
      generalize slotsTo s 64 = F at *
      obtain ⟨A, c, rfl, hnc, hcm, hr⟩ := own_reads hown
      go_wp2
      go_ret
      exact ⟨hb, A, c, rfl, hnc, hcm, hr⟩
end Go.Proofs.YtmjbacmaafbdlaaGreatDoor.S

/-
  WHAT IS PROVED: the contract of a set's text. Condition: none.
-/
namespace Go.Proofs.YtmjbacmaafbdlaaGreatDoor.S
open Go.RowKit

theorem dec_dig {n : Nat} (h : n < 100) : Lib.decDigits n = dig n := by
  unfold Lib.decDigits dig
  by_cases h1 : n < 10
  · simp [h1]
  · rw [dif_neg h1, if_neg h1]
    unfold Lib.decDigits
    rw [dif_pos (by omega)]
    rfl
theorem itoa_any (n : Nat) (h : n < 64) (w : World) : Calls Tryz.prog 36 #[.int .i64 (n : Int)] w fun e w' => e = .returned (.string (str (dig n))) ∧ w = w' :=
  (Tryz.strconv_Itoa_small n (by omega) w).mono fun _ _ ⟨he, hw⟩ => ⟨by rw [he, dec_dig (by omega)]; rfl, hw.symm⟩
theorem str_app (a b : List UInt8) : str a ++ str b = str (a ++ b) := by
  apply ByteArray.ext
  simp [str]

set_option maxRecDepth 100000 in
theorem part_any (a b : Nat) (ha : a < 64) (hb : b < 64) (w : World) : Calls Tryz.prog 58 #[.int .i64 (a : Int), .int .i64 (b : Int)] w fun e w' => e = .returned (.string (str (part (a, b)))) ∧ w = w' := by
  by_cases h : a = b
  · subst h
    have HP : Hid (part (a, a) = dig a) := by show _ = _; simp [part]
    go_enter Tryz.func58, Tryz.ntmps58
    go_wp2_with (go_at_call 36; refine (itoa_any a ha _).mono ?_; rintro e w' ⟨rfl, rfl⟩)
    go_ret
    exact ⟨by rw [HP.out]; rfl, rfl⟩
  · have HP : Hid (part (a, b) = dig a ++ 45 :: dig b) := by show _ = _; simp [part, h]
    have hn : ((a : Int) == (b : Int)) = false := by simpa using (by omega : (a : Int) ≠ b)
    have s1 : (str (dig a)).size ≤ 2 := dig_le a
    have s2 : (str (dig b)).size ≤ 2 := dig_le b
    clear h
    go_enter Tryz.func58, Tryz.ntmps58
    go_wp2_with (fail)
    refine (itoa_any a ha _).mono ?_
    rintro e w' ⟨rfl, rfl⟩
    go_wp2_with (fail)
    refine (itoa_any b hb _).mono ?_
    rintro e w' ⟨rfl, rfl⟩
    go_wp2
    go_ret
    refine ⟨?_, rfl⟩
    rw [HP.out]
    show Ending.returned (.string (str (dig a) ++ str [45] ++ str (dig b))) = _
    rw [str_app, str_app]; simp

def strs (L : List (Nat × Nat)) : List Value := L.map fun p => Value.string (str (part p))
theorem strs_append (L M : List (Nat × Nat)) : strs (L ++ M) = strs L ++ strs M := by simp [strs]
theorem str_info : (Tryz.prog.info? 9).map (fun i => (i.zero, i.size, i.bytes)) = some (some (.string ⟨#[]⟩), 1, 16) := by kernel_rfl
theorem join_tx (L : List (Nat × Nat)) : Lib.join (L.map part) [32] = tx L := by
  cases L with
  | nil => rfl
  | cons p r =>
    rw [List.map_cons, Lib.join_cons, tx, tx', Lib.joinTail]
    congr 1
    simp [List.flatMap, List.map_map, Function.comp_def]
theorem upto_le {s n : Nat} (hn : n ≤ 64) : (upto s n).length ≤ 64 := by
  unfold upto
  have := List.length_filter_le (isStart s) (List.range n)
  simp at this ⊢; omega

theorem add_mk (b j : Nat) : (⟨b, 0, none⟩ : Addr).add j = ⟨b, j, none⟩ := by
  unfold Addr.add
  by_cases h : j = 0 <;> simp [h]
/-- Join of the parts, however many -/
theorem join_any (L : List (Nat × Nat)) (base : Nat) (v : Value) (w : World) (h : w.ownsRow base 9 1 v L.length (strs L)) (hL : L.length ≤ 64) :
    Calls Tryz.prog 20 #[v, .string ⟨#[32]⟩] w fun e w' => e = .returned (.string (str (tx L))) ∧ Below w.heap.size w w' := by
  rcases h.2 with ⟨rfl, hn⟩ | ⟨b, cap, cur, rfl, hb, hh, hnc, hcm, _⟩
  · have : L = [] := by simpa [strs] using hn
    subst this
    exact (Tryz.strings_Join_none none 0 _ w).mono fun _ _ ⟨he, hw⟩ => ⟨he, hw ▸ Below.refl _ _⟩
  · have hlt : b < w.heap.size := by
      rcases Nat.lt_or_ge b w.heap.size with hlt | hge
      · exact hlt
      · rw [Array.getElem?_eq_none hge] at hh; cases hh
    have hj : Lib.join ((L.map fun p => str (part p)).map (·.data.toList)) (⟨#[32]⟩ : ByteArray).data.toList = tx L := by
      rw [← join_tx, List.map_map]; rfl
    have hl : (L.map fun p => str (part p)).length = L.length := by simp
    have key := Tryz.strings_Join b 0 cap (L.map fun p => str (part p)) ⟨#[32]⟩ w (fun j x hx => by
      have := h.cells rfl j (.string x) (by unfold strs; rw [List.getElem?_map] at hx ⊢; cases e : L[j]? <;> simp_all)
      rw [add_mk] at this
      rw [Nat.zero_add]; exact this) hlt (by omega) (by omega) (by rw [hj]; have := tx_len L; omega)
    rw [hj, hl] at key
    exact key

theorem start_no {s k : Nat} (h : s.testBit k = false) : isStart s k = false := by simp [isStart, h]
theorem start_yes {s k : Nat} (h : s.testBit k = true) (hp : k = 0 ∨ s.testBit k = false ∨ s.testBit (k - 1) = false) : isStart s k = true := by
  rcases hp with rfl | hp | hp
  · simp [isStart, h]
  · rw [h] at hp; cases hp
  · simp [isStart, h, hp]

set_option maxRecDepth 100000 in
set_option maxHeartbeats 2000000 in
theorem text_any (s : Nat) (hs : s < 18446744073709551616) (w : World) : Calls Tryz.prog 37 #[.int .u64 (s : Int)] w fun e w' => e = .returned (.string (str (txt s))) ∧ Below w.heap.size w w' := by
  obtain ⟨i0, hi0, hz0, hz1, hz2⟩ := info_parts str_info
  have HI : Hid (Tryz.prog.info? 9 = some i0) := hi0
  have HZ0 := Lib.hid hz0
  have HZ1 := Lib.hid hz1
  have HZ2 := Lib.hid hz2
  clear hi0 hz0 hz1 hz2
  go_enter Tryz.func37, Tryz.ntmps37
  go_wp2
  go_loopw [3, 4] (fun va i wr => ∃ k : Nat, k ≤ 64 ∧ i = .int .i64 k ∧ Below w.heap.size w wr ∧ wr.ownsRow w.heap.size 9 1 va (upto s k).length (strs (upto s k)) ∧ (k = 0 ∨ s.testBit k = false ∨ s.testBit (k - 1) = false)) (fun _ i _ => 64 - (intOf i).toNat)
  case atStart => exact ⟨0, by omega, rfl, Below.refl _ _, ⟨rfl, .inl ⟨rfl, rfl⟩⟩, .inl rfl⟩
  case round =>
    obtain ⟨k, hk, rfl, hb, hown, hp⟩ := hrel
    have hle := upto_le (s := s) hk
    by_cases hlt : k < 64
    · have HH := Lib.hid (has_at (s := s) hlt)
      by_cases hbit : s.testBit k = true
      · have hst := start_yes hbit hp
        have HS := Lib.hid (upto_run hs hst)
        have HB := Lib.hid hbit
        have hge : k ≤ lst s k := last_ge s 64 k
        have hll := lst_lt hs hlt
        have HE := Lib.hid (last_end hs 64 k (by omega))
        have HA : Hid (∀ j, k < j → j ≤ lst s k → s.testBit j = true) := by show _; exact last_all s 64 k
        have HX : Hid (s.testBit (lst s k + 1) = false) := HE.out
        clear hbit hp hst HE
        have hbs := hb.size
        generalize upto s k = F at *
        generalize lst s k = L at *
        go_wp2_with (fail)
        refine (has_any s hs (k : Int) _).mono ?_
        rintro e w2 ⟨rfl, rfl⟩
        rw [HH.out, HB.out]
        go_wp2_with (fail)
        obtain ⟨wo, rfl⟩ : ∃ wo : World, wo = wr := ⟨_, rfl⟩
        go_loop [5] (fun j => ∃ l : Nat, k ≤ l ∧ l ≤ L ∧ j = .int .i64 l) (fun j => L - (intOf j).toNat)
        case atStart => exact ⟨k, by omega, by omega, rfl⟩
        case round =>
          obtain ⟨l, hl1, hl2, rfl⟩ := hrel
          by_cases hll2 : l < L
          · have HY : Hid (hasB s ((l : Int) + 1) = true) := by
              show _ = _
              have := has_at (s := s) (i := l + 1) (by omega)
              rw [HA.out (l + 1) (by omega) (by omega)] at this
              exact this
            go_wp2_with (fail)
            refine (has_any s hs ((l : Int) + 1) _).mono ?_
            rintro e w2 ⟨rfl, rfl⟩
            rw [HY.out]
            go_wp2
            go_round
            case rel => exact ⟨l + 1, by omega, by omega, by go_num⟩
            case measure => simp [intOf]; omega
          · obtain rfl : l = L := by omega
            have HY : Hid (hasB s ((l : Int) + 1) = false) := by
              show _ = _
              by_cases h64 : l + 1 < 64
              · have := has_at (s := s) (i := l + 1) h64
                rw [HX.out] at this
                exact this
              · exact has_out (.inr (by omega))
            go_wp2_with (fail)
            refine (has_any s hs ((l : Int) + 1) _).mono ?_
            rintro e w2 ⟨rfl, rfl⟩
            rw [HY.out]
            go_wp2_with (fail)
            refine (part_any k l (by omega) (by omega) _).mono ?_
            rintro e w2 ⟨rfl, rfl⟩
            go_wp2_with (at_builtin; refine wpList_append_own _ rfl _ _ 50 rfl w.heap.size 9 i0 (.string ⟨#[]⟩) 1 16 Tryz.underlying50 HI.out HZ0.out HZ1.out HZ2.out rfl (by decide) _ _ _ rfl (hown.alloc _) ⟨wo.heap.size, 0, none⟩ 1 1 [.string (str (part (k, l)))] rfl rfl (cell_one_new _ _ _) (by simp [Value.oneCell']) (by unfold maxLen; omega) (by omega) (by simp; omega) ?_; intro v' w3 hown' hg3 _)
            have hb3 : Below w.heap.size w w3 := (hb.alloc hbs _).grown hg3 (by simp; omega) (fun g e => (hown.lt g e).1)
            go_wp2
            go_roundw
            case rel => exact ⟨l + 1, by omega, by go_num, hb3, by rw [HS.out, strs_append]; simpa [strs] using hown', .inr (.inl HX.out)⟩
            case measure => simp [intOf]; omega
      · have hbit' : s.testBit k = false := by simpa using hbit
        have HS := Lib.hid (upto_no (start_no hbit'))
        have HB := Lib.hid hbit'
        clear hbit hbit' hp
        generalize upto s k = F at *
        go_wp2_with (fail)
        refine (has_any s hs (k : Int) _).mono ?_
        rintro e w2 ⟨rfl, rfl⟩
        rw [HH.out, HB.out]
        go_wp2
        go_roundw
        case rel => exact ⟨k + 1, by omega, by go_num, hb, by rw [HS.out]; exact hown, .inr (.inr HB.out)⟩
        case measure => simp [intOf]; omega
    · obtain rfl : k = 64 := by omega
      have HT : Hid (txt s = tx (upto s 64)) := rfl
      clear hp
      generalize upto s 64 = F at *
      go_wp2_with (fail)
      refine (join_any F _ _ _ hown hle).mono ?_
      rintro e w2 ⟨rfl, hb2⟩
      go_wp2
      go_ret
      exact ⟨by rw [HT.out]; rfl, hb.trans (hb2.mono hb.size)⟩
end Go.Proofs.YtmjbacmaafbdlaaGreatDoor.S

/-
  WHAT IS PROVED: contracts of the readers of one part of a text. Conditions: the two errors of strconv hold an error; a text has less than 2^32 bytes.
-/
namespace Go.Proofs.YtmjbacmaafbdlaaGreatDoor.S
open Go.RowKit

/-- strconv's two errors hold an error -/
def Errs (w : World) : Prop := (∃ te pe, w.cell? ⟨2, 0, none⟩ = some (.iface te pe)) ∧ ∃ te pe, w.cell? ⟨3, 0, none⟩ = some (.iface te pe)
theorem lt_of_cell {w : World} {a : Addr} {v : Value} (h : w.cell? a = some v) : a.block < w.heap.size := by
  unfold World.cell? at h
  rcases Nat.lt_or_ge a.block w.heap.size with h' | h'
  · exact h'
  · rw [Array.getElem?_eq_none h'] at h
    cases h
theorem Errs.below {w w' : World} (h : Errs w) (hb : Below w.heap.size w w') : Errs w' := by
  obtain ⟨⟨a, b, h1⟩, c, d, h2⟩ := h
  exact ⟨⟨a, b, (hb.cell (lt_of_cell h1)).trans h1⟩, c, d, (hb.cell (lt_of_cell h2)).trans h2⟩
theorem Errs.drewN {w : World} (h : Errs w) (n : Nat) : Errs (w.drewN n) := h

/-- a part that is a number: it, and no error; else whatever, and an error that isn't nil -/
def AtoiPost (l : List UInt8) (w : World) (e : Ending) (w' : World) : Prop :=
  Below w.heap.size w w' ∧ ((∃ v, Lib.atoiAll l = .ok v ∧ e = .returned (.tuple #[.int .i64 v, .nilIface])) ∨ ((∀ v, Lib.atoiAll l ≠ .ok v) ∧ ∃ v t p, e = .returned (.tuple #[.int .i64 v, .iface t p])))
theorem atoi_any (l : List UInt8) (hl : l.length ≤ 4294967296) (w : World) (hE : Errs w) : Calls Tryz.prog 65 #[.string (str l)] w (AtoiPost l w) := by
  have hd : (str l).data.toList = l := rfl
  obtain ⟨⟨a, b, h1⟩, c, d, h2⟩ := hE
  cases h : Lib.atoiAll l
  · rename_i v
    refine (Tryz.strconv_Atoi_ok (str l) (by rw [str_size]; omega) v h w).mono fun e w' ⟨he, hw⟩ => ⟨?_, .inl ⟨v, h, he⟩⟩
    rcases hw with rfl | ⟨t, rfl⟩
    · exact Below.refl _ _
    · exact Lib.bytesWorld_below _ _ _
  · have k := Any.strconv_Atoi_syntax Tryz.laysC172 (str l) (by rw [str_size]; omega) h _ w h1 (.inr ⟨a, b, rfl⟩)
    have k' : Calls Tryz.prog 65 #[.string (str l)] w _ := k
    exact k'.mono fun e w' ⟨N, he, _, _, hb⟩ => ⟨hb, .inr ⟨fun v hv => (by rw [h] at hv; cases hv), _, _, _, he⟩⟩
  · have k := Any.strconv_Atoi_range Tryz.laysC172 (str l) (by rw [str_size]; omega) h _ w h2 (.inr ⟨c, d, rfl⟩)
    have k' : Calls Tryz.prog 65 #[.string (str l)] w _ := k
    exact k'.mono fun e w' ⟨N, he, _, _, hb⟩ => ⟨hb, .inr ⟨fun v hv => (by rw [h] at hv; cases hv), _, _, _, he⟩⟩

/-- what the reader of a slot hands back -/
def NumPost (l : List UInt8) (w : World) (e : Ending) (w' : World) : Prop :=
  Below w.heap.size w w' ∧ ((∃ n : Nat, num l = some n ∧ e = .returned (.tuple #[.int .i64 (n : Int), .bool true])) ∨ (num l = none ∧ ∃ v, e = .returned (.tuple #[.int .i64 v, .bool false])))
set_option maxRecDepth 100000 in
theorem number_any (l : List UInt8) (hl : l.length ≤ 4294967296) (w : World) (hE : Errs w) : Calls Tryz.prog 124 #[.string (str l)] w (NumPost l w) := by
  go_enter Tryz.func124, Tryz.ntmps124
  go_wp2_with (fail)
  refine (atoi_any l hl _ hE).mono ?_
  rintro e w1 ⟨hb, ⟨v, hv, rfl⟩ | ⟨hv, v, t, p, rfl⟩⟩
  · have HV := Lib.hid hv
    clear hv
    by_cases hr : 0 ≤ v ∧ v < 64
    · have HY := Lib.hid (slotB_yes hr.1 hr.2)
      have HN : Hid (num l = some v.toNat) := by show _ = _; unfold num; rw [HV.out]; simp [hr]
      have hv0 := hr.1
      clear hr
      go_wp2_with (go_at_call 73; refine (isslot_any _ _).mono ?_; rintro e w2 ⟨rfl, rfl⟩; rw [HY.out])
      go_ret2
      exact ⟨hb, .inl ⟨_, HN.out, by rw [Int.toNat_of_nonneg hv0]; rfl⟩⟩
    · have HY := Lib.hid (slotB_no (show v < 0 ∨ 64 ≤ v by omega))
      have HN : Hid (num l = none) := by show _ = _; unfold num; rw [HV.out]; simp; omega
      clear hr
      go_wp2_with (go_at_call 73; refine (isslot_any _ _).mono ?_; rintro e w2 ⟨rfl, rfl⟩; rw [HY.out])
      go_ret2
      exact ⟨hb, .inr ⟨HN.out, _, rfl⟩⟩
  · have HN : Hid (num l = none) := by
      show _ = _
      unfold num
      split
      · rename_i v' h; exact absurd h (hv v')
      · rfl
    clear hv
    go_wp2
    go_ret2
    exact ⟨hb, .inr ⟨HN.out, _, rfl⟩⟩

/-- what the reader of a part hands back -/
def EndsPost (l : List UInt8) (w : World) (e : Ending) (w' : World) : Prop :=
  Below w.heap.size w w' ∧ ((∃ a b : Nat, ends l = some (a, b) ∧ e = .returned (.tuple #[.int .i64 (a : Int), .int .i64 (b : Int), .bool true])) ∨ (ends l = none ∧ ∃ u v, e = .returned (.tuple #[.int .i64 u, .int .i64 v, .bool false])))
theorem ends_some {l : List UInt8} {a b : Nat} (h1 : num (cutL l 45).1 = some a) (h2 : num (if (cutL l 45).2.2 = true then (cutL l 45).2.1 else (cutL l 45).1) = some b) : ends l = some (a, b) := by
  unfold ends; rw [h1, h2]
theorem ends_no1 {l : List UInt8} (h1 : num (cutL l 45).1 = none) : ends l = none := by
  unfold ends; rw [h1]
theorem ends_no2 {l : List UInt8} (h2 : num (if (cutL l 45).2.2 = true then (cutL l 45).2.1 else (cutL l 45).1) = none) : ends l = none := by
  unfold ends; rw [h2]
  cases num (cutL l 45).1 <;> rfl
/-- the part behind the minus sign, or the part -/
def hi (l : List UInt8) : List UInt8 := if (cutL l 45).2.2 = true then (cutL l 45).2.1 else (cutL l 45).1
theorem hi_le (l : List UInt8) : (hi l).length ≤ l.length := by
  unfold hi; split
  · exact cutL_rest_le _ _
  · exact cutL_first_le _ _
set_option maxRecDepth 100000 in
set_option maxHeartbeats 1000000 in
theorem ends_any (l : List UInt8) (hl : l.length ≤ 4294967296) (w : World) (hE : Errs w) : Calls Tryz.prog 115 #[.string (str l)] w (EndsPost l w) := by
  have l1 := cutL_first_le l 45
  have l2 := hi_le l
  have HS : Hid (∀ a b, num (cutL l 45).1 = some a → num (hi l) = some b → ends l = some (a, b)) := fun a b => ends_some
  have HN1 : Hid (num (cutL l 45).1 = none → ends l = none) := ends_no1
  have HN2 : Hid (num (hi l) = none → ends l = none) := ends_no2
  have HT : Hid ((cutL l 45).2.2 = true → (cutL l 45).2.1 = hi l) := by show _ → _; intro h; unfold hi; rw [if_pos h]
  have HF : Hid ((cutL l 45).2.2 = false → (cutL l 45).1 = hi l) := by show _ → _; intro h; unfold hi; rw [h]; rfl
  go_enter Tryz.func115, Tryz.ntmps115
  go_wp2_with (fail)
  refine (cut_any l 45 _ (by omega)).mono ?_
  rintro e w' ⟨rfl, n, rfl⟩
  have hE2 : Errs (w.drewN n) := hE
  have hb0 : Below w.heap.size w (w.drewN n) := below_drewN (Below.refl _ _) n
  generalize w.drewN n = w0 at *
  generalize cutL l 45 = c at *
  obtain ⟨c1, c2, c3⟩ := c
  simp only at l1 HS HN1 HN2 HT HF ⊢
  generalize hi l = h at *
  cases c3
  · have e1 := HF.out rfl
    subst e1
    go_wp2_with (fail)
    refine (number_any c1 (by omega) _ hE2).mono ?_
    rintro e w1 ⟨hb1, ⟨a, ha, rfl⟩ | ⟨ha, u, rfl⟩⟩
    · have hE3 := hE2.below hb1
      have hb1' := hb0.trans (hb1.mono hb0.size)
      have HA := Lib.hid ha
      clear ha hb0 hb1
      go_wp2_with (fail)
      refine (number_any c1 (by omega) _ hE3).mono ?_
      rintro e w2 ⟨hb2, ⟨b, hb, rfl⟩ | ⟨hb, u, rfl⟩⟩
      · go_wp2
        go_ret3
        exact ⟨hb1'.trans (hb2.mono hb1'.size), .inl ⟨a, b, HS.out a b HA.out hb, rfl⟩⟩
      · go_wp2
        go_ret3
        exact ⟨hb1'.trans (hb2.mono hb1'.size), .inr ⟨HN2.out hb, _, _, rfl⟩⟩
    · have hE3 := hE2.below hb1
      have hb1' := hb0.trans (hb1.mono hb0.size)
      have HA := Lib.hid ha
      clear ha hb0 hb1
      go_wp2_with (fail)
      refine (number_any c1 (by omega) _ hE3).mono ?_
      rintro e w2 ⟨hb2, ⟨b, hb, rfl⟩ | ⟨hb, u2, rfl⟩⟩
      · go_wp2
        go_ret3
        exact ⟨hb1'.trans (hb2.mono hb1'.size), .inr ⟨HN1.out HA.out, _, _, rfl⟩⟩
      · go_wp2
        go_ret3
        exact ⟨hb1'.trans (hb2.mono hb1'.size), .inr ⟨HN1.out HA.out, _, _, rfl⟩⟩
  · have e1 := HT.out rfl
    subst e1
    go_wp2_with (fail)
    refine (number_any c1 (by omega) _ hE2).mono ?_
    rintro e w1 ⟨hb1, ⟨a, ha, rfl⟩ | ⟨ha, u, rfl⟩⟩
    · have hE3 := hE2.below hb1
      have hb1' := hb0.trans (hb1.mono hb0.size)
      have HA := Lib.hid ha
      clear ha hb0 hb1
      go_wp2_with (fail)
      refine (number_any c2 (by omega) _ hE3).mono ?_
      rintro e w2 ⟨hb2, ⟨b, hb, rfl⟩ | ⟨hb, u, rfl⟩⟩
      · go_wp2
        go_ret3
        exact ⟨hb1'.trans (hb2.mono hb1'.size), .inl ⟨a, b, HS.out a b HA.out hb, rfl⟩⟩
      · go_wp2
        go_ret3
        exact ⟨hb1'.trans (hb2.mono hb1'.size), .inr ⟨HN2.out hb, _, _, rfl⟩⟩
    · have hE3 := hE2.below hb1
      have hb1' := hb0.trans (hb1.mono hb0.size)
      have HA := Lib.hid ha
      clear ha hb0 hb1
      go_wp2_with (fail)
      refine (number_any c2 (by omega) _ hE3).mono ?_
      rintro e w2 ⟨hb2, ⟨b, hb, rfl⟩ | ⟨hb, u2, rfl⟩⟩
      · go_wp2
        go_ret3
        exact ⟨hb1'.trans (hb2.mono hb1'.size), .inr ⟨HN1.out HA.out, _, _, rfl⟩⟩
      · go_wp2
        go_ret3
        exact ⟨hb1'.trans (hb2.mono hb1'.size), .inr ⟨HN1.out HA.out, _, _, rfl⟩⟩
end Go.Proofs.YtmjbacmaafbdlaaGreatDoor.S

/-
  WHAT IS PROVED: the contract of the iterator over a text's stretches: what it hands to a loop. Conditions: strconv's errors hold errors; a text has less than 2^32 bytes.
-/
namespace Go.Proofs.YtmjbacmaafbdlaaGreatDoor.S
open Go.RowKit Go.Shelf
attribute [local go_sem] Oper.semAt_some

/-- the ends of a stretch that a text may name -/
abbrev Pair := { p : Nat × Nat // p.1 < 64 ∧ p.2 < 64 }
abbrev encP (p : Pair) : Array Value := #[.int .i64 (p.1.1 : Int), .int .i64 (p.1.2 : Int)]

def ErrsB (n₀ : Nat) (w : World) : Prop := Errs w ∧ 2 < n₀ ∧ 3 < n₀
theorem ErrsB.below {n₀ : Nat} {w w' : World} (h : ErrsB n₀ w) (hb : Below n₀ w w') : ErrsB n₀ w' := by
  obtain ⟨⟨⟨a, b, h1⟩, c, d, h2⟩, h3, h4⟩ := h
  exact ⟨⟨⟨a, b, (hb.cell h3).trans h1⟩, c, d, (hb.cell h4).trans h2⟩, h3, h4⟩
theorem ErrsB.of {w : World} (h : Errs w) : ErrsB w.heap.size w := ⟨h, by obtain ⟨⟨_, _, h1⟩, _⟩ := h; exact lt_of_cell h1, by obtain ⟨_, _, _, h1⟩ := h; exact lt_of_cell h1⟩

def strLen : Value → Nat
  | .string b => b.size
  | _ => 0
theorem lens_nil (k : Nat) : lens k [] = [] := by cases k <;> simp [lens]
theorem lens_yes {k : Nat} {l : List UInt8} {p : Nat × Nat} (h : l ≠ []) (hp : ends (cutL l 32).1 = some p) : lens (k + 1) l = p :: lens k (cutL l 32).2.1 := by
  rw [lens, if_neg h, hp]
theorem lens_stop {k : Nat} {l : List UInt8} (hp : ends (cutL l 32).1 = none) : lens k l = [] := by
  cases k with
  | zero => rfl
  | succ k =>
    rw [lens]
    split
    · rfl
    · rw [hp]
theorem lens_len : ∀ (k : Nat) (l : List UInt8), (lens k l).length ≤ k
  | 0, _ => Nat.le_refl _
  | k + 1, l => by
    rw [lens]
    split
    · simp
    · split
      · simp
      · have := lens_len k (cutL l 32).2.1
        simp; omega

set_option maxRecDepth 100000 in
set_option maxHeartbeats 2000000 in
theorem stretches_stops (n : Nat) (hn : 1 ≤ n) (Bn n₀ : Nat) (t : List UInt8) (w : World) (hB : w.cell? ⟨Bn, 0, none⟩ = some (.string (str t))) (ht : t.length ≤ 4294967296) (hn0 : n₀ ≤ w.heap.size) (hE : ErrsB n₀ w) :
    SeqStopsK Fence.wide n Tryz.prog 114 #[.pointer (some ⟨Bn, 0, none⟩)] encP (Below n₀) (fun xs => xs.map (·.1) = lens t.length t) (fun _ => True) (t.length + 1) w := fun l J Jx W hW hJ hJx hY h0 => by
  have hBW : W.cell? ⟨Bn, 0, none⟩ = some (.string (str t)) := (hW.cell (lt_of_cell hB)).trans hB
  have hEW : ErrsB n₀ W := hE.below (hW.mono hn0)
  have hnW : n₀ ≤ W.heap.size := Nat.le_trans hn0 hW.size
  refine callsIn_of_wp Tryz.func114 rfl trivial ?_ rfl
  simp only [Tryz.ntmps114, List.size_toArray, List.length_cons, List.length_nil, Nat.reduceAdd, Nat.reduceSub, Array.replicate_succ, Array.replicate_zero, List.push_toArray, List.append_toArray, List.nil_append, List.cons_append]
  clear hB hE hW
  gi_wp2
  gi_loopw [3] (fun r wr => ∃ (pre : List Pair) (rest : List UInt8) (k : Nat), r = .string (str rest) ∧ rest.length ≤ k ∧ rest.length ≤ t.length ∧ pre.length + k ≤ t.length ∧ lens t.length t = pre.map (·.1) ++ lens k rest ∧ W.heap.size ≤ wr.heap.size ∧ ErrsB n₀ wr ∧ J pre wr)
    (fun r _ => strLen r)
  case atStart => exact ⟨[], t, t.length, rfl, Nat.le_refl _, Nat.le_refl _, by simp, by simp, Nat.le_refl _, hEW, h0⟩
  case round =>
    obtain ⟨pre, rest, k, rfl, hk1, hk2, hk3, hL, hsz, hEr, hJr⟩ := hrel
    by_cases hr : rest = []
    · subst hr
      have he : (str []).toList.isEmpty = true := by rw [str_toList]; rfl
      rw [lens_nil, List.append_nil] at hL
      have HL := Lib.hid hL
      clear hL
      gi_wp2
      go_end0
      exact ⟨⟨_, rfl⟩, .inl ⟨pre, HL.out.symm, hJr⟩⟩
    · obtain ⟨k, rfl⟩ : ∃ j, k = j + 1 := ⟨k - 1, by have := List.length_pos_iff.2 hr; omega⟩
      have he : (str rest).toList.isEmpty = false := by rw [str_toList]; simpa using hr
      have HSh := Lib.hid (cutL_shorter (c := 32) hr)
      have hfst := cutL_first_le rest 32
      have HY : Hid (∀ p, ends (cutL rest 32).1 = some p → lens (k + 1) rest = p :: lens k (cutL rest 32).2.1) := fun p => lens_yes hr
      have HN : Hid (ends (cutL rest 32).1 = none → lens (k + 1) rest = []) := lens_stop
      have HL := Lib.hid hL
      clear hL hr
      gi_wp2_with (fail)
      refine ⟨trivial, ?_⟩
      refine (callsIn_wide.2 (cut_any rest 32 _ (by omega))).mono ?_
      rintro e w' ⟨rfl, m, rfl⟩
      have hE2 : ErrsB n₀ (wr.drewN m) := hEr
      have hs2 : W.heap.size ≤ (wr.drewN m).heap.size := hsz
      have hJ2 : J pre (wr.drewN m) := hJ _ _ _ none hJr (only_of_below (below_drewN (Below.refl _ _) m) none) (fun r e => by cases e)
      generalize wr.drewN m = w0 at *
      generalize cutL rest 32 = c at *
      obtain ⟨c1, c2, c3⟩ := c
      simp only at HSh hfst HY HN ⊢
      gi_wp2_with (fail)
      refine ⟨trivial, ?_⟩
      refine (callsIn_wide.2 (ends_any c1 (by omega) _ hE2.1)).mono ?_
      rintro e w2 ⟨hb2, ⟨a, b, hab, rfl⟩ | ⟨hab, u, v, rfl⟩⟩
      · have hE3 : ErrsB n₀ w2 := hE2.below (hb2.mono (Nat.le_trans hnW hs2))
        have hs3 : W.heap.size ≤ w2.heap.size := Nat.le_trans hs2 hb2.size
        have hJ3 : J pre w2 := hJ _ _ _ none hJ2 (only_of_below hb2 none) (fun r e => by cases e)
        have hlt := ends_lt hab
        have HP : Hid (lens t.length t = pre.map (·.1) ++ (a, b) :: lens k c2) := by show _ = _; rw [← HY.out _ hab]; exact HL.out
        clear hab hJ2 hb2 HY HN HL
        obtain ⟨fn, tmps, assign, body, hy, hR⟩ := hY pre ⟨(a, b), hlt⟩ w2 hJ3 (by omega)
        dsimp only [encP] at hy
        gi_wp2
        refine hR.mono ?_
        rintro e w3 (⟨rfl, hJ4, hk4⟩ | ⟨rfl, hJx4⟩)
        · have hE4 : ErrsB n₀ w3 := hE3.below hk4
          have hs4 : W.heap.size ≤ w3.heap.size := Nat.le_trans hs3 hk4.size
          gi_wp2
          go_roundw
          case rel =>
            refine ⟨pre ++ [⟨(a, b), hlt⟩], c2, k, rfl, ?_, ?_, by simp; omega, ?_, hs4, hE4, hJ4⟩
            · have := HSh.out; omega
            · have := HSh.out; omega
            · rw [HP.out]; simp
          case measure =>
            have := HSh.out
            simpa [strLen, str_size] using this
        · gi_wp2
          refine bodyPost_ret (results_none rfl _ _ _) rfl ?_
          exact ⟨⟨_, rfl⟩, .inr ⟨_, trivial, hJx4⟩⟩
      · have hJ3 : J pre w2 := hJ _ _ _ none hJ2 (only_of_below hb2 none) (fun r e => by cases e)
        have HP : Hid (pre.map (·.1) = lens t.length t) := by show _ = _; rw [HL.out, HN.out hab, List.append_nil]
        clear hab hJ2 hb2 HY HN HL
        gi_wp2
        refine ⟨fun _ h => (by cases h), ?_⟩
        gi_wp2
        refine bodyPost_ret (results_none rfl _ _ _) rfl ?_
        exact ⟨⟨_, rfl⟩, .inl ⟨pre, HP.out, hJ3⟩⟩
end Go.Proofs.YtmjbacmaafbdlaaGreatDoor.S

/-
  WHAT IS PROVED: the contract of the reader of a set's text. Conditions: strconv's errors hold errors; a text has less than 2^32 bytes.
-/
namespace Go.Proofs.YtmjbacmaafbdlaaGreatDoor.S
open Go.RowKit Go.Shelf
attribute [local go_sem] Oper.semAt_some

theorem stretches_any (t : List UInt8) (w : World) : Calls Tryz.prog 93 #[.string (str t)] w fun e w' =>
    e = .returned (.func (.func 114) #[] #[.pointer (some ⟨w.heap.size, 0, none⟩)]) ∧ w' = w.alloc (.cells #[.string (str t)] 9) := by
  have hmf : ∀ (fn : Fn) (first cap : Array Value) (w : World), (Instr.makeFunc fn first cap).run Tryz.prog w = .ok (.func fn first cap) w := fun _ _ _ _ => rfl
  go_enter Tryz.func93, Tryz.ntmps93
  go_wp2
  go_ret
  exact ⟨rfl, rfl⟩

theorem cell_new_b (W : World) (v : Value) (t : TypeId) : (W.alloc (.cells #[v] t)).cell? ⟨W.heap.size, 0, none⟩ = some v ∧ (W.alloc (.cells #[v] t)).frozen? ⟨W.heap.size, 0, none⟩ = false :=
  ⟨(Blk.new W t #[v]).cell 0, (Blk.new W t #[v]).frozen 0⟩
theorem cell_alloc_b {W : World} {a : Addr} {v : Value} (o : Obj) (h : W.cell? a = some v) : (W.alloc o).cell? a = some v := cell_kept h (World.grownBy_alloc W o none) (fun r e => by cases e)
theorem frozen_alloc_b {W : World} {a : Addr} {v : Value} (o : Obj) (h : W.cell? a = some v) (hf : W.frozen? a = false) : (W.alloc o).frozen? a = false := (frozen_kept h (World.grownBy_alloc W o none) (fun r e => by cases e)).trans hf
theorem pairs_snoc (pre : List Pair) (x : Pair) : setOf ((pre ++ [x]).map (·.1)) = setOf (pre.map (·.1)) ||| spanN x.1.1 x.1.2 := by
  rw [List.map_append]; exact set_snoc _ _

theorem keeps_drewN (W : World) (n : Nat) : KeepsOthers W (W.drewN n) := ⟨Nat.le_refl _, fun _ _ h _ => h⟩
theorem body_close {w W : World} {s : Nat} {v : Value} (k : Nat) (hB : Below w.heap.size w W) (hf : W.frozen? ⟨w.heap.size, 0, none⟩ = false) (hc : W.cell? ⟨w.heap.size, 0, none⟩ = some (.int .u64 (s : Int))) :
    KeepsOthers W ((W.drewN k).setCell ⟨w.heap.size, 0, none⟩ v) ∧ Below w.heap.size W ((W.drewN k).setCell ⟨w.heap.size, 0, none⟩ v) ∧
      (((W.drewN k).setCell ⟨w.heap.size, 0, none⟩ v).cell? ⟨w.heap.size, 0, none⟩ = some v ∧ ((W.drewN k).setCell ⟨w.heap.size, 0, none⟩ v).frozen? ⟨w.heap.size, 0, none⟩ = false) ∧
      Below w.heap.size w ((W.drewN k).setCell ⟨w.heap.size, 0, none⟩ v) := by
  have h2 : Below w.heap.size W ((W.drewN k).setCell ⟨w.heap.size, 0, none⟩ v) := (below_drewN (Below.refl _ _) k).setCell (p := ⟨w.heap.size, 0, none⟩) (Nat.le_refl _) _
  exact ⟨(keeps_drewN W k).trans (KeepsOthers.setCell _ _ _), h2, ⟨World.cell?_setCell_same' _ _ _ (by show (W.cell? _).isSome = true; rw [hc]; rfl), by rw [World.frozen?_setCell]; exact hf⟩, hB.trans h2⟩

set_option maxRecDepth 100000 in
set_option maxHeartbeats 4000000 in
theorem parse_in (t : List UInt8) (ht : t.length ≤ 4294967296) (w : World) (hE : Errs w) :
    CallsIn Fence.wide 4 Tryz.prog 66 #[.string (str t)] w fun e w' => e = .returned (.tuple #[.int .u64 ((parseP t).1 : Int), .int .i64 (parseP t).2]) ∧ Below w.heap.size w w' := by
  have hEB := ErrsB.of hE
  refine callsIn_of_wp_marks Tryz.func66 rfl trivial ?_ rfl
  simp only [Tryz.ntmps66, List.size_toArray, List.length_cons, List.length_nil, Nat.reduceAdd, Nat.reduceSub, Array.replicate_succ, Array.replicate_zero, List.push_toArray, List.append_toArray, List.nil_append, List.cons_append]
  gi_wp2_with (refine ⟨trivial, ?_⟩; gi_at_call 93; refine (callsIn_wide.2 (stretches_any t _)).mono ?_; rintro e w' ⟨rfl, rfl⟩)
  have hs0 := cell_new_b w (.int .u64 0) 57
  have hb0 := cell_new_b (w.alloc (.cells #[.int .u64 0] 57)) (.string (str t)) 9
  rw [World.size_alloc] at hb0
  have hB0 : Below w.heap.size w ((w.alloc (.cells #[.int .u64 0] 57)).alloc (.cells #[.string (str t)] 9)) := ((Below.refl _ w).alloc (Nat.le_refl _) _).alloc (by simp) _
  refine wpIn_rangeFunc_ownF rfl (by omega) (gf := 114) (lb := #[.pointer (some ⟨w.heap.size + 1, 0, none⟩)]) rfl trivial (enters_of Tryz.func114 (by kernel_rfl) rfl)
    (stretches_stops 3 (by omega) (w.heap.size + 1) w.heap.size t _ hb0.1 ht (by simp; omega) (hEB.below hB0)) belowK_t (belowK_b (by simp; omega)) (Below.refl _ _) (fun _ => rfl)
    (fun pre W => (W.cell? ⟨w.heap.size, 0, none⟩ = some (.int .u64 (setOf (pre.map (·.1)) : Nat)) ∧ W.frozen? ⟨w.heap.size, 0, none⟩ = false) ∧ Below w.heap.size w W)
    (fun _ _ _ => False)
    (OwnFrom.and (Own.from (fun s A B row hs hg hr => ⟨cell_kept hs.1 hg hr, (frozen_kept hs.1 hg hr).trans hs.2⟩) _) (ownFrom_below (Nat.le_refl _) (by simp; omega)))
    (fun _ _ _ _ _ hs _ _ => hs)
    ⟨⟨cell_alloc_b _ hs0.1, frozen_alloc_b _ hs0.1 hs0.2⟩, hB0⟩
    (fun x => { tmps := #[.string (str t), undef, .int .u64 0, .int .i64 0, .pointer (some ⟨w.heap.size, 0, none⟩), .int .i64 (x.1.1 : Int), .int .i64 (x.1.2 : Int), .string (str t), .func (.func 114) #[] #[.pointer (some ⟨w.heap.size + 1, 0, none⟩)], .int .i64 (x.1.1 : Int), .int .i64 (x.1.2 : Int), undef, undef, undef, undef, undef, undef, undef, undef, undef, undef], defers := [] }) ?assign ?body ?done ?stop
  case assign =>
    intro l x W K hK
    gi_wp2
    exact hK
  case body =>
    rintro l pre x W ⟨⟨hc, hf⟩, hB⟩ _
    have hmx : Tryz.prog.follows .mixedOrders = true := by kernel_rfl
    obtain ⟨⟨a, b⟩, ha, hb⟩ := x
    simp only at ha hb
    have hlt := set_lt (pre.map (·.1))
    have hlt2 := span_lt a b
    have HP := Lib.hid (pairs_snoc pre ⟨(a, b), ha, hb⟩)
    have HO := Lib.hid (u64_or_nat _ _ hlt hlt2)
    clear hlt hlt2
    generalize setOf (pre.map (·.1)) = s at *
    gi_wp2
    gi_region_with_o (refine ⟨trivial, ?_⟩; gi_at_call 94; refine (CallsIn.inRound l (callsIn_wide.2 (span_any a b ha hb _))).mono ?_; rintro e w' ⟨rfl, m, rfl⟩)
    all_goals gi_wp2
    all_goals
      obtain ⟨x1, x2, ⟨x3, x4⟩, x5⟩ := body_close (v := .int .u64 (bits BinOp.or IntKind.u64 (s : Int) (spanN a b : Nat))) (1 + m) hB hf hc
      exact ⟨x1, x2, ⟨by rw [x3, HO.out, HP.out], x4⟩, x5⟩
  case done =>
    rintro D ys W hD hys ⟨⟨hc, hf⟩, hB⟩ hK
    have HY := Lib.hid hys
    have hlt := set_lt (lens t.length t)
    rw [hys] at hc
    have HP : Hid (parseP t = if txt (setOf (lens t.length t)) = t then (setOf (lens t.length t), 0) else (0, 60)) := rfl
    clear hys
    generalize setOf (lens t.length t) = s at *
    have HD : w.heap.size < W.heap.size := lt_of_cell hc
    by_cases he : txt s = t
    · have HX : Hid (parseP t = (s, 0)) := by show _ = _; rw [HP.out, if_pos he]
      have hq : ((str (txt s)).toList == (str t).toList) = true := by rw [str_toList, str_toList, he]; simp
      clear he
      gi_wp2_with (fail)
      refine ⟨trivial, (callsIn_wide.2 (text_any s hlt _)).mono ?_⟩
      rintro e W2 ⟨rfl, hb2⟩
      have hc2 : W2.cell? ⟨w.heap.size, 0, none⟩ = some (.int .u64 (s : Int)) := (hb2.cell HD).trans hc
      have hK2 : W2.heap[D]? = some (.deferred (some [])) := (hb2.block D (Array.getElem?_eq_some_iff.1 hK).1).trans hK
      have hB2 : Below w.heap.size w W2 := hB.trans (hb2.mono (by omega))
      clear hc hK hB hb2
      gi_wp2
      refine ⟨by simp, .inl ⟨_, _, rfl, run_takeDeferred hK2, ?_⟩⟩
      exact ⟨_, results_tmp2 rfl _ _ _, by rw [HX.out]; rfl, hB2.trans (belowK_b (w := w) (Nat.le_refl _) W2 D _ _ (by simp at hD; omega) hK2 rfl rfl)⟩
    · have HX : Hid (parseP t = (0, 60)) := by show _ = _; rw [HP.out, if_neg he]
      have hq : ((str (txt s)).toList == (str t).toList) = false := by rw [str_toList, str_toList]; simpa using he
      clear he
      gi_wp2_with (fail)
      refine ⟨trivial, (callsIn_wide.2 (text_any s hlt _)).mono ?_⟩
      rintro e W2 ⟨rfl, hb2⟩
      have hK2 : W2.heap[D]? = some (.deferred (some [])) := (hb2.block D (Array.getElem?_eq_some_iff.1 hK).1).trans hK
      have hB2 : Below w.heap.size w W2 := hB.trans (hb2.mono (by omega))
      clear hc hK hB hb2
      gi_wp2
      refine ⟨by simp, .inl ⟨_, _, rfl, run_takeDeferred hK2, ?_⟩⟩
      exact ⟨_, results_tmp2 rfl _ _ _, by rw [HX.out]; rfl, hB2.trans (belowK_b (w := w) (Nat.le_refl _) W2 D _ _ (by simp at hD; omega) hK2 rfl rfl)⟩
  case stop =>
    rintro D c pre W _ _ h _
    exact h.elim

theorem parse_any (t : List UInt8) (ht : t.length ≤ 4294967296) (w : World) (hE : Errs w) :
    Calls Tryz.prog 66 #[.string (str t)] w fun e w' => e = .returned (.tuple #[.int .u64 ((parseP t).1 : Int), .int .i64 (parseP t).2]) ∧ Below w.heap.size w w' :=
  callsIn_wide.1 (parse_in t ht w hE)
end Go.Proofs.YtmjbacmaafbdlaaGreatDoor.S
