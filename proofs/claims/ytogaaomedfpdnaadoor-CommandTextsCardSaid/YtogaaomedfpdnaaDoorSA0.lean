/-
  WHAT IS PROVED: layer 2's contracts: sets of slots, their texts written and read. Conditions: each states its own.
-/
import Derived.Test.YtogaaomedfpdnaaDoorCut
import Derived.Lib.AtoiAll
import Derived.Lib.IndexLaws
import Derived.Test.YtogaaomedfpdnaaDoorBytes
import Derived.Deep.QuietTactic
import Derived.BigQuiet
import Derived.IntWalk
import Derived.Laws.BitsAllLaws
import Derived.Laws.BitsLemmas
import Derived.Outline
import Derived.Maps.AppendAt
import Derived.OwnWalk
import Derived.LoopTactic
import Derived.Lib.ItoaNum
import Derived.WalkKit
import Derived.TacticsInMore

/-
  WHAT IS PROVED: plain facts on sets of slots, their stretches and their texts (lists and numbers; no program): the text of a set is read back as that set; two sets have one text only if they are one. No condition.
-/
namespace Go.Proofs.YtogaaomedfpdnaaDoor.S

/-! ### cuts -/
theorem cutL_nil (c : UInt8) : cutL [] c = ([], [], false) := rfl
theorem cutL_cons (x : UInt8) (l : List UInt8) (c : UInt8) : cutL (x :: l) c = if x = c then ([], l, true) else (x :: (cutL l c).1, (cutL l c).2.1, (cutL l c).2.2) := by
  unfold cutL
  simp only [Lib.indexByte]
  have hge := Lib.indexByte_ge l c
  by_cases h : x = c
  · simp [h]
  · have h' : (x == c) = false := by simpa using h
    simp only [h', h, if_false, Bool.false_eq_true]
    by_cases hn : Lib.indexByte l c = -1
    · simp [hn]
    · have hb : (Lib.indexByte l c == -1) = false := by simpa using hn
      obtain ⟨k, hk⟩ := Int.eq_ofNat_of_zero_le (show 0 ≤ Lib.indexByte l c by omega)
      simp only [hk]
      have e1 : (0 : Int) ≤ (k : Int) + 1 := by omega
      have e2 : (0 : Int) ≤ (k : Int) := by omega
      have e3 : ((k : Int) + 1).toNat = k + 1 := by omega
      simp [e1, e2, e3]
theorem cutL_at {c : UInt8} : ∀ {a b : List UInt8}, (∀ x ∈ a, x ≠ c) → cutL (a ++ c :: b) c = (a, b, true)
  | [], b, _ => by simp [cutL_cons]
  | x :: a, b, h => by
    rw [List.cons_append, cutL_cons, if_neg (h x (by simp)), cutL_at (fun y hy => h y (by simp [hy]))]
theorem cutL_none {c : UInt8} : ∀ {a : List UInt8}, (∀ x ∈ a, x ≠ c) → cutL a c = (a, [], false)
  | [], _ => rfl
  | x :: a, h => by
    rw [cutL_cons, if_neg (h x (by simp)), cutL_none (fun y hy => h y (by simp [hy]))]
theorem cutL_shorter {l : List UInt8} {c : UInt8} (h : l ≠ []) : (cutL l c).2.1.length < l.length := by
  unfold cutL
  split
  · simp; have := List.length_pos_iff.2 h; omega
  · simp; exact List.length_pos_iff.2 h
theorem cutL_first_le (l : List UInt8) (c : UInt8) : (cutL l c).1.length ≤ l.length := by
  unfold cutL; split
  · simp; omega
  · simp
theorem cutL_rest_le (l : List UInt8) (c : UInt8) : (cutL l c).2.1.length ≤ l.length := by
  unfold cutL; split <;> simp

/-! ### digits, stretches -/
def dig (n : Nat) : List UInt8 := if n < 10 then [UInt8.ofNat (48 + n)] else [UInt8.ofNat (48 + n / 10), UInt8.ofNat (48 + n % 10)]
def part (p : Nat × Nat) : List UInt8 := if p.1 = p.2 then dig p.1 else dig p.1 ++ 45 :: dig p.2

theorem dig_no : ∀ n, n < 64 → ∀ x ∈ dig n, x ≠ 32 ∧ x ≠ 45 := by decide +kernel
theorem dig_ne (n : Nat) : dig n ≠ [] := by unfold dig; split <;> simp
theorem part_no {p : Nat × Nat} (h1 : p.1 < 64) (h2 : p.2 < 64) : ∀ x ∈ part p, x ≠ 32 := by
  intro x hx
  unfold part at hx
  split at hx
  · exact (dig_no _ h1 x hx).1
  · rw [List.mem_append, List.mem_cons] at hx
    rcases hx with hx | rfl | hx
    · exact (dig_no _ h1 x hx).1
    · decide
    · exact (dig_no _ h2 x hx).1
theorem part_ne (p : Nat × Nat) : part p ≠ [] := by
  unfold part
  split
  · exact dig_ne _
  · simp
theorem dig_le (n : Nat) : (dig n).length ≤ 2 := by unfold dig; split <;> simp
theorem part_le (p : Nat × Nat) : (part p).length ≤ 5 := by
  have h1 := dig_le p.1
  have h2 := dig_le p.2
  unfold part
  split
  · omega
  · simp; omega

/-- what a slot's digits are read as -/
def num (w : List UInt8) : Option Nat := match Lib.atoiAll w with
  | .ok v => if 0 ≤ v ∧ v < 64 then some v.toNat else none
  | _ => none
theorem num_lt {w : List UInt8} {n : Nat} (h : num w = some n) : n < 64 := by
  unfold num at h
  split at h
  · split at h
    · injection h with h; omega
    · cases h
  · cases h
theorem num_dig : ∀ n, n < 64 → num (dig n) = some n := by decide +kernel

def ends (w : List UInt8) : Option (Nat × Nat) :=
  match num (cutL w 45).1, num (if (cutL w 45).2.2 = true then (cutL w 45).2.1 else (cutL w 45).1) with
  | some a, some b => some (a, b)
  | _, _ => none
theorem ends_part {p : Nat × Nat} (h1 : p.1 < 64) (h2 : p.2 < 64) : ends (part p) = some p := by
  unfold ends part
  by_cases h : p.1 = p.2
  · rw [if_pos h, cutL_none (fun x hx => (dig_no _ h1 x hx).2)]
    simp only [num_dig _ h1, Bool.false_eq_true, if_false]
    exact congrArg some (Prod.ext rfl h)
  · rw [if_neg h, cutL_at (fun x hx => (dig_no _ h1 x hx).2)]
    simp [num_dig _ h1, num_dig _ h2]
theorem ends_lt {w : List UInt8} {p : Nat × Nat} (h : ends w = some p) : p.1 < 64 ∧ p.2 < 64 := by
  unfold ends at h
  split at h
  · rename_i a b ha hb
    injection h with h
    subst h
    exact ⟨num_lt ha, num_lt hb⟩
  · cases h

/-- the stretches of a text, up to a part that is none -/
def lens : Nat → List UInt8 → List (Nat × Nat)
  | 0, _ => []
  | k + 1, l => if l = [] then [] else match ends (cutL l 32).1 with
    | none => []
    | some p => p :: lens k (cutL l 32).2.1

/-! ### joined parts -/
def tx' (L : List (Nat × Nat)) : List UInt8 := L.flatMap fun p => 32 :: part p
def tx : List (Nat × Nat) → List UInt8
  | [] => []
  | p :: r => part p ++ tx' r
theorem tx'_cons (p : Nat × Nat) (r : List (Nat × Nat)) : tx' (p :: r) = 32 :: (part p ++ tx' r) := by simp [tx']
theorem tx_snoc (L : List (Nat × Nat)) (p : Nat × Nat) : tx (L ++ [p]) = if L = [] then part p else tx L ++ 32 :: part p := by
  cases L with
  | nil => simp [tx, tx']
  | cons q r => simp [tx, tx']
theorem tx_append {L M : List (Nat × Nat)} (hL : L ≠ []) (hM : M ≠ []) : tx (L ++ M) = tx L ++ 32 :: tx M := by
  cases L with
  | nil => exact absurd rfl hL
  | cons q r =>
    cases M with
    | nil => exact absurd rfl hM
    | cons q' r' => simp [tx, tx']
theorem tx_ne {L : List (Nat × Nat)} (h : L ≠ []) : tx L ≠ [] := by
  cases L with
  | nil => exact absurd rfl h
  | cons p r => simp [tx, part_ne]

theorem lens_tx : ∀ {L : List (Nat × Nat)} {k : Nat}, L.length ≤ k → (∀ p ∈ L, p.1 < 64 ∧ p.2 < 64) → lens k (tx L) = L
  | [], k, _, _ => by cases k <;> simp [lens, tx]
  | [p], k, hk, h => by
    obtain ⟨k, rfl⟩ : ∃ j, k = j + 1 := ⟨k - 1, by simp at hk; omega⟩
    have hp := h p (by simp)
    have e : tx [p] = part p := by simp [tx, tx']
    rw [e, lens, if_neg (part_ne p), cutL_none (part_no hp.1 hp.2), ends_part hp.1 hp.2]
    cases k <;> simp [lens]
  | p :: q :: r, k, hk, h => by
    obtain ⟨k, rfl⟩ : ∃ j, k = j + 1 := ⟨k - 1, by simp at hk; omega⟩
    have hp := h p (by simp)
    have e : tx (p :: q :: r) = part p ++ 32 :: tx (q :: r) := by simp [tx, tx'_cons]
    rw [e, lens, if_neg (by simp), cutL_at (part_no hp.1 hp.2), ends_part hp.1 hp.2]
    simp only
    rw [lens_tx (by simp at hk ⊢; omega) (fun x hx => h x (by simp at hx ⊢; exact .inr hx))]

/-! ### words -/
def words : List UInt8 → List (List UInt8)
  | [] => [[]]
  | c :: l => if c = 32 then [] :: words l else match words l with
    | [] => [[c]]
    | w :: r => (c :: w) :: r
theorem words_cons (c : UInt8) (l : List UInt8) : words (c :: l) = if c = 32 then [] :: words l else match words l with
    | [] => [[c]]
    | w :: r => (c :: w) :: r := rfl
theorem words_ne : ∀ l, words l ≠ []
  | [] => by simp [words]
  | c :: l => by
    unfold words
    split
    · simp
    · split <;> simp
theorem words_at : ∀ (a b : List UInt8), words (a ++ 32 :: b) = words a ++ words b
  | [], b => by simp [words]
  | c :: a, b => by
    rw [List.cons_append]
    rw [words_cons, words_cons, words_at a b]
    by_cases h : c = 32
    · simp [h]
    · simp only [h, if_false]
      cases e : words a with
      | nil => exact absurd e (words_ne a)
      | cons w r => simp
theorem words_one : ∀ {a : List UInt8}, (∀ x ∈ a, x ≠ 32) → words a = [a]
  | [], _ => rfl
  | c :: a, h => by
    rw [words_cons, if_neg (h c (by simp)), words_one (fun x hx => h x (by simp [hx]))]
theorem words_tx : ∀ {L : List (Nat × Nat)}, L ≠ [] → (∀ p ∈ L, p.1 < 64 ∧ p.2 < 64) → words (tx L) = L.map part
  | [], h, _ => absurd rfl h
  | [p], _, h => by
    have hp := h p (by simp)
    have e : tx [p] = part p := by simp [tx, tx']
    rw [e, words_one (part_no hp.1 hp.2)]; rfl
  | p :: q :: r, _, h => by
    have hp := h p (by simp)
    have e : tx (p :: q :: r) = part p ++ 32 :: tx (q :: r) := by simp [tx, tx'_cons]
    rw [e, words_at, words_one (part_no hp.1 hp.2), words_tx (by simp) (fun x hx => h x (by simp at hx ⊢; exact .inr hx))]; rfl
theorem map_part_inj : ∀ {L M : List (Nat × Nat)}, (∀ p ∈ L, p.1 < 64 ∧ p.2 < 64) → (∀ p ∈ M, p.1 < 64 ∧ p.2 < 64) → L.map part = M.map part → L = M
  | [], [], _, _, _ => rfl
  | [], _ :: _, _, _, h => by simp at h
  | _ :: _, [], _, _, h => by simp at h
  | p :: L, q :: M, hL, hM, h => by
    simp only [List.map_cons, List.cons.injEq] at h
    have hp := hL p (by simp)
    have hq := hM q (by simp)
    have e : some p = some q := by rw [← ends_part hp.1 hp.2, ← ends_part hq.1 hq.2, h.1]
    injection e with e
    rw [e, map_part_inj (fun x hx => hL x (by simp [hx])) (fun x hx => hM x (by simp [hx])) h.2]
theorem tx_inj {L M : List (Nat × Nat)} (hL : ∀ p ∈ L, p.1 < 64 ∧ p.2 < 64) (hM : ∀ p ∈ M, p.1 < 64 ∧ p.2 < 64) (h : tx L = tx M) : L = M := by
  by_cases h1 : L = []
  · by_cases h2 : M = []
    · rw [h1, h2]
    · rw [h1] at h; exact absurd h.symm (tx_ne h2)
  · by_cases h2 : M = []
    · rw [h2] at h; exact absurd h (tx_ne h1)
    · exact map_part_inj hL hM (by rw [← words_tx h1 hL, ← words_tx h2 hM, h])
end Go.Proofs.YtogaaomedfpdnaaDoor.S

/-
  WHAT IS PROVED: plain facts on sets of slots as numbers: their stretches are canonical, and make the set; canonical stretches are those of their set; a text is a set's just if the document's reader takes it. No condition.
-/
namespace Go.Proofs.YtogaaomedfpdnaaDoor.S

/-! ### one stretch as a number -/
def spanN (a b : Nat) : Nat := ((18446744073709551615 <<< a) % 18446744073709551616) &&& (18446744073709551615 >>> (63 - b))
theorem all_bit (i : Nat) : (18446744073709551615 : Nat).testBit i = decide (i < 64) := by
  have h := Nat.testBit_two_pow_sub_one 64 i
  exact h
theorem span_bit {a b : Nat} (hb : b < 64) (i : Nat) : (spanN a b).testBit i = decide (a ≤ i ∧ i ≤ b) := by
  unfold spanN
  have e : (18446744073709551616 : Nat) = 2 ^ 64 := rfl
  rw [Nat.testBit_and, e, Nat.testBit_mod_two_pow, Nat.testBit_shiftLeft, Nat.testBit_shiftRight, all_bit, all_bit, Bool.eq_iff_iff]
  simp
  omega
theorem span_lt (a b : Nat) : spanN a b < 18446744073709551616 := Nat.lt_of_le_of_lt Nat.and_le_left (Nat.mod_lt _ (by decide))

def setOf : List (Nat × Nat) → Nat
  | [] => 0
  | p :: r => spanN p.1 p.2 ||| setOf r
theorem or_lt {a b : Nat} (ha : a < 18446744073709551616) (hb : b < 18446744073709551616) : a ||| b < 18446744073709551616 := Nat.or_lt_two_pow (n := 64) ha hb
theorem and_lt {a b : Nat} (ha : a < 18446744073709551616) : a &&& b < 18446744073709551616 := Nat.lt_of_le_of_lt Nat.and_le_left ha
theorem set_lt : ∀ L, setOf L < 18446744073709551616
  | [] => by decide
  | p :: r => or_lt (span_lt _ _) (set_lt r)
theorem set_snoc (L : List (Nat × Nat)) (p : Nat × Nat) : setOf (L ++ [p]) = setOf L ||| spanN p.1 p.2 := by
  induction L with
  | nil => simp [setOf]
  | cons q r ih => rw [List.cons_append, setOf, setOf, ih, Nat.or_assoc]
theorem set_append (L M : List (Nat × Nat)) : setOf (L ++ M) = setOf L ||| setOf M := by
  induction L with
  | nil => simp [setOf]
  | cons q r ih => rw [List.cons_append, setOf, setOf, ih, Nat.or_assoc]
/-- a place of one of the stretches -/
def In (L : List (Nat × Nat)) (i : Nat) : Prop := ∃ p ∈ L, p.1 ≤ i ∧ i ≤ p.2
theorem In_nil (i : Nat) : ¬ In [] i := by rintro ⟨p, hp, _⟩; cases hp
theorem In_cons (p : Nat × Nat) (r : List (Nat × Nat)) (i : Nat) : In (p :: r) i ↔ (p.1 ≤ i ∧ i ≤ p.2) ∨ In r i := by
  constructor
  · rintro ⟨q, hq, h⟩
    rw [List.mem_cons] at hq
    rcases hq with rfl | hq
    · exact .inl h
    · exact .inr ⟨q, hq, h⟩
  · rintro (h | ⟨q, hq, h⟩)
    · exact ⟨p, by simp, h⟩
    · exact ⟨q, by simp [hq], h⟩
theorem set_bit : ∀ {L : List (Nat × Nat)}, (∀ p ∈ L, p.2 < 64) → ∀ i, (setOf L).testBit i = true ↔ In L i
  | [], _, i => by simp [setOf, In_nil]
  | p :: r, h, i => by
    rw [setOf, Nat.testBit_or, span_bit (h p (by simp)), Bool.or_eq_true, set_bit (fun q hq => h q (by simp [hq])) i, In_cons, decide_eq_true_eq]
theorem ext64 {s t : Nat} (hs : s < 18446744073709551616) (ht : t < 18446744073709551616) (h : ∀ i, i < 64 → (s.testBit i = true ↔ t.testBit i = true)) : s = t := by
  apply Nat.eq_of_testBit_eq
  intro i
  rw [Bool.eq_iff_iff]
  by_cases hi : i < 64
  · exact h i hi
  · have e : ∀ x : Nat, x < 18446744073709551616 → x.testBit i = false := fun x hx => Nat.testBit_lt_two_pow (Nat.lt_of_lt_of_le hx (by
      have := Nat.pow_le_pow_right (show 0 < 2 by decide) (show 64 ≤ i by omega)
      exact this))
    rw [e s hs, e t ht]
theorem bit_lt {s i : Nat} (hs : s < 18446744073709551616) (h : s.testBit i = true) : i < 64 := by
  rcases Nat.lt_or_ge i 64 with hi | hi
  · exact hi
  · have : s.testBit i = false := Nat.testBit_lt_two_pow (Nat.lt_of_lt_of_le hs (Nat.pow_le_pow_right (show 0 < 2 by decide) hi))
    rw [this] at h; cases h

/-! ### canonical lists of stretches -/
def Canon : Nat → List (Nat × Nat) → Prop
  | _, [] => True
  | m, p :: r => m ≤ p.1 ∧ p.1 ≤ p.2 ∧ p.2 < 64 ∧ Canon (p.2 + 2) r
theorem canon_mono : ∀ {m m' : Nat} {L : List (Nat × Nat)}, m' ≤ m → Canon m L → Canon m' L
  | _, _, [], _, _ => trivial
  | _, _, _ :: _, h, ⟨h1, h2, h3, h4⟩ => ⟨Nat.le_trans h h1, h2, h3, h4⟩
theorem canon_in : ∀ {m : Nat} {L : List (Nat × Nat)} {i : Nat}, Canon m L → In L i → m ≤ i
  | _, [], i, _, h => absurd h (In_nil i)
  | m, p :: r, i, ⟨h1, h2, _, h4⟩, h => by
    rcases (In_cons p r i).1 h with h | h
    · omega
    · have := canon_in h4 h; omega
theorem canon_lt : ∀ {m : Nat} {L : List (Nat × Nat)}, Canon m L → ∀ p ∈ L, p.1 < 64 ∧ p.2 < 64
  | _, [], _, p, hp => by cases hp
  | _, q :: r, ⟨_, h2, h3, h4⟩, p, hp => by
    rw [List.mem_cons] at hp
    rcases hp with rfl | hp
    · omega
    · exact canon_lt h4 p hp
theorem canon_len : ∀ {m : Nat} {L : List (Nat × Nat)}, Canon m L → m ≤ 65 → 2 * L.length + m ≤ 65
  | _, [], _, h => by simpa using h
  | m, q :: r, ⟨h1, h2, h3, h4⟩, _ => by
    have := canon_len h4 (by omega)
    simp; omega
theorem canon_uniq : ∀ {m : Nat} {L M : List (Nat × Nat)}, Canon m L → Canon m M → (∀ i, In L i ↔ In M i) → L = M
  | _, [], [], _, _, _ => rfl
  | _, [], q :: _, _, ⟨_, h2, _, _⟩, h => absurd ((h q.1).2 ⟨q, by simp, by omega, by omega⟩) (In_nil _)
  | _, p :: _, [], ⟨_, h2, _, _⟩, _, h => absurd ((h p.1).1 ⟨p, by simp, by omega, by omega⟩) (In_nil _)
  | m, p :: r, q :: r', ⟨a1, a2, a3, a4⟩, ⟨b1, b2, b3, b4⟩, h => by
    have first : ∀ {x y : Nat × Nat} {u v : List (Nat × Nat)}, x.1 ≤ x.2 → y.1 ≤ y.2 → Canon (y.2 + 2) v → (In (x :: u) x.1 → In (y :: v) x.1) → y.1 ≤ x.1 := by
      intro x y u v hx hy hv hh
      rcases (In_cons y v x.1).1 (hh ⟨x, by simp, by omega, by omega⟩) with h | h
      · omega
      · have := canon_in hv h; omega
    have e1 : p.1 = q.1 := Nat.le_antisymm (first b2 a2 a4 (h q.1).2) (first a2 b2 b4 (h p.1).1)
    have last : ∀ {x y : Nat × Nat} {u v : List (Nat × Nat)}, x.1 = y.1 → x.1 ≤ x.2 → y.1 ≤ y.2 → Canon (y.2 + 2) v → (∀ i, In (x :: u) i → In (y :: v) i) → x.2 ≤ y.2 := by
      intro x y u v hxy hx hy hv hh
      rcases Nat.lt_or_ge y.2 x.2 with hlt | hge
      · rcases (In_cons y v (y.2 + 1)).1 (hh _ ⟨x, by simp, by omega, by omega⟩) with h | h
        · omega
        · have := canon_in hv h; omega
      · exact hge
    have e2 : p.2 = q.2 := Nat.le_antisymm (last e1 a2 b2 b4 fun i => (h i).1) (last e1.symm b2 a2 a4 fun i => (h i).2)
    have e : p = q := Prod.ext e1 e2
    subst e
    have hr : r = r' := canon_uniq a4 b4 fun i => by
      constructor
      · intro hi
        have := canon_in a4 hi
        rcases (In_cons p r' i).1 ((h i).1 ((In_cons p r i).2 (.inr hi))) with h | h
        · omega
        · exact h
      · intro hi
        have := canon_in b4 hi
        rcases (In_cons p r i).1 ((h i).2 ((In_cons p r' i).2 (.inr hi))) with h | h
        · omega
        · exact h
    rw [hr]

/-! ### the stretches of a set -/
def lastOf (s : Nat) : Nat → Nat → Nat
  | 0, i => i
  | k + 1, i => if s.testBit (i + 1) = true then lastOf s k (i + 1) else i
def isStart (s i : Nat) : Bool := s.testBit i && (decide (i = 0) || !s.testBit (i - 1))
theorem last_ge (s : Nat) : ∀ k i, i ≤ lastOf s k i
  | 0, _ => Nat.le_refl _
  | k + 1, i => by
    unfold lastOf
    split
    · have := last_ge s k (i + 1); omega
    · omega
theorem last_all (s : Nat) : ∀ k i j, i < j → j ≤ lastOf s k i → s.testBit j = true
  | 0, i, j, h1, h2 => by simp [lastOf] at h2; omega
  | k + 1, i, j, h1, h2 => by
    unfold lastOf at h2
    split at h2
    · rename_i h
      rcases Nat.lt_or_ge (i + 1) j with hj | hj
      · exact last_all s k (i + 1) j hj h2
      · obtain rfl : j = i + 1 := by omega
        exact h
    · omega
theorem last_end {s : Nat} (hs : s < 18446744073709551616) : ∀ k i, 64 ≤ k + i → s.testBit (lastOf s k i + 1) = false
  | 0, i, h => by
    cases e : s.testBit (lastOf s 0 i + 1) with
    | false => rfl
    | true => have := bit_lt hs e; simp [lastOf] at this; omega
  | k + 1, i, h => by
    unfold lastOf
    split
    · exact last_end hs k (i + 1) (by omega)
    · rename_i h; simpa using h
/-- where a stretch from i on ends -/
def lst (s i : Nat) : Nat := lastOf s 64 i
theorem lst_lt {s i : Nat} (hs : s < 18446744073709551616) (hi : i < 64) : lst s i < 64 := by
  rcases Nat.lt_or_ge i (lst s i) with h | h
  · exact bit_lt hs (last_all s 64 i _ h (Nat.le_refl _))
  · omega
theorem lst_uniq {s i l : Nat} (hs : s < 18446744073709551616) (h1 : i ≤ l) (h2 : ∀ j, i < j → j ≤ l → s.testBit j = true) (h3 : s.testBit (l + 1) = false) : l = lst s i := by
  have e1 := last_ge s 64 i
  have e2 := last_end hs 64 i (by omega)
  rcases Nat.lt_trichotomy l (lst s i) with h | h | h
  · have := last_all s 64 i (l + 1) (by omega) h
    rw [this] at h3; cases h3
  · exact h
  · have := h2 (lst s i + 1) (by unfold lst; omega) h
    unfold lst at this
    rw [this] at e2; cases e2
/-- the stretches of a set that begin ahead of n -/
def upto (s n : Nat) : List (Nat × Nat) := ((List.range n).filter (isStart s)).map fun i => (i, lst s i)
def stretches (s : Nat) : List (Nat × Nat) := upto s 64
theorem upto_zero (s : Nat) : upto s 0 = [] := rfl
theorem upto_yes {s n : Nat} (h : isStart s n = true) : upto s (n + 1) = upto s n ++ [(n, lst s n)] := by
  unfold upto; rw [List.range_succ, List.filter_append, List.map_append]; simp [h]
theorem upto_no {s n : Nat} (h : isStart s n = false) : upto s (n + 1) = upto s n := by
  unfold upto; rw [List.range_succ, List.filter_append, List.map_append]; simp [h]
theorem upto_skip {s n : Nat} : ∀ k, (∀ j, n ≤ j → j < n + k → isStart s j = false) → upto s (n + k) = upto s n
  | 0, _ => rfl
  | k + 1, h => by
    rw [← Nat.add_assoc, upto_no (h (n + k) (by omega) (by omega)), upto_skip k (fun j h1 h2 => h j h1 (by omega))]
theorem start_run {s n j : Nat} (h1 : n < j) (h2 : j ≤ lst s n + 1) (hn : s.testBit n = true) (hs : s < 18446744073709551616) : isStart s j = false := by
  unfold isStart
  rcases Nat.lt_or_ge (lst s n) j with h | h
  · have e : j = lst s n + 1 := by omega
    rw [e, lst, last_end hs 64 n (by omega)]; rfl
  · have hp : s.testBit (j - 1) = true := by
      rcases Nat.lt_or_ge n (j - 1) with h' | h'
      · exact last_all s 64 n _ h' (by unfold lst at h; omega)
      · rw [show j - 1 = n by omega]; exact hn
    rw [hp]
    have : j ≠ 0 := by omega
    simp [this]
/-- behind a stretch there is none until its end is past -/
theorem upto_run {s n : Nat} (hs : s < 18446744073709551616) (h : isStart s n = true) : upto s (lst s n + 1) = upto s n ++ [(n, lst s n)] := by
  have hn : s.testBit n = true := by unfold isStart at h; simp at h; exact h.1
  have hge : n ≤ lst s n := last_ge s 64 n
  rw [← upto_yes h, show lst s n + 1 = (n + 1) + (lst s n - n) by omega]
  exact upto_skip _ fun j h1 h2 => start_run (by omega) (by omega) hn hs

theorem canon_from {s : Nat} (hs : s < 18446744073709551616) : ∀ k m c, m + k = 64 → (∀ i, m ≤ i → isStart s i = true → c ≤ i) →
    Canon c (((List.range' m k).filter (isStart s)).map fun i => (i, lst s i))
  | 0, _, _, _, _ => trivial
  | k + 1, m, c, hm, hc => by
    rw [List.range'_succ]
    by_cases h : isStart s m = true
    · have hn : s.testBit m = true := by have h' := h; unfold isStart at h'; simp at h'; exact h'.1
      rw [List.filter_cons_of_pos h, List.map_cons]
      refine ⟨hc m (Nat.le_refl _) h, last_ge s 64 m, lst_lt hs (by omega), canon_from hs k (m + 1) _ (by omega) fun i hi hst => ?_⟩
      rcases Nat.lt_or_ge (lst s m + 1) i with h2 | h2
      · exact h2
      · rw [start_run (by omega) h2 hn hs] at hst; cases hst
    · rw [List.filter_cons_of_neg h]
      exact canon_from hs k (m + 1) c (by omega) fun i hi hst => hc i (by omega) hst
theorem canon_set {s : Nat} (hs : s < 18446744073709551616) : Canon 0 (stretches s) := by
  have := canon_from hs 64 0 0 rfl (fun _ _ _ => Nat.zero_le _)
  unfold stretches upto
  rw [List.range_eq_range']
  exact this
theorem in_stretches {s : Nat} (hs : s < 18446744073709551616) (i : Nat) : In (stretches s) i ↔ s.testBit i = true := by
  constructor
  · rintro ⟨p, hp, h1, h2⟩
    unfold stretches upto at hp
    simp only [List.mem_map, List.mem_filter, List.mem_range] at hp
    obtain ⟨a, ⟨_, ha⟩, rfl⟩ := hp
    simp only at h1 h2
    rcases Nat.lt_or_ge a i with h | h
    · exact last_all s 64 a i h h2
    · rw [show i = a by omega]
      unfold isStart at ha; simp at ha; exact ha.1
  · intro hi
    have key : ∀ i, s.testBit i = true → ∃ a, a ≤ i ∧ isStart s a = true ∧ ∀ j, a < j → j ≤ i → s.testBit j = true := by
      intro i
      induction i with
      | zero => intro h; exact ⟨0, Nat.le_refl _, by simp [isStart, h], fun j h1 h2 => by omega⟩
      | succ i ih =>
        intro h
        by_cases hp : s.testBit i = true
        · obtain ⟨a, h1, h2, h3⟩ := ih hp
          refine ⟨a, by omega, h2, fun j h4 h5 => ?_⟩
          rcases Nat.lt_or_ge i j with h6 | h6
          · rw [show j = i + 1 by omega]; exact h
          · exact h3 j h4 h6
        · exact ⟨i + 1, Nat.le_refl _, by simp [isStart, h, hp], fun j h1 h2 => by omega⟩
    obtain ⟨a, h1, h2, h3⟩ := key i hi
    have hlt := bit_lt hs hi
    refine ⟨(a, lst s a), ?_, h1, ?_⟩
    · unfold stretches upto
      simp only [List.mem_map, List.mem_filter, List.mem_range]
      exact ⟨a, ⟨by omega, h2⟩, rfl⟩
    · show i ≤ lst s a
      rcases Nat.lt_or_ge (lst s a) i with h | h
      · have e := last_end hs 64 a (by omega)
        rw [h3 (lastOf s 64 a + 1) (by have := last_ge s 64 a; omega) h] at e
        cases e
      · exact h
theorem canon_lt2 {m : Nat} {L : List (Nat × Nat)} (h : Canon m L) : ∀ p ∈ L, p.2 < 64 := fun p hp => (canon_lt h p hp).2
theorem set_stretches {s : Nat} (hs : s < 18446744073709551616) : setOf (stretches s) = s :=
  ext64 (set_lt _) hs fun i _ => (set_bit (canon_lt2 (canon_set hs)) i).trans (in_stretches hs i)
theorem stretches_set {L : List (Nat × Nat)} (h : Canon 0 L) : stretches (setOf L) = L :=
  canon_uniq (canon_set (set_lt L)) h fun i => (in_stretches (set_lt L) i).trans (set_bit (canon_lt2 h) i)

/-- A SET's TEXT -/
def txt (s : Nat) : List UInt8 := tx (stretches s)
theorem txt_set {L : List (Nat × Nat)} (h : Canon 0 L) : txt (setOf L) = tx L := by unfold txt; rw [stretches_set h]
theorem txt_inj {s t : Nat} (hs : s < 18446744073709551616) (ht : t < 18446744073709551616) (h : txt s = txt t) : s = t := by
  have := tx_inj (canon_lt (canon_set hs)) (canon_lt (canon_set ht)) h
  rw [← set_stretches hs, this, set_stretches ht]
theorem tx_len : ∀ L : List (Nat × Nat), (tx L).length ≤ 6 * L.length
  | [] => by simp [tx]
  | p :: r => by
    have h1 := part_le p
    have h2 : ∀ M : List (Nat × Nat), (tx' M).length ≤ 6 * M.length := by
      intro M
      induction M with
      | nil => simp [tx']
      | cons q M ih => rw [tx'_cons]; have := part_le q; simp; omega
    have h3 := h2 r
    simp [tx]; omega
theorem txt_len {s : Nat} (hs : s < 18446744073709551616) : (txt s).length ≤ 192 := by
  have h1 := canon_len (canon_set hs) (by omega)
  have h2 := tx_len (stretches s)
  unfold txt; omega
theorem tx_len_ge : ∀ L : List (Nat × Nat), L.length ≤ (tx L).length
  | [] => by simp
  | p :: r => by
    have h2 : ∀ M : List (Nat × Nat), M.length ≤ (tx' M).length := by
      intro M
      induction M with
      | nil => simp
      | cons q M ih => rw [tx'_cons]; simp; omega
    have h3 := h2 r
    have h4 : 0 < (part p).length := List.length_pos_iff.2 (part_ne p)
    simp [tx]; omega

/-- WHAT THE PROGRAM's READER ANSWERS -/
def parseP (t : List UInt8) : Nat × Int := if txt (setOf (lens t.length t)) = t then (setOf (lens t.length t), 0) else (0, 60)
theorem parse_txt {s : Nat} (hs : s < 18446744073709551616) : parseP (txt s) = (s, 0) := by
  have e : lens (txt s).length (txt s) = stretches s := by
    unfold txt
    exact lens_tx (tx_len_ge _) (canon_lt (canon_set hs))
  unfold parseP
  rw [e, set_stretches hs, if_pos rfl]
theorem parse_no {t : List UInt8} (h : ∀ s, s < 18446744073709551616 → txt s ≠ t) : parseP t = (0, 60) := by
  unfold parseP
  rw [if_neg (h _ (set_lt _))]
theorem str_app (a b : List UInt8) : str a ++ str b = str (a ++ b) := by
  apply ByteArray.ext
  simp [str]

theorem upto_le {s n : Nat} (hn : n ≤ 64) : (upto s n).length ≤ 64 := by
  unfold upto
  have := List.length_filter_le (isStart s) (List.range n)
  simp at this ⊢; omega

theorem add_mk (b j : Nat) : (⟨b, 0, none⟩ : Addr).add j = ⟨b, j, none⟩ := by
  unfold Addr.add
  by_cases h : j = 0 <;> simp [h]
theorem start_no {s k : Nat} (h : s.testBit k = false) : isStart s k = false := by simp [isStart, h]
theorem start_yes {s k : Nat} (h : s.testBit k = true) (hp : k = 0 ∨ s.testBit k = false ∨ s.testBit (k - 1) = false) : isStart s k = true := by
  rcases hp with rfl | hp | hp
  · simp [isStart, h]
  · rw [h] at hp; cases hp
  · simp [isStart, h, hp]

end Go.Proofs.YtogaaomedfpdnaaDoor.S

