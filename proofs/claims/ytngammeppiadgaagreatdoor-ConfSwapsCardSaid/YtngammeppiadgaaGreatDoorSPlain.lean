/-
  WHAT IS PROVED: plain facts on sets of slots, their stretches and their texts (lists and numbers; no program): the text of a set is read back as that set; two sets have one text only if they are one. No condition.
-/
import Derived.Test.YtngammeppiadgaaGreatDoorCut
import Derived.Lib.AtoiAll
import Derived.Lib.IndexLaws
namespace Go.Proofs.YtngammeppiadgaaGreatDoor.S

/-! ### cuts -/
theorem cutL_nil (c : UInt8) : cutL [] c = ([], [], false) := rfl
theorem cutL_cons (x : UInt8) (l : List UInt8) (c : UInt8) : cutL (x :: l) c = if x = c then ([], l, true) else (x :: (cutL l c).1, (cutL l c).2.1, (cutL l c).2.2) := by
  unfold cutL
  simp only [Lib.indexByte]
  have hge := Lib.indexByte_ge l c
  by_cases h : x = c
  · simp [h]
  · have h' : (x == c) = false := by simpa using h
    simp only [h', h, if_false, Bool.false_eq_true]
    by_cases hn : Lib.indexByte l c = -1
    · simp [hn]
    · have hb : (Lib.indexByte l c == -1) = false := by simpa using hn
      obtain ⟨k, hk⟩ := Int.eq_ofNat_of_zero_le (show 0 ≤ Lib.indexByte l c by omega)
      simp only [hk]
      have e1 : (0 : Int) ≤ (k : Int) + 1 := by omega
      have e2 : (0 : Int) ≤ (k : Int) := by omega
      have e3 : ((k : Int) + 1).toNat = k + 1 := by omega
      simp [e1, e2, e3]
theorem cutL_at {c : UInt8} : ∀ {a b : List UInt8}, (∀ x ∈ a, x ≠ c) → cutL (a ++ c :: b) c = (a, b, true)
  | [], b, _ => by simp [cutL_cons]
  | x :: a, b, h => by
    rw [List.cons_append, cutL_cons, if_neg (h x (by simp)), cutL_at (fun y hy => h y (by simp [hy]))]
theorem cutL_none {c : UInt8} : ∀ {a : List UInt8}, (∀ x ∈ a, x ≠ c) → cutL a c = (a, [], false)
  | [], _ => rfl
  | x :: a, h => by
    rw [cutL_cons, if_neg (h x (by simp)), cutL_none (fun y hy => h y (by simp [hy]))]
theorem cutL_shorter {l : List UInt8} {c : UInt8} (h : l ≠ []) : (cutL l c).2.1.length < l.length := by
  unfold cutL
  split
  · simp; have := List.length_pos_iff.2 h; omega
  · simp; exact List.length_pos_iff.2 h
theorem cutL_first_le (l : List UInt8) (c : UInt8) : (cutL l c).1.length ≤ l.length := by
  unfold cutL; split
  · simp; omega
  · simp
theorem cutL_rest_le (l : List UInt8) (c : UInt8) : (cutL l c).2.1.length ≤ l.length := by
  unfold cutL; split <;> simp

/-! ### digits, stretches -/
def dig (n : Nat) : List UInt8 := if n < 10 then [UInt8.ofNat (48 + n)] else [UInt8.ofNat (48 + n / 10), UInt8.ofNat (48 + n % 10)]
def part (p : Nat × Nat) : List UInt8 := if p.1 = p.2 then dig p.1 else dig p.1 ++ 45 :: dig p.2

theorem dig_no : ∀ n, n < 64 → ∀ x ∈ dig n, x ≠ 32 ∧ x ≠ 45 := by decide +kernel
theorem dig_ne (n : Nat) : dig n ≠ [] := by unfold dig; split <;> simp
theorem part_no {p : Nat × Nat} (h1 : p.1 < 64) (h2 : p.2 < 64) : ∀ x ∈ part p, x ≠ 32 := by
  intro x hx
  unfold part at hx
  split at hx
  · exact (dig_no _ h1 x hx).1
  · rw [List.mem_append, List.mem_cons] at hx
    rcases hx with hx | rfl | hx
    · exact (dig_no _ h1 x hx).1
    · decide
    · exact (dig_no _ h2 x hx).1
theorem part_ne (p : Nat × Nat) : part p ≠ [] := by
  unfold part
  split
  · exact dig_ne _
  · simp
theorem dig_le (n : Nat) : (dig n).length ≤ 2 := by unfold dig; split <;> simp
theorem part_le (p : Nat × Nat) : (part p).length ≤ 5 := by
  have h1 := dig_le p.1
  have h2 := dig_le p.2
  unfold part
  split
  · omega
  · simp; omega

/-- what a slot's digits are read as -/
def num (w : List UInt8) : Option Nat := match Lib.atoiAll w with
  | .ok v => if 0 ≤ v ∧ v < 64 then some v.toNat else none
  | _ => none
theorem num_lt {w : List UInt8} {n : Nat} (h : num w = some n) : n < 64 := by
  unfold num at h
  split at h
  · split at h
    · injection h with h; omega
    · cases h
  · cases h
theorem num_dig : ∀ n, n < 64 → num (dig n) = some n := by decide +kernel

def ends (w : List UInt8) : Option (Nat × Nat) :=
  match num (cutL w 45).1, num (if (cutL w 45).2.2 = true then (cutL w 45).2.1 else (cutL w 45).1) with
  | some a, some b => some (a, b)
  | _, _ => none
theorem ends_part {p : Nat × Nat} (h1 : p.1 < 64) (h2 : p.2 < 64) : ends (part p) = some p := by
  unfold ends part
  by_cases h : p.1 = p.2
  · rw [if_pos h, cutL_none (fun x hx => (dig_no _ h1 x hx).2)]
    simp only [num_dig _ h1, Bool.false_eq_true, if_false]
    exact congrArg some (Prod.ext rfl h)
  · rw [if_neg h, cutL_at (fun x hx => (dig_no _ h1 x hx).2)]
    simp [num_dig _ h1, num_dig _ h2]
theorem ends_lt {w : List UInt8} {p : Nat × Nat} (h : ends w = some p) : p.1 < 64 ∧ p.2 < 64 := by
  unfold ends at h
  split at h
  · rename_i a b ha hb
    injection h with h
    subst h
    exact ⟨num_lt ha, num_lt hb⟩
  · cases h

/-- the stretches of a text, up to a part that is none -/
def lens : Nat → List UInt8 → List (Nat × Nat)
  | 0, _ => []
  | k + 1, l => if l = [] then [] else match ends (cutL l 32).1 with
    | none => []
    | some p => p :: lens k (cutL l 32).2.1

/-! ### joined parts -/
def tx' (L : List (Nat × Nat)) : List UInt8 := L.flatMap fun p => 32 :: part p
def tx : List (Nat × Nat) → List UInt8
  | [] => []
  | p :: r => part p ++ tx' r
theorem tx'_cons (p : Nat × Nat) (r : List (Nat × Nat)) : tx' (p :: r) = 32 :: (part p ++ tx' r) := by simp [tx']
theorem tx_snoc (L : List (Nat × Nat)) (p : Nat × Nat) : tx (L ++ [p]) = if L = [] then part p else tx L ++ 32 :: part p := by
  cases L with
  | nil => simp [tx, tx']
  | cons q r => simp [tx, tx']
theorem tx_append {L M : List (Nat × Nat)} (hL : L ≠ []) (hM : M ≠ []) : tx (L ++ M) = tx L ++ 32 :: tx M := by
  cases L with
  | nil => exact absurd rfl hL
  | cons q r =>
    cases M with
    | nil => exact absurd rfl hM
    | cons q' r' => simp [tx, tx']
theorem tx_ne {L : List (Nat × Nat)} (h : L ≠ []) : tx L ≠ [] := by
  cases L with
  | nil => exact absurd rfl h
  | cons p r => simp [tx, part_ne]

theorem lens_tx : ∀ {L : List (Nat × Nat)} {k : Nat}, L.length ≤ k → (∀ p ∈ L, p.1 < 64 ∧ p.2 < 64) → lens k (tx L) = L
  | [], k, _, _ => by cases k <;> simp [lens, tx]
  | [p], k, hk, h => by
    obtain ⟨k, rfl⟩ : ∃ j, k = j + 1 := ⟨k - 1, by simp at hk; omega⟩
    have hp := h p (by simp)
    have e : tx [p] = part p := by simp [tx, tx']
    rw [e, lens, if_neg (part_ne p), cutL_none (part_no hp.1 hp.2), ends_part hp.1 hp.2]
    cases k <;> simp [lens]
  | p :: q :: r, k, hk, h => by
    obtain ⟨k, rfl⟩ : ∃ j, k = j + 1 := ⟨k - 1, by simp at hk; omega⟩
    have hp := h p (by simp)
    have e : tx (p :: q :: r) = part p ++ 32 :: tx (q :: r) := by simp [tx, tx'_cons]
    rw [e, lens, if_neg (by simp), cutL_at (part_no hp.1 hp.2), ends_part hp.1 hp.2]
    simp only
    rw [lens_tx (by simp at hk ⊢; omega) (fun x hx => h x (by simp at hx ⊢; exact .inr hx))]

/-! ### words -/
def words : List UInt8 → List (List UInt8)
  | [] => [[]]
  | c :: l => if c = 32 then [] :: words l else match words l with
    | [] => [[c]]
    | w :: r => (c :: w) :: r
theorem words_cons (c : UInt8) (l : List UInt8) : words (c :: l) = if c = 32 then [] :: words l else match words l with
    | [] => [[c]]
    | w :: r => (c :: w) :: r := rfl
theorem words_ne : ∀ l, words l ≠ []
  | [] => by simp [words]
  | c :: l => by
    unfold words
    split
    · simp
    · split <;> simp
theorem words_at : ∀ (a b : List UInt8), words (a ++ 32 :: b) = words a ++ words b
  | [], b => by simp [words]
  | c :: a, b => by
    rw [List.cons_append]
    rw [words_cons, words_cons, words_at a b]
    by_cases h : c = 32
    · simp [h]
    · simp only [h, if_false]
      cases e : words a with
      | nil => exact absurd e (words_ne a)
      | cons w r => simp
theorem words_one : ∀ {a : List UInt8}, (∀ x ∈ a, x ≠ 32) → words a = [a]
  | [], _ => rfl
  | c :: a, h => by
    rw [words_cons, if_neg (h c (by simp)), words_one (fun x hx => h x (by simp [hx]))]
theorem words_tx : ∀ {L : List (Nat × Nat)}, L ≠ [] → (∀ p ∈ L, p.1 < 64 ∧ p.2 < 64) → words (tx L) = L.map part
  | [], h, _ => absurd rfl h
  | [p], _, h => by
    have hp := h p (by simp)
    have e : tx [p] = part p := by simp [tx, tx']
    rw [e, words_one (part_no hp.1 hp.2)]; rfl
  | p :: q :: r, _, h => by
    have hp := h p (by simp)
    have e : tx (p :: q :: r) = part p ++ 32 :: tx (q :: r) := by simp [tx, tx'_cons]
    rw [e, words_at, words_one (part_no hp.1 hp.2), words_tx (by simp) (fun x hx => h x (by simp at hx ⊢; exact .inr hx))]; rfl
theorem map_part_inj : ∀ {L M : List (Nat × Nat)}, (∀ p ∈ L, p.1 < 64 ∧ p.2 < 64) → (∀ p ∈ M, p.1 < 64 ∧ p.2 < 64) → L.map part = M.map part → L = M
  | [], [], _, _, _ => rfl
  | [], _ :: _, _, _, h => by simp at h
  | _ :: _, [], _, _, h => by simp at h
  | p :: L, q :: M, hL, hM, h => by
    simp only [List.map_cons, List.cons.injEq] at h
    have hp := hL p (by simp)
    have hq := hM q (by simp)
    have e : some p = some q := by rw [← ends_part hp.1 hp.2, ← ends_part hq.1 hq.2, h.1]
    injection e with e
    rw [e, map_part_inj (fun x hx => hL x (by simp [hx])) (fun x hx => hM x (by simp [hx])) h.2]
theorem tx_inj {L M : List (Nat × Nat)} (hL : ∀ p ∈ L, p.1 < 64 ∧ p.2 < 64) (hM : ∀ p ∈ M, p.1 < 64 ∧ p.2 < 64) (h : tx L = tx M) : L = M := by
  by_cases h1 : L = []
  · by_cases h2 : M = []
    · rw [h1, h2]
    · rw [h1] at h; exact absurd h.symm (tx_ne h2)
  · by_cases h2 : M = []
    · rw [h2] at h; exact absurd h (tx_ne h1)
    · exact map_part_inj hL hM (by rw [← words_tx h1 hL, ← words_tx h2 hM, h])
end Go.Proofs.YtngammeppiadgaaGreatDoor.S
