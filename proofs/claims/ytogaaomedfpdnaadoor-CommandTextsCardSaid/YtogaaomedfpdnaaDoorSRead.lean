/-
  WHAT IS PROVED: plain facts on the document's reader of a set's text: it takes a text just if it is a set's, and hands back that set's stretches. No condition.
-/
import Derived.Test.YtogaaomedfpdnaaDoorSA0
namespace Go.Proofs.YtogaaomedfpdnaaDoor.S

def isDig (c : UInt8) : Bool := 48 ≤ c.toNat && c.toNat ≤ 57
/-- a slot at the head of a text, and how many signs it has -/
def numAt : List UInt8 → Option (Nat × Nat)
  | [] => none
  | [c] => if isDig c = true then some (c.toNat - 48, 1) else none
  | c :: d :: _ => if isDig c = true then
      (if isDig d = true then (if 63 < 10 * (c.toNat - 48) + (d.toNat - 48) ∨ c.toNat = 48 then none else some (10 * (c.toNat - 48) + (d.toNat - 48), 2)) else some (c.toNat - 48, 1))
    else none
theorem numAt_one (c : UInt8) : numAt [c] = if isDig c = true then some (c.toNat - 48, 1) else none := rfl
theorem numAt_two (c d : UInt8) (r : List UInt8) : numAt (c :: d :: r) = if isDig c = true then
      (if isDig d = true then (if 63 < 10 * (c.toNat - 48) + (d.toNat - 48) ∨ c.toNat = 48 then none else some (10 * (c.toNat - 48) + (d.toNat - 48), 2)) else some (c.toNat - 48, 1))
    else none := rfl
theorem dig_two : ∀ c : Fin 256, ∀ d : Fin 256, isDig (UInt8.ofNat c.val) = true → isDig (UInt8.ofNat d.val) = true → c.val ≠ 48 →
    dig (10 * (c.val - 48) + (d.val - 48)) = [UInt8.ofNat c.val, UInt8.ofNat d.val] := by
  intro c d hc hd hn
  unfold isDig at hc hd
  have e1 : (UInt8.ofNat c.val).toNat = c.val := by simp
  have e2 : (UInt8.ofNat d.val).toNat = d.val := by simp
  rw [e1] at hc; rw [e2] at hd
  simp at hc hd
  unfold dig
  rw [if_neg (by omega)]
  have h1 : 48 + (10 * (c.val - 48) + (d.val - 48)) / 10 = c.val := by omega
  have h2 : 48 + (10 * (c.val - 48) + (d.val - 48)) % 10 = d.val := by omega
  rw [h1, h2]
theorem numAt_sound : ∀ {q : List UInt8} {a n : Nat}, numAt q = some (a, n) → a < 64 ∧ q = dig a ++ q.drop n ∧ 1 ≤ n ∧ n ≤ q.length
  | [], a, n, h => by cases h
  | [c], a, n, h => by
    rw [numAt_one] at h
    split at h
    · rename_i hc
      unfold isDig at hc
      simp at hc
      injection h with h
      simp only [Prod.mk.injEq] at h
      obtain ⟨rfl, rfl⟩ := h
      refine ⟨by omega, ?_, Nat.le_refl _, by simp⟩
      unfold dig
      rw [if_pos (by omega)]
      have : 48 + (c.toNat - 48) = c.toNat := by omega
      rw [this]; simp
    · cases h
  | c :: d :: r, a, n, h => by
    rw [numAt_two] at h
    split at h
    · rename_i hc
      have hc0 := hc
      unfold isDig at hc
      simp at hc
      split at h
      · rename_i hd
        split at h
        · cases h
        · rename_i hn
          injection h with h
          simp only [Prod.mk.injEq] at h
          obtain ⟨rfl, rfl⟩ := h
          refine ⟨by omega, ?_, by omega, by simp⟩
          have e := dig_two ⟨c.toNat, c.toNat_lt⟩ ⟨d.toNat, d.toNat_lt⟩ (by simpa using hc0) (by simpa using hd) (by show c.toNat ≠ 48; omega)
          simp only [UInt8.ofNat_toNat] at e
          rw [e]; simp
      · injection h with h
        simp only [Prod.mk.injEq] at h
        obtain ⟨rfl, rfl⟩ := h
        refine ⟨by omega, ?_, Nat.le_refl _, by simp⟩
        unfold dig
        rw [if_pos (by omega)]
        have : 48 + (c.toNat - 48) = c.toNat := by omega
        rw [this]; simp
    · cases h
theorem numAt_dig_nil : ∀ a, a < 64 → numAt (dig a) = some (a, (dig a).length) := by decide +kernel
theorem numAt_dig {a : Nat} (ha : a < 64) {q : List UInt8} (hq : ∀ c, q.head? = some c → isDig c = false) : numAt (dig a ++ q) = some (a, (dig a).length) := by
  have h := numAt_dig_nil a ha
  cases q with
  | nil => rw [List.append_nil]; exact h
  | cons c r =>
    have hc := hq c rfl
    unfold dig at h ⊢
    split
    · rename_i h10
      rw [if_pos h10] at h
      simp only [numAt] at h
      simp only [List.cons_append, List.nil_append, numAt, hc]
      simpa using h
    · rename_i h10
      rw [if_neg h10] at h
      simp only [numAt] at h
      simp only [List.cons_append, List.nil_append, numAt]
      exact h

/-- one part of a text: its ends, and how many signs it has -/
def stepR (fst : Bool) (r : List UInt8) (least : Nat) : Option (Nat × Nat × Nat) :=
  if fst = false ∧ r.head? ≠ some 32 then none else
  match numAt (r.drop (if fst = true then 0 else 1)) with
  | none => none
  | some (a, n) => if a < least then none else
    if (r.drop ((if fst = true then 0 else 1) + n)).head? = some 45 then
      (match numAt (r.drop ((if fst = true then 0 else 1) + n + 1)) with
      | none => none
      | some (c, m) => if c ≤ a then none else some (a, c, (if fst = true then 0 else 1) + n + 1 + m))
    else some (a, a, (if fst = true then 0 else 1) + n)
def readR : Nat → Bool → List UInt8 → Nat → Option (List (Nat × Nat))
  | 0, _, _, _ => none
  | k + 1, fst, r, least => if r = [] then some [] else match stepR fst r least with
    | none => none
    | some (a, b, n) => (readR k false (r.drop n) (b + 2)).map ((a, b) :: ·)

theorem head_drop {r : List UInt8} {n : Nat} {c : UInt8} (h : (r.drop n).head? = some c) : r.drop n = c :: r.drop (n + 1) := by
  rw [List.head?_drop] at h
  rw [List.drop_eq_getElem_cons (by
    rcases Nat.lt_or_ge n r.length with h' | h'
    · exact h'
    · rw [List.getElem?_eq_none h'] at h; cases h)]
  rw [List.getElem?_eq_some_iff] at h
  obtain ⟨_, h⟩ := h
  rw [h]
theorem step_sound {fst : Bool} {r : List UInt8} {least a b n : Nat} (h : stepR fst r least = some (a, b, n)) :
    least ≤ a ∧ a ≤ b ∧ b < 64 ∧ r = (if fst = true then [] else [32]) ++ part (a, b) ++ r.drop n ∧ 1 ≤ n ∧ n ≤ r.length := by
  unfold stepR at h
  split at h
  · cases h
  · rename_i h32
    have h0 : r = (if fst = true then [] else [32]) ++ r.drop (if fst = true then 0 else 1) := by
      cases fst with
      | true => simp
      | false =>
        simp at h32
        have := head_drop (r := r) (n := 0) (c := 32) (by rw [List.drop_zero]; exact h32)
        rw [List.drop_zero] at this
        simpa using this
    have hlen : (if fst = true then 0 else 1) + (r.drop (if fst = true then 0 else 1)).length = r.length := by
      have := congrArg List.length h0
      cases fst <;> simp at this ⊢ <;> omega
    generalize ho : (if fst = true then 0 else 1 : Nat) = o at *
    split at h
    · cases h
    · rename_i a1 n1 hn1
      obtain ⟨ha, he, hn, hle⟩ := numAt_sound hn1
      split at h
      · cases h
      · rename_i hl
        rw [List.drop_drop] at he
        split at h
        · rename_i h45
          split at h
          · cases h
          · rename_i c m hn2
            obtain ⟨hc, he2, hm, hle2⟩ := numAt_sound hn2
            rw [List.drop_drop] at he2
            split at h
            · cases h
            · rename_i hca
              injection h with h
              simp only [Prod.mk.injEq] at h
              obtain ⟨rfl, rfl, rfl⟩ := h
              rw [List.length_drop] at hle2
              have e45 := head_drop h45
              have l45 := congrArg List.length e45
              simp only [List.length_drop, List.length_cons] at l45
              refine ⟨by omega, by omega, hc, ?_, by omega, by omega⟩
              have ep : part (a1, c) = dig a1 ++ 45 :: dig c := by unfold part; exact if_neg (by simp; omega)
              rw [ep]
              conv => lhs; rw [h0, he, e45, he2]
              simp [Nat.add_assoc]
        · injection h with h
          simp only [Prod.mk.injEq] at h
          obtain ⟨rfl, rfl, rfl⟩ := h
          refine ⟨by omega, Nat.le_refl _, ha, ?_, by omega, by omega⟩
          have ep : part (a1, a1) = dig a1 := by unfold part; exact if_pos rfl
          rw [ep]
          conv => lhs; rw [h0, he]
          simp
theorem read_sound : ∀ {k : Nat} {fst : Bool} {r : List UInt8} {least : Nat} {L : List (Nat × Nat)}, readR k fst r least = some L →
    Canon least L ∧ r = if fst = true then tx L else tx' L
  | 0, _, _, _, _, h => by cases h
  | k + 1, fst, r, least, L, h => by
    unfold readR at h
    split at h
    · rename_i hr
      injection h with h
      subst h; subst hr
      exact ⟨trivial, by cases fst <;> simp [tx, tx']⟩
    · split at h
      · cases h
      · rename_i a b n hs
        obtain ⟨h1, h2, h3, h4, _, _⟩ := step_sound hs
        rw [Option.map_eq_some_iff] at h
        obtain ⟨M, hM, rfl⟩ := h
        obtain ⟨h5, h6⟩ := read_sound hM
        simp only [Bool.false_eq_true, if_false] at h6
        refine ⟨⟨h1, h2, h3, h5⟩, ?_⟩
        rw [h6] at h4
        cases fst with
        | true => simpa [tx] using h4
        | false => simpa [tx'_cons] using h4

theorem tx'_head (r : List (Nat × Nat)) (c : UInt8) (h : (tx' r).head? = some c) : c = 32 := by
  cases r with
  | nil => simp [tx'] at h
  | cons p r => rw [tx'_cons] at h; simp at h; exact h.symm
theorem step_full {fst : Bool} {least a b : Nat} {q : List UInt8} (h1 : least ≤ a) (h2 : a ≤ b) (h3 : b < 64) (hq : ∀ c, q.head? = some c → c = 32) :
    stepR fst ((if fst = true then [] else [32]) ++ part (a, b) ++ q) least = some (a, b, (if fst = true then 0 else 1) + (part (a, b)).length) := by
  have hd : ∀ c, q.head? = some c → isDig c = false := fun c hc => by rw [hq c hc]; decide
  have hne : q.head? ≠ some 45 := fun h => by have := hq _ h; cases this
  have hdr : ((if fst = true then [] else [32]) ++ part (a, b) ++ q).drop (if fst = true then 0 else 1) = part (a, b) ++ q := by cases fst <;> simp
  have hdr' : ∀ n, ((if fst = true then [] else [32]) ++ part (a, b) ++ q).drop ((if fst = true then 0 else 1) + n) = (part (a, b) ++ q).drop n := fun n => by rw [← List.drop_drop, hdr]
  unfold stepR
  rw [if_neg (by cases fst <;> simp), hdr]
  by_cases h : a = b
  · subst h
    have e : part (a, a) = dig a := by simp [part]
    simp only [e] at hdr' ⊢
    rw [numAt_dig (by omega) hd]
    simp only
    rw [if_neg (by omega), hdr', List.drop_left, if_neg hne]
  · have e : part (a, b) = dig a ++ 45 :: dig b := by simp [part, h]
    simp only [e] at hdr' ⊢
    rw [List.append_assoc, numAt_dig (by omega) (fun c hc => by simp at hc; rw [← hc]; decide)]
    simp only
    rw [if_neg (by omega), hdr', List.append_assoc, List.drop_left, if_pos (by simp), Nat.add_assoc, hdr']
    have e2 : (dig a ++ 45 :: dig b ++ q).drop ((dig a).length + 1) = dig b ++ q := by
      rw [← List.drop_drop, List.append_assoc, List.drop_left]; simp
    rw [e2, numAt_dig h3 hd]
    simp only
    rw [if_neg (by omega)]
    simp only [List.length_append, List.length_cons]
    rw [Option.some.injEq, Prod.mk.injEq, Prod.mk.injEq]
    exact ⟨rfl, rfl, by omega⟩
theorem read_full : ∀ {L : List (Nat × Nat)} {k : Nat} {fst : Bool} {least : Nat}, L.length < k → Canon least L → readR k fst (if fst = true then tx L else tx' L) least = some L
  | [], k, fst, _, hk, _ => by
    obtain ⟨k, rfl⟩ : ∃ j, k = j + 1 := ⟨k - 1, by omega⟩
    cases fst <;> simp [readR, tx, tx']
  | p :: r, k, fst, least, hk, ⟨h1, h2, h3, h4⟩ => by
    obtain ⟨k, rfl⟩ : ∃ j, k = j + 1 := ⟨k - 1, by omega⟩
    have e : (if fst = true then tx (p :: r) else tx' (p :: r)) = (if fst = true then [] else [32]) ++ part p ++ tx' r := by cases fst <;> simp [tx, tx'_cons]
    rw [e]
    unfold readR
    have hs := step_full (fst := fst) (least := least) h1 h2 h3 (tx'_head r)
    rw [if_neg (by simp [part_ne]), hs]
    simp only
    have e2 : ((if fst = true then [] else [32]) ++ part p ++ tx' r).drop ((if fst = true then 0 else 1) + (part p).length) = tx' r := by
      rw [List.append_assoc, ← List.drop_drop]
      cases fst <;> simp
    have ih := read_full (k := k) (fst := false) (by simp at hk; omega) h4
    simp only [Bool.false_eq_true, if_false] at ih
    rw [e2, ih]; rfl

/-- THE DOCUMENT's READER -/
def refParse (t : List UInt8) : Option (List (Nat × Nat)) := readR (t.length + 1) true t 0
theorem ref_iff {t : List UInt8} {L : List (Nat × Nat)} : refParse t = some L ↔ Canon 0 L ∧ t = tx L := by
  constructor
  · intro h; have := read_sound h; simpa using this
  · rintro ⟨h1, rfl⟩
    have := read_full (k := (tx L).length + 1) (fst := true) (by have := tx_len_ge L; omega) h1
    simpa [refParse] using this
theorem parse_some {t : List UInt8} {L : List (Nat × Nat)} (h : refParse t = some L) : parseP t = (setOf L, 0) ∧ txt (setOf L) = t := by
  obtain ⟨h1, rfl⟩ := ref_iff.1 h
  have e := parse_txt (set_lt L)
  rw [txt_set h1] at e
  exact ⟨e, txt_set h1⟩
theorem parse_none {t : List UInt8} (h : refParse t = none) : parseP t = (0, 60) :=
  parse_no fun s hs e => by
    have := ref_iff.2 ⟨canon_set hs, e.symm⟩
    rw [h] at this; cases this
end Go.Proofs.YtogaaomedfpdnaaDoor.S
