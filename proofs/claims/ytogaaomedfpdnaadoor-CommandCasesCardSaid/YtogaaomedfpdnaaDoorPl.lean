/-
  WHAT IS PROVED: digits of numbers, plain facts about lists of bytes. No condition.
-/
import Derived.Test.YtogaaomedfpdnaaDoorSA0
import Derived.Lib.IndexMore
namespace Go.Proofs.YtogaaomedfpdnaaDoor
open Go.RowKit

/-- a number's digits -/
def digL (n : Nat) : List UInt8 := if n < 10 then [UInt8.ofNat (48 + n)] else digL (n / 10) ++ [UInt8.ofNat (48 + n % 10)]
termination_by n
decreasing_by omega
theorem digL_small {n : Nat} (h : n < 10) : digL n = [UInt8.ofNat (48 + n)] := by rw [digL]; rw [if_pos h]
theorem digL_big {n : Nat} (h : ¬ n < 10) : digL n = digL (n / 10) ++ digL (n % 10) := by
  rw [digL, if_neg h, digL_small (show n % 10 < 10 by omega)]
theorem digL_len : ∀ (k n : Nat), n < 10 ^ (k + 1) → (digL n).length ≤ k + 1
  | 0, n, h => by rw [digL_small (by simpa using h)]; simp
  | k + 1, n, h => by
    by_cases hn : n < 10
    · rw [digL_small hn]; simp
    · rw [digL_big hn, List.length_append, digL_small (show n % 10 < 10 by omega)]
      have := digL_len k (n / 10) (by rw [Nat.pow_succ] at h; omega)
      simp; omega
theorem digL_ne (n : Nat) : digL n ≠ [] := by
  by_cases hn : n < 10
  · rw [digL_small hn]; simp
  · rw [digL_big hn, digL_small (show n % 10 < 10 by omega)]; simp

def isD (c : UInt8) : Bool := decide (48 ≤ c.toNat) && decide (c.toNat ≤ 57)
theorem isD_iff {c : UInt8} : isD c = true ↔ 48 ≤ c.toNat ∧ c.toNat ≤ 57 := by unfold isD; simp
def val (l : List UInt8) : Nat := l.foldl (fun a c => 10 * a + (c.toNat - 48)) 0
theorem val_nil : val [] = 0 := rfl
theorem val_snoc (l : List UInt8) (c : UInt8) : val (l ++ [c]) = 10 * val l + (c.toNat - 48) := by unfold val; rw [List.foldl_append]; rfl
theorem val_take_succ {l : List UInt8} {k : Nat} {c : UInt8} (h : l[k]? = some c) : val (l.take (k + 1)) = 10 * val (l.take k) + (c.toNat - 48) := by
  rw [take_snoc h, val_snoc]
theorem val_take : ∀ (l : List UInt8) (k : Nat), (∀ c ∈ l, isD c = true) → k ≤ l.length → val (l.take k) < 10 ^ k
  | l, 0, _, _ => by simp [val_nil]
  | l, k + 1, h, hk => by
    obtain ⟨c, hc⟩ : ∃ c, l[k]? = some c := ⟨_, List.getElem?_eq_getElem (by omega)⟩
    have h1 := val_take l k h (by omega)
    have h2 := h c (List.mem_of_getElem? hc)
    unfold isD at h2
    simp at h2
    rw [take_snoc hc, val_snoc, Nat.pow_succ]
    omega
theorem val_lt (l : List UInt8) (h : ∀ c ∈ l, isD c = true) : val l < 10 ^ l.length := by
  have := val_take l l.length h (Nat.le_refl _)
  rwa [List.take_length] at this
theorem d_toNat {n : Nat} (h : n < 10) : (UInt8.ofNat (48 + n)).toNat = 48 + n := by simp; omega
theorem digL_isD : ∀ (n : Nat), ∀ c ∈ digL n, isD c = true := by
  intro n
  induction n using Nat.strongRecOn with
  | ind n ih =>
    intro c hc
    by_cases hn : n < 10
    · rw [digL_small hn] at hc
      simp at hc
      subst hc
      have := d_toNat hn
      unfold isD
      simp at this ⊢
      omega
    · rw [digL_big hn, List.mem_append] at hc
      rcases hc with hc | hc
      · exact ih (n / 10) (by omega) c hc
      · exact ih (n % 10) (by omega) c hc
theorem val_digL : ∀ (n : Nat), val (digL n) = n := by
  intro n
  induction n using Nat.strongRecOn with
  | ind n ih =>
    by_cases hn : n < 10
    · rw [digL_small hn, show [UInt8.ofNat (48 + n)] = [] ++ [UInt8.ofNat (48 + n)] from rfl, val_snoc, d_toNat hn, val_nil]; omega
    · rw [digL_big hn, digL_small (show n % 10 < 10 by omega), val_snoc, ih (n / 10) (by omega), d_toNat (show n % 10 < 10 by omega)]; omega
theorem digL_head : ∀ (n : Nat), (digL n).head? = some 48 → n = 0 := by
  intro n
  induction n using Nat.strongRecOn with
  | ind n ih =>
    intro h
    by_cases hn : n < 10
    · rw [digL_small hn] at h
      simp at h
      have h2 := congrArg UInt8.toNat h
      simp at h2
      omega
    · rw [digL_big hn, List.head?_append] at h
      cases hx : (digL (n / 10)).head? with
      | none => exact absurd (List.head?_eq_none_iff.1 hx) (digL_ne _)
      | some c =>
        rw [hx] at h
        have := ih (n / 10) (by omega) (hx.trans h)
        omega
theorem byte_ofNat {c : UInt8} {n : Nat} (h : n = c.toNat) : UInt8.ofNat n = c := by subst h; simp
/-- digits without a nought ahead of others are the digits of what they tell -/
theorem digL_val_go : ∀ (k : Nat) (l : List UInt8), l.length = k → l ≠ [] → (∀ c ∈ l, isD c = true) → l.head? ≠ some 48 → 1 ≤ val l ∧ digL (val l) = l := by
  intro k
  induction k with
  | zero => intro l h hne; exact absurd (List.eq_nil_of_length_eq_zero h) hne
  | succ k ih =>
    intro l hl hne hd hh
    obtain ⟨r, c, rfl⟩ : ∃ r c, l = r ++ [c] := ⟨l.dropLast, l.getLast hne, (List.dropLast_concat_getLast hne).symm⟩
    have hc := isD_iff.1 (hd c (by simp))
    rw [val_snoc]
    by_cases hr : r = []
    · subst hr
      have h48 : c.toNat ≠ 48 := fun e => hh (by
        show some c = some 48
        exact congrArg some (UInt8.toNat_inj.1 e))
      rw [val_nil]
      refine ⟨by omega, ?_⟩
      rw [digL_small (by omega), byte_ofNat (c := c) (by omega)]
      rfl
    · have hl2 : r.length = k := by simpa using hl
      have hh2 : r.head? ≠ some 48 := by
        cases r with
        | nil => exact absurd rfl hr
        | cons x r => simpa using hh
      obtain ⟨h1, h2⟩ := ih r hl2 hr (fun x hx => hd x (by simp [hx])) hh2
      refine ⟨by omega, ?_⟩
      have e1 : (10 * val r + (c.toNat - 48)) / 10 = val r := by omega
      have e2 : (10 * val r + (c.toNat - 48)) % 10 = c.toNat - 48 := by omega
      rw [digL_big (by omega), e1, e2, h2, digL_small (by omega), byte_ofNat (c := c) (by omega)]
theorem digL_val {l : List UInt8} (hne : l ≠ []) (hd : ∀ c ∈ l, isD c = true) (hh : l.head? ≠ some 48 ∨ l.length = 1) : digL (val l) = l := by
  by_cases h48 : l.head? = some 48
  · have h1 : l.length = 1 := by rcases hh with h | h; exact absurd h48 h; exact h
    match l, h1 with
    | [c], _ =>
      have hc := isD_iff.1 (hd c (by simp))
      rw [show [c] = [] ++ [c] from rfl, val_snoc, val_nil, digL_small (by omega), byte_ofNat (c := c) (by omega)]
      rfl
  · exact (digL_val_go l.length l rfl hne hd h48).2

theorem dec_eq : ∀ n, Lib.decDigits n = digL n := by
  intro n
  induction n using Nat.strongRecOn with
  | ind n ih =>
    unfold Lib.decDigits digL
    by_cases h : n < 10
    · rw [dif_pos h, if_pos h]
    · rw [dif_neg h, if_neg h, ih (n / 10) (by omega)]
def dg (z : Int) : List UInt8 := digL z.toNat

/-! ### numbers are read back -/
def atoiO (d : List UInt8) : Option Int := match Lib.atoiAll d with
  | .ok v => some v
  | _ => none
def valF (a : Nat) (l : List UInt8) : Nat := l.foldl (fun a c => 10 * a + (c.toNat - 48)) a
theorem valF_ge : ∀ (l : List UInt8) (a : Nat), a ≤ valF a l
  | [], a => Nat.le_refl _
  | c :: l, a => Nat.le_trans (by omega) (valF_ge l (10 * a + (c.toNat - 48)))
theorem parse_val : ∀ (l : List UInt8) (a : Nat), (∀ c ∈ l, isD c = true) → valF a l < 9223372036854775808 → Lib.parseUint10 a l = .ok (valF a l)
  | [], a, _, _ => rfl
  | c :: l, a, h, hv => by
    have hc := h c (List.mem_cons_self ..)
    unfold isD at hc
    simp at hc
    have hg := valF_ge l (10 * a + (c.toNat - 48))
    have hv' : valF (10 * a + (c.toNat - 48)) l < 9223372036854775808 := hv
    have e : a * 10 + (c.toNat - 48) = 10 * a + (c.toNat - 48) := by omega
    rw [Lib.parseUint10, if_pos ⟨hc.1, hc.2⟩, if_neg (by omega), if_neg (by omega), e, parse_val l _ (fun x hx => h x (List.mem_cons_of_mem _ hx)) hv']
    rfl
theorem atoi_dg {z : Int} (h0 : 0 ≤ z) (h1 : z ≤ 9223372036854775807) : atoiO (dg z) = some z := by
  unfold dg
  have hd := digL_isD z.toNat
  have hv : valF 0 (digL z.toNat) = z.toNat := val_digL z.toNat
  have hne := digL_ne z.toNat
  unfold atoiO Lib.atoiAll
  cases hl : digL z.toNat with
  | nil => exact absurd hl hne
  | cons c r =>
    rw [hl] at hd hv
    have hc := hd c (List.mem_cons_self ..)
    unfold isD at hc
    simp at hc
    have hp : Lib.parseMag (c :: r) = .ok z.toNat := by
      unfold Lib.parseMag
      rw [if_neg (by simp), parse_val _ _ hd (by rw [hv]; omega), hv]
    have h43 : c.toNat ≠ 43 := by omega
    have h45 : c.toNat ≠ 45 := by omega
    have hz : ¬ 9223372036854775808 ≤ z.toNat := by omega
    have hzz : ((z.toNat : Nat) : Int) = z := Int.toNat_of_nonneg h0
    simp [h43, h45, hp, hz, hzz]
theorem dg_isD (z : Int) : ∀ x ∈ dg z, 48 ≤ x.toNat ∧ x.toNat ≤ 57 := fun x hx => isD_iff.1 (digL_isD _ x hx)

/-! ### a number of a line -/
def numC (d : List UInt8) : Option Int := match atoiO d with
  | some z => if 0 ≤ z ∧ z ≤ 999999999999999 ∧ dg z = d then some z else none
  | none => none
theorem numC_iff {d : List UInt8} {z : Int} : numC d = some z ↔ 0 ≤ z ∧ z ≤ 999999999999999 ∧ dg z = d := by
  unfold numC
  constructor
  · intro h
    split at h
    · split at h
      · rename_i h2; injection h with h; subst h; exact h2
      · cases h
    · cases h
  · rintro ⟨h0, h1, h2⟩
    have := atoi_dg h0 (by omega)
    rw [h2] at this
    rw [this]
    simp only
    rw [if_pos ⟨h0, h1, h2⟩]
/-- the document's number: -1, where there is none -/
def refN (d : List UInt8) : Int := if 1 ≤ d.length ∧ d.length ≤ 15 ∧ ¬ (d.head? = some 48 ∧ 1 < d.length) ∧ d.all isD = true then (val d : Int) else -1
theorem ten15 : (10 : Nat) ^ (14 + 1) = 1000000000000000 := by decide
theorem refN_num (d : List UInt8) : numC d = if refN d < 0 then none else some (refN d) := by
  unfold refN
  by_cases h : 1 ≤ d.length ∧ d.length ≤ 15 ∧ ¬ (d.head? = some 48 ∧ 1 < d.length) ∧ d.all isD = true
  · rw [if_pos h, if_neg (by omega)]
    obtain ⟨h1, h2, h3, h4⟩ := h
    have hd : ∀ c ∈ d, isD c = true := List.all_eq_true.1 h4
    have hv := val_lt d hd
    have hp : 10 ^ d.length ≤ 10 ^ 15 := Nat.pow_le_pow_right (by omega) h2
    have e15 : (10 : Nat) ^ 15 = 1000000000000000 := by decide
    refine numC_iff.2 ⟨by omega, by omega, ?_⟩
    unfold dg
    rw [Int.toNat_natCast]
    refine digL_val (by intro e; subst e; simp at h1) hd ?_
    by_cases h5 : d.head? = some 48
    · exact .inr (by rcases Nat.lt_or_ge 1 d.length with h6 | h6; exact absurd ⟨h5, h6⟩ h3; omega)
    · exact .inl h5
  · rw [if_neg h, if_pos (by omega)]
    cases hn : numC d with
    | none => rfl
    | some z =>
      exfalso
      obtain ⟨h0, h1, h2⟩ := numC_iff.1 hn
      refine h ?_
      unfold dg at h2
      subst h2
      have hl := digL_len 14 z.toNat (by rw [ten15]; omega)
      have hne : (digL z.toNat).length ≠ 0 := fun e => digL_ne _ (List.eq_nil_of_length_eq_zero e)
      refine ⟨by omega, by omega, ?_, List.all_eq_true.2 (digL_isD _)⟩
      rintro ⟨h3, h4⟩
      have := digL_head _ h3
      rw [this, digL_small (by omega)] at h4
      simp at h4

/-! ### words and lines -/
def upB (c : UInt8) : UInt8 := if 97 ≤ c.toNat ∧ c.toNat ≤ 122 then c - 97 + 65 else c
def up (l : List UInt8) : List UInt8 := l.map upB
structure Fw where
  w : List UInt8
  k : Int
  a : Int
  deriving DecidableEq
def firstsL : List Fw := [⟨[77, 69, 69, 84], 1, 1⟩, ⟨[70, 79, 82, 71, 69, 84], 2, 1⟩, ⟨[65, 68, 68, 83, 76, 79, 84, 83], 3, 2⟩, ⟨[68, 69, 76, 83, 76, 79, 84, 83], 4, 2⟩, ⟨[82, 69, 80, 76, 73, 67, 65, 84, 69], 5, 1⟩,
  ⟨[84, 65, 75, 69, 79, 86, 69, 82], 6, 0⟩, ⟨[66, 85, 77, 80], 7, 0⟩, ⟨[79, 70, 70, 83, 69, 84], 8, 1⟩, ⟨[82, 69, 83, 69, 84], 9, 0⟩, ⟨[75, 69, 89, 83, 76, 79, 84], 11, 3⟩, ⟨[77, 89, 73, 68], 12, 0⟩,
  ⟨[78, 79, 68, 69, 83], 13, 0⟩, ⟨[83, 76, 79, 84, 83], 14, 0⟩, ⟨[73, 78, 70, 79], 15, 0⟩, ⟨[67, 79, 85, 78, 84], 16, 1⟩]
def noF : Fw := ⟨[], 0, 0⟩
def inW (u : List UInt8) : Option Fw := firstsL.find? fun f => f.w = u
def ofK (k : Int) : Fw := (firstsL.find? fun f => f.k = k).getD noF
theorem firsts_all : ∀ f ∈ firstsL, (∀ x ∈ f.w, 65 ≤ x.toNat ∧ x.toNat ≤ 90) ∧ up f.w = f.w ∧ ofK f.k = f ∧ (f.a = 0 ∨ f.a = 1 ∨ f.a = 2 ∨ f.a = 3) ∧ f.w ≠ [] ∧ f.w.length ≤ 9 ∧ 1 ≤ f.k ∧ f.k ≤ 16 := by decide +kernel
theorem ofK_mem (k : Int) : (ofK k ∈ firstsL ∧ (ofK k).k = k) ∨ ofK k = noF := by
  unfold ofK
  cases h : firstsL.find? fun f => f.k = k with
  | none => exact .inr rfl
  | some f => exact .inl ⟨List.mem_of_find?_eq_some h, by have := List.find?_some h; simpa using this⟩
theorem inW_mem {u : List UInt8} {f : Fw} (h : inW u = some f) : f ∈ firstsL ∧ f.w = u := ⟨List.mem_of_find?_eq_some h, by have := List.find?_some h; simpa using this⟩
theorem inW_of {f : Fw} (h : f ∈ firstsL) : inW f.w = some f := by
  revert f; decide +kernel
theorem inW_nil : inW [] = none := by decide +kernel

structure Ln where
  k : Int
  i : Int
  s : Nat
  y : List UInt8
  deriving DecidableEq
def Ln.zero : Ln := ⟨0, 0, 0, []⟩
def lineC (f : Fw) (b : List UInt8) (blank : Bool) : Option Ln :=
  if f.a = 1 then (match numC b with
    | some z => some ⟨f.k, z, 0, []⟩
    | none => none)
  else if f.a = 2 then (if (S.parseP b).2 = 0 ∧ (S.parseP b).1 ≠ 0 then some ⟨f.k, 0, (S.parseP b).1, []⟩ else none)
  else if f.a = 3 then (if blank = true then some ⟨f.k, 0, 0, b⟩ else none)
  else if blank = true then none else some ⟨f.k, 0, 0, []⟩
def lineT (a b : List UInt8) (blank : Bool) : Ln × Int := match inW (up a) with
  | none => (Ln.zero, 61)
  | some f => match lineC f b blank with
    | none => (Ln.zero, 62)
    | some l => (l, 0)
def parseC (t : List UInt8) : Ln × Int := if 8192 < t.length then (Ln.zero, 12) else lineT (cutL t 32).1 (cutL t 32).2.1 (cutL t 32).2.2

theorem cut_split : ∀ t : List UInt8, (∀ x ∈ t, x ≠ 32) ∨ ∃ a b, t = a ++ 32 :: b ∧ ∀ x ∈ a, x ≠ 32
  | [] => .inl fun x hx => by cases hx
  | c :: t => by
    by_cases hc : c = 32
    · subst hc; exact .inr ⟨[], t, rfl, fun x hx => by cases hx⟩
    · rcases cut_split t with h | ⟨a, b, rfl, h⟩
      · exact .inl fun x hx => by
          rcases List.mem_cons.1 hx with rfl | hx
          · exact hc
          · exact h x hx
      · exact .inr ⟨c :: a, b, rfl, fun x hx => by
          rcases List.mem_cons.1 hx with rfl | hx
          · exact hc
          · exact h x hx⟩
/-- a text in two: what stands ahead of its first blank, and the rest with it -/
def rest (b : List UInt8) (blank : Bool) : List UInt8 := if blank = true then 32 :: b else []
theorem cut_form (t : List UInt8) : ∃ a b blank, t = a ++ rest b blank ∧ (∀ x ∈ a, x ≠ 32) ∧ cutL t 32 = (a, b, blank) ∧ (blank = false → b = []) := by
  rcases cut_split t with h | ⟨a, b, rfl, h⟩
  · exact ⟨t, [], false, by simp [rest], h, S.cutL_none h, fun _ => rfl⟩
  · exact ⟨a, b, true, by simp [rest], h, S.cutL_at h, fun h => by cases h⟩
theorem cut_rest {a b : List UInt8} {blank : Bool} (h : ∀ x ∈ a, x ≠ 32) (hb : blank = false → b = []) : cutL (a ++ rest b blank) 32 = (a, b, blank) := by
  cases blank with
  | true => exact S.cutL_at h
  | false => rw [hb rfl]; simp only [rest]; rw [if_neg (by simp), List.append_nil]; exact S.cutL_none h

def itL (z : Int) : List UInt8 := Lib.itoa z
theorem itL_pos {z : Int} (h : 0 ≤ z) : itL z = dg z := by unfold itL Lib.itoa dg; rw [if_neg (by omega), dec_eq]
def writC (l : Ln) : List UInt8 :=
  if (ofK l.k).a = 1 then (ofK l.k).w ++ 32 :: itL l.i
  else if (ofK l.k).a = 2 then (ofK l.k).w ++ 32 :: S.txt l.s
  else if (ofK l.k).a = 3 then (ofK l.k).w ++ 32 :: l.y
  else (ofK l.k).w
def textC (l : Ln) : List UInt8 × Int := if parseC (writC l) = (l, 0) then (writC l, 0) else ([], 62)

theorem parseP_txt {t : List UInt8} (h : (S.parseP t).2 = 0) : S.txt (S.parseP t).1 = t := by
  unfold S.parseP at h ⊢
  split at h
  · rename_i h2; rw [if_pos h2]; exact h2
  · cases h
theorem parseP_lt (t : List UInt8) : (S.parseP t).1 < 18446744073709551616 := by
  unfold S.parseP
  split
  · exact S.set_lt _
  · decide
theorem parseP_nil : S.parseP [] = (0, 0) := by decide +kernel

/-- what is read of a word and what stands behind it, told again -/
theorem line_form {f : Fw} {b : List UInt8} {blank : Bool} {l : Ln} (hf : f ∈ firstsL) (h : lineC f b blank = some l) (hb : blank = false → b = []) :
    l.k = f.k ∧ writC l = f.w ++ rest b blank ∧ 0 ≤ l.i ∧ l.i ≤ 999999999999999 ∧ l.s < 18446744073709551616 ∧ l.y.length ≤ b.length := by
  obtain ⟨_, _, hk, ha, _⟩ := firsts_all f hf
  unfold lineC at h
  unfold writC
  rcases ha with ha | ha | ha | ha <;> rw [ha] at h
  · simp only [show ¬ ((0 : Int) = 1) by decide, show ¬ ((0 : Int) = 2) by decide, show ¬ ((0 : Int) = 3) by decide, if_false] at h
    split at h
    · cases h
    · rename_i h2
      injection h with h
      subst h
      refine ⟨rfl, ?_, by simp, by simp, by simp, by simp⟩
      simp only [hk, ha, rest]
      simp [h2]
  · simp only [if_true] at h
    split at h
    · rename_i z hz
      injection h with h
      subst h
      obtain ⟨h0, h1, h2⟩ := numC_iff.1 hz
      have hbl : blank = true := by
        cases blank with
        | true => rfl
        | false =>
          rw [hb rfl] at h2
          exact absurd h2 (digL_ne _)
      refine ⟨rfl, ?_, h0, h1, by simp, by simp⟩
      simp only [hk, ha, rest, hbl, if_true]
      rw [itL_pos h0, h2]
    · cases h
  · simp only [show ¬ ((2 : Int) = 1) by decide, if_false, if_true] at h
    split at h
    · rename_i h2
      injection h with h
      subst h
      have hbl : blank = true := by
        cases blank with
        | true => rfl
        | false =>
          rw [hb rfl, parseP_nil] at h2
          exact absurd rfl h2.2
      refine ⟨rfl, ?_, by simp, by simp, parseP_lt b, by simp⟩
      simp only [hk, ha, rest, hbl, if_true, show ¬ ((2 : Int) = 1) by decide, if_false]
      rw [parseP_txt h2.1]
    · cases h
  · simp only [show ¬ ((3 : Int) = 1) by decide, show ¬ ((3 : Int) = 2) by decide, if_false, if_true] at h
    split at h
    · rename_i h2
      injection h with h
      subst h
      refine ⟨rfl, ?_, by simp, by simp, by simp, Nat.le_refl _⟩
      simp only [hk, ha, rest, h2, if_true, show ¬ ((3 : Int) = 1) by decide, show ¬ ((3 : Int) = 2) by decide, if_false]
    · cases h
theorem parse_ok {t : List UInt8} {l : Ln} (h : parseC t = (l, 0)) : t.length ≤ 8192 ∧ ∃ f a b blank, f ∈ firstsL ∧ t = a ++ rest b blank ∧ (∀ x ∈ a, x ≠ 32) ∧ (blank = false → b = []) ∧ f.w = up a ∧ lineC f b blank = some l := by
  unfold parseC at h
  split at h
  · simp at h
  · rename_i hl
    obtain ⟨a, b, blank, ht, ha, hc, hb⟩ := cut_form t
    rw [hc] at h
    unfold lineT at h
    simp only at h
    cases hw : inW (up a) with
    | none => rw [hw] at h; simp at h
    | some f =>
      rw [hw] at h
      simp only at h
      obtain ⟨hf, hfw⟩ := inW_mem hw
      cases hx : lineC f b blank with
      | none => rw [hx] at h; simp at h
      | some l' =>
        rw [hx] at h
        have := congrArg Prod.fst h
        simp only at this
        subst this
        exact ⟨by omega, f, a, b, blank, hf, ht, ha, hb, hfw, hx⟩
theorem letters_no {f : Fw} (hf : f ∈ firstsL) : ∀ x ∈ f.w, x ≠ 32 := fun x hx e => by
  have := (firsts_all f hf).1 x hx
  subst e
  simp at this
theorem parse_word {f : Fw} {a b : List UInt8} {blank : Bool} (hf : f ∈ firstsL) (ha : ∀ x ∈ a, x ≠ 32) (hu : up a = f.w) (hb : blank = false → b = []) (hl : (a ++ rest b blank).length ≤ 8192) :
    parseC (a ++ rest b blank) = match lineC f b blank with
      | none => (Ln.zero, 62)
      | some l => (l, 0) := by
  unfold parseC
  rw [if_neg (by omega), cut_rest ha hb]
  unfold lineT
  simp only
  rw [hu, inW_of hf]
/-- what is read is written as a text that is read as it, and has as many bytes -/
theorem parse_back {t : List UInt8} {l : Ln} (h : parseC t = (l, 0)) : parseC (writC l) = (l, 0) ∧ (writC l).length = t.length := by
  obtain ⟨hl, f, a, b, blank, hf, rfl, ha, hb, hu, hx⟩ := parse_ok h
  obtain ⟨_, hw, _⟩ := line_form hf hx hb
  have hlen : (f.w ++ rest b blank).length = (a ++ rest b blank).length := by
    rw [hu]; simp [up]
  rw [hw]
  refine ⟨?_, hlen⟩
  rw [parse_word hf (letters_no hf) (firsts_all f hf).2.1 hb (by omega), hx]
theorem text_back {t : List UInt8} {l : Ln} (h : parseC t = (l, 0)) : textC l = (writC l, 0) := by
  unfold textC; rw [if_pos (parse_back h).1]
theorem text_ok {l : Ln} (h : (textC l).2 = 0) : textC l = (writC l, 0) ∧ parseC (writC l) = (l, 0) := by
  unfold textC at h ⊢
  split at h
  · rename_i h2; rw [if_pos h2]; exact ⟨rfl, h2⟩
  · cases h
theorem text_two (l : Ln) : (parseC (writC l) = (l, 0) ∧ textC l = (writC l, 0)) ∨ (parseC (writC l) ≠ (l, 0) ∧ textC l = ([], 62)) := by
  unfold textC
  by_cases h : parseC (writC l) = (l, 0)
  · exact .inl ⟨h, if_pos h⟩
  · exact .inr ⟨h, if_neg h⟩
theorem parse_range (t : List UInt8) : 0 ≤ (parseC t).1.i ∧ (parseC t).1.i ≤ 999999999999999 ∧ (parseC t).1.s < 18446744073709551616 ∧ (parseC t).1.y.length ≤ t.length ∧ (parseC t).1.y.length ≤ 8192 := by
  cases he : parseC t with
  | mk l e =>
    by_cases h0 : e = 0
    · subst h0
      obtain ⟨hl, f, a, b, blank, hf, rfl, ha, hb, hu, hx⟩ := parse_ok he
      obtain ⟨_, _, h1, h2, h3, h4⟩ := line_form hf hx hb
      have : b.length ≤ (a ++ rest b blank).length := by
        cases blank with
        | true => simp [rest]; omega
        | false => rw [hb rfl]; simp
      exact ⟨h1, h2, h3, by show l.y.length ≤ _; omega, by show l.y.length ≤ _; omega⟩
    · have : l = Ln.zero := by
        unfold parseC at he
        split at he
        · exact (congrArg Prod.fst he).symm
        · unfold lineT at he
          split at he
          · exact (congrArg Prod.fst he).symm
          · split at he
            · exact (congrArg Prod.fst he).symm
            · exact absurd (congrArg Prod.snd he).symm h0
      subst this
      exact ⟨by simp [Ln.zero], by simp [Ln.zero], by simp [Ln.zero], by simp [Ln.zero], by simp [Ln.zero]⟩
theorem parse_err (t : List UInt8) : (parseC t).2 ≠ 0 → (parseC t).1 = Ln.zero := by
  intro h0
  unfold parseC at h0 ⊢
  split
  · rfl
  · rename_i hl
    rw [if_neg hl] at h0
    unfold lineT at h0 ⊢
    cases h1 : inW (up (cutL t 32).1) with
    | none => rfl
    | some f =>
      rw [h1] at h0
      simp only at h0 ⊢
      cases h2 : lineC f (cutL t 32).2.1 (cutL t 32).2.2 with
      | none => rfl
      | some l =>
        rw [h2] at h0
        exact absurd rfl h0

/-! ### letters in any mixture -/
theorem up_len (l : List UInt8) : (up l).length = l.length := by simp [up]
theorem upB_low : ∀ n : Fin 256, 65 ≤ n.val → n.val ≤ 90 → upB (UInt8.ofNat n.val + 32) = UInt8.ofNat n.val ∧ UInt8.ofNat n.val + 32 ≠ 32 ∧ upB (UInt8.ofNat n.val) = UInt8.ofNat n.val ∧ UInt8.ofNat n.val ≠ 32 := by decide +kernel
theorem upB_letter {c : UInt8} (h : 65 ≤ c.toNat ∧ c.toNat ≤ 90) : upB (c + 32) = c ∧ c + 32 ≠ 32 ∧ upB c = c ∧ c ≠ 32 := by
  have := upB_low ⟨c.toNat, UInt8.toNat_lt c⟩ h.1 h.2
  simpa using this
/-! ### a word more -/
theorem txt_words {s : Nat} (hs : s < 18446744073709551616) (h0 : s ≠ 0) : ∀ x ∈ S.words (S.txt s), ∃ c ∈ x, isD c = true := by
  have hne : S.stretches s ≠ [] := fun e => h0 (by
    have := S.set_stretches hs
    rw [e] at this; exact this.symm)
  have hlt := S.canon_lt (S.canon_set hs)
  unfold S.txt
  rw [S.words_tx hne hlt]
  intro x hx
  obtain ⟨p, hp, rfl⟩ := List.mem_map.1 hx
  have hd : ∀ n, n < 64 → ∃ c ∈ S.dig n, isD c = true := by decide +kernel
  obtain ⟨c, hc, hcd⟩ := hd p.1 (hlt p hp).1
  refine ⟨c, ?_, hcd⟩
  unfold S.part
  split
  · exact hc
  · exact List.mem_append_left _ hc
theorem txt_zero : S.txt 0 = [] := by decide +kernel
theorem mem_words : ∀ (t : List UInt8) (x : List UInt8), x ∈ S.words t → ∀ c ∈ x, c ∈ t
  | [], x, hx, c, hc => by
    simp [S.words] at hx; subst hx; cases hc
  | d :: t, x, hx, c, hc => by
    rw [S.words_cons] at hx
    split at hx
    · rcases List.mem_cons.1 hx with rfl | hx
      · cases hc
      · exact List.mem_cons_of_mem _ (mem_words t x hx c hc)
    · have ih := mem_words t
      cases hw : S.words t with
      | nil => exact absurd hw (S.words_ne t)
      | cons y ys =>
        rw [hw] at hx ih
        simp only at hx
        rcases List.mem_cons.1 hx with rfl | hx
        · rcases List.mem_cons.1 hc with rfl | hc
          · exact List.mem_cons_self ..
          · exact List.mem_cons_of_mem _ (ih y (List.mem_cons_self ..) c hc)
        · exact List.mem_cons_of_mem _ (ih x (List.mem_cons_of_mem _ hx) c hc)
/-- no set has a text that ends in a blank and a word without a digit -/
theorem parseP_more {b u : List UInt8} (hu : ∀ c ∈ u, isD c = false) (h : (S.parseP (b ++ 32 :: u)).2 = 0) : False := by
  have ht := parseP_txt h
  have hlt := parseP_lt (b ++ 32 :: u)
  generalize (S.parseP (b ++ 32 :: u)).1 = s at *
  by_cases h0 : s = 0
  · subst h0
    rw [txt_zero] at ht
    simp at ht
  · have hw := txt_words hlt h0
    rw [ht, S.words_at] at hw
    cases hx : S.words u with
    | nil => exact S.words_ne u hx
    | cons x xs =>
      obtain ⟨c, hc, hd⟩ := hw x (by rw [hx]; simp)
      have := hu c (mem_words u x (by rw [hx]; simp) c hc)
      rw [hd] at this; cases this
theorem more_none {f : Fw} {b u : List UInt8} {blank : Bool} {l : Ln} (hf : f ∈ firstsL) (ha : f.a ≠ 3) (hu : ∀ c ∈ u, isD c = false) (h : lineC f b blank = some l) (hb : blank = false → b = []) :
    lineC f (if blank = true then b ++ 32 :: u else u) true = none := by
  obtain ⟨_, _, hk, h4, _⟩ := firsts_all f hf
  unfold lineC at h ⊢
  rcases h4 with h4 | h4 | h4 | h4 <;> rw [h4] at h ⊢
  · rfl
  · simp only [if_true] at h ⊢
    have hbl : blank = true := by
      cases blank with
      | true => rfl
      | false =>
        rw [hb rfl] at h
        have hn : numC [] = none := by
          cases hx : numC [] with
          | none => rfl
          | some z => exact absurd (numC_iff.1 hx).2.2 (digL_ne _)
        rw [hn] at h; cases h
    rw [if_pos hbl]
    cases hx : numC (b ++ 32 :: u) with
    | none => rfl
    | some z =>
      exfalso
      have h1 := (numC_iff.1 hx).2.2
      have h2 := dg_isD z 32 (by rw [h1]; simp)
      simp at h2
  · simp only [show ¬ ((2 : Int) = 1) by decide, if_false, if_true] at h ⊢
    rw [if_neg]
    rintro ⟨h1, h2⟩
    split at h1
    · exact parseP_more hu h1
    · rename_i hbl
      have hbl' : blank = false := by simpa using hbl
      rw [hb hbl', parseP_nil] at h
      simp at h
  · exact absurd h4 ha
end Go.Proofs.YtogaaomedfpdnaaDoor
