/-
  WHAT IS PROVED: plain facts on numerals: two numbers with one numeral are one; two lists with one text are one; what clashes. No condition.
-/
import Derived.Test.YtemokbggchodgaaDoorEv
import Derived.Lib.ItoaNum
import Derived.Lib.ItoaLen
namespace Go.Proofs.YtemokbggchodgaaDoor
open Go.Lib (itoa decDigits)

def val (l : List UInt8) : Nat := l.foldl (fun v c => v * 10 + (c.toNat - 48)) 0
theorem val_snoc (l : List UInt8) (c : UInt8) : val (l ++ [c]) = val l * 10 + (c.toNat - 48) := by unfold val; rw [List.foldl_append]; rfl
theorem dig_nat {n : Nat} (h : n < 10) : (UInt8.ofNat (48 + n)).toNat = 48 + n := by simp; omega
theorem val_dec (u : Nat) : val (decDigits u) = u := by
  induction u using Nat.strongRecOn with
  | ind u ih =>
    rw [decDigits]
    split
    · rename_i h
      have := dig_nat h
      show 0 * 10 + ((UInt8.ofNat (48 + u)).toNat - 48) = u
      omega
    · rename_i h
      have := dig_nat (Nat.mod_lt u (by omega : 10 > 0))
      rw [val_snoc, ih (u / 10) (by omega)]
      omega
theorem dec_digit (u : Nat) : ∀ c ∈ decDigits u, 48 ≤ c.toNat ∧ c.toNat ≤ 57 := by
  induction u using Nat.strongRecOn with
  | ind u ih =>
    intro c hc
    rw [decDigits] at hc
    split at hc
    · rename_i h
      have := dig_nat h
      rw [List.mem_singleton.1 hc]
      omega
    · rename_i h
      rcases List.mem_append.1 hc with hc | hc
      · exact ih (u / 10) (by omega) c hc
      · have := dig_nat (Nat.mod_lt u (by omega : 10 > 0))
        have hlt := Nat.mod_lt u (by omega : 10 > 0)
        rw [List.mem_singleton.1 hc]
        omega
theorem itoa_no (z : Int) : ∀ c ∈ itoa z, c ≠ 32 := by
  intro c hc e
  have h32 : (32 : UInt8).toNat = 32 := rfl
  unfold itoa at hc
  split at hc
  · rcases List.mem_cons.1 hc with h | h
    · rw [e] at h; exact absurd h (by decide)
    · have := dec_digit _ c h
      rw [e] at this; omega
  · have := dec_digit _ c hc
    rw [e] at this; omega
theorem itoa_inj {x y : Int} (h : itoa x = itoa y) : x = y := by
  have h45 : (45 : UInt8).toNat = 45 := rfl
  unfold itoa at h
  split at h
  · split at h
    · injection h with _ h
      have := congrArg val h
      rw [val_dec, val_dec] at this
      omega
    · have := dec_digit y.toNat 45 (by rw [← h]; simp)
      omega
  · split at h
    · have := dec_digit x.toNat 45 (by rw [h]; simp)
      omega
    · have := congrArg val h
      rw [val_dec, val_dec] at this
      omega
/-- the text of a list -/
def tx (l : List Int) : List UInt8 := l.flatMap fun z => itoa z ++ [32]
theorem tx_more {l : List Int} {k : Nat} {z : Int} (h : l[k]? = some z) : tx (l.take (k + 1)) = tx (l.take k) ++ itoa z ++ [32] := by
  unfold tx
  rw [List.take_add_one, h, List.flatMap_append, List.append_assoc]
  simp
theorem tx_len : ∀ {l : List Int}, (∀ z ∈ l, inI z) → (tx l).length ≤ 22 * l.length
  | [], _ => by simp [tx]
  | z :: l, h => by
    have ih := tx_len (l := l) (fun x hx => h x (List.mem_cons_of_mem _ hx))
    have hz := h z List.mem_cons_self
    have := Go.Lib.itoa_length_le z hz.1 hz.2
    unfold tx at ih ⊢
    simp at ih ⊢
    omega
theorem split_inj : ∀ (a b r s : List UInt8), (∀ c ∈ a, c ≠ 32) → (∀ c ∈ b, c ≠ 32) → a ++ 32 :: r = b ++ 32 :: s → a = b ∧ r = s
  | [], [], r, s, _, _, h => by simp at h; exact ⟨rfl, h⟩
  | [], y :: b, r, s, _, hb, h => by simp at h; exact absurd h.1.symm (hb y List.mem_cons_self)
  | x :: a, [], r, s, ha, _, h => by simp at h; exact absurd h.1 (ha x List.mem_cons_self)
  | x :: a, y :: b, r, s, ha, hb, h => by
    simp at h
    obtain ⟨h1, h2⟩ := split_inj a b r s (fun c hc => ha c (List.mem_cons_of_mem _ hc)) (fun c hc => hb c (List.mem_cons_of_mem _ hc)) h.2
    exact ⟨by rw [h.1, h1], h2⟩
theorem tx_cons (z : Int) (l : List Int) : tx (z :: l) = itoa z ++ 32 :: tx l := by unfold tx; simp
theorem tx_inj : ∀ {l m : List Int}, tx l = tx m → l = m
  | [], [], _ => rfl
  | [], y :: m, h => by rw [tx_cons] at h; simp [tx] at h
  | x :: l, [], h => by rw [tx_cons] at h; simp [tx] at h
  | x :: l, y :: m, h => by
    rw [tx_cons, tx_cons] at h
    obtain ⟨h1, h2⟩ := split_inj _ _ _ _ (itoa_no x) (itoa_no y) h
    rw [itoa_inj h1, tx_inj h2]

/-! ### what clashes -/
/-- o won ahead what e wins -/
def clB (o e : Ev) : Bool := (e.kind == 3) && ((o.kind == 3) && ((e.epoch == o.epoch) && ((e.by_ != o.by_) && (e.who == o.who))))
def cl (l : List Ev) (b : Nat) : Bool := (l[b]?).any fun e => (l.take b).any fun o => clB o e
def cA (l : List Ev) (b : Nat) : Int := firstF (fun a => (l[b]?).any fun e => (l[a]?).any fun o => clB o e) b 0
def ansB (l : List Ev) (N : Nat) : Int := firstF (cl l) N 0
def ansA (l : List Ev) (N : Nat) : Int := if ansB l N = -1 then -1 else cA l (ansB l N).toNat
/-- the first of a poll -/
def pollB (x : Int) (t : List UInt8) (o : Ev) : Bool := (o.kind == 3) && ((o.epoch == x) && (tx o.who == t))
def fP (l : List Ev) (x : Int) (t : List UInt8) : Option Nat := l.findIdx? (pollB x t)
theorem firstF_upto {p : Nat → Bool} {N : Nat} : ∀ {k : Nat}, k ≤ N → (∀ i, i < k → p i = false) → firstF p N 0 = firstF p (N - k) k
  | 0, _, _ => rfl
  | k + 1, hk, h => by
    rw [firstF_upto (k := k) (by omega) (fun i hi => h i (by omega)), firstF_no (by omega) (h k (by omega))]
theorem firstF_hit {p : Nat → Bool} {N k : Nat} (hk : k < N) (h : ∀ i, i < k → p i = false) (hy : p k = true) : firstF p N 0 = (k : Int) := by
  rw [firstF_upto (Nat.le_of_lt hk) h, firstF_yes hk hy]
theorem firstF_miss {p : Nat → Bool} {N : Nat} (h : ∀ i, i < N → p i = false) : firstF p N 0 = -1 := by
  rw [firstF_upto (Nat.le_refl N) h, firstF_end]
theorem cl_at {l : List Ev} {b : Nat} {e : Ev} (h : l[b]? = some e) : cl l b = (l.take b).any fun o => clB o e := by unfold cl; rw [h]; rfl
theorem any_take {l : List Ev} {b : Nat} {p : Ev → Bool} : (l.take b).any p = true ↔ ∃ a o, a < b ∧ l[a]? = some o ∧ p o = true := by
  rw [List.any_eq_true]
  constructor
  · rintro ⟨o, ho, hp⟩
    obtain ⟨a, ha⟩ := List.getElem?_of_mem ho
    rw [List.getElem?_take] at ha
    by_cases h : a < b
    · rw [if_pos h] at ha; exact ⟨a, o, h, ha, hp⟩
    · rw [if_neg h] at ha; cases ha
  · rintro ⟨a, o, h, ha, hp⟩
    exact ⟨o, List.mem_of_getElem? (i := a) (by rw [List.getElem?_take, if_pos h]; exact ha), hp⟩
/-- the law's two loops find it -/
theorem ans_hit {l : List Ev} {N b a : Nat} {e o : Ev} (hb : b < N) (he : l[b]? = some e) (ho : l[a]? = some o) (hab : a < b) (h : ∀ i, i < b → cl l i = false) (hA : ∀ i q, i < a → l[i]? = some q → clB q e = false) (hc : clB o e = true) (hlen : l.length = N) :
    ansB l N = (b : Int) ∧ ansA l N = (a : Int) := by
  have h1 : ansB l N = (b : Int) := firstF_hit hb h (by rw [cl_at he, any_take]; exact ⟨a, o, hab, ho, hc⟩)
  refine ⟨h1, ?_⟩
  unfold ansA
  rw [h1, if_neg (by omega), Int.toNat_natCast]
  refine firstF_hit hab (fun i hi => ?_) (by rw [he, ho]; exact hc)
  have hi' : i < l.length := by omega
  rw [he, List.getElem?_eq_getElem hi']
  exact hA i _ hi (List.getElem?_eq_getElem hi')
theorem ans_miss {l : List Ev} {N : Nat} (h : ∀ i, i < N → cl l i = false) : ansB l N = -1 ∧ ansA l N = -1 := by
  have h1 : ansB l N = -1 := firstF_miss h
  exact ⟨h1, by unfold ansA; rw [if_pos h1]⟩
theorem fP_some {l : List Ev} {b a : Nat} {x : Int} {t : List UInt8} (h : fP (l.take b) x t = some a) : a < b ∧ ∃ o, l[a]? = some o ∧ pollB x t o = true ∧ ∀ i q, i < a → l[i]? = some q → pollB x t q = false := by
  unfold fP at h
  rw [List.findIdx?_eq_some_iff_getElem] at h
  obtain ⟨h1, h2, h3⟩ := h
  have hb : a < b := by rw [List.length_take] at h1; omega
  have hl : a < l.length := by rw [List.length_take] at h1; omega
  refine ⟨hb, l[a], List.getElem?_eq_getElem hl, by simpa using h2, fun i q hi hq => ?_⟩
  have := h3 i hi
  have hil : i < l.length := by omega
  rw [List.getElem?_eq_getElem hil] at hq
  injection hq with hq
  rw [← hq]
  simpa using this
theorem fP_none {l : List Ev} {b : Nat} {x : Int} {t : List UInt8} (h : fP (l.take b) x t = none) : ∀ i q, i < b → l[i]? = some q → pollB x t q = false := by
  unfold fP at h
  rw [List.findIdx?_eq_none_iff] at h
  intro i q hi hq
  exact h q (List.mem_of_getElem? (i := i) (by rw [List.getElem?_take, if_pos hi]; exact hq))
theorem cl_poll {o e : Ev} (h3 : (e.kind == 3) = true) : clB o e = (pollB e.epoch (tx e.who) o && (e.by_ != o.by_)) := by
  unfold clB pollB
  rw [h3]
  have h1 : (e.epoch == o.epoch) = (o.epoch == e.epoch) := by rw [Bool.eq_iff_iff, beq_iff_eq, beq_iff_eq]; exact eq_comm
  have h2 : (e.who == o.who) = (tx o.who == tx e.who) := by
    rw [Bool.eq_iff_iff, beq_iff_eq, beq_iff_eq]
    exact ⟨fun h => by rw [h], fun h => (tx_inj h).symm⟩
  rw [h1, h2]
  cases (o.kind == 3) <;> cases (o.epoch == e.epoch) <;> cases (tx o.who == tx e.who) <;> cases (e.by_ != o.by_) <;> rfl
/-- what the program's map tells at place b -/
theorem clash_none {l : List Ev} {b : Nat} {e : Ev} (he : l[b]? = some e) (h3 : (e.kind == 3) = true) (h : fP (l.take b) e.epoch (tx e.who) = none) : cl l b = false := by
  rw [cl_at he, Bool.eq_false_iff]
  intro hc
  obtain ⟨a, o, hab, ho, hc⟩ := any_take.1 hc
  rw [cl_poll h3, fP_none h a o hab ho] at hc
  cases hc
theorem clash_same {l : List Ev} {b a : Nat} {e o : Ev} (he : l[b]? = some e) (h3 : (e.kind == 3) = true) (hno : ∀ i, i < b → cl l i = false) (h : fP (l.take b) e.epoch (tx e.who) = some a) (ho : l[a]? = some o) (hby : o.by_ = e.by_) : cl l b = false := by
  obtain ⟨hab, o', ho', hp, hf⟩ := fP_some h
  obtain rfl : o = o' := by rw [ho] at ho'; injection ho'
  rw [cl_at he, Bool.eq_false_iff]
  intro hc
  obtain ⟨i, q, hib, hq, hc⟩ := any_take.1 hc
  rw [cl_poll h3, Bool.and_eq_true] at hc
  obtain ⟨hc1, hc2⟩ := hc
  have hai : a < i := by
    rcases Nat.lt_trichotomy i a with hlt | rfl | hlt
    · rw [hf i q hlt hq] at hc1; cases hc1
    · rw [ho] at hq; injection hq with hq; rw [← hq, hby] at hc2; simp at hc2
    · exact hlt
  have hcl := hno i hib
  rw [cl_at hq, Bool.eq_false_iff] at hcl
  refine hcl (any_take.2 ⟨a, o, hai, ho, ?_⟩)
  have hqk : (q.kind == 3) = true := by unfold pollB at hc1; rw [Bool.and_eq_true] at hc1; exact hc1.1
  rw [cl_poll hqk]
  unfold pollB at hp hc1 ⊢
  simp only [Bool.and_eq_true, beq_iff_eq, bne_iff_ne] at hp hc1 hc2 ⊢
  exact ⟨⟨hp.1, hp.2.1.trans hc1.2.1.symm, hp.2.2.trans hc1.2.2.symm⟩, fun hh => hc2 (by rw [← hby, ← hh])⟩
theorem clash_other {l : List Ev} {N b a : Nat} {e o : Ev} (hb : b < N) (hlen : l.length = N) (he : l[b]? = some e) (h3 : (e.kind == 3) = true) (hno : ∀ i, i < b → cl l i = false) (h : fP (l.take b) e.epoch (tx e.who) = some a) (ho : l[a]? = some o) (hby : o.by_ ≠ e.by_) :
    ansB l N = (b : Int) ∧ ansA l N = (a : Int) := by
  obtain ⟨hab, o', ho', hp, hf⟩ := fP_some h
  obtain rfl : o = o' := by rw [ho] at ho'; injection ho'
  refine ans_hit hb he ho hab hno (fun i q hi hq => by rw [cl_poll h3, hf i q hi hq]; rfl) ?_ hlen
  rw [cl_poll h3, hp]
  simpa using fun hh => hby hh.symm
theorem fP_more {l : List Ev} {k : Nat} {e : Ev} (h : l[k]? = some e) (x : Int) (t : List UInt8) : fP (l.take (k + 1)) x t = (fP (l.take k) x t).or (if pollB x t e then some k else none) := by
  have hk : k < l.length := (List.getElem?_eq_some_iff.1 h).1
  have hl : (l.take k).length = k := by rw [List.length_take]; omega
  unfold fP
  rw [take_more h]
  clear h
  generalize l.take k = m at hl
  rw [List.findIdx?_append]
  subst hl
  congr 1
  cases hp : pollB x t e <;> simp [List.findIdx?_cons, hp]
theorem fP_win {l : List Ev} {k : Nat} {e : Ev} (h : l[k]? = some e) (h3 : (e.kind == 3) = false) (x : Int) (t : List UInt8) : fP (l.take (k + 1)) x t = fP (l.take k) x t := by
  rw [fP_more h]
  have : pollB x t e = false := by unfold pollB; rw [h3]; rfl
  rw [this]
  simp
/-! ### a beginning -/
theorem cl_take {l : List Ev} {n i : Nat} (h : i < n) : cl (l.take n) i = cl l i := by unfold cl; rw [take_get h, take_take' h]
theorem cA_take {l : List Ev} {n b : Nat} (h : b < n) : cA (l.take n) b = cA l b := by
  unfold cA
  refine firstF_congr b 0 (fun i _ hi => ?_)
  rw [take_get h, take_get (by omega)]
/-- of two lists, of which one is the other's beginning -/
theorem cut_one {p q : Nat → Bool} {n N : Nat} (hn : n ≤ N) (h : ∀ i, i < n → q i = p i) : (firstF q n 0 = -1 ∧ (firstF p N 0 = -1 ∨ (n : Int) ≤ firstF p N 0)) ∨ (firstF q n 0 ≠ -1 ∧ firstF q n 0 = firstF p N 0) := by
  have e1 : firstF q n 0 = firstF p n 0 := firstF_congr n 0 (fun i _ hi => h i (by omega))
  have e2 := firstF_more p n (N - n) 0
  rw [show n + (N - n) = N by omega] at e2
  by_cases hx : firstF p n 0 = -1
  · refine .inl ⟨e1.trans hx, ?_⟩
    rw [if_pos hx] at e2
    rw [e2]
    rcases firstF_range p (N - n) (0 + n) with h1 | ⟨i, h1, _, _, h2⟩
    · exact .inl h1
    · exact .inr (by rw [h2]; omega)
  · refine .inr ⟨by rw [e1]; exact hx, ?_⟩
    rw [if_neg hx] at e2
    rw [e1, e2]
theorem cut_two {l : List Ev} {n N : Nat} (hn : n ≤ N) : (ansB (l.take n) n = -1 ∧ ansA (l.take n) n = -1 ∧ (ansB l N = -1 ∨ (n : Int) ≤ ansB l N)) ∨ (ansB (l.take n) n ≠ -1 ∧ ansA (l.take n) n = ansA l N ∧ ansB (l.take n) n = ansB l N) := by
  rcases cut_one (p := cl l) (q := cl (l.take n)) hn (fun i hi => cl_take hi) with ⟨h1, h2⟩ | ⟨h1, h2⟩
  · exact .inl ⟨h1, by unfold ansA; rw [if_pos (show ansB (l.take n) n = -1 from h1)], h2⟩
  · refine .inr ⟨h1, ?_, h2⟩
    have h2' : ansB (l.take n) n = ansB l N := h2
    have h1' : ansB l N ≠ -1 := by rw [← h2']; exact h1
    unfold ansA
    rw [h2', if_neg h1', if_neg h1']
    rcases firstF_range (cl (l.take n)) n 0 with h3 | ⟨i, _, h3, _, h4⟩
    · exact absurd h3 h1
    · have h5 : ansB l N = (i : Int) := by rw [← h2']; exact h4
      rw [h5, Int.toNat_natCast, cA_take (by omega)]
end Go.Proofs.YtemokbggchodgaaDoor
