/-
  WHAT IS PROVED: plain facts on events: what was done twice, what clashes, what is unfounded; the first place where something holds. No condition.
-/
import Derived.Test.YtemokbggchodgaaDoorBase
namespace Go.Proofs.YtemokbggchodgaaDoor

/-- an event as it lies in memory -/
structure Ev where
  kind : Int
  by_ : Int
  about : Int
  epoch : Int
  A : Option Addr
  n : Nat
  c : Nat
  who : List Int
def inI (x : Int) : Prop := -9223372036854775808 ≤ x ∧ x ≤ 9223372036854775807

/-! ### the first place at which p holds, of m places from k on -/
def firstF (p : Nat → Bool) : Nat → Nat → Int
  | 0, _ => -1
  | m + 1, k => if p k then (k : Int) else firstF p m (k + 1)
theorem firstF_yes {p : Nat → Bool} {N k : Nat} (hk : k < N) (h : p k = true) : firstF p (N - k) k = (k : Int) := by
  obtain ⟨m, hm⟩ : ∃ m, N - k = m + 1 := ⟨N - k - 1, by omega⟩
  rw [hm]
  show (if p k then (k : Int) else _) = _
  rw [if_pos h]
theorem firstF_no {p : Nat → Bool} {N k : Nat} (hk : k < N) (h : p k = false) : firstF p (N - k) k = firstF p (N - (k + 1)) (k + 1) := by
  obtain ⟨m, hm⟩ : ∃ m, N - k = m + 1 := ⟨N - k - 1, by omega⟩
  rw [hm, show N - (k + 1) = m by omega]
  show (if p k then (k : Int) else _) = _
  rw [h]
  rfl
theorem firstF_end (p : Nat → Bool) (N : Nat) : firstF p (N - N) N = -1 := by rw [Nat.sub_self]; rfl
theorem firstF_congr {p q : Nat → Bool} : ∀ (m k : Nat), (∀ i, k ≤ i → i < k + m → p i = q i) → firstF p m k = firstF q m k
  | 0, _, _ => rfl
  | m + 1, k, h => by
    show (if p k then (k : Int) else firstF p m (k + 1)) = (if q k then (k : Int) else firstF q m (k + 1))
    rw [h k (Nat.le_refl _) (by omega), firstF_congr m (k + 1) (fun i h1 h2 => h i (by omega) (by omega))]
theorem firstF_range (p : Nat → Bool) : ∀ (m k : Nat), firstF p m k = -1 ∨ ∃ i, k ≤ i ∧ i < k + m ∧ p i = true ∧ firstF p m k = (i : Int)
  | 0, _ => .inl rfl
  | m + 1, k => by
    show (if p k then (k : Int) else firstF p m (k + 1)) = -1 ∨ ∃ i, k ≤ i ∧ i < k + (m + 1) ∧ p i = true ∧ (if p k then (k : Int) else firstF p m (k + 1)) = (i : Int)
    by_cases h : p k = true
    · exact .inr ⟨k, Nat.le_refl _, by omega, h, by rw [if_pos h]⟩
    · rw [if_neg h]
      rcases firstF_range p m (k + 1) with e | ⟨i, h1, h2, h3, e⟩
      · exact .inl e
      · exact .inr ⟨i, by omega, by omega, h3, e⟩
theorem firstF_none {p : Nat → Bool} : ∀ {m k : Nat}, firstF p m k = -1 → ∀ i, k ≤ i → i < k + m → p i = false
  | 0, _, _, i, h1, h2 => by omega
  | m + 1, k, h, i, h1, h2 => by
    have h' : (if p k then (k : Int) else firstF p m (k + 1)) = -1 := h
    by_cases hp : p k = true
    · rw [if_pos hp] at h'; omega
    · rw [if_neg hp] at h'
      by_cases e : i = k
      · rw [e]; simpa using hp
      · exact firstF_none h' i (by omega) (by omega)
/-- more places: the same, or one behind -/
theorem firstF_more (p : Nat → Bool) : ∀ (m d k : Nat), firstF p (m + d) k = if firstF p m k = -1 then firstF p d (k + m) else firstF p m k
  | 0, d, k => by rw [Nat.zero_add]; show _ = if (-1 : Int) = -1 then _ else _; rw [if_pos rfl]; rfl
  | m + 1, d, k => by
    rw [show m + 1 + d = (m + d) + 1 by omega]
    show (if p k then (k : Int) else firstF p (m + d) (k + 1)) = if (if p k then (k : Int) else firstF p m (k + 1)) = -1 then firstF p d (k + (m + 1)) else (if p k then (k : Int) else firstF p m (k + 1))
    by_cases h : p k = true
    · rw [if_pos h, if_pos h, if_neg (by omega)]
    · rw [if_neg h, if_neg h, firstF_more p m d (k + 1), show k + 1 + m = k + (m + 1) by omega]

/-! ### twice -/
def actB (e : Ev) : Bool := (e.kind == 1) || (e.kind == 3)
/-- somebody did it in this epoch: kind, by, epoch -/
def didB (l : List Ev) (a b c : Int) : Bool := l.any fun o => actB o && ((o.kind == a) && ((o.by_ == b) && (o.epoch == c)))
def hitT (l : List Ev) (i : Nat) : Bool := (l[i]?).any fun e => actB e && didB (l.take i) e.kind e.by_ e.epoch
theorem hitT_at {l : List Ev} {i : Nat} {e : Ev} (h : l[i]? = some e) : hitT l i = (actB e && didB (l.take i) e.kind e.by_ e.epoch) := by unfold hitT; rw [h]; rfl
theorem take_more {l : List Ev} {k : Nat} {e : Ev} (h : l[k]? = some e) : l.take (k + 1) = l.take k ++ [e] := by rw [List.take_add_one, h]; rfl
theorem didB_more {l : List Ev} {k : Nat} {e : Ev} (h : l[k]? = some e) (a b c : Int) : didB (l.take (k + 1)) a b c = (didB (l.take k) a b c || (actB e && ((e.kind == a) && ((e.by_ == b) && (e.epoch == c))))) := by
  rw [take_more h]; unfold didB; rw [List.any_append]; simp
/-- what the law asks of one ahead -/
def sameT (o e : Ev) : Bool := (o.kind == e.kind) && ((o.by_ == e.by_) && ((o.epoch == e.epoch) && actB o))
theorem did_same {l : List Ev} {e : Ev} : (l.any fun o => sameT o e) = (actB e && didB l e.kind e.by_ e.epoch) := by
  unfold didB
  induction l with
  | nil => simp
  | cons x l ih =>
    rw [List.any_cons, List.any_cons, ih]
    unfold sameT
    by_cases hk : x.kind = e.kind
    · have : actB x = actB e := by unfold actB; rw [hk]
      rw [this]
      cases actB e <;> simp
    · have : (x.kind == e.kind) = false := by simpa using hk
      rw [this]
      simp

/-! ### unfounded -/
def gaveB (l : List Ev) (a b c : Int) : Bool := l.any fun o => (o.kind == 1) && ((o.by_ == a) && ((o.about == b) && (o.epoch == c)))
def cntV (l : List Ev) (e : Ev) (m : Nat) : Nat := (e.who.take m).countP fun v => gaveB l v e.by_ e.epoch
def badW (l : List Ev) (i : Nat) : Bool := (l[i]?).any fun e => (e.kind == 3) && decide (2 * cntV (l.take i) e e.who.length ≤ e.who.length)
theorem badW_at {l : List Ev} {i : Nat} {e : Ev} (h : l[i]? = some e) : badW l i = ((e.kind == 3) && decide (2 * cntV (l.take i) e e.who.length ≤ e.who.length)) := by unfold badW; rw [h]; rfl
theorem gaveB_more {l : List Ev} {k : Nat} {e : Ev} (h : l[k]? = some e) (a b c : Int) : gaveB (l.take (k + 1)) a b c = (gaveB (l.take k) a b c || ((e.kind == 1) && ((e.by_ == a) && ((e.about == b) && (e.epoch == c))))) := by
  rw [take_more h]; unfold gaveB; rw [List.any_append]; simp
theorem cntV_le (l : List Ev) (e : Ev) (m : Nat) : cntV l e m ≤ m := by
  unfold cntV
  exact Nat.le_trans List.countP_le_length (by rw [List.length_take]; exact Nat.min_le_left _ _)
theorem cntV_more {l : List Ev} {e : Ev} {m : Nat} {v : Int} (h : e.who[m]? = some v) : cntV l e (m + 1) = cntV l e m + (if gaveB l v e.by_ e.epoch then 1 else 0) := by
  unfold cntV
  rw [List.take_add_one, h, List.countP_append]
  simp

/-! ### a beginning -/
theorem take_get {l : List Ev} {n i : Nat} (h : i < n) : (l.take n)[i]? = l[i]? := by rw [List.getElem?_take, if_pos h]
theorem take_take' {l : List Ev} {n i : Nat} (h : i < n) : (l.take n).take i = l.take i := by rw [List.take_take, Nat.min_eq_left (Nat.le_of_lt h)]
theorem hitT_take {l : List Ev} {n i : Nat} (h : i < n) : hitT (l.take n) i = hitT l i := by unfold hitT; rw [take_get h, take_take' h]
theorem badW_take {l : List Ev} {n i : Nat} (h : i < n) : badW (l.take n) i = badW l i := by unfold badW; rw [take_get h, take_take' h]
theorem hitT_append {l m : List Ev} {i : Nat} (h : i < l.length) : hitT (l ++ m) i = hitT l i := by
  have : (l ++ m).take l.length = l := by simp
  have h2 := hitT_take (l := l ++ m) (n := l.length) h
  rw [this] at h2
  exact h2.symm

end Go.Proofs.YtemokbggchodgaaDoor
