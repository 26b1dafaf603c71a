/-
  WHAT IS PROVED: how masters with one Config come to unlike ones: what each has at each step of the law's rounds. Condition: none; nothing of the program is named here.
-/
import Derived.Test.YtckdibnadokipaaCases
namespace Go.Proofs.Ytckdibnadokipaa
open Go.RowKit Go.Lib

/-- the Config of the j-th, in round r, where the i-th hears the k-th next -/
def cfA (n : Nat) (C : Int) (r i k j : Nat) : Int := if j + 1 < n ∧ (0 < r ∨ j < i ∨ (j = i ∧ i + 1 < k)) then C + j + 1 else C
/-- its Current in the first round -/
def cuA (n : Nat) (C : Int) (i k j : Nat) : Int := if j < i then (if j + 1 < n then C + j + 1 else C + j) else if j = i then (if i + 1 < k then C + i + 1 else if k ≤ i then C + k else C + i) else C
def Fine (n : Nat) (C : Int) (e : Ep) : Prop := e.vote = 0 ∧ 0 ≤ e.conf ∧ e.conf ≤ e.cur ∧ e.cur ≤ C + n
structure Inv (n : Nat) (C : Int) (r i k : Nat) (l : List Ep) : Prop where
  len : l.length = n
  all : ∀ j e, l[j]? = some e → Fine n C e ∧ e.conf = cfA n C r i k j ∧ (r = 0 → e.cur = cuA n C i k j)

section
variable {n r i k : Nat} {C : Int} {l : List Ep} {a b : Ep}
theorem Inv.start (hl : l.length = n) (h : ∀ j, j < n → l[j]? = some ⟨C, 0, C⟩) (c0 : 0 ≤ C) : Inv n C 0 0 0 l := by
  refine ⟨hl, fun j e he => ?_⟩
  have hj : j < n := by have := (List.getElem?_eq_some_iff.1 he).1; omega
  rw [h j hj] at he
  cases he
  refine ⟨⟨rfl, c0, Int.le_refl _, by simp; omega⟩, ?_, fun _ => ?_⟩
  · show C = _
    unfold cfA
    rw [if_neg (by omega)]
  · show C = _
    unfold cuA
    rw [if_neg (by omega)]
    split
    · rw [if_neg (by omega), if_pos (by omega)]; omega
    · rfl
theorem Inv.next (h : Inv n C r i n l) : Inv n C r (i + 1) 0 l := by
  refine ⟨h.len, fun j e he => ?_⟩
  have hj : j < n := by have := (List.getElem?_eq_some_iff.1 he).1; have := h.len; omega
  obtain ⟨h1, h2, h3⟩ := h.all j e he
  refine ⟨h1, ?_, fun hr => ?_⟩
  · rw [h2]; unfold cfA
    split <;> split <;> omega
  · rw [h3 hr]; unfold cuA
    repeat' split
    all_goals omega
theorem Inv.again (h : Inv n C r n 0 l) : Inv n C (r + 1) 0 0 l := by
  refine ⟨h.len, fun j e he => ?_⟩
  have hj : j < n := by have := (List.getElem?_eq_some_iff.1 he).1; have := h.len; omega
  obtain ⟨h1, h2, h3⟩ := h.all j e he
  refine ⟨h1, ?_, fun hr => by omega⟩
  rw [h2]; unfold cfA
  split <;> split <;> omega
/-- who yields: the next one, in the first round -/
theorem Inv.who (h : Inv n C r i k l) (hi : i < n) (ha : l[i]? = some a) (hb : l[k]? = some b) : (a.conf = b.conf ∧ ((i : Int) + 1 < (k : Int) + 1)) ↔ (r = 0 ∧ k = i + 1) := by
  have hk : k < n := by have := (List.getElem?_eq_some_iff.1 hb).1; have := h.len; omega
  obtain ⟨_, h2, _⟩ := h.all i a ha
  obtain ⟨_, g2, _⟩ := h.all k b hb
  rw [h2, g2]
  unfold cfA
  split <;> split <;> omega
theorem Inv.see (h : Inv n C r i k l) (c0 : 0 ≤ C) (c1 : C ≤ 1099511627776) (hn : n ≤ 8) (ha : l[i]? = some a) (hb : l[k]? = some b) :
    seeE a b.cur = ⟨max a.cur b.cur, 0, a.conf⟩ ∧ seeF a b.cur = 0 := by
  obtain ⟨⟨a1, a2, a3, a4⟩, _⟩ := h.all i a ha
  obtain ⟨⟨b1, b2, b3, b4⟩, _⟩ := h.all k b hb
  have ht : takesB a b.cur = true := takes_iff.2 ⟨ok_iff.2 (by omega), by omega, by omega⟩
  obtain ⟨e1, e2⟩ := see_yes ht
  rw [e1, a1]
  exact ⟨rfl, e2⟩
theorem Inv.bump (h : Inv n C r i k l) (c0 : 0 ≤ C) (c1 : C ≤ 1099511627776) (hn : n ≤ 8) (ha : l[i]? = some a) (hb : l[k]? = some b) :
    bumpE ⟨max a.cur b.cur, 0, a.conf⟩ = ⟨max a.cur b.cur + 1, 0, max a.cur b.cur + 1⟩ ∧ bumpF ⟨max a.cur b.cur, 0, a.conf⟩ = 0 := by
  obtain ⟨⟨a1, a2, a3, a4⟩, _⟩ := h.all i a ha
  obtain ⟨⟨b1, b2, b3, b4⟩, _⟩ := h.all k b hb
  exact bump_yes (ok_iff.2 (by simp; omega)) (by simp; omega)
theorem set_all {x : Ep} {P : Nat → Ep → Prop} (hi : i < l.length) (h : ∀ j e, j ≠ i → l[j]? = some e → P j e) (hx : P i x) : ∀ j e, (l.set i x)[j]? = some e → P j e := fun j e he => by
  by_cases hj : j = i
  · subst hj
    rw [List.getElem?_set_self hi] at he
    cases he
    exact hx
  · rw [List.getElem?_set_ne (fun e => hj e.symm)] at he
    exact h j e hj he
/-- a step in which nobody bumps -/
theorem Inv.quiet (h : Inv n C r i k l) (hi : i < n) (ha : l[i]? = some a) (hb : l[k]? = some b) (hno : ¬ (r = 0 ∧ k = i + 1)) : Inv n C r i (k + 1) (l.set i ⟨max a.cur b.cur, 0, a.conf⟩) := by
  have hk : k < n := by have := (List.getElem?_eq_some_iff.1 hb).1; have := h.len; omega
  obtain ⟨⟨a1, a2, a3, a4⟩, a5, a6⟩ := h.all i a ha
  obtain ⟨⟨b1, b2, b3, b4⟩, b5, b6⟩ := h.all k b hb
  refine ⟨by rw [List.length_set]; exact h.len, set_all (by rw [h.len]; exact hi) (fun j e hj he => ?_) ?_⟩
  · obtain ⟨h1, h2, h3⟩ := h.all j e he
    refine ⟨h1, ?_, fun hr => ?_⟩
    · rw [h2]; unfold cfA; split <;> split <;> omega
    · rw [h3 hr]; unfold cuA; repeat' split
      all_goals omega
  · refine ⟨⟨rfl, a2, by simp; omega, by simp; omega⟩, ?_, fun hr => ?_⟩
    · show a.conf = _
      rw [a5]; unfold cfA; split <;> split <;> omega
    · show max a.cur b.cur = _
      have e1 := a6 hr
      have e2 := b6 hr
      unfold cuA at *
      by_cases q1 : k < i
      · rw [if_neg (by omega), if_pos rfl, if_neg (by omega), if_pos (by omega)] at e1
        rw [if_pos q1, if_pos (by omega)] at e2
        rw [if_neg (by omega), if_pos rfl, if_neg (by omega), if_pos (by omega)]
        omega
      · by_cases q2 : k = i
        · subst q2
          rw [ha] at hb
          cases hb
          rw [if_neg (by omega), if_pos rfl, if_neg (by omega), if_pos (by omega)] at e1
          rw [if_neg (by omega), if_pos rfl, if_neg (by omega), if_neg (by omega)]
          omega
        · rw [if_neg (by omega), if_pos rfl, if_pos (by omega)] at e1
          rw [if_neg (by omega), if_neg q2] at e2
          rw [if_neg (by omega), if_pos rfl, if_pos (by omega)]
          omega
/-- the step in which the i-th bumps -/
theorem Inv.loud (h : Inv n C r i k l) (hi : i < n) (c0 : 0 ≤ C) (ha : l[i]? = some a) (hb : l[k]? = some b) (hyes : r = 0 ∧ k = i + 1) : Inv n C r i (k + 1) (l.set i ⟨max a.cur b.cur + 1, 0, max a.cur b.cur + 1⟩) := by
  have hk : k < n := by have := (List.getElem?_eq_some_iff.1 hb).1; have := h.len; omega
  obtain ⟨⟨a1, a2, a3, a4⟩, a5, a6⟩ := h.all i a ha
  obtain ⟨⟨b1, b2, b3, b4⟩, b5, b6⟩ := h.all k b hb
  have e1 := a6 hyes.1
  have e2 := b6 hyes.1
  have e3 : max a.cur b.cur = C + i := by
    unfold cuA at e1 e2
    rw [if_neg (by omega), if_pos rfl, if_neg (by omega), if_neg (by omega)] at e1
    rw [if_neg (by omega), if_neg (by omega)] at e2
    omega
  refine ⟨by rw [List.length_set]; exact h.len, set_all (by rw [h.len]; exact hi) (fun j e hj he => ?_) ?_⟩
  · obtain ⟨h1, h2, h3⟩ := h.all j e he
    refine ⟨h1, ?_, fun hr => ?_⟩
    · rw [h2]; unfold cfA; split <;> split <;> omega
    · rw [h3 hr]; unfold cuA; repeat' split
      all_goals omega
  · rw [e3]
    refine ⟨⟨rfl, by simp; omega, Int.le_refl _, by simp; omega⟩, ?_, fun hr => ?_⟩
    · show C + i + 1 = _
      unfold cfA; rw [if_pos (by omega)]
    · show C + i + 1 = _
      unfold cuA; rw [if_neg (by omega), if_pos rfl, if_pos (by omega)]
/-- behind a round all are unlike, and the last one has what it had -/
theorem Inv.apart (h : Inv n C r 0 0 l) (hr : 0 < r) (hki : k < i) (ha : l[i]? = some a) (hb : l[k]? = some b) : (a.conf == b.conf) = false := by
  have hi : i < n := by have := (List.getElem?_eq_some_iff.1 ha).1; have := h.len; omega
  obtain ⟨_, h2, _⟩ := h.all i a ha
  obtain ⟨_, g2, _⟩ := h.all k b hb
  rw [beq_eq_false_iff_ne, h2, g2]
  unfold cfA
  split <;> split <;> omega
theorem Inv.last (h : Inv n C r 0 0 l) (ha : l[n - 1]? = some a) : a.conf = C := by
  obtain ⟨_, h2, _⟩ := h.all _ a ha
  rw [h2]
  unfold cfA
  rw [if_neg (by omega)]
end
end Go.Proofs.Ytckdibnadokipaa
