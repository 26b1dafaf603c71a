/-
  WHAT IS PROVED: claims of unlike epochs come to the same owners in whatever order and however often: each slot is its greatest claim's (plain facts). No condition.
-/
import Derived.Test.YtkkjciomgcgdiaaMade
namespace Go.Proofs.Ytkkjciomgcgdiaa
open Go.RowKit

/-- o has slot i with e: the greatest of the claims S of it -/
def IsBest (i : Nat) (S : List Cl) (o e : Int) : Prop :=
  (o = 0 ∧ e = 0 ∧ ∀ c ∈ S, c.s.testBit i = false) ∨ ∃ c ∈ S, c.s.testBit i = true ∧ o = c.id ∧ e = c.ep ∧ ∀ d ∈ S, d.s.testBit i = true → d.ep ≤ c.ep
def One (S : List Cl) : Prop := (∀ c ∈ S, fineB c = true) ∧ ∀ c ∈ S, ∀ d ∈ S, c.ep = d.ep → c = d
theorem One.sub {S T : List Cl} (h : One T) (hs : ∀ c ∈ S, c ∈ T) : One S := ⟨fun c hc => h.1 c (hs c hc), fun c hc d hd => h.2 c (hs c hc) d (hs d hd)⟩
theorem cmem_snoc {l : List Cl} {m c : Cl} : c ∈ l ++ [m] ↔ c ∈ l ∨ c = m := by simp
theorem best_up {i : Nat} {S : List Cl} {o e : Int} {c : Cl} (h : IsBest i S o e) (hb : c.s.testBit i = true) (hlt : e < c.ep ∨ (∀ d ∈ S, d.s.testBit i = false)) : IsBest i (S ++ [c]) c.id c.ep := by
  refine .inr ⟨c, by simp, hb, rfl, rfl, fun d hd hdb => ?_⟩
  rcases cmem_snoc.1 hd with hd | rfl
  · rcases hlt with hlt | hn
    · rcases h with ⟨_, _, h3⟩ | ⟨m, _, _, _, rfl, h5⟩
      · rw [h3 d hd] at hdb; cases hdb
      · have := h5 d hd hdb; omega
    · rw [hn d hd] at hdb; cases hdb
  · omega
theorem best_stay {i : Nat} {S : List Cl} {o e : Int} {c : Cl} (h : IsBest i S o e) (hb : c.s.testBit i = false ∨ (1 ≤ c.ep ∧ c.ep ≤ e)) : IsBest i (S ++ [c]) o e := by
  rcases h with ⟨h1, h2, h3⟩ | ⟨m, hm, hmb, h1, h2, h5⟩
  · rcases hb with hb | hb
    · refine .inl ⟨h1, h2, fun d hd => ?_⟩
      rcases cmem_snoc.1 hd with hd | rfl
      · exact h3 d hd
      · exact hb
    · omega
  · refine .inr ⟨m, cmem_snoc.2 (.inl hm), hmb, h1, h2, fun d hd hdb => ?_⟩
    rcases cmem_snoc.1 hd with hd | rfl
    · exact h5 d hd hdb
    · rcases hb with hb | hb
      · rw [hb] at hdb; cases hdb
      · omega
theorem best_claim {i : Nat} {S : List Cl} {t : Tab} {c : Cl} (h : IsBest i S (t.o i) (t.e i)) (hO : One (S ++ [c])) : IsBest i (S ++ [c]) ((claimP t c.id c.ep c.s.testBit).o i) ((claimP t c.id c.ep c.s.testBit).e i) := by
  have hf := fine_iff.1 (hO.1 c (by simp))
  have eo : (claimP t c.id c.ep c.s.testBit).o i = if c.s.testBit i = true then newO t c.id c.ep i else t.o i := rfl
  have ee : (claimP t c.id c.ep c.s.testBit).e i = if c.s.testBit i = true then newE t c.id c.ep i else t.e i := rfl
  rw [eo, ee]
  by_cases hb : c.s.testBit i = true
  · rw [if_pos hb, if_pos hb]
    rcases new_cases t c.id c.ep i with ⟨_, h2, h3, h4, h5⟩ | ⟨_, h2, h4, h5⟩ | ⟨_, h2, h3, h6, h4, h5⟩
    · rw [h4, h5]
      refine best_up h hb ?_
      rcases h3 with h3 | h3
      · rcases h with ⟨_, _, h9⟩ | ⟨m, hm, _, h8, _, _⟩
        · exact .inr h9
        · have := fine_iff.1 (hO.1 m (cmem_snoc.2 (.inl hm)))
          omega
      · exact .inl h3
    · rw [h4, h5]
      rcases h with ⟨h7, _, _⟩ | ⟨m, hm, hmb, h7, h8, h9⟩
      · omega
      · by_cases hlt : t.e i < c.ep
        · rw [Int.max_eq_right (by omega)]
          exact best_up (.inr ⟨m, hm, hmb, h7, h8, h9⟩) hb (.inl hlt)
        · rw [Int.max_eq_left (by omega), ← h2]
          exact best_stay (.inr ⟨m, hm, hmb, h7, h8, h9⟩) (.inr ⟨hf.2.1, by omega⟩)
    · rw [h4, h5]
      exact best_stay h (.inr ⟨hf.2.1, h6⟩)
  · rw [if_neg hb, if_neg hb]
    exact best_stay h (.inl (by simpa using hb))
theorem made_best {l : List Cl} (hO : One l) (i : Nat) : IsBest i l ((madeT l).o i) ((madeT l).e i) := by
  suffices h : ∀ k, k ≤ l.length → IsBest i (l.take k) ((madeT (l.take k)).o i) ((madeT (l.take k)).e i) by
    have := h l.length (Nat.le_refl _)
    rwa [List.take_length] at this
  intro k
  induction k with
  | zero => intro _; rw [List.take_zero]; exact .inl ⟨rfl, rfl, fun c hc => by cases hc⟩
  | succ k ih =>
    intro hk
    have e : l.take (k + 1) = l.take k ++ [l[k]] := cl_snoc (List.getElem?_eq_getElem (by omega))
    rw [e, made_snoc]
    exact best_claim (ih (by omega)) (hO.sub fun c hc => by
      rw [← e] at hc; exact List.mem_of_mem_take hc)
/-- the document's own answer: the greatest of a slot's claims, one behind the other -/
def bestStep (i : Nat) (a : Int × Int) (c : Cl) : Int × Int := if c.s.testBit i = true ∧ a.2 < c.ep then (c.id, c.ep) else a
def bestL (i : Nat) (l : List Cl) : Int × Int := l.foldl (bestStep i) (0, 0)
theorem bestL_snoc (i : Nat) (l : List Cl) (c : Cl) : bestL i (l ++ [c]) = bestStep i (bestL i l) c := by simp [bestL]
theorem bestL_best {l : List Cl} (hO : One l) (i : Nat) : IsBest i l (bestL i l).1 (bestL i l).2 := by
  suffices h : ∀ k, k ≤ l.length → IsBest i (l.take k) (bestL i (l.take k)).1 (bestL i (l.take k)).2 by
    have := h l.length (Nat.le_refl _)
    rwa [List.take_length] at this
  intro k
  induction k with
  | zero => intro _; rw [List.take_zero]; exact .inl ⟨rfl, rfl, fun c hc => by cases hc⟩
  | succ k ih =>
    intro hk
    have hck := fine_iff.1 (hO.1 l[k] (List.getElem_mem _))
    rw [cl_snoc (List.getElem?_eq_getElem (show k < l.length by omega)), bestL_snoc]
    have ih' := ih (by omega)
    unfold bestStep
    by_cases h : l[k].s.testBit i = true ∧ (bestL i (l.take k)).2 < l[k].ep
    · rw [if_pos h]
      exact best_up ih' h.1 (.inl h.2)
    · rw [if_neg h]
      refine best_stay ih' ?_
      by_cases hb : l[k].s.testBit i = true
      · exact .inr ⟨hck.2.1, by
          rcases Int.lt_or_le (bestL i (l.take k)).2 l[k].ep with h' | h'
          · exact absurd ⟨hb, h'⟩ h
          · exact h'⟩
      · exact .inl (by simpa using hb)
theorem best_same {i : Nat} {S T : List Cl} {o e o' e' : Int} (h : IsBest i S o e) (h' : IsBest i T o' e') (hm : ∀ c, c ∈ S ↔ c ∈ T) (hO : One T) : o = o' := by
  rcases h with ⟨h1, _, h3⟩ | ⟨m, hm1, hmb, h1, _, h5⟩
  · rcases h' with ⟨h1', _, _⟩ | ⟨m', hm', hmb', _, _, _⟩
    · rw [h1, h1']
    · rw [h3 m' ((hm m').2 hm')] at hmb'; cases hmb'
  · rcases h' with ⟨_, _, h3'⟩ | ⟨m', hm', hmb', h1', _, h5'⟩
    · rw [h3' m ((hm m).1 hm1)] at hmb; cases hmb
    · have a := h5 m' ((hm m').2 hm') hmb'
      have b := h5' m ((hm m).1 hm1) hmb
      have : m = m' := hO.2 m ((hm m).1 hm1) m' hm' (by omega)
      rw [h1, h1', this]
theorem made_owner {l : List Cl} (h : unlikeB l = true) (i : Nat) : (madeT l).o i = (bestL i l).1 := by
  have hO : One l := ⟨fun _ hc => unlike_fine h hc, fun _ hc _ hd e => unlike_one h hc hd e⟩
  exact best_same (made_best hO i) (bestL_best hO i) (fun _ => Iff.rfl) hO
theorem turned_mem {l : List Cl} {k : Nat} (c : Cl) : c ∈ l.drop k ++ l ↔ c ∈ l := by
  rw [List.mem_append]
  exact ⟨fun h => h.elim (fun h => List.mem_of_mem_drop h) id, .inr⟩
theorem turned_owner {l : List Cl} (h : unlikeB l = true) (k i : Nat) : (madeT (l.drop k ++ l)).o i = (bestL i l).1 := by
  have hO : One l := ⟨fun _ hc => unlike_fine h hc, fun _ hc _ hd e => unlike_one h hc hd e⟩
  exact best_same (made_best (hO.sub fun c hc => (turned_mem c).1 hc) i) (bestL_best hO i) turned_mem hO
end Go.Proofs.Ytkkjciomgcgdiaa
