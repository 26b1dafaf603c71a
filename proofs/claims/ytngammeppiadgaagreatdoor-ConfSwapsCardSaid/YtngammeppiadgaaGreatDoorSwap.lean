/-
  WHAT IS PROVED: a right state's lines behind the first rise; so a text with two neighbours of them swapped is no right state's. No condition.
-/
import Derived.Test.YtngammeppiadgaaGreatDoorLen
namespace Go.Proofs.YtngammeppiadgaaGreatDoor
open Go.RowKit C

def nodeW : List UInt8 := [110, 111, 100, 101]
def slotsW : List UInt8 := [115, 108, 111, 116, 115]
/-- a line's first word, first number and second number -/
def key (b : List UInt8) : List UInt8 × Nat × Nat := ((cutL b 32).1, val (cutL (cutL b 32).2.1 32).1, val (cutL (cutL (cutL (cutL b 32).2.1 32).2.1 32).2.1 32).1)
theorem val_dg (z : Int) : val (dg z) = z.toNat := by rw [dg_eq, val_digL]
theorem key_at {w u tl : List UInt8} {x y : Int} (hw : ∀ c ∈ w, c ≠ 32) (hu : ∀ c ∈ u, c ≠ 32) : key (w ++ 32 :: (dg x ++ 32 :: (u ++ 32 :: (dg y ++ 32 :: tl)))) = (w, x.toNat, y.toNat) := by
  have hd : ∀ z : Int, ∀ c ∈ dg z, c ≠ 32 := fun z c hc => (dg_no z c hc).1
  unfold key
  rw [S.cutL_at hw]
  show (w, val (cutL (dg x ++ 32 :: (u ++ 32 :: (dg y ++ 32 :: tl))) 32).1, val (cutL (cutL (cutL (dg x ++ 32 :: (u ++ 32 :: (dg y ++ 32 :: tl))) 32).2.1 32).2.1 32).1) = _
  rw [S.cutL_at (hd x)]
  show (w, val (dg x), val (cutL (cutL (u ++ 32 :: (dg y ++ 32 :: tl)) 32).2.1 32).1) = _
  rw [S.cutL_at hu]
  show (w, val (dg x), val (cutL (dg y ++ 32 :: tl) 32).1) = _
  rw [S.cutL_at (hd y), val_dg]
  show (w, _, val (dg y)) = _
  rw [val_dg]
theorem key_node (k : Kn) : key (nodeB k) = (nodeW, k.i.toNat, k.m.toNat) := by
  have h : nodeB k = nodeW ++ 32 :: (dg k.i ++ 32 :: ([109, 97, 115, 116, 101, 114] ++ 32 :: (dg k.m ++ 32 :: pre [([99, 111, 110, 102, 105, 103], k.c)] []))) := rfl
  rw [h, key_at (by decide) (by decide)]
theorem key_slots (t : Tab) (o e : Int) : key (slotsB t o e) = (slotsW, o.toNat, e.toNat) := by
  have h : slotsB t o e = slotsW ++ 32 :: (dg o ++ 32 :: ([101, 112, 111, 99, 104] ++ 32 :: (dg e ++ 32 :: (58 :: 32 :: S.txt (setOE t o e))))) := rfl
  rw [h, key_at (by decide) (by decide)]
/-- does the one line stand ahead of the other -/
def Rl (b c : List UInt8) : Prop := ((key b).1 = nodeW ∧ (key c).1 = slotsW) ∨ ((key b).1 = nodeW ∧ (key c).1 = nodeW ∧ (key b).2.1 < (key c).2.1) ∨ ((key b).1 = slotsW ∧ (key c).1 = slotsW ∧ ((key b).2.1 < (key c).2.1 ∨ (key b).2.1 = (key c).2.1 ∧ (key b).2.2 < (key c).2.2))
theorem rl_asymm {b c : List UInt8} (h1 : Rl b c) (h2 : Rl c b) : False := by
  have hn : nodeW ≠ slotsW := by decide
  rcases h1 with ⟨a1, a2⟩ | ⟨a1, a2, a3⟩ | ⟨a1, a2, a3⟩ <;> rcases h2 with ⟨b1, b2⟩ | ⟨b1, b2, b3⟩ | ⟨b1, b2, b3⟩
  · exact hn (b1.symm.trans a2)
  · exact hn (b1.symm.trans a2)
  · exact hn (a1.symm.trans b2)
  · exact hn (a1.symm.trans b2)
  · omega
  · exact hn (a1.symm.trans b2)
  · exact hn (b1.symm.trans a2)
  · exact hn (b1.symm.trans a2)
  · omega
theorem kn_rise {i : Int} {l : List Kn} (h : rkB i l = true) : ∀ b a, a < b → b < l.length → (atK l a).i < (atK l b).i := by
  have hs := rk_iff.1 h
  intro b
  induction b with
  | zero => intro a ha; omega
  | succ b ih =>
    intro a hab hb
    have h1 := hs (b + 1) hb
    unfold stepB at h1
    simp only [Bool.and_eq_true, decide_eq_true_eq] at h1
    have h2 : (atK l b).i < (atK l (b + 1)).i := by
      have := h1.2
      unfold lastK at this
      rw [if_neg (by omega)] at this
      exact this
    by_cases he : a = b
    · rw [he]; exact h2
    · exact Int.lt_trans (ih a (by omega) (by omega)) h2
theorem kn_pair {i : Int} {l : List Kn} (h : rkB i l = true) : l.Pairwise fun a b => a.i < b.i := by
  rw [List.pairwise_iff_getElem]
  intro a b ha hb hab
  have h1 := kn_rise h b a hab hb
  unfold atK at h1
  rw [List.getD_eq_getElem?_getD, List.getD_eq_getElem?_getD, List.getElem?_eq_getElem ha, List.getElem?_eq_getElem hb] at h1
  exact h1
theorem rest_rise {d : Dt} (h : okD d = true) : (d.l.map nodeB ++ (prs d.t).map fun p => slotsB d.t p.1 p.2).Pairwise Rl := by
  obtain ⟨_, _, _, _, _, _, h7, h8, _⟩ := ok_parts h
  have h7' : rkB d.i d.l = true := h7
  have h8' : okB d.t = true := h8
  rw [List.pairwise_append]
  refine ⟨?_, ?_, ?_⟩
  · rw [List.pairwise_map]
    refine List.Pairwise.imp_of_mem ?_ (kn_pair h7')
    intro a b ha hb hab
    have g1 := (kn_parts h7' ha).1
    refine .inr (.inl ?_)
    rw [key_node, key_node]
    exact ⟨rfl, rfl, by show a.i.toNat < b.i.toNat; omega⟩
  · rw [List.pairwise_map]
    refine List.Pairwise.imp_of_mem ?_ (prs_lt d.t)
    rintro ⟨o, e⟩ ⟨o2, e2⟩ hp hq hpq
    have g1 := own_parts (mem_prs.1 hp).1
    have g2 := ep_parts h8' (mem_prs.1 hp).1 (mem_prs.1 hp).2
    have g3 := own_parts (mem_prs.1 hq).1
    have g4 := ep_parts h8' (mem_prs.1 hq).1 (mem_prs.1 hq).2
    have hpq : o < o2 ∨ (o = o2 ∧ e < e2) := hpq
    refine .inr (.inr ?_)
    rw [key_slots, key_slots]
    exact ⟨rfl, rfl, by show o.toNat < o2.toNat ∨ o.toNat = o2.toNat ∧ e.toNat < e2.toNat; omega⟩
  · intro b hb c hc
    obtain ⟨k, _, rfl⟩ := List.mem_map.1 hb
    obtain ⟨p, _, rfl⟩ := List.mem_map.1 hc
    refine .inl ?_
    rw [key_node, key_slots]
    exact ⟨rfl, rfl⟩
theorem unl_inj : ∀ (A B : List (List UInt8)), (∀ b ∈ A, ∀ x ∈ b, x ≠ 10) → (∀ b ∈ B, ∀ x ∈ b, x ≠ 10) → unl A = unl B → A = B
  | [], [], _, _, _ => rfl
  | [], b :: B, _, _, h => by rw [unl_cons] at h; exact absurd h (by simp [unl])
  | a :: A, [], _, _, h => by rw [unl_cons] at h; exact absurd h (by simp [unl])
  | a :: A, b :: B, ha, hb, h => by
    rw [unl_cons, unl_cons] at h
    obtain ⟨h1, h2⟩ := first_cut (ha a (List.mem_cons_self ..)) (hb b (List.mem_cons_self ..)) h
    rw [h1, unl_inj A B (fun c hc => ha c (List.mem_cons_of_mem _ hc)) (fun c hc => hb c (List.mem_cons_of_mem _ hc)) h2]
/-- a right text's lines, each with its line feed -/
def linesD (d : Dt) : List (List UInt8) := (bodies d).map (· ++ [10])
theorem tx_lines (d : Dt) : txD d = (linesD d).flatten := txD_unl d
theorem swap_no {d : Dt} (ok : okD d = true) {k : Nat} {a b : List UInt8} (hk : 1 ≤ k) (ha : (linesD d)[k]? = some a) (hb : (linesD d)[k + 1]? = some b) :
    parseD (((linesD d).set k b).set (k + 1) a).flatten = none := parse_no fun d' ok' h => by
  have hlen : (linesD d).length = (bodies d).length := List.length_map _
  unfold linesD at ha hb
  rw [List.getElem?_map] at ha hb
  cases h1 : (bodies d)[k]? with
  | none => rw [h1] at ha; cases ha
  | some a0 =>
  cases h2 : (bodies d)[k + 1]? with
  | none => rw [h2] at hb; cases hb
  | some b0 =>
  rw [h1] at ha; rw [h2] at hb
  injection ha with ha; injection hb with hb
  have hm : ((linesD d).set k b).set (k + 1) a = (((bodies d).set k b0).set (k + 1) a0).map (· ++ [10]) := by
    unfold linesD
    rw [List.map_set, List.map_set, ← ha, ← hb]
  have ha0 := List.mem_of_getElem? h1
  have hb0 := List.mem_of_getElem? h2
  have hno : ∀ c ∈ ((bodies d).set k b0).set (k + 1) a0, ∀ x ∈ c, x ≠ 10 := by
    intro c hc
    rcases List.mem_or_eq_of_mem_set hc with hc | rfl
    · rcases List.mem_or_eq_of_mem_set hc with hc | rfl
      · exact bodies_no d c hc
      · exact bodies_no d _ hb0
    · exact bodies_no d _ ha0
  have he : bodies d' = ((bodies d).set k b0).set (k + 1) a0 := by
    refine unl_inj _ _ (bodies_no d') hno ?_
    rw [← txD_unl, h, hm]; rfl
  have hk1 : k + 1 < (bodies d).length := by
    rcases Nat.lt_or_ge (k + 1) (bodies d).length with h3 | h3
    · exact h3
    · rw [List.getElem?_eq_none h3] at h2; cases h2
  have e1 : (bodies d')[k]? = some b0 := by
    rw [he, List.getElem?_set_ne (by omega), List.getElem?_set_self (by omega)]
  have e2 : (bodies d')[k + 1]? = some a0 := by
    rw [he, List.getElem?_set_self (by rw [List.length_set]; omega)]
  have up : ∀ {d : Dt} {a b : List UInt8}, okD d = true → (bodies d)[k]? = some a → (bodies d)[k + 1]? = some b → Rl a b := by
    intro d a b ok h1 h2
    have hp := rest_rise ok
    obtain ⟨j, rfl⟩ : ∃ j, k = j + 1 := ⟨k - 1, by omega⟩
    unfold bodies at h1 h2
    rw [List.getElem?_cons_succ] at h1 h2
    obtain ⟨g1, rfl⟩ := List.getElem?_eq_some_iff.1 h1
    obtain ⟨g2, rfl⟩ := List.getElem?_eq_some_iff.1 h2
    exact List.pairwise_iff_getElem.1 hp j (j + 1) g1 g2 (by omega)
  exact rl_asymm (up ok h1 h2) (up ok' e1 e2)
end Go.Proofs.YtngammeppiadgaaGreatDoor
