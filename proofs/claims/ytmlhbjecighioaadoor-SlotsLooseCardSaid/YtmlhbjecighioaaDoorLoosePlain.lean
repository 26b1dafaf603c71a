/-
  WHAT IS PROVED: plain facts: texts with a blank too many, or in the wrong order, are no set's; the least and the greatest slot of a set's list. No condition.
-/
import Derived.Test.YtmlhbjecighioaaDoorSet
import Derived.Test.YtmlhbjecighioaaDoorList
namespace Go.Proofs.YtmlhbjecighioaaDoor

theorem parse_bad {x : List UInt8} (h : [] ∈ words x) (hx : x ≠ []) : parseP x = (0, 60) := by
  refine parse_no fun u hu e => ?_
  by_cases hn : stretches u = []
  · rw [txt, hn] at e
    exact hx e.symm
  · have hw := words_tx hn (canon_lt (canon_set hu))
    rw [show tx (stretches u) = x from e] at hw
    rw [hw, List.mem_map] at h
    obtain ⟨p, _, hp⟩ := h
    exact part_ne p hp
theorem parse_ahead (a : List UInt8) : parseP (32 :: a) = (0, 60) := parse_bad (by rw [words_cons, if_pos rfl]; simp) (by simp)
theorem parse_behind (a : List UInt8) : parseP (a ++ [32]) = (0, 60) := parse_bad (by rw [words_at]; simp [words]) (by simp)
theorem parse_twice (a b : List UInt8) : parseP (a ++ 32 :: 32 :: b) = (0, 60) := parse_bad (by rw [words_at, words_cons, if_pos rfl]; simp) (by simp)

theorem canon_raise {m c : Nat} {q : Nat × Nat} {r : List (Nat × Nat)} (h : Canon m (q :: r)) (hc : c ≤ q.1) : Canon c (q :: r) := ⟨hc, h.2⟩
theorem canon_app : ∀ {L M : List (Nat × Nat)} {m : Nat}, Canon m L → Canon m M → (∀ p ∈ L, Canon (p.2 + 2) M) → Canon m (L ++ M)
  | [], _, _, _, h, _ => h
  | p :: r, M, m, ⟨h1, h2, h3, h4⟩, _, h => ⟨h1, h2, h3, canon_app h4 (h p (by simp)) (fun q hq => h q (by simp [hq]))⟩
theorem In_append_right {L M : List (Nat × Nat)} {j : Nat} (h : In M j) : In (L ++ M) j := by
  obtain ⟨p, hp, h⟩ := h
  exact ⟨p, by simp [hp], h⟩
theorem canon_sep : ∀ {L M : List (Nat × Nat)} {m i j : Nat}, Canon m (L ++ M) → In L i → In M j → i + 2 ≤ j
  | [], _, _, i, _, _, h, _ => absurd h (In_nil i)
  | p :: r, M, m, i, j, ⟨_, _, _, h4⟩, h, hj => by
    rcases (In_cons p r i).1 h with h | h
    · have := canon_in h4 (In_append_right hj); omega
    · exact canon_sep h4 h hj

theorem slots_mem {s : Nat} (hs : s < 18446744073709551616) (i : Nat) : i ∈ slotsTo s 64 ↔ s.testBit i = true := by
  unfold slotsTo
  rw [List.mem_filter, List.mem_range]
  exact ⟨fun h => h.2, fun h => ⟨bit_lt hs h, h⟩⟩
theorem slots_sorted (s : Nat) : (slotsTo s 64).Pairwise (· < ·) := by
  unfold slotsTo
  exact List.Pairwise.filter _ List.pairwise_lt_range
theorem slots_first {s y : Nat} (hs : s < 18446744073709551616) (h : (slotsTo s 64)[0]? = some y) : s.testBit y = true ∧ ∀ i, s.testBit i = true → y ≤ i := by
  have hp := slots_sorted s
  refine ⟨(slots_mem hs y).1 (List.mem_of_getElem? h), fun i hi => ?_⟩
  have hm := (slots_mem hs i).2 hi
  cases e : slotsTo s 64 with
  | nil => rw [e] at h; cases h
  | cons z r =>
    rw [e] at h hm hp
    injection h with h
    subst h
    rw [List.pairwise_cons] at hp
    rw [List.mem_cons] at hm
    rcases hm with rfl | hm
    · exact Nat.le_refl _
    · exact Nat.le_of_lt (hp.1 i hm)
theorem slots_last {s x c : Nat} (hs : s < 18446744073709551616) (hc : (slotsTo s 64).length = c + 1) (h : (slotsTo s 64)[c]? = some x) : s.testBit x = true ∧ ∀ i, s.testBit i = true → i ≤ x := by
  have hp := slots_sorted s
  refine ⟨(slots_mem hs x).1 (List.mem_of_getElem? h), fun i hi => ?_⟩
  have hm := (slots_mem hs i).2 hi
  rw [List.mem_iff_getElem?] at hm
  obtain ⟨k, hk⟩ := hm
  have hk2 : k < (slotsTo s 64).length := by
    rcases Nat.lt_or_ge k (slotsTo s 64).length with h' | h'
    · exact h'
    · rw [List.getElem?_eq_none h'] at hk; cases hk
  rcases Nat.lt_or_ge k c with hlt | hge
  · rw [List.pairwise_iff_getElem] at hp
    have := hp k c hk2 (by omega) hlt
    rw [List.getElem?_eq_some_iff] at h hk
    obtain ⟨_, h⟩ := h
    obtain ⟨_, hk⟩ := hk
    rw [h, hk] at this
    omega
  · rw [show k = c by omega, h] at hk
    injection hk with hk
    omega
theorem slots_nil {s : Nat} (hs : s < 18446744073709551616) (h : (slotsTo s 64).length ≠ 0) : stretches s ≠ [] := by
  intro e
  have h1 : s = 0 := by rw [← set_stretches hs, e]; rfl
  subst h1
  exact h (by decide)

theorem two_order {s t x y : Nat} (hs : s < 18446744073709551616) (ht : t < 18446744073709551616) (hx : s.testBit x = true ∧ ∀ i, s.testBit i = true → i ≤ x) (hy : t.testBit y = true ∧ ∀ i, t.testBit i = true → y ≤ i) :
    parseP (txt s ++ 32 :: txt t) = if x + 1 < y then (s ||| t, 0) else (0, 60) := by
  have hL : stretches s ≠ [] := fun e => by have := (in_stretches hs x).2 hx.1; rw [e] at this; exact In_nil _ this
  have hM : stretches t ≠ [] := fun e => by have := (in_stretches ht y).2 hy.1; rw [e] at this; exact In_nil _ this
  have e : txt s ++ 32 :: txt t = tx (stretches s ++ stretches t) := (tx_append hL hM).symm
  have hlt : ∀ p ∈ stretches s ++ stretches t, p.1 < 64 ∧ p.2 < 64 := fun p hp => by
    rcases List.mem_append.1 hp with hp | hp
    · exact canon_lt (canon_set hs) p hp
    · exact canon_lt (canon_set ht) p hp
  rw [e]
  by_cases h : x + 1 < y
  · rw [if_pos h]
    have hc : Canon 0 (stretches s ++ stretches t) := by
      refine canon_app (canon_set hs) (canon_set ht) fun p hp => ?_
      have hc := canon_set ht
      cases eM : stretches t with
      | nil => exact absurd eM hM
      | cons q r =>
        rw [eM] at hc
        refine canon_raise hc ?_
        have h1 : p.2 ≤ x := hx.2 _ ((in_stretches hs _).1 ⟨p, hp, by
          have : ∀ {m : Nat} {L : List (Nat × Nat)}, Canon m L → ∀ p ∈ L, p.1 ≤ p.2 := by
            intro m L
            induction L generalizing m with
            | nil => intro _ p hp; cases hp
            | cons q r ih =>
              rintro ⟨_, h2, _, h4⟩ p hp
              rw [List.mem_cons] at hp
              rcases hp with rfl | hp
              · exact h2
              · exact ih h4 p hp
          exact this (canon_set hs) p hp, Nat.le_refl _⟩)
        have h2 : y ≤ q.1 := hy.2 _ ((in_stretches ht _).1 (by rw [eM]; exact ⟨q, by simp, Nat.le_refl _, hc.2.1⟩))
        omega
    have k := parse_txt (set_lt (stretches s ++ stretches t))
    rw [txt_set hc] at k
    rw [k, set_append, set_stretches hs, set_stretches ht]
  · rw [if_neg h]
    refine parse_no fun u hu e2 => ?_
    have e3 : stretches u = stretches s ++ stretches t := tx_inj (canon_lt (canon_set hu)) hlt e2
    have hc := canon_set hu
    rw [e3] at hc
    have := canon_sep hc ((in_stretches hs x).2 hx.1) ((in_stretches ht y).2 hy.1)
    omega
end Go.Proofs.YtmlhbjecighioaaDoor
