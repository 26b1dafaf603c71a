/-
  WHAT IS PROVED: how the document's text goes through owners and epochs, plain facts. No condition.
-/
import Derived.Test.YtmjbacmaafbdlaaGreatDoorRLeast
import Derived.Test.YtmjbacmaafbdlaaGreatDoorMathb
namespace Go.Proofs.YtmjbacmaafbdlaaGreatDoor.R
open C

theorem least_list {f o : Nat → Int} {only above : Int} {L : List Int} (hL : L.Pairwise (· < ·)) (hmem : ∀ x, x ∈ L ↔ ∃ i, i < 64 ∧ mayB f o only above i = true ∧ f i = x) : leastF f o only above = L.head? := by
  obtain ⟨h1, h2⟩ := least_spec f o only above 64
  cases hl : leastTo f o only above 64 with
  | none =>
    have h3 := h2 hl
    unfold leastF
    rw [hl]
    cases L with
    | nil => rfl
    | cons x r =>
      obtain ⟨i, hi, hm, _⟩ := (hmem x).1 (List.mem_cons_self ..)
      rw [h3 i hi] at hm; cases hm
  | some b =>
    obtain ⟨⟨j, hj, hjm, hjf⟩, hmin⟩ := h1 b hl
    unfold leastF
    rw [hl]
    have hb : b ∈ L := (hmem b).2 ⟨j, hj, hjm, hjf⟩
    cases L with
    | nil => cases hb
    | cons x r =>
      obtain ⟨i, hi, hm, hx⟩ := (hmem x).1 (List.mem_cons_self ..)
      have h4 := hmin i hi hm
      rw [hx] at h4
      show some b = some x
      rcases List.mem_cons.1 hb with h5 | h5
      · rw [h5]
      · have := (List.pairwise_cons.1 hL).1 b h5
        omega
def abv (L : List Int) (a : Int) : List Int := L.filter fun x => decide (a < x)
theorem abv_lt {L : List Int} (h : L.Pairwise (· < ·)) (a : Int) : (abv L a).Pairwise (· < ·) := h.filter _
theorem abv_mem {L : List Int} {a x : Int} : x ∈ abv L a ↔ x ∈ L ∧ a < x := by unfold abv; simp
theorem abv_next {L : List Int} {a x : Int} {r : List Int} (hL : L.Pairwise (· < ·)) (h : abv L a = x :: r) : abv L x = r := by
  have hx : a < x := (abv_mem.1 (by rw [h]; exact List.mem_cons_self ..)).2
  have hp := abv_lt hL a
  rw [h] at hp
  have e : abv L x = (abv L a).filter fun y => decide (x < y) := by
    unfold abv
    rw [List.filter_filter]
    refine List.filter_congr fun y _ => ?_
    by_cases hy : x < y
    · simp [hy, show a < y by omega]
    · simp [hy]
  rw [e, h, List.filter_cons_of_neg (by simp)]
  exact List.filter_eq_self.2 fun y hy => by simpa using (List.pairwise_cons.1 hp).1 y hy
theorem abv_all {L : List Int} {a : Int} (h : ∀ x ∈ L, a < x) : abv L a = L := List.filter_eq_self.2 fun x hx => by simpa using h x hx
/-- the next owner -/
theorem least_own {t : Tab} (ht : okB t = true) {a : Int} (ha : 0 ≤ a) : leastF t.o t.o (-1) a = (abv (ownersL t) a).head? := by
  refine least_list (abv_lt (owners_lt t) a) fun x => ?_
  rw [abv_mem, owners_mem]
  constructor
  · rintro ⟨⟨i, hi, h1, rfl⟩, h2⟩
    exact ⟨i, hi, by unfold mayB; simp [h2], rfl⟩
  · rintro ⟨i, hi, hm, rfl⟩
    unfold mayB at hm
    simp at hm
    have := ok_held ht hi
    exact ⟨⟨i, hi, bet_iff.2 (by omega), rfl⟩, hm⟩
/-- the next epoch of an owner -/
theorem least_eps {t : Tab} {o a : Int} (ho : 1 ≤ o) : leastF t.e t.o o a = (abv (epsL t o) a).head? := by
  refine least_list (abv_lt (eps_lt t o) a) fun x => ?_
  rw [abv_mem, mem_eps]
  have h0 : decide (o < 0) = false := by simp; omega
  constructor
  · rintro ⟨⟨i, hi, h1, rfl⟩, h2⟩
    exact ⟨i, hi, by unfold mayB; rw [h0]; simp [h1, h2], rfl⟩
  · rintro ⟨i, hi, hm, rfl⟩
    unfold mayB at hm
    rw [h0] at hm
    simp at hm
    exact ⟨⟨i, hi, hm.1, rfl⟩, hm.2⟩
/-- the lines of the owners that are left -/
def ownT (t : Tab) (L : List Int) : List UInt8 := unl (L.flatMap fun o => (epsL t o).map fun e => slotsB t o e)
def epT (t : Tab) (o : Int) (L : List Int) : List UInt8 := unl (L.map fun e => slotsB t o e)
theorem unl_app2 (A B : List (List UInt8)) : unl (A ++ B) = unl A ++ unl B := by simp [unl]
theorem ownT_cons (t : Tab) (x : Int) (r : List Int) : ownT t (x :: r) = epT t x (epsL t x) ++ ownT t r := by
  unfold ownT epT
  rw [List.flatMap_cons, unl_app2]
theorem epT_cons (t : Tab) (o e : Int) (r : List Int) : epT t o (e :: r) = slotsB t o e ++ 10 :: epT t o r := by
  unfold epT
  rw [List.map_cons, unl_cons]
def nodT (l : List Kn) : List UInt8 := unl (l.map nodeB)
theorem nodT_cons (k : Kn) (l : List Kn) : nodT (k :: l) = nodeB k ++ 10 :: nodT l := by unfold nodT; rw [List.map_cons, unl_cons]
theorem tx_parts (d : Dt) : txD d = selfB d ++ 10 :: (nodT d.l ++ ownT d.t (ownersL d.t)) := by
  rw [txD_unl]
  unfold bodies
  rw [unl_cons, unl_app2]
  have e : ((prs d.t).map fun p => slotsB d.t p.1 p.2) = (ownersL d.t).flatMap fun o => (epsL d.t o).map fun e => slotsB d.t o e := by
    unfold prs
    rw [List.map_flatMap]
    congr 1
    funext o
    rw [List.map_map]
    rfl
  rw [e]; rfl
end Go.Proofs.YtmjbacmaafbdlaaGreatDoor.R
