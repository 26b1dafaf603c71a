/-
  WHAT IS PROVED: how an argument of type []int reads: as a list of ints in a block that was there. Condition: none.
-/
import Derived.Test.YtmlhbjecighioaaDoorLaid
namespace Go.Proofs.YtmlhbjecighioaaDoor
open Go.RowKit Go.ChangeShapes Go.WideShapes Go.ChangeAt Go.WideElems

section
variable {H : Type} {enc : TypeId × Value → H} {P : Program}
/-- AN ARGUMENT OF TYPE []int -/
theorem open_zints {t e : TypeId} (ht : P.underlying t = some (.slice e)) (he : P.underlying e = some (.int .i64)) (hc : P.cellsOf e = 1) {W : World} {r : Reach} {b0 : Nat} {v : Value} {d : DataW H} {p : List MemPlace}
    (hval : Value.okWide P W r b0 t v) (h0 : DataW.Trod enc P W 0 (fun _ => true) true t v d p) :
    ∃ (A : Option Addr) (n cap : Nat) (l : List Int), v = .slice A n cap ∧ l.length = n ∧ n ≤ cap ∧ cap ≤ 9223372036854775807 ∧ ∀ g, W.heap.size ≤ g → Reads W g A n (zints l) := by
  obtain ⟨a0, len, cap, rfl⟩ := okWide_slice ht hval
  obtain ⟨fuel, hf⟩ := h0
  rcases open_ints ht he hc hf with ⟨hcs, _⟩ | ⟨a, len', cap', zs, hcs, _, hl, hm, hz, _, hcell, _⟩
  · simp [Value.cells] at hcs
    obtain ⟨rfl, rfl, rfl⟩ := hcs
    exact ⟨none, 0, 0, [], rfl, rfl, Nat.le_refl _, by omega, fun g _ => Reads.none_⟩
  · simp [Value.cells] at hcs
    obtain ⟨rfl, rfl, rfl⟩ := hcs
    simp only [if_true] at hz
    refine ⟨some a, len, cap, zs.take len, rfl, by simp; omega, hl, hm, fun g hg => ⟨by simp [zints]; omega, fun hn => ?_⟩⟩
    have hlt : a.block < W.heap.size := by
      have := lt_of_cell (hcell 0 (by omega))
      rwa [block_of_add] at this
    refine ⟨a, rfl, hlt, by omega, fun j u hu => ?_⟩
    obtain ⟨c, hc, rfl⟩ := zints_at hu
    rw [List.getElem?_take] at hc
    by_cases hj : j < len
    · rw [if_pos hj] at hc
      rw [hcell j (by omega)]
      simp [List.getD, hc]
    · rw [if_neg hj] at hc; cases hc
end
theorem cells_int : Tryd.prog.cellsOf 3 = 1 := by kernel_rfl
theorem zints_oneCell (l : List Int) : ∀ u ∈ zints l, u.oneCell' = true := fun u hu => by
  unfold zints at hu
  obtain ⟨c, _, rfl⟩ := List.mem_map.1 hu
  rfl
theorem zints_append (l m : List Int) : zints (l ++ m) = zints l ++ zints m := by simp [zints]
end Go.Proofs.YtmlhbjecighioaaDoor
