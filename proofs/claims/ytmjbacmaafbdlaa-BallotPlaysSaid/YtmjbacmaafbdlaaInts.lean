/-
  WHAT IS PROVED: how an argument of type []int reads: as a list of ints, each within int's bounds, in a block that was there. Condition: none.
-/
import Derived.Test.YtmjbacmaafbdlaaBase
import Derived.Test.YtmjbacmaafbdlaaLaw
namespace Go.Proofs.Ytmjbacmaafbdlaa
open Go.RowKit Go.ChangeShapes Go.WideShapes Go.ChangeAt Go.WideElems

theorem lt_of_cell {w : World} {a : Addr} {v : Value} (h : w.cell? a = some v) : a.block < w.heap.size := by
  unfold World.cell? at h
  rcases Nat.lt_or_ge a.block w.heap.size with h' | h'
  · exact h'
  · rw [Array.getElem?_eq_none h'] at h
    cases h
def zints (l : List Int) : List Value := l.map fun z => Value.int .i64 z
theorem zints_at {l : List Int} {k : Nat} {u : Value} (h : (zints l)[k]? = some u) : ∃ z, l[k]? = some z ∧ u = .int .i64 z := by
  unfold zints at h
  rw [List.getElem?_map] at h
  cases hz : l[k]? with
  | none => rw [hz] at h; cases h
  | some z => rw [hz] at h; simp at h; exact ⟨z, rfl, h.symm⟩
theorem wf_i64 {z : Int} (h : (Lit.int .i64 z).wf = true) : -9223372036854775808 ≤ z ∧ z ≤ 9223372036854775807 := by
  have e1 : IntKind.i64.min = -9223372036854775808 := by decide
  simp [Lit.wf] at h
  rw [e1] at h
  exact h

section
variable {H : Type} {enc : TypeId × Value → H} {P : Program}
/-- AN ARGUMENT OF TYPE []int -/
theorem open_zints {t e : TypeId} (ht : P.underlying t = some (.slice e)) (he : P.underlying e = some (.int .i64)) (hc : P.cellsOf e = 1) {W : World} {r : Reach} {b0 : Nat} {v : Value} {d : DataW H} {p : List MemPlace}
    (hval : Value.okWide P W r b0 t v) (h0 : DataW.Trod enc P W 0 (fun _ => true) true t v d p) :
    ∃ (A : Option Addr) (n cap : Nat) (l : List Int), v = .slice A n cap ∧ l.length = n ∧ n ≤ cap ∧ cap ≤ 9223372036854775807 ∧ (∀ g, W.heap.size ≤ g → Reads W g A n (zints l)) ∧ ∀ z ∈ l, -9223372036854775808 ≤ z ∧ z ≤ 9223372036854775807 := by
  obtain ⟨a0, len, cap, rfl⟩ := okWide_slice ht hval
  obtain ⟨fuel, hf⟩ := h0
  rcases open_ints ht he hc hf with ⟨hcs, _⟩ | ⟨a, len', cap', zs, hcs, _, hl, hm, hz, _, hcell, hwf⟩
  · simp [Value.cells] at hcs
    obtain ⟨rfl, rfl, rfl⟩ := hcs
    exact ⟨none, 0, 0, [], rfl, rfl, Nat.le_refl _, by omega, fun g _ => Reads.none_, fun z hz => by cases hz⟩
  · simp [Value.cells] at hcs
    obtain ⟨rfl, rfl, rfl⟩ := hcs
    simp only [if_true] at hz
    refine ⟨some a, len, cap, zs.take len, rfl, by simp; omega, hl, hm, fun g hg => ⟨by simp [zints]; omega, fun hn => ?_⟩, fun z hz => wf_i64 (hwf z (List.mem_of_mem_take hz))⟩
    have hlt : a.block < W.heap.size := by
      have := lt_of_cell (hcell 0 (by omega))
      rwa [block_of_add] at this
    refine ⟨a, rfl, hlt, by omega, fun j u hu => ?_⟩
    obtain ⟨c, hc, rfl⟩ := zints_at hu
    rw [List.getElem?_take] at hc
    by_cases hj : j < len
    · rw [if_pos hj] at hc
      rw [hcell j (by omega)]
      simp [List.getD, hc]
    · rw [if_neg hj] at hc; cases hc
end
theorem cells_int : Try.prog.cellsOf 3 = 1 := by kernel_rfl
end Go.Proofs.Ytmjbacmaafbdlaa
