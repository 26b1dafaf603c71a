/-
  WHAT IS PROVED: arguments of the types Table, Claim and []Claim; a variable of type Claim. No condition.
-/
import Derived.Test.YtngammeppiadgaaGreatDoorCTab
namespace Go.Proofs.YtngammeppiadgaaGreatDoor.C
set_option maxRecDepth 100000
open Go.RowKit Go.ChangeShapes Go.WideShapes Go.ChangeAt Go.WideElems

theorem cells_tab : Tryz.prog.cellsOf 27 = 128 := by kernel_rfl
theorem cells_arr : Tryz.prog.cellsOf 25 = 64 := by kernel_rfl
theorem cells_set : Tryz.prog.cellsOf 57 = 1 := by kernel_rfl
theorem wf_u64 {z : Int} (h : (Lit.int .u64 z).wf = true) : 0 ≤ z ∧ z ≤ 18446744073709551615 := by
  have e1 : IntKind.u64.min = 0 := by decide
  have e2 : IntKind.u64.max = 18446744073709551615 := by decide
  simp [Lit.wf] at h
  rw [e1, e2] at h
  exact h

section
variable {H : Type} {enc : TypeId × Value → H}
/-- an array of ints -/
theorem open_arr {W : World} {sp : Nat → Bool} {hd : Bool} {fuel : Nat} {cs : List Value} {x : DataW H × List MemPlace} (h : DataW.trod enc Tryz.prog W 0 sp hd fuel 25 cs = some x) : ∃ f, cs = row f := by
  obtain ⟨xs, m, _, _, hl, hn, hx⟩ := DataW.trod_array Tryz.underlying25 h
  rw [cells_arr] at hl
  have each : ∀ i, i < 64 → ∃ z : Int, cs[i]? = some (.int .i64 z) := fun i hi => by
    have hi' := hx i hi
    rw [cells_int, Nat.mul_one, List.getElem?_eq_getElem (by omega)] at hi'
    have e : (cs.drop i).take 1 = [cs[i]'(by omega)] := by
      rw [List.drop_eq_getElem_cons (by omega)]; rfl
    rw [e] at hi'
    obtain ⟨z, e0, _, _⟩ := DataW.trod_int Tryz.underlying3 hi'
    injection e0 with e0
    exact ⟨z, by rw [List.getElem?_eq_getElem (by omega), e0]⟩
  obtain ⟨f, hf⟩ := Go.Deep.choose_lt each
  refine ⟨f, List.ext_getElem? fun i => ?_⟩
  by_cases hi : i < 64
  · rw [hf i hi, row_at f hi]
  · rw [List.getElem?_eq_none (by omega), List.getElem?_eq_none (by rw [row_len]; omega)]

/-- AN ARGUMENT OF TYPE Table -/
theorem open_tab {W : World} {r : Reach} {b0 : Nat} {v : Value} {d : DataW H} {p : List MemPlace}
    (hval : Value.okWide Tryz.prog W r b0 27 v) (h0 : DataW.Trod enc Tryz.prog W 0 (fun _ => true) true 27 v d p) :
    ∃ t : Tab, v = .agg (tb t) := by
  obtain ⟨cs, rfl, _⟩ := okWide_struct Tryz.underlying27 hval
  obtain ⟨fuel, hf⟩ := h0
  obtain ⟨y0, y1, m, _, hl, h0, h1⟩ := Go.ChangeShapes.trod_struct2 Tryz.underlying27 hf
  rw [cells_tab] at hl
  simp only [cells_arr] at h0 h1
  obtain ⟨f, ef⟩ := open_arr h0
  obtain ⟨g, eg⟩ := open_arr h1
  refine ⟨⟨f, g⟩, ?_⟩
  have e : (Value.agg cs).cells.toList = row f ++ row g := by
    rw [← ef, ← eg, List.drop_zero, List.take_of_length_le (l := ((Value.agg cs).cells.toList.drop 64)) (by rw [List.length_drop, hl]; omega), List.take_append_drop]
  simp only [Value.cells] at e
  show Value.agg cs = .agg (row f ++ row g).toArray
  rw [← e]

/-- AN ARGUMENT OF TYPE Set -/
theorem open_set {W : World} {r : Reach} {b0 : Nat} {v : Value} {d : DataW H} {p : List MemPlace}
    (hval : Value.okWide Tryz.prog W r b0 57 v) (h0 : DataW.Trod enc Tryz.prog W 0 (fun _ => true) true 57 v d p) :
    ∃ n : Nat, v = .int .u64 (n : Int) ∧ n < 18446744073709551616 := by
  obtain ⟨z, rfl, rfl, rfl, wz⟩ := open_int Tryz.underlying57 hval h0
  obtain ⟨n, rfl⟩ := Int.eq_ofNat_of_zero_le (wf_u64 wz).1
  have := (wf_u64 wz).2
  exact ⟨n, rfl, by omega⟩

end
end Go.Proofs.YtngammeppiadgaaGreatDoor.C
