/-
  WHAT IS PROVED: the bytes of a slice, of whatever address, back to a string. Condition: none.
-/
import Derived.Test.YtemokbggchodgaaDoorBytes
import Derived.Test.YtemokbggchodgaaDoorLaw
namespace Go.Proofs.YtemokbggchodgaaDoor
open Go.RowKit Go.ChangeShapes Go.WideShapes Go.ChangeAt Go.WideElems

theorem bytes_back {w : World} {g n c : Nat} {A : Option Addr} {l : List UInt8} (h : Reads w g A n (bs l)) : (convert 55 9 (.slice A n c)).run Tryd.prog w = .ok (.string (str l)) w := by
  have hl : l.length = n := by have := h.1; simpa [bs] using this
  cases A with
  | none =>
    have hn : n = 0 := by
      rcases Nat.eq_zero_or_pos n with h0 | h0
      · exact h0
      · obtain ⟨ad, e, _⟩ := h.2 h0; cases e
    subst hn
    rw [run_convert_bytes_nil w 55 5 Tryd.underlying55 Tryd.underlying5 0 c 9 Tryd.underlying9]
    cases l with
    | nil => rfl
    | cons _ _ => simp at hl
  | some a =>
    have hcells : (loadCells a n).run Tryd.prog w = .ok ((l.map (fun c => (c.toNat : Int))).map (Value.int .u8)).toArray w := by
      have := run_loadCells_list (P := Tryd.prog) w a ((l.map (fun c => (c.toNat : Int))).map (Value.int .u8)) (fun j v hj => by
        have hj' : (bs l)[j]? = some v := by
          rw [← hj]
          simp [bs, Function.comp_def]
        have hn : 0 < n := by
          have hlen : j < (bs l).length := (List.getElem?_eq_some_iff.1 hj').1
          have := h.1
          omega
        obtain ⟨ad, e, _, _, hc⟩ := h.2 hn
        injection e with e
        subst e
        exact hc j v hj')
      simpa [hl] using this
    rw [run_convert_bytes_string w 55 9 5 _ n c Tryd.underlying55 Tryd.underlying5 Tryd.underlying9, run_bytesToString w a n c _ hcells, foldl_push_bytes]
    have e : l.map ((fun n : Int => UInt8.ofNat n.toNat) ∘ fun c => (c.toNat : Int)) = l := by
      conv => rhs; rw [← List.map_id l]
      apply List.map_congr_left
      intro x _
      simp
    simp [str, e, ByteArray.empty, ByteArray.emptyWithCapacity]
    rfl

end Go.Proofs.YtemokbggchodgaaDoor
