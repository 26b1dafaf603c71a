/-
  WHAT IS PROVED: what '==' and '!=' say of two nodes' epochs. Condition: none.
-/
import Derived.Test.YtckdibnadokipaaEps
import Derived.Shelf.SlicesE.Kit
import Derived.Laws.StructEq
namespace Go.Proofs.Ytckdibnadokipaa
open Go.RowKit Go.Lib

theorem same_ep (x r : Ep) (w : World) : (Op.equalIn 10000 23 (vEp x) (vEp r)).run Try.prog w = .ok (decide (x = r)) w := by
  have u3 := Try.underlying3
  have a3 := Try.isAgg3
  have z3 := Try.sizeOf3
  have hS : Try.prog.underlying 23 = some (.struct (Try.prog.fieldsOf 23)) := by kernel_rfl
  have hp : Try.prog.stoodInHeld 23 = false := by kernel_rfl
  rw [show (10000 : Nat) = 9999 + 1 from rfl, run_equalIn_agg w 9999 23 _ _ hS hp]
  simp only [Program.fieldsOf, Try.underlying23]
  obtain ⟨i, o, u⟩ := x
  obtain ⟨i', o', u'⟩ := r
  go_simp
  by_cases h1 : i = i' <;> by_cases h2 : o = o' <;> by_cases h3 : u = u' <;> simp [h1, h2, h3]
theorem guard_ep (op : BinOp) (a b : Operand) (x r : Ep) (w : World) : (eqGuard op 23 a b (vEp x) (vEp r)).run Try.prog w = .ok () w := run_eqGuard_agg w op 23 a b _ _ (by kernel_rfl)
end Go.Proofs.Ytckdibnadokipaa
