/-
  WHAT IS PROVED: what '==' and '!=' say of two replicas. Condition: none.
-/
import Derived.Test.YtdeppjoehnlbnaaAnchor
import Derived.Shelf.SlicesE.Kit
import Derived.Laws.StructEq
namespace Go.Proofs.Ytdeppjoehnlbnaa
open Go.RowKit Go.Lib

theorem same_rep (x r : Rep) (w : World) : (Op.equalIn 10000 29 (vRep x) (vRep r)).run Try.prog w = .ok (decide (x = r)) w := by
  have u3 := Try.underlying3
  have a3 := Try.isAgg3
  have z3 := Try.sizeOf3
  have hS : Try.prog.underlying 29 = some (.struct (Try.prog.fieldsOf 29)) := by kernel_rfl
  have hp : Try.prog.stoodInHeld 29 = false := by kernel_rfl
  rw [show (10000 : Nat) = 9999 + 1 from rfl, run_equalIn_agg w 9999 29 _ _ hS hp]
  simp only [Program.fieldsOf, Try.underlying29]
  obtain ⟨i, o⟩ := x
  obtain ⟨i', o'⟩ := r
  go_simp
  by_cases h1 : i = i' <;> by_cases h2 : o = o' <;> simp [h1, h2]
theorem guard_rep (op : BinOp) (a b : Operand) (x r : Rep) (w : World) : (eqGuard op 29 a b (vRep x) (vRep r)).run Try.prog w = .ok () w := run_eqGuard_agg w op 29 a b _ _ (by kernel_rfl)
end Go.Proofs.Ytdeppjoehnlbnaa
