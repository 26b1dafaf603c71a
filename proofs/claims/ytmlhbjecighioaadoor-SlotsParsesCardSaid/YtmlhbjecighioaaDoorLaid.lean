/-
  WHAT IS PROVED: what a row's listed variables give a walk: strconv's two errors hold errors. No condition.
-/
import Derived.Test.YtmlhbjecighioaaDoorAnchor
import Derived.Test.YtmlhbjecighioaaDoorLaw
import Derived.Stop.LaidErr
import Derived.LaidMore
import Derived.MakeChecks
import Derived.Stop.Joined
import Derived.LaidHandle
namespace Go.Proofs.YtmlhbjecighioaaDoor
open Go.RowKit Go.ChangeShapes Go.WideShapes Go.ChangeAt Go.WideElems

theorem star_text : "*" ++ "errors.errorString" = "*errors.errorString" := by decide
theorem row_err (u : TypeId) (h : Tryd.prog.typeName? 3 u = some "*errors.errorString") : u = 110 :=
  typeName_ptr_named (nm := "errors.errorString") (by rw [star_text]; kernel_rfl) (by kernel_rfl) (by decide) u (by rw [star_text]; exact h)
theorem g_range : Tryd.prog.globalNamed "strconv.ErrRange" = some 3 := by kernel_rfl
theorem g_syn : Tryd.prog.globalNamed "strconv.ErrSyntax" = some 2 := by kernel_rfl
theorem t_range : (Tryd.prog.globals[3]?).map (·.type) = some 69 := by kernel_rfl
theorem t_syn : (Tryd.prog.globals[2]?).map (·.type) = some 69 := by kernel_rfl
theorem c_es : Tryd.prog.cellsOf 112 = 1 := by kernel_rfl
theorem c_str : Tryd.prog.cellsOf 9 = 1 := by kernel_rfl

/-- the list of this seat's rows -/
def laidL : List (String × DataW Unit) := Rows.slotsOfRow.laid
theorem errs_of_laid {W : World} (h : laidMetH Tryd.prog laidL W) : Errs W := by
  rw [MakeChecks.laidMetH_plain _ _ _ (by kernel_rfl)] at h
  have h3 := laidMet.tail (laidMet.tail (laidMet.tail h))
  have h4 := laidMet.tail h3
  obtain ⟨a0, s0, hv0, _⟩ := laid_sentinel h3 g_range t_range Tryd.underlying69 row_err Tryd.underlying110 Tryd.underlying112 rfl rfl Tryd.underlying9 c_es c_str
  obtain ⟨a1, s1, hv1, _⟩ := laid_sentinel h4 g_syn t_syn Tryd.underlying69 row_err Tryd.underlying110 Tryd.underlying112 rfl rfl Tryd.underlying9 c_es c_str
  have e1 : W.cell? ⟨2, 0, none⟩ = some (.iface 110 (.pointer (some a1))) := by simpa using World.var?_cell g_syn hv1 0
  have e0 : W.cell? ⟨3, 0, none⟩ = some (.iface 110 (.pointer (some a0))) := by simpa using World.var?_cell g_range hv0 0
  exact ⟨⟨_, _, e1⟩, _, _, e0⟩

theorem door_met (os : Os) (args : Array Value) : laidMetH Tryd.prog laidL ((World.doorLaid Tryd.prog 400 os).forCall (fun _ _ => 0) ⟨#[], args, []⟩).memory :=
  laidMetH_of_parts3 (fuel := 8) (laidMet_of_run' 8 (by kernel_rfl) (by kernel_rfl)) (by kernel_rfl) (by kernel_rfl)
end Go.Proofs.YtmlhbjecighioaaDoor
