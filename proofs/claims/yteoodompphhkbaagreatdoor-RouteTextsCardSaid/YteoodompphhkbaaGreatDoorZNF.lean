/-
  WHAT IS PROVED: a struct read whole amid a region that draws its order; the contracts of a fail that is heard, and of the command that makes a replica. Conditions: the object is a node amid a call.
-/
import Derived.Test.YteoodompphhkbaaGreatDoorZNC
namespace Go.Proofs.YteoodompphhkbaaGreatDoor.Nod
set_option maxRecDepth 100000
open Go.RowKit Go.Lib Go.Maps
open Go.Proofs.YteoodompphhkbaaGreatDoor.Ros (Turn Sub Rd Blk no zints)

theorem blk_range {w : World} {b : Nat} {T' : TypeId} {cs : Array Value} (hb : Blk w b T' cs) : w.rangeAt b 0 cs.toList := fun j v hv => by
  have := hb.cell (0 + j)
  rw [this, Nat.zero_add, ← hv]
  simp
theorem quiet_row {ops : Array Oper} {rest : List Oper} {Q : Act → Prop} {a : Act} {w : World} {dst : Option Tmp} {ty : TypeId} {pos : String} {after : Array Edge} {gd : Option (Nat × Bool)} {x : Operand} {T T' : TypeId} {dd : TypeDesc} {b : Nat} {cs : Array Value}
    (hx : a.eval x = .pointer (some ⟨b, 0, none⟩)) (hb : Blk w b T' cs) (hu : Tryz.prog.underlying T = some dd) (hd : dd.isRow = true) (hs : (Tryz.prog.info? T).map (·.size) = some cs.toList.length) (hw : Region.wanted ⟨dst, .load T x, ty, pos, after, gd⟩ (yielded ops a.tmps) = true)
    (h : wpQuiet Tryz.prog ops (fun w' => ∃ p : Later w, w' = p.now) Q rest (a.put dst (.agg cs))) : wpQuiet Tryz.prog ops (fun w' => ∃ p : Later w, w' = p.now) Q (⟨dst, .load T x, ty, pos, after, gd⟩ :: rest) a := by
  unfold wpQuiet
  rw [if_pos hw]
  refine ⟨.agg cs, fun w' hw' => ?_, h⟩
  obtain ⟨p, rfl⟩ := hw'
  unfold Oper.quietAt execOp
  have hl := run_loadVar_mid p.now b 0 T cs.toList _ (blk_range (hb.below p.below hb.lt)) hu hd hs
  simp only [hx, Instr.loadAt, Instr.sureAddr, Sem.run_bind, Sem.run_pure, Result.andThen_ok, hl]
  exact ⟨rfl, rfl⟩

end Go.Proofs.YteoodompphhkbaaGreatDoor.Nod
