/-
  WHAT IS PROVED: what the library's variables hold is carried, and so is a disk, where a node turns; whole structs read in regions that draw their order. No condition.
-/
import Derived.Test.YteoodompphhkbaaGreatDoorZNC
import Derived.OrdersHeld
import Derived.Deep.RegionHeld
namespace Go.Proofs.YteoodompphhkbaaGreatDoor.Nod
set_option maxRecDepth 100000
open Go.RowKit Go.Lib Go.Maps
open Go.Proofs.YteoodompphhkbaaGreatDoor.Ros (Turn Sub Rd Blk no zints)

/-- the library's variables, in blocks below C -/
def EnvC (C : Nat) (w : World) : Prop := ∃ w0, K.Env w0 ∧ w0.heap.size ≤ C ∧ Below w0.heap.size w0 w
section
variable {w w' : World} {C d e : Nat} {U U' : Nat → Prop} {S : K.Dsk.Ds}
theorem EnvC.env (h : EnvC C w) : K.Env w := by
  obtain ⟨w0, h0, _, hb⟩ := h
  exact h0.below hb
theorem EnvC.first (h : K.Env w) : EnvC w.heap.size w := ⟨w, h, Nat.le_refl _, Below.refl _ _⟩
theorem EnvC.below (h : EnvC C w) (k : Below C w w') : EnvC C w' := by
  obtain ⟨w0, h0, hc, hb⟩ := h
  exact ⟨w0, h0, hc, hb.trans (k.mono hc)⟩
theorem EnvC.turn (h : EnvC C w) (k : Turn w w' U) (hU : ∀ i, U i → C ≤ i) (hC : C ≤ w.heap.size) : EnvC C w' := h.below (k.below hU hC)
theorem EnvC.later (h : EnvC C w) (k : Below w.heap.size w w') (hC : C ≤ w.heap.size) : EnvC C w' := h.below (k.mono hC)
/-- a disk apart from what turns -/
theorem Dk_turn (h : K.Dsk.Dk w d e U S) (k : Turn w w' U) (s : Sub w U U') (hlt : ∀ i, U' i → i < w'.heap.size) : K.Dsk.Dk w' d e U' S := by
  have hl := h.lt
  refine ⟨(k.block d hl.1 h.ap.1).trans h.blk, h.map.kept (to_dsk (k.wide (fun i hi => .inr hi))) (fun i hi f => ?_) (k.block e hl.2 h.ap.2), hlt, ⟨fun f => h.ap.1 (s d hl.1 f), fun f => h.ap.2 (s e hl.2 f)⟩, h.good, h.left⟩
  rcases f with f | f
  · exact .inl f
  · exact .inr (s i hi f)
end
theorem yields_mid {ops : Array Oper} {S : World → Prop} {a : Act} {dst : Option Tmp} {ty : TypeId} {pos : String} {after : Array Edge} {x : Operand} {T : TypeId} {dd : TypeDesc} {b o : Nat} {cs : List Value}
    (hx : a.eval x = .pointer (some ⟨b, o, none⟩)) (hS : ∀ w, S w → w.rangeAt b o cs) (hu : Tryz.prog.underlying T = some dd) (hd : dd.isRow = true) (hs : (Tryz.prog.info? T).map (·.size) = some cs.length) :
    YieldsIf Tryz.prog ops S ⟨dst, .load T x, ty, pos, after, none⟩ (.agg cs.toArray) a :=
  .inl ⟨rfl, fun w hw => by
    have hl := run_loadVar_mid w b o T cs _ (hS w hw) hu hd hs
    unfold execOp
    simp only [hx, Instr.loadAt, Instr.sureAddr, Sem.run_bind, Sem.run_pure, Result.andThen_ok, hl]⟩
theorem yields_build {ops : Array Oper} {S : World → Prop} {a : Act} {dst : Option Tmp} {ty : TypeId} {pos : String} {after : Array Edge} {T : TypeId} {parts : Array (Nat × Operand)} {cs : Array Value} {vs : List (Nat × Value)}
    (hb : Tryz.prog.built T vs = some cs) (hv : (parts.map fun (i, x) => (i, a.eval x)).toList = vs) :
    YieldsIf Tryz.prog ops S ⟨dst, .build T parts, ty, pos, after, none⟩ (.agg cs) a :=
  .inl ⟨rfl, fun w _ => by
    subst hv
    unfold execOp
    simp only [Sem.run_bind, Sem.run_pure, run_build w T _ cs hb, Result.andThen_ok]⟩
theorem NdAt.epr {w : World} {C g d : Nat} {F : Nat → Prop} {n : Nd} (h : NdAt w C g F d n) : w.rangeAt g 6 [.int .i64 n.ep.cur, .int .i64 n.ep.vote, .int .i64 n.ep.conf] := fun j v hv => by
  obtain ⟨_, _, _, _, _, _, c6, c7, c8, _⟩ := h.cells
  match j, hv with
  | 0, hv => exact c6.trans hv
  | 1, hv => exact c7.trans hv
  | 2, hv => exact c8.trans hv
  | j + 3, hv => simp at hv
theorem ep_info : (Tryz.prog.info? 67).map (·.size) = some 3 := by kernel_rfl
end Go.Proofs.YteoodompphhkbaaGreatDoor.Nod
