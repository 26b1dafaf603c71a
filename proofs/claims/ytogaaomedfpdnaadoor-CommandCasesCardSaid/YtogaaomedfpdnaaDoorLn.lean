/-
  WHAT IS PROVED: lines in memory: plain facts, for any world. No condition.
-/
import Derived.Test.YtogaaomedfpdnaaDoorPl
import Derived.Test.YtogaaomedfpdnaaDoorLaw
import Derived.Laws.Rows
import Derived.Laws.ResultCell
import Derived.WalkKit
namespace Go.Proofs.YtogaaomedfpdnaaDoor
open Go.RowKit

def lnA (l : Ln) : Array Value := #[.int .i64 l.k, .int .i64 l.i, .int .u64 (l.s : Int), .string (str l.y)]
theorem ln_size1 (l : Ln) : (Tryd.prog.info? 26).map (·.size) = some (lnA l).size := by
  rw [show (lnA l).size = 4 from rfl]; kernel_rfl
theorem ln_size2 (l : Ln) : (Tryd.prog.info? 31).map (·.size) = some (lnA l).size := by
  rw [show (lnA l).size = 4 from rfl]; kernel_rfl
theorem blk_store4 {w : World} {b : Nat} {t : TypeId} {l : Ln} (h : Blk w b t (lnA l)) (m : Ln) :
    Blk ((((w.setCell ⟨b, 0, none⟩ (.int .i64 m.k)).setCell ⟨b, 1, none⟩ (.int .i64 m.i)).setCell ⟨b, 2, none⟩ (.int .u64 (m.s : Int))).setCell ⟨b, 3, none⟩ (.string (str m.y))) b t (lnA m) := by
  have h3 := (((Blk.set_ h 0 (.int .i64 m.k)).set_ 1 (.int .i64 m.i)).set_ 2 (.int .u64 (m.s : Int))).set_ 3 (.string (str m.y))
  exact h3
theorem below_store4 {w w' : World} {B b : Nat} (h : Below B w w') (hb : B ≤ b) (x y z u : Value) : Below B w ((((w'.setCell ⟨b, 0, none⟩ x).setCell ⟨b, 1, none⟩ y).setCell ⟨b, 2, none⟩ z).setCell ⟨b, 3, none⟩ u) :=
  (((h.setCell (p := ⟨b, 0, none⟩) hb x).setCell (p := ⟨b, 1, none⟩) hb y).setCell (p := ⟨b, 2, none⟩) hb z).setCell (p := ⟨b, 3, none⟩) hb u
/-- a line's four cells, as a walk asks for them -/
def LnAt (w : World) (b : Nat) (l : Ln) : Prop := w.cell? ⟨b, 0, none⟩ = some (.int .i64 l.k) ∧ w.cell? ⟨b, 1, none⟩ = some (.int .i64 l.i) ∧ w.cell? ⟨b, 2, none⟩ = some (.int .u64 (l.s : Int)) ∧ w.cell? ⟨b, 3, none⟩ = some (.string (str l.y))
theorem ln_at {w : World} {b : Nat} {t : TypeId} {l : Ln} (h : Blk w b t (lnA l)) : LnAt w b l := ⟨h.cell 0, h.cell 1, h.cell 2, h.cell 3⟩
/-- a line and one more are handed back -/
theorem results_lnp {P : Program} {fn : Func} {p u : Tmp} {t : TypeId} {d : TypeDesc} (h : fn.results = #[.cell p t, .tmp u]) (ht : P.underlying t = some d) (hd : (match d with | .struct _ | .array _ _ => true | _ => false) = true) (tmps : Array Value) (w : World) (b : Nat) (l : Ln)
    (hs : (P.info? t).map (·.size) = some (lnA l).size) (hp : tmps.getD p undef = .pointer (some ⟨b, 0, none⟩)) (hb : Blk w b t (lnA l)) : (results fn tmps).run P w = .ok (.tuple #[.agg (lnA l), tmps.getD u undef]) w := by
  have hp' : tmps[p]?.getD undef = .pointer (some ⟨b, 0, none⟩) := by simpa using hp
  simp [results, h, hp', asAddr, run_loadVar_row w b t t (lnA l) (0, 0) d hb ht hd hs, Result.andThen]
def GivesL (r : Ln × Int) (w : World) (e : Ending) (w' : World) : Prop := e = .returned (.tuple #[.agg (lnA r.1), .int .i64 r.2]) ∧ Below w.heap.size w w'
end Go.Proofs.YtogaaomedfpdnaaDoor
