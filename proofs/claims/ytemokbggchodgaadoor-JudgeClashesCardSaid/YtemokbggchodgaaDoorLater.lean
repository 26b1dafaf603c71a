/-
  WHAT IS PROVED: a quiet walk whose callees lay new blocks. No condition.
-/
import Derived.Test.YtemokbggchodgaaDoorMem
import Derived.BigQuiet
import Derived.Deep.QuietTactic
namespace Go.Proofs.YtemokbggchodgaaDoor
open Go.RowKit Go.Lib
set_option maxRecDepth 100000

theorem lt_of_cell {w : World} {a : Addr} {v : Value} (h : w.cell? a = some v) : a.block < w.heap.size := by
  rcases Nat.lt_or_ge a.block w.heap.size with hlt | hge
  · exact hlt
  · unfold World.cell? at h; rw [Array.getElem?_eq_none hge] at h; cases h
/-! ### a quiet walk whose callees lay new blocks -/
structure Later (w : World) where
  now : World
  below : Below w.heap.size w now
def Later.start (w : World) : Later w := ⟨w, Below.refl _ w⟩
instance (w : World) : Inhabited (Later w) := ⟨Later.start w⟩
theorem Later.cell {w : World} (p : Later w) {a : Addr} {v : Value} (h : w.cell? a = some v) : p.now.cell? a = some v := (p.below.cell (lt_of_cell h)).trans h
theorem wp_region_later {P : Program} {id : Nat} {Q : Exit → Act → World → Prop} {a : Act} {w : World} {l : List Oper} (hm : P.follows .mixedOrders = true) (hB : Region.lexB .any l.toArray = true)
    (h : wpQuiet P l.toArray (fun w' => ∃ p : Later w, w' = p.now) (fun a' => ∀ w', (∃ p : Later w, w' = p.now) → Q .normal a' w') l a) : (Code.region id l.toArray true).wp P Q a w :=
  wp_region_quiet (C := fun w' => ∃ p : Later w, w' = p.now) hm hB ⟨⟨w.drew, ⟨rfl, rfl, rfl, Nat.le_refl _, fun _ _ => rfl⟩⟩, rfl⟩ (by simpa using h)
theorem Later.calls {P : Program} {f : FuncId} {args : Array Value} {w : World} {p : Later w} {v : Value}
    (h : Calls P f args p.now fun e w' => e = .returned v ∧ Below p.now.heap.size p.now w') : Calls P f args p.now fun e w'' => e = .returned v ∧ ∃ p : Later w, w'' = p.now :=
  h.mono fun _ w' ⟨he, hb⟩ => ⟨he, ⟨w', p.below.trans (hb.mono p.below.size)⟩, rfl⟩

end Go.Proofs.YtemokbggchodgaaDoor
