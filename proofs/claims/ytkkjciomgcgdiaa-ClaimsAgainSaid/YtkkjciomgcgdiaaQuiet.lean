/-
  WHAT IS PROVED: one walk for a region that draws its order, only reads (whole tables too), and whose callees leave all that was there as it was. Condition: none.
-/
import Derived.Test.YtkkjciomgcgdiaaTab
import Derived.Deep.QuietTactic
namespace Go.Proofs.Ytkkjciomgcgdiaa
open Go.RowKit

/-- a world in which all that lay in w lies as it did -/
structure Later (w : World) where
  now : World
  below : Below w.heap.size w now
def Later.start (w : World) : Later w := ⟨w, Below.refl _ w⟩
instance (w : World) : Inhabited (Later w) := ⟨Later.start w⟩
theorem Later.cell {w : World} (p : Later w) {a : Addr} {v : Value} (h : w.cell? a = some v) : p.now.cell? a = some v := (p.below.cell (lt_of_cell h)).trans h
theorem wp_region_later {P : Program} {id : Nat} {Q : Exit → Act → World → Prop} {a : Act} {w : World} {l : List Oper} (hm : P.follows .mixedOrders = true) (hB : Region.lexB .any l.toArray = true)
    (h : wpQuiet P l.toArray (fun w' => ∃ p : Later w, w' = p.now) (fun a' => ∀ w', (∃ p : Later w, w' = p.now) → Q .normal a' w') l a) : (Code.region id l.toArray true).wp P Q a w :=
  wp_region_quiet (C := fun w' => ∃ p : Later w, w' = p.now) hm hB ⟨⟨w.drew, ⟨rfl, rfl, rfl, Nat.le_refl _, fun _ _ => rfl⟩⟩, rfl⟩ (by simpa using h)
/-- a callee's contract, met in such a world -/
theorem Later.calls {P : Program} {f : FuncId} {args : Array Value} {w : World} {p : Later w} {v : Value}
    (h : Calls P f args p.now fun e w' => e = .returned v ∧ Below p.now.heap.size p.now w') : Calls P f args p.now fun e w'' => e = .returned v ∧ ∃ p : Later w, w'' = p.now :=
  h.mono fun _ w' ⟨he, hb⟩ => ⟨he, ⟨w', p.below.trans (hb.mono p.below.size)⟩, rfl⟩
theorem Later.calls_same {P : Program} {f : FuncId} {args : Array Value} {w : World} {p : Later w} {v : Value}
    (h : Calls P f args p.now fun e w' => e = .returned v ∧ p.now = w') : Calls P f args p.now fun e w'' => e = .returned v ∧ ∃ p : Later w, w'' = p.now :=
  h.mono fun _ _ ⟨he, hb⟩ => ⟨he, p, hb.symm⟩
section
variable {ops : Array Oper} {rest : List Oper} {Q : Act → Prop} {a : Act} {w : World} {dst : Option Tmp} {ty : TypeId} {pos : String} {after : Array Edge} {g : Option (Nat × Bool)} {x : Operand} {b : Nat} {t : Tab}
theorem quiet_load (hx : a.eval x = .pointer (some ⟨b, 0, none⟩)) (hT : TabAt w b t) (hw : Region.wanted ⟨dst, .load 24 x, ty, pos, after, g⟩ (yielded ops a.tmps) = true)
    (h : wpQuiet Try.prog ops (fun w' => ∃ p : Later w, w' = p.now) Q rest (a.put dst (.agg (tb t)))) : wpQuiet Try.prog ops (fun w' => ∃ p : Later w, w' = p.now) Q (⟨dst, .load 24 x, ty, pos, after, g⟩ :: rest) a := by
  unfold wpQuiet
  rw [if_pos hw]
  refine ⟨.agg (tb t), fun w' hw' => ?_, h⟩
  obtain ⟨p, rfl⟩ := hw'
  unfold Oper.quietAt execOp
  simp only [hx, Instr.loadAt, Instr.sureAddr, Sem.run_bind, Sem.run_pure, Result.andThen_ok, run_loadVar_row p.now b 24 24 (tb t) (0, 0) _ (hT.later p.below) Try.underlying24 rfl (tab_size t)]
  exact ⟨rfl, rfl⟩
end
end Go.Proofs.Ytkkjciomgcgdiaa
