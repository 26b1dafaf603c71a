/-
  WHAT IS PROVED: the operations on a node's table as steps of a walk, and one walk for a region that draws its order, only reads (whole tables too), and whose callees leave all that was there as it was. Condition: none.
-/
import Derived.Test.YteoodompphhkbaaGreatDoorZNO
import Derived.Deep.QuietTactic
import Derived.BigQuiet
import Derived.Deep.RegionHeld3
namespace Go.Proofs.YteoodompphhkbaaGreatDoor.Nod
set_option maxRecDepth 100000
open Go.RowKit Go.Lib Go.Maps
open Go.Proofs.YteoodompphhkbaaGreatDoor.Ros (Turn Sub Rd Blk no zints)

theorem lt_cell {w : World} {a : Addr} {v : Value} (h : w.cell? a = some v) : a.block < w.heap.size := K.C.lt_of_cell h
theorem ntab_size (t : K.C.Tab) : (Tryz.prog.info? 71).map (·.size) = some (tbL t).length := by
  rw [tbL_len]; kernel_rfl
section
variable {ops : Array Oper} {rest : List Oper} {Q : Exit → Act → World → Prop} {a : Act} {w : World} {dst : Option Tmp} {ty : TypeId} {pos : String} {after : Array Edge} {gd : Option (Nat × Bool)} {x y : Operand} {C g d : Nat} {F : Nat → Prop} {n : Nd}
theorem nd_load (hx : a.eval x = .pointer (some ⟨g, 10, none⟩)) (hT : NdAt w C g F d n) (hw : Region.wanted ⟨dst, .load 71 x, ty, pos, after, gd⟩ (yielded ops a.tmps) = true)
    (h : wpList Tryz.prog ops Q rest (a.put dst (.agg (K.C.tb n.tab))) w) : wpList Tryz.prog ops Q (⟨dst, .load 71 x, ty, pos, after, gd⟩ :: rest) a w :=
  K.C.at_want hw fun _ hK => wp_load_mid 71 x rfl g 10 hx (tbL n.tab) _ hT.range Tryz.underlying71 rfl (ntab_size n.tab) (hK _ _ h)
theorem nd_store {u : K.C.Tab} (hx : a.eval x = .pointer (some ⟨g, 10, none⟩)) (hy : a.eval y = .agg (K.C.tb u)) (hT : NdAt w C g F d n) (hw : Region.wanted ⟨dst, .store 71 x y, ty, pos, after, gd⟩ (yielded ops a.tmps) = true)
    (h : wpList Tryz.prog ops Q rest (a.put dst undef) (w.setCells g 10 (K.C.tb u).toList)) : wpList Tryz.prog ops Q (⟨dst, .store 71 x y, ty, pos, after, gd⟩ :: rest) a w :=
  K.C.at_want hw fun _ hK => wp_store_mid 71 x y rfl g 10 (K.C.tb u) hx hy (by rw [K.C.tb_size]; exact hT.there) (K.C.tab_size u) (K.C.tb_cells u) (hK _ _ h)
end

/-! ### regions that draw their order and only read -/
/-- a world in which all that lay in w lies as it did -/
structure Later (w : World) where
  now : World
  below : Below w.heap.size w now
def Later.start (w : World) : Later w := ⟨w, Below.refl _ w⟩
instance (w : World) : Inhabited (Later w) := ⟨Later.start w⟩
theorem Later.cell {w : World} (p : Later w) {a : Addr} {v : Value} (h : w.cell? a = some v) : p.now.cell? a = some v := (p.below.cell (lt_cell h)).trans h
theorem wp_region_later {P : Program} {id : Nat} {Q : Exit → Act → World → Prop} {a : Act} {w : World} {l : List Oper} (hm : P.follows .mixedOrders = true) (hB : Region.lexB .any l.toArray = true)
    (h : wpQuiet P l.toArray (fun w' => ∃ p : Later w, w' = p.now) (fun a' => ∀ w', (∃ p : Later w, w' = p.now) → Q .normal a' w') l a) : (Code.region id l.toArray true).wp P Q a w :=
  wp_region_quiet (C := fun w' => ∃ p : Later w, w' = p.now) hm hB ⟨⟨w.drew, ⟨rfl, rfl, rfl, Nat.le_refl _, fun _ _ => rfl⟩⟩, rfl⟩ (by simpa using h)
/-- a callee's contract, met in such a world -/
theorem Later.calls {P : Program} {f : FuncId} {args : Array Value} {w : World} {p : Later w} {v : Value}
    (h : Calls P f args p.now fun e w' => e = .returned v ∧ Below p.now.heap.size p.now w') : Calls P f args p.now fun e w'' => e = .returned v ∧ ∃ p : Later w, w'' = p.now :=
  h.mono fun _ w' ⟨he, hb⟩ => ⟨he, ⟨w', p.below.trans (hb.mono p.below.size)⟩, rfl⟩
theorem Later.calls_same {P : Program} {f : FuncId} {args : Array Value} {w : World} {p : Later w} {v : Value}
    (h : Calls P f args p.now fun e w' => e = .returned v ∧ p.now = w') : Calls P f args p.now fun e w'' => e = .returned v ∧ ∃ p : Later w, w'' = p.now :=
  h.mono fun _ _ ⟨he, hb⟩ => ⟨he, p, hb.symm⟩
/-! ### lists of ints that are told -/
/-! ### claims and drops in a table -/
theorem claimT_any (t : K.C.Tab) (id ep : Int) (s : Nat) (hs : s < 18446744073709551616) :
    ∃ m f, ∀ w, Calls Tryz.prog 221 #[.agg (K.C.tb t), .int .i64 id, .int .i64 ep, .int .u64 (s : Int)] w (K.C.Gives (claimT t id ep s) m f w) := by
  cases h : K.C.goodB t id ep with
  | true => exact ⟨_, _, fun w => by have := K.C.claim_yes t id ep s hs h w; rwa [show claimT t id ep s = K.C.claimP t id ep s.testBit from if_pos h]⟩
  | false => exact ⟨_, _, fun w => by have := K.C.claim_no t id ep s h w; rwa [show claimT t id ep s = K.C.Tab.zero from if_neg (by rw [h]; decide)]⟩
end Go.Proofs.YteoodompphhkbaaGreatDoor.Nod
