/-
  WHAT IS PROVED: layers 2's, 7's and 12's contracts: sets of slots, tables, a disk. Conditions: each states its own.
-/
import Derived.Test.YteoodompphhkbaaGreatDoorRows
import Derived.Test.YteoodompphhkbaaGreatDoorZShelfA
import Derived.WalkKit
import Derived.Deep.AppendLies
import Derived.Deep.Draws
import Derived.Deep.OwnRows
import Derived.Lib.Hide
import Derived.ProofKit
import Derived.OpenShut
import Derived.JoinedCond
import Derived.OpenVars
import Derived.Deep.MidRow
import Derived.Laws.StructEq
import Derived.Laws.ResultCell
import Derived.Laws.CopyOwn
import Derived.Deep.WholeRow
import Derived.Deep.QuietTactic
import Derived.Deep.Strs
import Derived.Lib.LaidTab
import Derived.BigQuiet
import Derived.IntWalk
import Derived.Laws.BitsAllLaws
import Derived.Laws.BitsLemmas
import Derived.Outline
import Derived.LoopTactic
import Derived.Maps.AppendAt
import Derived.OwnWalk
import Derived.Lib.Strings
import Derived.Lib.Bytealg
import Derived.Lib.IndexLaws
import Derived.Lib.AtoiAll
import Derived.Lib.Join
import Derived.Lib.ItoaNum
import Derived.Lib.AtoiErrMem
import Derived.RangeFuncNested
import Derived.RangeFuncBound
import Derived.RangeFuncCalls
import Derived.RangeFuncLeaves
import Derived.RangeFuncFrom
import Derived.Shelf.Abstract
import Derived.Shelf.RegionOpen
import Derived.OwnWalkIn
import Derived.TacticsInMore
import Derived.LoopNIn
import Derived.LoopIn
import Derived.Lib.SmallJoins
import Derived.Maps.RangeWalk
import Derived.Maps.OwnOps
import Derived.StringKeys
import Derived.Sort.KeysCollected
import Derived.Lib.OthersKept
import Derived.Deep.RegionHeld3
import Derived.Deep.CutRange
/- Base -/
namespace Go.Proofs.YteoodompphhkbaaGreatDoor.K
set_option maxRecDepth 100000
open Go.RowKit

theorem block_of_add (a : Addr) (n : Nat) : (a.add n).block = a.block := by unfold Addr.add; split <;> rfl
theorem add_of_add (a : Addr) (i j : Nat) : (a.add i).add j = a.add (i + j) := by
  unfold Addr.add
  by_cases hi : i = 0 <;> by_cases hj : j = 0 <;> simp [hi, hj, Nat.add_assoc]

/-- the slice value '.slice A n c' holds the cells xs, in a block that is there and isn't block g -/
def Reads (w : World) (g : Nat) (A : Option Addr) (n : Nat) (xs : List Value) : Prop :=
  xs.length = n ∧ (0 < n → ∃ ad, A = some ad ∧ ad.block < w.heap.size ∧ ad.block ≠ g ∧ ∀ j u, xs[j]? = some u → w.cell? (ad.add j) = some u)

section
variable {w w' a b c : World} {g g' n : Nat} {A : Option Addr} {xs : List Value}
theorem Reads.none_ : Reads w g A 0 [] := ⟨rfl, fun h => absurd h (by omega)⟩
theorem Reads.at_ {k : Nat} (h : Reads w g A n xs) (hk : k < n) : ∃ ad u, A = some ad ∧ xs[k]? = some u ∧ w.cell? (ad.add k) = some u := by
  obtain ⟨ad, e, _, _, hc⟩ := h.2 (by omega)
  have hl : k < xs.length := by have := h.1; omega
  exact ⟨ad, xs[k], e, List.getElem?_eq_getElem hl, hc k _ (List.getElem?_eq_getElem hl)⟩
theorem Reads.only (h : Reads w g A n xs) (hb : w.grownBy w' (some g)) : Reads w' g A n xs :=
  ⟨h.1, fun hn => by
    obtain ⟨ad, e, hlt, hne, hc⟩ := h.2 hn
    refine ⟨ad, e, Nat.lt_of_lt_of_le hlt hb.size, hne, fun j u hu => ?_⟩
    exact (World.cell?_of_block (hb.block (ad.add j).block (by rw [block_of_add]; exact hlt) (fun e => hne (by rw [block_of_add] at e; injection e)))).trans (hc j u hu)⟩
theorem Reads.other (h : Reads w g A n xs) (hg : w.heap.size ≤ g') : Reads w g' A n xs :=
  ⟨h.1, fun hn => by
    obtain ⟨ad, e, hlt, hne, hc⟩ := h.2 hn
    exact ⟨ad, e, hlt, by omega, hc⟩⟩
theorem Reads.below (h : Reads w g A n xs) (hb : Below w.heap.size w w') : Reads w' g A n xs :=
  ⟨h.1, fun hn => by
    obtain ⟨ad, e, hlt, hne, hc⟩ := h.2 hn
    exact ⟨ad, e, Nat.lt_of_lt_of_le hlt hb.size, hne, fun j u hu => (hb.cell (by rw [block_of_add]; exact hlt)).trans (hc j u hu)⟩⟩
theorem Reads.cut (h : Reads w g A n xs) {k cap : Nat} (hk : k ≤ n) (hc : n ≤ cap) :
    Reads w g (if cap = k then A else A.map (·.add k)) (n - k) (xs.drop k) := by
  refine ⟨by rw [List.length_drop, h.1], fun hn => ?_⟩
  obtain ⟨ad, rfl, hlt, hb, hcell⟩ := h.2 (by omega)
  rw [if_neg (by omega)]
  refine ⟨ad.add k, rfl, by rw [block_of_add]; exact hlt, by rw [block_of_add]; exact hb, fun j u hu => ?_⟩
  rw [add_of_add]
  exact hcell _ u (by rw [← hu, List.getElem?_drop])
theorem Reads.take (h : Reads w g A n xs) {k : Nat} (hk : k ≤ n) : Reads w g A k (xs.take k) := by
  refine ⟨by rw [List.length_take, h.1]; omega, fun hn => ?_⟩
  obtain ⟨ad, e, hlt, hb, hcell⟩ := h.2 (by omega)
  exact ⟨ad, e, hlt, hb, fun j u hu => hcell j u (by rw [List.getElem?_take] at hu; split at hu <;> simp_all)⟩
end

/-- block g is just the cells cs of element type t, none frozen -/
def Blk (w : World) (g : Nat) (t : TypeId) (cs : Array Value) : Prop := w.heap[g]? = some (.cells cs t (0, 0))

section
variable {w w' : World} {g : Nat} {t : TypeId} {cs : Array Value}
theorem Blk.lt (h : Blk w g t cs) : g < w.heap.size := by
  rcases Nat.lt_or_ge g w.heap.size with hlt | hge
  · exact hlt
  · unfold Blk at h; rw [Array.getElem?_eq_none hge] at h; cases h
theorem Blk.cell (h : Blk w g t cs) (i : Nat) : w.cell? ⟨g, i, none⟩ = cs[i]? := cell_of_row w g i cs t (0, 0) h
theorem Blk.frozen (h : Blk w g t cs) (i : Nat) : w.frozen? ⟨g, i, none⟩ = false := by
  unfold Blk at h
  simp [World.frozen?, h]
theorem Blk.new (w : World) (t : TypeId) (cs : Array Value) : Blk (w.alloc (.cells cs t)) w.heap.size t cs := heap_alloc_new w _
theorem Blk.drew (h : Blk w g t cs) : Blk w.drew g t cs := h
theorem Blk.alloc (h : Blk w g t cs) (o : Obj) : Blk (w.alloc o) g t cs := (Below.heap_alloc w o g h.lt).trans h
theorem Blk.set_ (h : Blk w g t cs) (i : Nat) (u : Value) : Blk (w.setCell ⟨g, i, none⟩ u) g t (cs.setIfInBounds i u) := by
  unfold Blk at h ⊢
  simp [World.setCell, Array.getElem?_modify, h]
theorem Blk.far (h : Blk w g t cs) {p : Addr} (hp : g ≠ p.block) (u : Value) : Blk (w.setCell p u) g t cs := (Below.heap_setCell w p u g hp).trans h
theorem Blk.below {B : Nat} (h : Blk w g t cs) (hb : Below B w w') (hg : g < B) : Blk w' g t cs := (hb.block g hg).trans h
theorem Blk.grown {row : Option Nat} (h : Blk w g t cs) (hb : w.grownBy w' row) (hg : some g ≠ row) : Blk w' g t cs := (hb.block g h.lt hg).trans h
end

theorem only_setCell {a w : World} {g : Nat} (h : a.grownBy w (some g)) {p : Addr} (hp : p.block = g ∨ a.heap.size ≤ p.block) (u : Value) : a.grownBy (w.setCell p u) (some g) :=
  ⟨h.os, h.tape, h.output, by simpa [World.setCell] using h.size, fun i hi hne => (Below.heap_setCell w p u i (by
    rintro rfl
    rcases hp with hp | hp
    · exact hne (by rw [hp])
    · omega)).trans (h.block i hi hne)⟩
theorem only_of_below {a w : World} (h : Below a.heap.size a w) (row : Option Nat) : a.grownBy w row := ⟨h.os, h.tape, h.output, h.size, fun i hi _ => h.block i hi⟩
theorem below_of_only {a w : World} {g B : Nat} (h : a.grownBy w (some g)) (hB : B ≤ a.heap.size) (hg : B ≤ g) : Below B a w :=
  ⟨h.os, h.tape, h.output, h.size, fun i hi => h.block i (by omega) (fun e => by injection e; omega)⟩
theorem below_drewN {B : Nat} {a w : World} (h : Below B a w) (n : Nat) : Below B a (w.drewN n) := ⟨h.os, h.tape, h.output, h.size, h.block⟩
/-- a Go bool is handed back; nothing that was there has turned -/
def Says (r : Bool) (w : World) (e : Ending) (w' : World) : Prop := e = .returned (.bool r) ∧ Below w.heap.size w w'
end Go.Proofs.YteoodompphhkbaaGreatDoor.K

/- Law -/
namespace Go.Proofs.YteoodompphhkbaaGreatDoor.K
set_option maxRecDepth 100000
open Go.RowKit Go.ChangeShapes Go.WideShapes Go.ChangeAt Go.WideElems

section
variable {H : Type} {enc : TypeId × Value → H} {P : Program}
end
end Go.Proofs.YteoodompphhkbaaGreatDoor.K

/- CA -/
/-
  WHAT IS PROVED: how an argument of type []int reads: as a list of ints, each within int's bounds, in a block that was there. Condition: none.
-/
namespace Go.Proofs.YteoodompphhkbaaGreatDoor.K.C
set_option maxRecDepth 100000
open Go.RowKit Go.ChangeShapes Go.WideShapes Go.ChangeAt Go.WideElems

theorem lt_of_cell {w : World} {a : Addr} {v : Value} (h : w.cell? a = some v) : a.block < w.heap.size := by
  unfold World.cell? at h
  rcases Nat.lt_or_ge a.block w.heap.size with h' | h'
  · exact h'
  · rw [Array.getElem?_eq_none h'] at h
    cases h
def zints (l : List Int) : List Value := l.map fun z => Value.int .i64 z
theorem zints_at {l : List Int} {k : Nat} {u : Value} (h : (zints l)[k]? = some u) : ∃ z, l[k]? = some z ∧ u = .int .i64 z := by
  unfold zints at h
  rw [List.getElem?_map] at h
  cases hz : l[k]? with
  | none => rw [hz] at h; cases h
  | some z => rw [hz] at h; simp at h; exact ⟨z, rfl, h.symm⟩
section
variable {H : Type} {enc : TypeId × Value → H} {P : Program}
end
end Go.Proofs.YteoodompphhkbaaGreatDoor.K.C

/-
  WHAT IS PROVED: tables in memory (a variable of type Table, read and written as a whole and slot by slot), arguments of the types Table and Claim, '==' of two tables. No condition.
-/
namespace Go.Proofs.YteoodompphhkbaaGreatDoor.K.C
set_option maxRecDepth 100000
set_option maxRecDepth 100000
open Go.RowKit Go.ChangeShapes Go.WideShapes Go.ChangeAt Go.WideElems

/-- who has each slot, and by which epoch -/
structure Tab where
  o : Nat → Int
  e : Nat → Int
def Tab.zero : Tab := ⟨fun _ => 0, fun _ => 0⟩
def row (f : Nat → Int) : List Value := (List.range 64).map fun i => Value.int .i64 (f i)
theorem row_len (f : Nat → Int) : (row f).length = 64 := by simp [row]
theorem row_at (f : Nat → Int) {i : Nat} (h : i < 64) : (row f)[i]? = some (.int .i64 (f i)) := by simp [row, h]
theorem row_congr {f g : Nat → Int} (h : ∀ i, i < 64 → f i = g i) : row f = row g := by
  unfold row
  refine List.map_congr_left fun i hi => ?_
  rw [h i (by simpa using hi)]
theorem row_mem {f : Nat → Int} {v : Value} (h : v ∈ row f) : ∃ z, v = .int .i64 z := by
  unfold row at h
  obtain ⟨i, _, rfl⟩ := List.mem_map.1 h
  exact ⟨_, rfl⟩
/-- a table's cells -/
def tb (t : Tab) : Array Value := (row t.o ++ row t.e).toArray
theorem tb_size (t : Tab) : (tb t).size = 128 := by simp [tb, row_len]
theorem tb_o (t : Tab) {i : Nat} (h : i < 64) : (tb t)[i]? = some (.int .i64 (t.o i)) := by
  simp only [tb, List.getElem?_toArray]
  rw [List.getElem?_append_left (by rw [row_len]; exact h), row_at _ h]
theorem tb_e (t : Tab) {i : Nat} (h : i < 64) : (tb t)[64 + i]? = some (.int .i64 (t.e i)) := by
  simp only [tb, List.getElem?_toArray]
  rw [List.getElem?_append_right (by rw [row_len]; omega), row_len, show 64 + i - 64 = i by omega, row_at _ h]
def same (t u : Tab) : Prop := ∀ i, i < 64 → t.o i = u.o i ∧ t.e i = u.e i
theorem tb_congr {t u : Tab} (h : same t u) : tb t = tb u := by
  unfold tb; rw [row_congr fun i hi => (h i hi).1, row_congr fun i hi => (h i hi).2]
theorem tb_cells (t : Tab) : (tb t).all (·.oneCell') = true := by
  rw [Array.all_eq_true_iff_forall_mem]
  intro x hx
  simp only [tb, List.mem_toArray, List.mem_append] at hx
  rcases hx with hx | hx <;> (obtain ⟨z, rfl⟩ := row_mem hx; rfl)
def setO (t : Tab) (k : Nat) (x : Int) : Tab := ⟨fun i => if i = k then x else t.o i, t.e⟩
def setE (t : Tab) (k : Nat) (x : Int) : Tab := ⟨t.o, fun i => if i = k then x else t.e i⟩
theorem tb_out (t : Tab) {i : Nat} (h : 128 ≤ i) : (tb t)[i]? = none := Array.getElem?_eq_none (by rw [tb_size]; exact h)
theorem tb_setO (t : Tab) {k : Nat} (hk : k < 64) (x : Int) : (tb t).setIfInBounds k (.int .i64 x) = tb (setO t k x) := by
  apply Array.ext_getElem?
  intro i
  rw [Array.getElem?_setIfInBounds, tb_size]
  by_cases h : k = i
  · subst h
    rw [if_pos rfl, if_pos (by omega), tb_o _ hk]; simp [setO]
  · rw [if_neg h]
    rcases Nat.lt_or_ge i 64 with h1 | h1
    · rw [tb_o _ h1, tb_o _ h1]; simp [setO, show ¬ i = k from fun e => h e.symm]
    · rcases Nat.lt_or_ge i 128 with h2 | h2
      · obtain ⟨j, rfl⟩ : ∃ j, i = 64 + j := ⟨i - 64, by omega⟩
        rw [tb_e _ (by omega), tb_e _ (by omega)]; rfl
      · rw [tb_out _ h2, tb_out _ h2]
theorem tb_setE (t : Tab) {k : Nat} (hk : k < 64) (x : Int) : (tb t).setIfInBounds (64 + k) (.int .i64 x) = tb (setE t k x) := by
  apply Array.ext_getElem?
  intro i
  rw [Array.getElem?_setIfInBounds, tb_size]
  by_cases h : 64 + k = i
  · subst h
    rw [if_pos rfl, if_pos (by omega), tb_e _ hk]; simp [setE]
  · rw [if_neg h]
    rcases Nat.lt_or_ge i 64 with h1 | h1
    · rw [tb_o _ h1, tb_o _ h1]; rfl
    · rcases Nat.lt_or_ge i 128 with h2 | h2
      · obtain ⟨j, rfl⟩ : ∃ j, i = 64 + j := ⟨i - 64, by omega⟩
        rw [tb_e _ (by omega), tb_e _ (by omega)]; simp [setE, show ¬ j = k by omega]
      · rw [tb_out _ h2, tb_out _ h2]

theorem tab_size (t : Tab) : (Tryz.prog.info? 71).map (·.size) = some (tb t).size := by rw [tb_size]; kernel_rfl
theorem arr_size (f : Nat → Int) : (Tryz.prog.info? 69).map (·.size) = some (row f).length := by rw [row_len]; kernel_rfl
theorem zero_cells : (Tryz.prog.info? 71).map (fun i => (i.zero, i.size)) = some (some (.agg (tb Tab.zero)), 128) := by kernel_rfl

/-- a variable of type Table -/
def TabAt (w : World) (b : Nat) (t : Tab) : Prop := Blk w b 71 (tb t)
section
variable {w w' : World} {b : Nat} {t : Tab}
theorem TabAt.new (w : World) (t : Tab) : TabAt (w.alloc (.cells (tb t) 71)) w.heap.size t := Blk.new _ _ _
theorem TabAt.lt (h : TabAt w b t) : b < w.heap.size := Blk.lt h
theorem TabAt.later (h : TabAt w b t) (hb : Below w.heap.size w w') : TabAt w' b t := Blk.below h hb h.lt
theorem TabAt.below {B : Nat} (h : TabAt w b t) (hb : Below B w w') (hlt : b < B) : TabAt w' b t := Blk.below h hb hlt
theorem TabAt.alloc (h : TabAt w b t) (o : Obj) : TabAt (w.alloc o) b t := Blk.alloc h o
theorem TabAt.drew (h : TabAt w b t) : TabAt w.drew b t := h
theorem TabAt.far (h : TabAt w b t) {p : Addr} (hp : b ≠ p.block) (u : Value) : TabAt (w.setCell p u) b t := Blk.far h hp u
theorem TabAt.fz (h : TabAt w b t) (i : Nat) : w.frozen? ⟨b, i, none⟩ = false := Blk.frozen h i
theorem TabAt.o (h : TabAt w b t) {i : Nat} (hi : i < 64) : w.cell? ⟨b, i, none⟩ = some (.int .i64 (t.o i)) := (Blk.cell h i).trans (tb_o t hi)
theorem TabAt.e (h : TabAt w b t) {i : Nat} (hi : i < 64) : w.cell? ⟨b, 64 + i, none⟩ = some (.int .i64 (t.e i)) := (Blk.cell h (64 + i)).trans (tb_e t hi)
theorem TabAt.setO (h : TabAt w b t) {k : Nat} (hk : k < 64) (x : Int) : TabAt (w.setCell ⟨b, k, none⟩ (.int .i64 x)) b (setO t k x) := by
  unfold TabAt; rw [← tb_setO t hk]; exact Blk.set_ h k _
theorem TabAt.setE (h : TabAt w b t) {k : Nat} (hk : k < 64) (x : Int) : TabAt (w.setCell ⟨b, 64 + k, none⟩ (.int .i64 x)) b (setE t k x) := by
  unfold TabAt; rw [← tb_setE t hk]; exact Blk.set_ h (64 + k) _
theorem TabAt.store (h : TabAt w b t) (u : Tab) : TabAt (w.setRow b (tb u)) b u := setRow_heap w b _ _ _ _ h
theorem TabAt.row_far (h : TabAt w b t) {g : Nat} (hg : b ≠ g) (cs : Array Value) : TabAt (w.setRow g cs) b t := (setRow_other w g b cs hg).trans h
theorem TabAt.like {u : Tab} (h : TabAt w b t) (hs : same t u) : TabAt w b u := by unfold TabAt; rw [← tb_congr hs]; exact h
end
theorem below_row {B : Nat} {w w' : World} (h : Below B w w') {g : Nat} (hg : B ≤ g) (cs : Array Value) : Below B w (w'.setRow g cs) := below_setRow h hg cs
theorem below_set {B : Nat} {w w' : World} (h : Below B w w') {p : Addr} (hp : B ≤ p.block) (u : Value) : Below B w (w'.setCell p u) :=
  ⟨h.os, h.tape, h.output, by simpa [World.setCell] using h.size, fun i hi => (Below.heap_setCell w' p u i (by omega)).trans (h.block i hi)⟩
/-! ### the operations on a whole table -/
section
variable {ops : Array Oper} {rest : List Oper} {Q : Exit → Act → World → Prop} {a : Act} {w : World} {dst : Option Tmp} {ty : TypeId} {pos : String} {after : Array Edge} {g : Option (Nat × Bool)} {x y : Operand} {b : Nat} {t u : Tab}
theorem at_want {o : Oper} (hw : Region.wanted o (yielded ops a.tmps) = true) (h : ∀ K : Act → World → Prop, (∀ a w, wpList Tryz.prog ops Q rest a w → K a w) → o.wp Tryz.prog a w K Q) : wpList Tryz.prog ops Q (o :: rest) a w :=
  wpList_step fun K hK => by rw [if_pos hw]; exact h K hK
theorem at_load (hx : a.eval x = .pointer (some ⟨b, 0, none⟩)) (hT : TabAt w b t) (hw : Region.wanted ⟨dst, .load 71 x, ty, pos, after, g⟩ (yielded ops a.tmps) = true)
    (h : wpList Tryz.prog ops Q rest (a.put dst (.agg (tb t))) w) : wpList Tryz.prog ops Q (⟨dst, .load 71 x, ty, pos, after, g⟩ :: rest) a w :=
  at_want hw fun _ hK => wp_load_row 71 x rfl b hx _ (tb t) (0, 0) _ hT Tryz.underlying71 rfl (tab_size t) (hK _ _ h)
theorem at_store (hx : a.eval x = .pointer (some ⟨b, 0, none⟩)) (hy : a.eval y = .agg (tb u)) (hT : TabAt w b t) (hw : Region.wanted ⟨dst, .store 71 x y, ty, pos, after, g⟩ (yielded ops a.tmps) = true)
    (h : wpList Tryz.prog ops Q rest (a.put dst undef) (w.setRow b (tb u))) : wpList Tryz.prog ops Q (⟨dst, .store 71 x y, ty, pos, after, g⟩ :: rest) a w :=
  at_want hw fun _ hK => wp_store_row 71 x y rfl b (tb u) hx hy _ (tb t) hT (tab_size u) (by rw [tb_size, tb_size]) (tb_cells u) (hK _ _ h)
theorem wp_alloc_tab {o : Oper} {K : Act → World → Prop} (ho : o.op = .alloc 71) (h : K (a.put o.dst (.pointer (some ⟨w.heap.size, 0, none⟩))) (w.alloc (.cells (tb Tab.zero) 71))) : o.wp Tryz.prog a w K Q := by
  have hz := (zero_of_info zero_cells).1
  unfold Oper.wp execOp
  simp only [ho, Instr.alloc, newVar, newRow, Sem.run_bind, hz, Result.andThen_ok]
  exact h
theorem at_alloc (hw : Region.wanted ⟨dst, .alloc 71, ty, pos, after, g⟩ (yielded ops a.tmps) = true)
    (h : wpList Tryz.prog ops Q rest (a.put dst (.pointer (some ⟨w.heap.size, 0, none⟩))) (w.alloc (.cells (tb Tab.zero) 71))) : wpList Tryz.prog ops Q (⟨dst, .alloc 71, ty, pos, after, g⟩ :: rest) a w :=
  at_want hw fun _ hK => wp_alloc_tab rfl (hK _ _ h)
theorem built_zero : Tryz.prog.built 71 [] = some (tb Tab.zero) := by kernel_rfl
theorem at_build (hw : Region.wanted ⟨dst, .build 71 #[], ty, pos, after, g⟩ (yielded ops a.tmps) = true)
    (h : wpList Tryz.prog ops Q rest (a.put dst (.agg (tb Tab.zero))) w) : wpList Tryz.prog ops Q (⟨dst, .build 71 #[], ty, pos, after, g⟩ :: rest) a w :=
  at_want hw fun _ hK => by
    have hk := hK _ _ h
    refine wp_build 71 #[] rfl ?_ ?_
    · simp [built_zero]
    · simpa [built_zero] using hk
theorem row_range {f : Nat → Int} {off : Nat} (h : ∀ i, i < 64 → w.cell? ⟨b, off + i, none⟩ = some (.int .i64 (f i))) : w.rangeAt b off (row f) := fun j v hv => by
  have hj : j < 64 := by
    have := (List.getElem?_eq_some_iff.1 hv).1
    rwa [row_len] at this
  rw [row_at f hj] at hv
  injection hv with hv
  rw [h j hj, hv]
theorem at_owners (hx : a.eval x = .pointer (some ⟨b, 0, none⟩)) (hT : TabAt w b t) (hw : Region.wanted ⟨dst, .load 69 x, ty, pos, after, g⟩ (yielded ops a.tmps) = true)
    (h : wpList Tryz.prog ops Q rest (a.put dst (.agg (row t.o).toArray)) w) : wpList Tryz.prog ops Q (⟨dst, .load 69 x, ty, pos, after, g⟩ :: rest) a w :=
  at_want hw fun _ hK => wp_load_mid 69 x rfl b 0 hx (row t.o) _ (row_range fun _ hi => by rw [Nat.zero_add]; exact hT.o hi) Tryz.underlying69 rfl (arr_size _) (hK _ _ h)
end
/-- one element of an array's value -/
theorem index_row (f : Nat → Int) {k : Nat} (hk : k < 64) (w : World) : (Instr.index 69 (.agg (row f).toArray) (.int .i64 (k : Int))).run Tryz.prog w = .ok (.int .i64 (f k)) w := by
  have h1 : (0 : Int) ≤ k := by omega
  simp [Instr.index, asIntOf, run_underlying Tryz.underlying69, h1, hk, part, Tryz.isAgg3, Tryz.sizeOf3, row_at f hk]

/-- a table and two more are handed back -/
theorem results_tab3 {fn : Func} {p u v : Tmp} (h : fn.results = #[.cell p 71, .tmp u, .tmp v]) (tmps : Array Value) (w : World) (b : Nat) (t : Tab)
    (hp : tmps.getD p undef = .pointer (some ⟨b, 0, none⟩)) (hT : TabAt w b t) : (results fn tmps).run Tryz.prog w = .ok (.tuple #[.agg (tb t), tmps.getD u undef, tmps.getD v undef]) w := by
  have hp' : tmps[p]?.getD undef = .pointer (some ⟨b, 0, none⟩) := by simpa using hp
  simp [results, h, hp', asAddr, run_loadVar_row w b 71 71 (tb t) (0, 0) _ hT Tryz.underlying71 rfl (tab_size t), Result.andThen]
end Go.Proofs.YteoodompphhkbaaGreatDoor.K.C

/-
  WHAT IS PROVED: arguments of the types Table, Claim and []Claim; a variable of type Claim. No condition.
-/
namespace Go.Proofs.YteoodompphhkbaaGreatDoor.K.C
set_option maxRecDepth 100000
set_option maxRecDepth 100000
open Go.RowKit Go.ChangeShapes Go.WideShapes Go.ChangeAt Go.WideElems

section
variable {H : Type} {enc : TypeId × Value → H}
end
end Go.Proofs.YteoodompphhkbaaGreatDoor.K.C

/-
  WHAT IS PROVED: what '==' and '!=' say of two tables. Condition: none.
-/
namespace Go.Proofs.YteoodompphhkbaaGreatDoor.K.C
set_option maxRecDepth 100000
open Go.RowKit

def rowB (f g : Nat → Int) : Bool := (List.range 64).all fun i => f i == g i
def sameB (t u : Tab) : Bool := rowB t.o u.o && rowB t.e u.e
theorem rowB_iff {f g : Nat → Int} : rowB f g = true ↔ ∀ i, i < 64 → f i = g i := by
  unfold rowB; simp [List.all_eq_true]
theorem same_iff {t u : Tab} : sameB t u = true ↔ same t u := by
  unfold sameB same
  rw [Bool.and_eq_true, rowB_iff, rowB_iff]
  exact ⟨fun h i hi => ⟨h.1 i hi, h.2 i hi⟩, fun h => ⟨fun i hi => (h i hi).1, fun i hi => (h i hi).2⟩⟩

theorem arr_loop (f g : Nat → Int) (d : Nat) (w : World) : ∀ (n k : Nat), k + n ≤ 64 →
    (forIn (List.range' k n) ((none, ()) : Option Bool × Unit) (fun i (_ : Option Bool × Unit) => do
      let a ← part 3 (row f).toArray (i * 1)
      let b ← part 3 (row g).toArray (i * 1)
      let r ← Op.equalIn (d + 1) 3 a b
      if (!r) = true then pure (ForInStep.done (some false, ())) else pure (ForInStep.yield (none, ())))).run Tryz.prog w =
      .ok (if (List.range' k n).all (fun i => f i == g i) = true then (none, ()) else (some false, ())) w
  | 0, k, _ => by simp
  | n + 1, k, h => by
    have hk : k < 64 := by omega
    have ih := arr_loop f g d w n (k + 1) (by omega)
    rw [List.range'_succ]
    simp only [List.forIn_cons, Sem.run_bind]
    have pa : ∀ f : Nat → Int, (part 3 (row f).toArray (k * 1)).run Tryz.prog w = .ok (.int .i64 (f k)) w := fun f => by
      simp [part, Tryz.isAgg3, row_at f hk]
    rw [pa f, Result.andThen_ok, pa g, Result.andThen_ok, run_equalIn_int w d 3 .i64 .i64 _ _ Tryz.underlying3, Result.andThen_ok]
    by_cases hfg : f k = g k
    · simp only [hfg, beq_self_eq_true, Bool.not_true, Bool.false_eq_true, if_false, Sem.run_pure, Result.andThen_ok]
      rw [ih, List.all_cons]
      simp only [hfg, beq_self_eq_true, Bool.true_and]
    · have e : (f k == g k) = false := by simpa using hfg
      simp [e]

theorem same_arr (f g : Nat → Int) (d : Nat) (w : World) : (Op.equalIn (d + 2) 69 (.agg (row f).toArray) (.agg (row g).toArray)).run Tryz.prog w = .ok (rowB f g) w := by
  have h := arr_loop f g d w 64 0 (by omega)
  rw [Op.equalIn]
  simp only [Sem.run_bind, run_underlying Tryz.underlying69, Result.andThen_ok, Tryz.sizeOf3]
  simp only [Std.Legacy.Range.forIn_eq_forIn_range', Std.Legacy.Range.size, Nat.sub_zero, Nat.add_one_sub_one, Nat.div_one]
  rw [h]
  have e : rowB f g = (List.range' 0 64).all fun i => f i == g i := by unfold rowB; rw [List.range_eq_range']
  rw [e]
  cases (List.range' 0 64).all fun i => f i == g i <;> simp

theorem cut_o (t : Tab) : (tb t).extract 0 64 = (row t.o).toArray := by
  apply Array.ext_getElem?
  intro i
  rw [Array.getElem?_extract]
  by_cases h : i < 64
  · rw [if_pos (by rw [tb_size]; omega), Nat.zero_add, tb_o t h, List.getElem?_toArray, row_at _ h]
  · rw [if_neg (by rw [tb_size]; omega), List.getElem?_toArray, List.getElem?_eq_none (by rw [row_len]; omega)]
theorem cut_e (t : Tab) : (tb t).extract 64 128 = (row t.e).toArray := by
  apply Array.ext_getElem?
  intro i
  rw [Array.getElem?_extract]
  by_cases h : i < 64
  · rw [if_pos (by rw [tb_size]; omega), tb_e t h, List.getElem?_toArray, row_at _ h]
  · rw [if_neg (by rw [tb_size]; omega), List.getElem?_toArray, List.getElem?_eq_none (by rw [row_len]; omega)]

theorem part_o (t : Tab) (w : World) : (part 69 (tb t) 0).run Tryz.prog w = .ok (.agg (row t.o).toArray) w := by
  rw [← cut_o t]
  simp only [part, Sem.run_bind, Tryz.isAgg69, Result.andThen_ok, if_true, Tryz.sizeOf69, Sem.run_pure, Nat.zero_add]
theorem part_e (t : Tab) (w : World) : (part 69 (tb t) 64).run Tryz.prog w = .ok (.agg (row t.e).toArray) w := by
  rw [← cut_e t]
  simp only [part, Sem.run_bind, Tryz.isAgg69, Result.andThen_ok, if_true, Tryz.sizeOf69, Sem.run_pure, Nat.reduceAdd]
theorem eq_fields {P : Program} {d : Nat} {xs ys : Array Value} {f0 f1 : Field} {w : World} {a0 b0 a1 b1 : Value} {r0 r1 : Bool} (n0 : f0.name ≠ "_") (n1 : f1.name ≠ "_")
    (h0 : (part f0.type xs f0.offset).run P w = .ok a0 w) (h1 : (part f0.type ys f0.offset).run P w = .ok b0 w) (h2 : (Op.equalIn d f0.type a0 b0).run P w = .ok r0 w)
    (h3 : (part f1.type xs f1.offset).run P w = .ok a1 w) (h4 : (part f1.type ys f1.offset).run P w = .ok b1 w) (h5 : (Op.equalIn d f1.type a1 b1).run P w = .ok r1 w) :
    (Op.eqFields d xs ys [f0, f1]).run P w = .ok (r0 && r1) w := by
  simp only [Op.eqFields, if_pos n0, if_pos n1, Sem.run_bind, h0, h1, h2, Result.andThen_ok]
  cases r0
  · simp
  · simp only [Bool.not_true, Bool.false_eq_true, if_false, Sem.run_bind, h3, h4, h5, Result.andThen_ok]
    cases r1 <;> simp
theorem fields_tab : ∃ f0 f1 : Field, Tryz.prog.fieldsOf 71 = #[f0, f1] ∧ f0.name ≠ "_" ∧ f1.name ≠ "_" ∧ f0.type = 69 ∧ f1.type = 69 ∧ f0.offset = 0 ∧ f1.offset = 64 := by
  refine ⟨{ name := "Owner", type := 69, offset := 0, embedded := false, tag := "", pkgPath := "", byteOffset := 0 }, { name := "Epoch", type := 69, offset := 64, embedded := false, tag := "", pkgPath := "", byteOffset := 512 }, ?_, by decide, by decide, rfl, rfl, rfl, rfl⟩
  simp only [Program.fieldsOf, Tryz.underlying71]
theorem same_deep (t u : Tab) (d : Nat) (w : World) : (Op.equalIn (d + 2 + 1) 71 (.agg (tb t)) (.agg (tb u))).run Tryz.prog w = .ok (sameB t u) w := by
  have hS : Tryz.prog.underlying 71 = some (.struct (Tryz.prog.fieldsOf 71)) := by kernel_rfl
  have hp : Tryz.prog.stoodInHeld 71 = false := by kernel_rfl
  rw [run_equalIn_agg w (d + 2) 71 _ _ hS hp]
  obtain ⟨f0, f1, e, n0, n1, t0, t1, o0, o1⟩ := fields_tab
  rw [e]
  exact eq_fields n0 n1 (by rw [t0, o0]; exact part_o t w) (by rw [t0, o0]; exact part_o u w) (by rw [t0]; exact same_arr t.o u.o d w) (by rw [t1, o1]; exact part_e t w) (by rw [t1, o1]; exact part_e u w) (by rw [t1]; exact same_arr t.e u.e d w)
theorem same_tab (t u : Tab) (w : World) : (Op.equalIn 10000 71 (.agg (tb t)) (.agg (tb u))).run Tryz.prog w = .ok (sameB t u) w := by
  rw [show (10000 : Nat) = 9997 + 2 + 1 from rfl]
  exact same_deep t u 9997 w
end Go.Proofs.YteoodompphhkbaaGreatDoor.K.C

/-
  WHAT IS PROVED: plain facts on sets of slots as numbers (the slots for which a test holds, the slots of a list). No condition.
-/
namespace Go.Proofs.YteoodompphhkbaaGreatDoor.K.C
set_option maxRecDepth 100000

theorem or_lt {a b : Nat} (ha : a < 18446744073709551616) (hb : b < 18446744073709551616) : a ||| b < 18446744073709551616 := Nat.or_lt_two_pow (n := 64) ha hb
theorem and_lt {a b : Nat} (ha : a < 18446744073709551616) : a &&& b < 18446744073709551616 := Nat.lt_of_le_of_lt Nat.and_le_left ha
theorem bit_far {s i : Nat} (hs : s < 18446744073709551616) (hi : 64 ≤ i) : s.testBit i = false :=
  Nat.testBit_lt_two_pow (Nat.lt_of_lt_of_le hs (Nat.pow_le_pow_right (show 0 < 2 by decide) hi))
theorem ext64 {s t : Nat} (hs : s < 18446744073709551616) (ht : t < 18446744073709551616) (h : ∀ i, i < 64 → s.testBit i = t.testBit i) : s = t := by
  apply Nat.eq_of_testBit_eq
  intro i
  by_cases hi : i < 64
  · exact h i hi
  · rw [bit_far hs (by omega), bit_far ht (by omega)]
theorem bit_lt {s i : Nat} (hs : s < 18446744073709551616) (h : s.testBit i = true) : i < 64 := by
  rcases Nat.lt_or_ge i 64 with hi | hi
  · exact hi
  · rw [bit_far hs hi] at h; cases h

/-- the slots of a list -/
def ors : List Nat → Nat
  | [] => 0
  | i :: r => 2 ^ i ||| ors r
theorem ors_bit (l : List Nat) (i : Nat) : (ors l).testBit i = decide (i ∈ l) := by
  induction l with
  | nil => simp [ors]
  | cons j r ih =>
    rw [ors, Nat.testBit_or, ih, Nat.testBit_two_pow, Bool.eq_iff_iff, Bool.or_eq_true, decide_eq_true_eq, decide_eq_true_eq, decide_eq_true_eq, List.mem_cons]
    exact ⟨fun h => h.imp Eq.symm id, fun h => h.imp Eq.symm id⟩
theorem ors_snoc (l : List Nat) (i : Nat) : ors (l ++ [i]) = ors l ||| 2 ^ i := by
  apply Nat.eq_of_testBit_eq
  intro j
  rw [Nat.testBit_or, ors_bit, ors_bit, Nat.testBit_two_pow, Bool.eq_iff_iff, Bool.or_eq_true, decide_eq_true_eq, decide_eq_true_eq, decide_eq_true_eq, List.mem_append, List.mem_singleton]
  exact ⟨fun h => h.imp id Eq.symm, fun h => h.imp id Eq.symm⟩
theorem pow_lt64 {i : Nat} (h : i < 64) : 2 ^ i < 18446744073709551616 := Nat.pow_lt_pow_right (show 1 < 2 by decide) h
theorem ors_lt {l : List Nat} (h : ∀ i ∈ l, i < 64) : ors l < 18446744073709551616 := by
  induction l with
  | nil => decide
  | cons j r ih => exact or_lt (pow_lt64 (h j (by simp))) (ih fun i hi => h i (by simp [hi]))
/-- the slots for which a test holds -/
def pick (f : Nat → Bool) : Nat := ors ((List.range 64).filter f)
theorem pick_bit (f : Nat → Bool) {i : Nat} (h : i < 64) : (pick f).testBit i = f i := by
  unfold pick
  rw [ors_bit, Bool.eq_iff_iff]
  simp [h]
theorem pick_lt (f : Nat → Bool) : pick f < 18446744073709551616 := ors_lt fun i hi => by
  have := (List.mem_filter.1 hi).1
  simpa using this
theorem pick_eq {f : Nat → Bool} {s : Nat} (hs : s < 18446744073709551616) (h : ∀ i, i < 64 → f i = s.testBit i) : pick f = s :=
  ext64 (pick_lt f) hs fun i hi => by rw [pick_bit f hi, h i hi]
/-- a and not b -/
def less (a b : Nat) : Nat := pick fun i => a.testBit i && !b.testBit i
theorem less_bit {a b i : Nat} (h : i < 64) : (less a b).testBit i = (a.testBit i && !b.testBit i) := pick_bit _ h
theorem less_lt (a b : Nat) : less a b < 18446744073709551616 := pick_lt _

/-- the slots of a set ahead of n, rising -/
def slotsTo (s n : Nat) : List Nat := (List.range n).filter s.testBit
theorem slotsTo_mem {s n i : Nat} : i ∈ slotsTo s n ↔ i < n ∧ s.testBit i = true := by unfold slotsTo; simp
theorem slotsTo_all {s : Nat} (hs : s < 18446744073709551616) {i : Nat} : i ∈ slotsTo s 64 ↔ s.testBit i = true := by
  rw [slotsTo_mem]; exact ⟨fun h => h.2, fun h => ⟨bit_lt hs h, h⟩⟩
theorem slotsTo_nodup (s n : Nat) : (slotsTo s n).Nodup := List.Nodup.sublist List.filter_sublist List.nodup_range
theorem slotsTo_le (s n : Nat) : (slotsTo s n).length ≤ n := by
  unfold slotsTo
  have := List.length_filter_le s.testBit (List.range n)
  simpa using this
theorem slotsTo_yes {s n : Nat} (h : s.testBit n = true) : slotsTo s (n + 1) = slotsTo s n ++ [n] := by
  unfold slotsTo; rw [List.range_succ, List.filter_append]; simp [h]
theorem slotsTo_no {s n : Nat} (h : s.testBit n = false) : slotsTo s (n + 1) = slotsTo s n := by
  unfold slotsTo; rw [List.range_succ, List.filter_append]; simp [h]
theorem take_snoc {l : List Nat} {k m : Nat} (h : l[k]? = some m) : l.take (k + 1) = l.take k ++ [m] := by
  rw [List.take_add_one, h]; rfl
/-- what stands at a place of a list without doubles stands not ahead of it -/
theorem not_ahead {l : List Nat} (hn : l.Nodup) {k m : Nat} (h : l[k]? = some m) : m ∉ l.take k := by
  intro hm
  obtain ⟨j, hj, e⟩ := List.getElem_of_mem hm
  rw [List.getElem_take] at e
  rw [List.length_take] at hj
  obtain ⟨hk, e2⟩ := List.getElem?_eq_some_iff.1 h
  exact List.pairwise_iff_getElem.1 hn j k (by omega) hk (by omega) (e.trans e2.symm)
end Go.Proofs.YteoodompphhkbaaGreatDoor.K.C

/-
  WHAT IS PROVED: contracts of the calls that look at one slot. Condition: none.
-/
namespace Go.Proofs.YteoodompphhkbaaGreatDoor.K.C
set_option maxRecDepth 100000
open Go.RowKit

def slotB (n : Int) : Bool := decide (0 ≤ n ∧ n < 64)
theorem slotB_yes {n : Int} (h0 : 0 ≤ n) (h : n < 64) : slotB n = true := decide_eq_true ⟨h0, h⟩
theorem slotB_no {n : Int} (h : n < 0 ∨ 64 ≤ n) : slotB n = false := decide_eq_false (by omega)

theorem isslot_any (n : Int) (w : World) : Calls Tryz.prog 284 #[.int .i64 n] w fun e w' => e = .returned (.bool (slotB n)) ∧ w = w' := by
  by_cases h0 : 0 ≤ n
  · by_cases h1 : n < 64
    · have H := Lib.hid (slotB_yes h0 h1)
      go_enter Tryz.func284, Tryz.ntmps284
      go_wp2
      go_ret
      exact ⟨by rw [H.out]; rfl, rfl⟩
    · have H := Lib.hid (slotB_no (n := n) (.inr (by omega)))
      have h2 : 64 ≤ n := by omega
      have h3 : decide (n < 64) = false := by simpa using h2
      go_enter Tryz.func284, Tryz.ntmps284
      go_wp2
      go_ret
      exact ⟨by rw [H.out]; rfl, rfl⟩
  · have H := Lib.hid (slotB_no (n := n) (.inl (by omega)))
    have h2 : n < 0 := by omega
    have h3 : decide (0 ≤ n) = false := by simpa using h2
    go_enter Tryz.func284, Tryz.ntmps284
    go_wp2
    go_ret
    exact ⟨by rw [H.out]; rfl, rfl⟩

/-- whether a set has a slot, as a number may ask -/
def hasB (s : Nat) (n : Int) : Bool := slotB n && s.testBit n.toNat
theorem has_at {s i : Nat} (hi : i < 64) : hasB s (i : Int) = s.testBit i := by
  unfold hasB; rw [slotB_yes (by omega) (by omega)]; simp
theorem has_out {s : Nat} {n : Int} (h : n < 0 ∨ 64 ≤ n) : hasB s n = false := by
  unfold hasB; rw [slotB_no h]; rfl
theorem bit_int {s : Nat} (hs : s < 18446744073709551616) (i : Nat) : bits .and .u64 ((s : Int) / 2 ^ i) 1 = ((if s.testBit i = true then 1 else 0 : Nat) : Int) := by
  have e : ((s : Int) / 2 ^ i) = ((s >>> i : Nat) : Int) := by rw [Nat.shiftRight_eq_div_pow, Int.natCast_ediv, Int.natCast_pow]; rfl
  have h2 : s >>> i < 18446744073709551616 := by rw [Nat.shiftRight_eq_div_pow]; exact Nat.lt_of_le_of_lt (Nat.div_le_self _ _) hs
  rw [e]
  have h := u64_and_nat (s >>> i) 1 h2 (by decide)
  rw [show ((1 : Nat) : Int) = 1 from rfl] at h
  rw [h]
  congr 1
  unfold Nat.testBit
  rw [Nat.and_comm, Nat.one_and_eq_mod_two]
  rcases Nat.mod_two_eq_zero_or_one (s >>> i) with h | h <;> simp [h]

set_option maxRecDepth 100000 in
theorem has_any (s : Nat) (hs : s < 18446744073709551616) (n : Int) (w : World) : Calls Tryz.prog 248 #[.int .u64 (s : Int), .int .i64 n] w fun e w' => e = .returned (.bool (hasB s n)) ∧ w = w' := by
  by_cases h : 0 ≤ n ∧ n < 64
  · obtain ⟨i, rfl⟩ := Int.eq_ofNat_of_zero_le h.1
    have hi : i < 64 := by omega
    have h1 : (0 : Int) ≤ i := by omega
    have h2 : (i : Int) < 64 := by omega
    have HH := Lib.hid (has_at (s := s) hi)
    have HB := Lib.hid (bit_int hs i)
    have HY := Lib.hid (slotB_yes h1 h2)
    clear h
    go_enter Tryz.func248, Tryz.ntmps248
    go_wp2_with (go_at_call 284; refine (isslot_any _ _).mono ?_; rintro e w' ⟨rfl, rfl⟩; rw [HY.out])
    go_ret
    refine ⟨?_, rfl⟩
    rw [HH.out]
    show Ending.returned (.bool (bits .and .u64 ((s : Int) / 2 ^ i) 1 == 1)) = _
    rw [HB.out]
    cases s.testBit i <;> rfl
  · have HH := Lib.hid (has_out (s := s) (show n < 0 ∨ 64 ≤ n by omega))
    have HN := Lib.hid (slotB_no (show n < 0 ∨ 64 ≤ n by omega))
    clear h
    go_enter Tryz.func248, Tryz.ntmps248
    go_wp2_with (go_at_call 284; refine (isslot_any _ _).mono ?_; rintro e w' ⟨rfl, rfl⟩; rw [HN.out])
    go_ret
    exact ⟨by rw [HH.out]; rfl, rfl⟩
end Go.Proofs.YteoodompphhkbaaGreatDoor.K.C

/-
  WHAT IS PROVED: contracts of the small functions: ids, epochs, one slot's right, the set of one slot. Condition: none.
-/
namespace Go.Proofs.YteoodompphhkbaaGreatDoor.K.C
set_option maxRecDepth 100000
open Go.RowKit

def betB (lo hi n : Int) : Bool := decide (lo ≤ n ∧ n ≤ hi)
theorem bet_yes {lo hi n : Int} (h0 : lo ≤ n) (h : n ≤ hi) : betB lo hi n = true := decide_eq_true ⟨h0, h⟩
theorem bet_no {lo hi n : Int} (h : n < lo ∨ hi < n) : betB lo hi n = false := decide_eq_false (by omega)
theorem bet_iff {lo hi n : Int} : betB lo hi n = true ↔ lo ≤ n ∧ n ≤ hi := by unfold betB; rw [decide_eq_true_eq]
def idB (n : Int) : Bool := betB 1 4294967296 n
def epB (n : Int) : Bool := betB 0 281474976710656 n

set_option maxRecDepth 100000 in
theorem isid_any (n : Int) (w : World) : Calls Tryz.prog 201 #[.int .i64 n] w fun e w' => e = .returned (.bool (betB 1 4294967296 n)) ∧ w = w' := by
  by_cases h0 : 1 ≤ n
  · by_cases h1 : n ≤ 4294967296
    · have H := Lib.hid (bet_yes h0 h1)
      go_enter Tryz.func201, Tryz.ntmps201
      go_wp2
      go_ret
      exact ⟨by rw [H.out]; rfl, rfl⟩
    · have H := Lib.hid (bet_no (lo := 1) (hi := 4294967296) (n := n) (.inr (by omega)))
      have h3 : decide (n ≤ 4294967296) = false := by simpa using h1
      clear h1
      go_enter Tryz.func201, Tryz.ntmps201
      go_wp2
      go_ret
      exact ⟨by rw [H.out]; rfl, rfl⟩
  · have H := Lib.hid (bet_no (lo := 1) (hi := 4294967296) (n := n) (.inl (by omega)))
    have h3 : decide (1 ≤ n) = false := by simpa using h0
    clear h0
    go_enter Tryz.func201, Tryz.ntmps201
    go_wp2
    go_ret
    exact ⟨by rw [H.out]; rfl, rfl⟩

set_option maxRecDepth 100000 in
theorem isepoch_any (n : Int) (w : World) : Calls Tryz.prog 268 #[.int .i64 n] w fun e w' => e = .returned (.bool (betB 0 281474976710656 n)) ∧ w = w' := by
  by_cases h0 : 0 ≤ n
  · by_cases h1 : n ≤ 281474976710656
    · have H := Lib.hid (bet_yes h0 h1)
      go_enter Tryz.func268, Tryz.ntmps268
      go_wp2
      go_ret
      exact ⟨by rw [H.out]; rfl, rfl⟩
    · have H := Lib.hid (bet_no (lo := 0) (hi := 281474976710656) (n := n) (.inr (by omega)))
      have h3 : decide (n ≤ 281474976710656) = false := by simpa using h1
      clear h1
      go_enter Tryz.func268, Tryz.ntmps268
      go_wp2
      go_ret
      exact ⟨by rw [H.out]; rfl, rfl⟩
  · have H := Lib.hid (bet_no (lo := 0) (hi := 281474976710656) (n := n) (.inl (by omega)))
    have h3 : decide (0 ≤ n) = false := by simpa using h0
    clear h0
    go_enter Tryz.func268, Tryz.ntmps268
    go_wp2
    go_ret
    exact ⟨by rw [H.out]; rfl, rfl⟩

/-- may a slot have that owner with that epoch -/
def heldB (o e : Int) : Bool := if o = 0 then decide (e = 0) else idB o && epB e
set_option maxRecDepth 100000 in
theorem isheld_any (o e : Int) (w : World) : Calls Tryz.prog 247 #[.int .i64 o, .int .i64 e] w fun d w' => d = .returned (.bool (heldB o e)) ∧ w = w' := by
  by_cases h0 : o = 0
  · subst h0
    have H : Hid (heldB 0 e = decide (e = 0)) := Lib.hid (by simp [heldB])
    go_enter Tryz.func247, Tryz.ntmps247
    go_wp2
    go_ret
    refine ⟨?_, rfl⟩
    rw [H.out]
    by_cases he : e = 0 <;> simp [he]
  · obtain ⟨b, HB⟩ : ∃ b, Hid (betB 1 4294967296 o = b) := ⟨_, Lib.hid rfl⟩
    obtain ⟨c, HC⟩ : ∃ c, Hid (betB 0 281474976710656 e = c) := ⟨_, Lib.hid rfl⟩
    have H : Hid (heldB o e = (b && c)) := Lib.hid (by rw [← HB.out, ← HC.out]; simp [heldB, h0, idB, epB])
    have h1 : (o == 0) = false := by simpa using h0
    clear h0
    go_enter Tryz.func247, Tryz.ntmps247
    go_wp2_with (fail)
    refine (isid_any o _).mono ?_
    rintro d w1 ⟨rfl, rfl⟩
    rw [HB.out]
    cases b
    · go_wp2
      go_ret
      exact ⟨by rw [H.out]; rfl, rfl⟩
    · go_wp2_with (fail)
      refine (isepoch_any e _).mono ?_
      rintro d w1 ⟨rfl, rfl⟩
      rw [HC.out]
      go_wp2
      go_ret
      exact ⟨by rw [H.out]; rfl, rfl⟩

theorem one_int {i : Nat} (h : i < 64) : IntKind.u64.wrap (2 ^ i) = ((2 ^ i : Nat) : Int) := by
  have h2 := pow_lt64 h
  have e : (2 : Int) ^ i = ((2 ^ i : Nat) : Int) := by rw [Int.natCast_pow]; rfl
  rw [IntKind.wrap_u64, e]
  generalize 2 ^ i = x at h2
  omega
/-- one slot -/
def pw (i : Nat) : Nat := 2 ^ i
theorem one_any (i : Nat) (h : i < 64) (w : World) : Calls Tryz.prog 199 #[.int .i64 (i : Int)] w fun d w' => d = .returned (.int .u64 ((pw i : Nat) : Int)) ∧ w = w' := by
  have H : Hid (IntKind.u64.wrap (2 ^ i) = ((pw i : Nat) : Int)) := Lib.hid (one_int h)
  have h1 : (0 : Int) ≤ i := by omega
  have h2 : (i : Int) < 64 := by omega
  clear h
  go_enter Tryz.func199, Tryz.ntmps199
  go_wp2
  go_ret
  refine ⟨?_, rfl⟩
  rw [← H.out]
  rfl
/-- a set and one slot more -/
theorem or_int {s : Nat} (hs : s < 18446744073709551616) {i : Nat} (h : i < 64) : bits .or .u64 (s : Int) ((pw i : Nat) : Int) = ((s ||| pw i : Nat) : Int) := u64_or_nat s (pw i) hs (pow_lt64 h)
theorem less_int {s t : Nat} (hs : s < 18446744073709551616) (ht : t < 18446744073709551616) : bits .andNot .u64 (s : Int) (t : Int) = ((less s t : Nat) : Int) := by
  rw [u64_andNot_nat s t hs ht]
  congr 1
  refine ext64 (and_lt hs) (less_lt s t) fun i hi => ?_
  rw [Nat.testBit_and, less_bit hi]
  congr 1
  have e := Nat.testBit_two_pow_sub_succ (n := 64) (x := t) ht i
  rw [show (2 : Nat) ^ 64 - (t + 1) = 18446744073709551615 - t by omega] at e
  rw [e]; simp [hi]
end Go.Proofs.YteoodompphhkbaaGreatDoor.K.C

/-
  WHAT IS PROVED: contracts of what only looks at a table: Right, the document's own right, Of. Condition: none.
-/
namespace Go.Proofs.YteoodompphhkbaaGreatDoor.K.C
set_option maxRecDepth 100000
open Go.RowKit

def okB (t : Tab) : Bool := (List.range 64).all fun i => heldB (t.o i) (t.e i)
theorem okB_iff {t : Tab} : okB t = true ↔ ∀ i, i < 64 → heldB (t.o i) (t.e i) = true := by
  unfold okB; simp [List.all_eq_true]
theorem okB_no {t : Tab} {k : Nat} (hk : k < 64) (h : heldB (t.o k) (t.e k) = false) : okB t = false := by
  cases e : okB t with
  | false => rfl
  | true => rw [okB_iff.1 e k hk] at h; cases h
theorem held_iff {o e : Int} : heldB o e = true ↔ (o = 0 ∧ e = 0) ∨ (1 ≤ o ∧ o ≤ 4294967296 ∧ 0 ≤ e ∧ e ≤ 281474976710656) := by
  unfold heldB idB epB
  by_cases h : o = 0
  · rw [if_pos h, decide_eq_true_eq]; omega
  · rw [if_neg h, Bool.and_eq_true, bet_iff, bet_iff]; omega

set_option maxRecDepth 100000 in
set_option maxHeartbeats 1000000 in
theorem right_any (t : Tab) (w : World) : Calls Tryz.prog 184 #[.agg (tb t)] w (Says (okB t) w) := by
  have hT := Lib.hid (TabAt.new w t)
  have hb := Lib.hid ((Below.refl w.heap.size w).alloc (Nat.le_refl _) (.cells (tb t) 71))
  go_enter Tryz.func184, Tryz.ntmps184
  go_wp2_with (refine at_owners rfl hT.out rfl ?_)
  go_loop [7] (fun i => ∃ k : Nat, k ≤ 64 ∧ i = .int .i64 k ∧ Hid (∀ j, j < k → heldB (t.o j) (t.e j) = true)) (fun i => 64 - (intOf i).toNat)
  case atStart => exact ⟨0, by omega, rfl, Lib.hid (fun j hj => absurd hj (by omega))⟩
  case round =>
    obtain ⟨k, hk, rfl, hall⟩ := hrel
    by_cases hlt : k < 64
    · have hidx := index_row t.o hlt
      have hE := hT.out.e hlt
      obtain ⟨b, HB⟩ : ∃ b, Hid (heldB (t.o k) (t.e k) = b) := ⟨_, Lib.hid rfl⟩
      go_wp2_with (fail)
      refine (isheld_any _ _ _).mono ?_
      rintro d w1 ⟨rfl, rfl⟩
      rw [HB.out]
      cases b
      · go_wp2
        go_ret
        exact ⟨by rw [okB_no hlt HB.out]; rfl, hb.out⟩
      · go_wp2
        go_round
        case rel => exact ⟨k + 1, by omega, by go_num, Lib.hid fun j hj => by
          rcases Nat.lt_or_ge j k with h | h
          · exact hall.out j h
          · obtain rfl : j = k := by omega
            exact HB.out⟩
        case measure => simp [intOf]; omega
    · obtain rfl : k = 64 := by omega
      go_wp2
      go_ret
      exact ⟨by rw [okB_iff.2 hall.out]; rfl, hb.out⟩

/-- the slots that somebody has -/
def ofN (t : Tab) (id : Int) : Nat := pick fun i => t.o i == id
def ofTo (t : Tab) (id : Int) (k : Nat) : Nat := ors ((List.range k).filter fun i => t.o i == id)
theorem ofTo_yes {t : Tab} {id : Int} {k : Nat} (h : (t.o k == id) = true) : ofTo t id (k + 1) = ofTo t id k ||| pw k := by
  unfold ofTo; rw [List.range_succ, List.filter_append, List.filter_cons, if_pos h, List.filter_nil, ors_snoc]; rfl
theorem ofTo_no {t : Tab} {id : Int} {k : Nat} (h : (t.o k == id) = false) : ofTo t id (k + 1) = ofTo t id k := by
  unfold ofTo; rw [List.range_succ, List.filter_append, List.filter_cons, if_neg (by rw [h]; simp), List.filter_nil, List.append_nil]
theorem ofTo_lt (t : Tab) (id : Int) {k : Nat} (h : k ≤ 64) : ofTo t id k < 18446744073709551616 := ors_lt fun i hi => by
  have := (List.mem_filter.1 hi).1
  simp at this; omega

set_option maxRecDepth 100000 in
set_option maxHeartbeats 1000000 in
theorem of_any (t : Tab) (id : Int) (w : World) : Calls Tryz.prog 128 #[.agg (tb t), .int .i64 id] w fun d w' => d = .returned (.int .u64 ((ofN t id : Nat) : Int)) ∧ Below w.heap.size w w' := by
  have hT := Lib.hid (TabAt.new w t)
  have hb := Lib.hid ((Below.refl w.heap.size w).alloc (Nat.le_refl _) (.cells (tb t) 71))
  go_enter Tryz.func128, Tryz.ntmps128
  go_wp2_with (refine at_owners rfl hT.out rfl ?_)
  go_loop [5, 10] (fun s i => ∃ k : Nat, k ≤ 64 ∧ i = .int .i64 k ∧ s = .int .u64 ((ofTo t id k : Nat) : Int)) (fun _ i => 64 - (intOf i).toNat)
  case atStart => exact ⟨0, by omega, rfl, rfl⟩
  case round =>
    obtain ⟨k, hk, rfl, rfl⟩ := hrel
    by_cases hlt : k < 64
    · have hidx := index_row t.o hlt
      have hS := ofTo_lt t id hk
      obtain ⟨b, hB⟩ : ∃ b, (t.o k == id) = b := ⟨_, rfl⟩
      cases b
      · have HN := Lib.hid (ofTo_no hB)
        generalize ofTo t id k = s at *
        go_wp2
        go_round
        case rel => exact ⟨k + 1, by omega, by go_num, by rw [HN.out]⟩
        case measure => simp [intOf]; omega
      · have HN := Lib.hid (ofTo_yes hB)
        have HO := Lib.hid (or_int hS hlt)
        generalize ofTo t id k = s at *
        go_wp2_with (fail)
        refine (one_any k hlt _).mono ?_
        rintro d w1 ⟨rfl, rfl⟩
        have HO1 := HO.out
        go_wp2
        go_round
        case rel => exact ⟨k + 1, by omega, by go_num, by rw [HN.out, ← HO.out]⟩
        case measure => simp [intOf]; omega
    · obtain rfl : k = 64 := by omega
      go_wp2
      go_ret
      exact ⟨rfl, hb.out⟩
end Go.Proofs.YteoodompphhkbaaGreatDoor.K.C

/-
  WHAT IS PROVED: plain facts on claims and drops, slot by slot. No condition.
-/
namespace Go.Proofs.YteoodompphhkbaaGreatDoor.K.C
set_option maxRecDepth 100000
open Go.RowKit

/-- does a claim take a slot of its set -/
def tookB (t : Tab) (id ep : Int) (i : Nat) : Bool := decide (t.o i ≠ id) && (decide (t.o i = 0) || decide (t.e i < ep))
def newO (t : Tab) (id ep : Int) (i : Nat) : Int := if tookB t id ep i = true then id else t.o i
def newE (t : Tab) (id ep : Int) (i : Nat) : Int := if tookB t id ep i = true then ep else if t.o i = id then max (t.e i) ep else t.e i
/-- the table behind a claim of the slots for which p holds -/
def claimP (t : Tab) (id ep : Int) (p : Nat → Bool) : Tab := ⟨fun i => if p i = true then newO t id ep i else t.o i, fun i => if p i = true then newE t id ep i else t.e i⟩
def takenP (t : Tab) (id ep : Int) (p : Nat → Bool) : Nat := pick fun i => p i && tookB t id ep i
def goodB (t : Tab) (id ep : Int) : Bool := okB t && (idB id && epB ep)
theorem good_iff {t : Tab} {id ep : Int} : goodB t id ep = true ↔ okB t = true ∧ (1 ≤ id ∧ id ≤ 4294967296) ∧ (0 ≤ ep ∧ ep ≤ 281474976710656) := by
  unfold goodB idB epB; rw [Bool.and_eq_true, Bool.and_eq_true, bet_iff, bet_iff]
theorem ok_held {t : Tab} (h : okB t = true) {i : Nat} (hi : i < 64) : (t.o i = 0 ∧ t.e i = 0) ∨ (1 ≤ t.o i ∧ t.o i ≤ 4294967296 ∧ 0 ≤ t.e i ∧ t.e i ≤ 281474976710656) := held_iff.1 (okB_iff.1 h i hi)
theorem ok_of {t : Tab} (h : ∀ i, i < 64 → (t.o i = 0 ∧ t.e i = 0) ∨ (1 ≤ t.o i ∧ t.o i ≤ 4294967296 ∧ 0 ≤ t.e i ∧ t.e i ≤ 281474976710656)) : okB t = true := okB_iff.2 fun i hi => held_iff.2 (h i hi)
theorem took_iff {t : Tab} {id ep : Int} {i : Nat} : tookB t id ep i = true ↔ t.o i ≠ id ∧ (t.o i = 0 ∨ t.e i < ep) := by
  unfold tookB; simp
theorem took_no {t : Tab} {id ep : Int} {i : Nat} : tookB t id ep i = false ↔ t.o i = id ∨ (t.o i ≠ 0 ∧ ep ≤ t.e i) := by
  rw [← Bool.not_eq_true, took_iff]; omega
/-- what a slot has behind a claim of it -/
theorem new_cases (t : Tab) (id ep : Int) (i : Nat) :
    (tookB t id ep i = true ∧ t.o i ≠ id ∧ (t.o i = 0 ∨ t.e i < ep) ∧ newO t id ep i = id ∧ newE t id ep i = ep) ∨
    (tookB t id ep i = false ∧ t.o i = id ∧ newO t id ep i = id ∧ newE t id ep i = max (t.e i) ep) ∨
    (tookB t id ep i = false ∧ t.o i ≠ id ∧ t.o i ≠ 0 ∧ ep ≤ t.e i ∧ newO t id ep i = t.o i ∧ newE t id ep i = t.e i) := by
  unfold newO newE
  by_cases h : tookB t id ep i = true
  · have h' := took_iff.1 h
    rw [if_pos h, if_pos h]
    exact .inl ⟨h, h'.1, h'.2, rfl, rfl⟩
  · have h2 : tookB t id ep i = false := by simpa using h
    have h' := took_no.1 h2
    rw [if_neg h, if_neg h]
    by_cases e : t.o i = id
    · rw [if_pos e]; exact .inr (.inl ⟨h2, e, e, rfl⟩)
    · rw [if_neg e]; exact .inr (.inr ⟨h2, e, by omega, by omega, rfl, rfl⟩)
theorem claim_ok {t : Tab} {id ep : Int} {p : Nat → Bool} (h : goodB t id ep = true) : okB (claimP t id ep p) = true := by
  obtain ⟨h1, h2, h3⟩ := good_iff.1 h
  refine ok_of fun i hi => ?_
  have h4 := ok_held h1 hi
  show ((if p i = true then _ else _) = 0 ∧ (if p i = true then _ else _) = 0) ∨ (1 ≤ (if p i = true then _ else _) ∧ (if p i = true then _ else _) ≤ _ ∧ 0 ≤ (if p i = true then _ else _) ∧ (if p i = true then _ else _) ≤ _)
  cases p i
  · simpa using h4
  · simp only [if_true]
    rcases new_cases t id ep i with ⟨_, _, _, e1, e2⟩ | ⟨_, h5, e1, e2⟩ | ⟨_, _, _, _, e1, e2⟩ <;> rw [e1, e2] <;> omega
/-! ### one slot more -/
section
variable {t : Tab} {id ep : Int} {l : List Nat} {m : Nat}
theorem claim_own (hm : m ∉ l) (h : t.o m = id) : same (setE (claimP t id ep fun i => decide (i ∈ l)) m (max (t.e m) ep)) (claimP t id ep fun i => decide (i ∈ l ++ [m])) := fun i _ => by
  by_cases e : i = m
  · subst e
    have hn : tookB t id ep i = false := took_no.2 (.inl h)
    simp [claimP, setE, hm, newO, newE, hn, h]
  · simp [claimP, setE, e]
theorem claim_take (h : tookB t id ep m = true) : same (setE (setO (claimP t id ep fun i => decide (i ∈ l)) m id) m ep) (claimP t id ep fun i => decide (i ∈ l ++ [m])) := fun i _ => by
  by_cases e : i = m
  · subst e
    simp [claimP, setE, setO, newO, newE, h]
  · simp [claimP, setE, setO, e]
theorem claim_leave (hm : m ∉ l) (h : tookB t id ep m = false) (ho : t.o m ≠ id) : same (claimP t id ep fun i => decide (i ∈ l)) (claimP t id ep fun i => decide (i ∈ l ++ [m])) := fun i _ => by
  by_cases e : i = m
  · subst e
    simp [claimP, hm, newO, newE, h, ho]
  · simp [claimP, e]
end
def takenL (t : Tab) (id ep : Int) (l : List Nat) : Nat := ors (l.filter (tookB t id ep))
theorem taken_yes {t : Tab} {id ep : Int} {l : List Nat} {m : Nat} (h : tookB t id ep m = true) : takenL t id ep (l ++ [m]) = takenL t id ep l ||| pw m := by
  unfold takenL; rw [List.filter_append, List.filter_cons, if_pos h, List.filter_nil, ors_snoc]; rfl
theorem taken_no {t : Tab} {id ep : Int} {l : List Nat} {m : Nat} (h : tookB t id ep m = false) : takenL t id ep (l ++ [m]) = takenL t id ep l := by
  unfold takenL; rw [List.filter_append, List.filter_cons, if_neg (by rw [h]; simp), List.filter_nil, List.append_nil]
theorem taken_lt {t : Tab} {id ep : Int} {l : List Nat} (h : ∀ i ∈ l, i < 64) : takenL t id ep l < 18446744073709551616 := ors_lt fun i hi => h i (List.mem_filter.1 hi).1
theorem taken_all {t : Tab} {id ep : Int} {s : Nat} (hs : s < 18446744073709551616) : takenL t id ep (slotsTo s 64) = takenP t id ep s.testBit := by
  refine (pick_eq (taken_lt fun i hi => (slotsTo_mem.1 hi).1) fun i hi => ?_).symm
  unfold takenL
  rw [ors_bit, Bool.eq_iff_iff, decide_eq_true_eq, List.mem_filter, slotsTo_all hs, Bool.and_eq_true]
theorem claim_all {t : Tab} {id ep : Int} {s : Nat} (hs : s < 18446744073709551616) : same (claimP t id ep fun i => decide (i ∈ slotsTo s 64)) (claimP t id ep s.testBit) := fun i _ => by
  have e : decide (i ∈ slotsTo s 64) = s.testBit i := by rw [Bool.eq_iff_iff, decide_eq_true_eq, slotsTo_all hs]
  constructor
  · show (if decide (i ∈ slotsTo s 64) = true then _ else _) = _
    rw [e]; rfl
  · show (if decide (i ∈ slotsTo s 64) = true then _ else _) = _
    rw [e]; rfl
theorem claim_none (t : Tab) (id ep : Int) : same t (claimP t id ep fun i => decide (i ∈ ([] : List Nat))) := fun i _ => by simp [claimP]

/-! ### drops -/
def dropP (t : Tab) (p : Nat → Bool) : Tab := ⟨fun i => if p i = true then 0 else t.o i, fun i => if p i = true then 0 else t.e i⟩
/-- what somebody drops -/
def goneN (t : Tab) (id : Int) (keep : Nat) : Nat := less (ofN t id) keep
theorem ofN_lt (t : Tab) (id : Int) : ofN t id < 18446744073709551616 := pick_lt _
theorem drop_ok {t : Tab} {p : Nat → Bool} (h : okB t = true) : okB (dropP t p) = true := by
  refine ok_of fun i hi => ?_
  have h4 := ok_held h hi
  cases e : p i <;> simp [dropP, e]
  exact h4
end Go.Proofs.YteoodompphhkbaaGreatDoor.K.C

/-
  WHAT IS PROVED: the contract of a set's list: its slots, rising, in memory of its own. Condition: none.
-/
namespace Go.Proofs.YteoodompphhkbaaGreatDoor.K.C
set_option maxRecDepth 100000
open Go.RowKit

def ints (l : List Nat) : List Value := l.map fun (i : Nat) => Value.int .i64 (i : Int)
theorem ints_append (l m : List Nat) : ints (l ++ m) = ints l ++ ints m := by simp [ints]
theorem int_info : (Tryz.prog.info? 3).map (fun i => (i.zero, i.size, i.bytes)) = some (some (.int .i64 0), 1, 8) := by kernel_rfl

theorem own_reads {w : World} {base n : Nat} {e : TypeId} {v : Value} {xs : List Value} (h : w.ownsRow base e 1 v n xs) :
    ∃ A cap, v = .slice A n cap ∧ n ≤ cap ∧ cap ≤ 9223372036854775807 ∧ (∀ g, w.heap.size ≤ g ∨ g < base → Reads w g A n xs) := by
  have hl : xs.length = n := by have := h.1; omega
  rcases h.2 with ⟨rfl, rfl⟩ | ⟨b, cap, cur, rfl, hb, hh, hnc, hcm, _⟩
  · obtain rfl := List.eq_nil_of_length_eq_zero hl
    exact ⟨none, 0, rfl, Nat.le_refl _, by omega, fun g _ => Reads.none_⟩
  · have hlt : b < w.heap.size := by
      rcases Nat.lt_or_ge b w.heap.size with hlt | hge
      · exact hlt
      · rw [Array.getElem?_eq_none hge] at hh; cases hh
    exact ⟨some ⟨b, 0, none⟩, cap, rfl, hnc, by unfold maxLen at hcm; omega, fun g hg => ⟨hl, fun _ => ⟨_, rfl, hlt, by show b ≠ g; omega, h.cells rfl⟩⟩⟩

/-- a list of slots is handed back, in memory of its own -/
def Listed (L : List Nat) (w : World) (e : Ending) (w' : World) : Prop :=
  Below w.heap.size w w' ∧ ∃ A c, e = .returned (.slice A L.length c) ∧ L.length ≤ c ∧ c ≤ 9223372036854775807 ∧ ∀ g, w'.heap.size ≤ g ∨ g < w.heap.size → Reads w' g A L.length (ints L)

set_option maxRecDepth 100000 in
set_option maxHeartbeats 1000000 in
theorem list_any (s : Nat) (hs : s < 18446744073709551616) (w : World) : Calls Tryz.prog 185 #[.int .u64 (s : Int)] w (Listed (slotsTo s 64) w) := by
  obtain ⟨i0, hi0, hz0, hz1, hz2⟩ := info_parts int_info
  have HI : Hid (Tryz.prog.info? 3 = some i0) := hi0
  have HZ0 := Lib.hid hz0
  have HZ1 := Lib.hid hz1
  have HZ2 := Lib.hid hz2
  clear hi0 hz0 hz1 hz2
  go_enter Tryz.func185, Tryz.ntmps185
  go_wp2
  go_loopw [3, 5] (fun va i wr => ∃ k : Nat, k ≤ 64 ∧ i = .int .i64 k ∧ Below w.heap.size w wr ∧ wr.ownsRow w.heap.size 3 1 va (slotsTo s k).length (ints (slotsTo s k))) (fun _ i _ => 64 - (intOf i).toNat)
  case atStart => exact ⟨0, by omega, rfl, Below.refl _ _, rfl, .inl ⟨rfl, rfl⟩⟩
  case round =>
    obtain ⟨k, hk, rfl, hb, hown⟩ := hrel
    have hle := slotsTo_le s k
    by_cases hlt : k < 64
    · have HH := Lib.hid (has_at (s := s) hlt)
      by_cases hbit : s.testBit k = true
      · have HS := Lib.hid (slotsTo_yes hbit)
        have HB := Lib.hid hbit
        clear hbit
        have hbs := hb.size
        generalize slotsTo s k = F at *
        go_wp2_with (fail)
        refine (has_any s hs (k : Int) _).mono ?_
        rintro e w2 ⟨rfl, rfl⟩
        rw [HH.out, HB.out]
        go_wp2_with (at_builtin; refine wpList_append_own _ rfl _ _ 61 rfl w.heap.size 3 i0 (.int .i64 0) 1 8 Tryz.underlying61 HI.out HZ0.out HZ1.out HZ2.out rfl (by decide) _ _ _ rfl (hown.alloc _) ⟨wr.heap.size, 0, none⟩ 1 1 [.int .i64 (k : Int)] rfl rfl (cell_one_new _ _ _) (by simp [Value.oneCell']) (by unfold maxLen; omega) (by omega) (by simp; omega) ?_; intro v' w3 hown' hg3 _)
        have hb3 : Below w.heap.size w w3 := (hb.alloc hbs _).grown hg3 (by simp; omega) (fun g e => (hown.lt g e).1)
        go_wp2
        go_roundw
        case rel => exact ⟨k + 1, by omega, by go_num, hb3, by rw [HS.out, ints_append]; simpa [ints] using hown'⟩
        case measure => simp [intOf]; omega
      · have hbit' : s.testBit k = false := by simpa using hbit
        have HS := Lib.hid (slotsTo_no hbit')
        have HB := Lib.hid hbit'
        clear hbit hbit'
        generalize slotsTo s k = F at *
        go_wp2_with (fail)
        refine (has_any s hs (k : Int) _).mono ?_
        rintro e w2 ⟨rfl, rfl⟩
        rw [HH.out, HB.out]
        go_wp2
        go_roundw
        case rel => exact ⟨k + 1, by omega, by go_num, hb, by rw [HS.out]; exact hown⟩
        case measure => simp [intOf]; omega
    · obtain rfl : k = 64 := by omega
      generalize slotsTo s 64 = F at *
      obtain ⟨A, c, rfl, hnc, hcm, hr⟩ := own_reads hown
      go_wp2
      go_ret
      exact ⟨hb, A, c, rfl, hnc, hcm, hr⟩
end Go.Proofs.YteoodompphhkbaaGreatDoor.K.C

/-
  WHAT IS PROVED: the contract of Claim. Condition: none.
-/
namespace Go.Proofs.YteoodompphhkbaaGreatDoor.K.C
set_option maxRecDepth 100000
open Go.RowKit

/-- a table, a set and an error are handed back; nothing that was there has turned -/
def Gives (T : Tab) (n : Nat) (f : Int) (w : World) (e : Ending) (w' : World) : Prop := e = .returned (.tuple #[.agg (tb T), .int .u64 (n : Int), .int .i64 f]) ∧ Below w.heap.size w w'

theorem ints_at {l : List Nat} {k m : Nat} (h : l[k]? = some m) : (ints l)[k]? = some (.int .i64 (m : Int)) := by simp [ints, h]

/-- a box of one's own and a new result, behind a call -/
theorem two_tabs {w w1 : World} {t u : Tab} (hb1 : Below ((w.alloc (.cells (tb t) 71)).alloc (.cells (tb u) 71)).heap.size ((w.alloc (.cells (tb t) 71)).alloc (.cells (tb u) 71)) w1) :
    TabAt w1 w.heap.size t ∧ TabAt w1 (w.heap.size + 1) u ∧ Below w.heap.size w w1 ∧ w.heap.size + 1 < w1.heap.size := by
  have h1 : TabAt w1 (w.heap.size + 1) u := (show TabAt ((w.alloc (.cells (tb t) 71)).alloc (.cells (tb u) 71)) (w.heap.size + 1) u by
    have := TabAt.new (w.alloc (.cells (tb t) 71)) u
    simpa using this).later hb1
  exact ⟨((TabAt.new w t).alloc _).later hb1, h1, (((Below.refl _ w).alloc (Nat.le_refl _) _).alloc (by simp) _).trans (hb1.mono (by simp; omega)), h1.lt⟩

set_option maxRecDepth 100000 in
set_option maxHeartbeats 2000000 in
theorem claim_no (t : Tab) (id ep : Int) (s : Nat) (h : goodB t id ep = false) (w : World) :
    Calls Tryz.prog 221 #[.agg (tb t), .int .i64 id, .int .i64 ep, .int .u64 (s : Int)] w (Gives Tab.zero 0 10 w) := by
  have HT : Hid (TabAt ((w.alloc (.cells (tb t) 71)).alloc (.cells (tb Tab.zero) 71)) w.heap.size t) := Lib.hid ((TabAt.new w t).alloc _)
  obtain ⟨b1, B1⟩ : ∃ b, Hid (okB t = b) := ⟨_, Lib.hid rfl⟩
  obtain ⟨b2, B2⟩ : ∃ b, Hid (betB 1 4294967296 id = b) := ⟨_, Lib.hid rfl⟩
  obtain ⟨b3, B3⟩ : ∃ b, Hid (betB 0 281474976710656 ep = b) := ⟨_, Lib.hid rfl⟩
  have HG : Hid ((b1 && (b2 && b3)) = false) := Lib.hid (by rw [← B1.out, ← B2.out, ← B3.out]; exact h)
  clear h
  go_enter Tryz.func221, Tryz.ntmps221
  go_wp2_with (first | refine at_alloc rfl ?_ | refine at_load rfl HT.out rfl ?_)
  refine (right_any t _).mono ?_
  rintro e w1 ⟨rfl, hb1⟩
  obtain ⟨_, k2, hb2, _⟩ := two_tabs hb1
  have K2 := Lib.hid k2
  have HB2 := Lib.hid hb2
  clear hb1 k2 hb2
  rw [B1.out]
  cases b1
  · go_wp2_with (first | refine at_build rfl ?_ | refine at_store rfl rfl K2.out rfl ?_)
    exact bodyPost_ret (results_tab3 rfl _ _ (w.heap.size + 1) Tab.zero rfl (K2.out.store _)) rfl ⟨rfl, below_row HB2.out (by omega) _⟩
  · go_wp2_with (fail)
    refine (isid_any id _).mono ?_
    rintro e w2 ⟨rfl, rfl⟩
    rw [B2.out]
    cases b2
    · go_wp2_with (first | refine at_build rfl ?_ | refine at_store rfl rfl K2.out rfl ?_)
      exact bodyPost_ret (results_tab3 rfl _ _ (w.heap.size + 1) Tab.zero rfl (K2.out.store _)) rfl ⟨rfl, below_row HB2.out (by omega) _⟩
    · go_wp2_with (fail)
      refine (isepoch_any ep _).mono ?_
      rintro e w2 ⟨rfl, rfl⟩
      rw [B3.out]
      cases b3
      · go_wp2_with (first | refine at_build rfl ?_ | refine at_store rfl rfl K2.out rfl ?_)
        exact bodyPost_ret (results_tab3 rfl _ _ (w.heap.size + 1) Tab.zero rfl (K2.out.store _)) rfl ⟨rfl, below_row HB2.out (by omega) _⟩
      · exact absurd HG.out (by decide)

theorem _root_.Go.Proofs.YteoodompphhkbaaGreatDoor.K.Reads.set {w : World} {g n : Nat} {A : Option Addr} {xs : List Value} (h : Reads w g A n xs) (i : Nat) (u : Value) : Reads (w.setCell ⟨g, i, none⟩ u) g A n xs :=
  h.only (only_setCell (World.grownBy.refl _ _) (.inl rfl) u)
theorem max_if (a b : Int) : (if a < b then b else a) = max a b := by split <;> omega
theorem drewN_tab {w : World} {b : Nat} {t : Tab} (h : TabAt w b t) (n : Nat) : TabAt (w.drewN n) b t := h

set_option maxRecDepth 100000 in
set_option maxHeartbeats 2000000 in
theorem claim_yes (t : Tab) (id ep : Int) (s : Nat) (hs : s < 18446744073709551616) (h : goodB t id ep = true) (w : World) :
    Calls Tryz.prog 221 #[.agg (tb t), .int .i64 id, .int .i64 ep, .int .u64 (s : Int)] w (Gives (claimP t id ep s.testBit) (takenP t id ep s.testBit) 0 w) := by
  have HT : Hid (TabAt ((w.alloc (.cells (tb t) 71)).alloc (.cells (tb Tab.zero) 71)) w.heap.size t) := Lib.hid ((TabAt.new w t).alloc _)
  have B1 : Hid (okB t = true) := Lib.hid (good_iff.1 h).1
  have B2 : Hid (betB 1 4294967296 id = true) := Lib.hid (bet_iff.2 (good_iff.1 h).2.1)
  have B3 : Hid (betB 0 281474976710656 ep = true) := Lib.hid (bet_iff.2 (good_iff.1 h).2.2)
  have HE := Lib.hid (tb_congr (claim_all (t := t) (id := id) (ep := ep) hs))
  have HN := Lib.hid (taken_all (t := t) (id := id) (ep := ep) hs)
  have HLT : Hid (∀ i, i ∈ slotsTo s 64 → i < 64) := Lib.hid fun i hi => (slotsTo_mem.1 hi).1
  have HND := Lib.hid (slotsTo_nodup s 64)
  have HLE := Lib.hid (slotsTo_le s 64)
  clear h
  go_enter Tryz.func221, Tryz.ntmps221
  go_wp2_with (first | refine at_alloc rfl ?_ | refine at_load rfl HT.out rfl ?_)
  refine (right_any t _).mono ?_
  rintro e w1 ⟨rfl, hb1⟩
  obtain ⟨k1, k2, hb2, hlt2⟩ := two_tabs hb1
  have K1 := Lib.hid k1
  have K2 := Lib.hid k2
  have HB2 := Lib.hid hb2
  have HLT2 := Lib.hid hlt2
  clear hb1 k1 k2 hb2 hlt2
  rw [B1.out]
  go_wp2_with (fail)
  refine (isid_any id _).mono ?_
  rintro e w2 ⟨rfl, rfl⟩
  rw [B2.out]
  go_wp2_with (fail)
  refine (isepoch_any ep _).mono ?_
  rintro e w2 ⟨rfl, rfl⟩
  rw [B3.out]
  go_wp2_with (first | refine at_load rfl K1.out rfl ?_ | refine at_store rfl rfl K2.out rfl ?_)
  refine (list_any s hs _).mono ?_
  rintro e w2 ⟨hb3, A, c, rfl, hnc, hcm, hr⟩
  have K3 := Lib.hid (((K1.out.row_far (by omega) (tb t)) : TabAt (w1.setRow (w.heap.size + 1) (tb t)) w.heap.size t).later hb3)
  have L3 := Lib.hid ((K2.out.store t).later hb3)
  have HB3 := Lib.hid ((below_row HB2.out (Nat.le_succ _) (tb t)).trans (hb3.mono (by rw [size_setRow]; exact HB2.out.size)))
  have HR3 := Lib.hid (hr (w.heap.size + 1) (.inr (by rw [size_setRow]; exact HLT2.out)))
  clear hb3 hr
  generalize slotsTo s 64 = L at *
  go_wp2
  go_loopw [9, 33] (fun q i wr => ∃ k : Nat, k ≤ L.length ∧ i = .int .i64 k ∧ q = .int .u64 ((takenL t id ep (L.take k) : Nat) : Int) ∧ Hid (Below w.heap.size w wr) ∧ Hid (TabAt wr w.heap.size t) ∧ Hid (TabAt wr (w.heap.size + 1) (claimP t id ep fun i => decide (i ∈ L.take k))) ∧ Hid (Reads wr (w.heap.size + 1) A L.length (ints L))) (fun _ i _ => L.length - (intOf i).toNat)
  case atStart =>
    exact ⟨0, by omega, rfl, rfl, HB3, K3, Lib.hid (L3.out.like (claim_none t id ep)), HR3⟩
  case round =>
    obtain ⟨k, hk, rfl, rfl, hb, hT, hU, hR⟩ := hrel
    by_cases hlt : k < L.length
    · obtain ⟨ad, u, rfl, hu, hc⟩ := hR.out.at_ hlt
      obtain ⟨m, hm⟩ : ∃ m, L[k]? = some m := ⟨L[k], List.getElem?_eq_getElem hlt⟩
      rw [ints_at hm] at hu
      injection hu with hu
      subst hu
      have hm64 := HLT.out m (List.mem_of_getElem? hm)
      have hm0 : (0 : Int) ≤ m := by omega
      have hm1 : (m : Int) < 64 := by omega
      have HS := Lib.hid (take_snoc hm)
      have HM := Lib.hid (not_ahead HND.out hm)
      have HTL : Hid (takenL t id ep (L.take k) < 18446744073709551616) := Lib.hid (taken_lt fun i hi => HLT.out i (List.mem_of_mem_take hi))
      have hO := hT.out.o hm64
      have hE := hT.out.e hm64
      go_wp2
      go_quiet (fail)
      have HB4 := Lib.hid (below_drewN hb.out nq)
      have HT4 := Lib.hid (drewN_tab hT.out nq)
      have HU4 := Lib.hid (drewN_tab hU.out nq)
      have HR4 : Hid (Reads (wr.drewN nq) (w.heap.size + 1) (some ad) L.length (ints L)) := Lib.hid hR.out
      generalize wr.drewN nq = w4 at *
      clear hb hT hU hR hc hO hE
      have f0 := fun x => HU4.out.fz x
      obtain ⟨v0, hv0⟩ : ∃ v, w4.cell? ⟨w.heap.size + 1, m, none⟩ = some v := ⟨_, HU4.out.o hm64⟩
      obtain ⟨v1, hv1⟩ : ∃ v, w4.cell? ⟨w.heap.size + 1, 64 + m, none⟩ = some v := ⟨_, HU4.out.e hm64⟩
      have HTO : Hid (t.o m = t.o m) := rfl
      by_cases hown : t.o m = id
      · have HN1 := Lib.hid (taken_no (l := L.take k) (took_no.2 (.inl hown) : tookB t id ep m = false))
        have HC1 := Lib.hid (claim_own (ep := ep) HM.out hown)
        rw [← max_if] at HC1
        have hq : (t.o m == id) = true := by simpa using hown
        clear hown
        go_wp2
        go_roundw
        case rel => exact ⟨k + 1, by omega, by go_num, by rw [HS.out, HN1.out], Lib.hid (below_set HB4.out (p := ⟨w.heap.size + 1, 64 + m, none⟩) (Nat.le_succ _) _), Lib.hid (HT4.out.far (p := ⟨w.heap.size + 1, 64 + m, none⟩) (by show w.heap.size ≠ w.heap.size + 1; omega) _), Lib.hid (by rw [HS.out]; exact (HU4.out.setE hm64 _).like (by first | exact HC1.out | (have z := HC1.out; rw [max_if] at z; exact z))), Lib.hid (HR4.out.set _ _)⟩
        case measure => simp [intOf]; omega
      · have hq : (t.o m == id) = false := by simpa using hown
        by_cases htk : tookB t id ep m = true
        · have HN1 := Lib.hid (taken_yes (l := L.take k) htk)
          have HO1 := Lib.hid (or_int HTL.out hm64)
          have HC1 := Lib.hid (claim_take (l := L.take k) htk)
          have hcase := (took_iff.1 htk).2
          clear hown htk
          by_cases hz : t.o m = 0
          · have hz1 : (t.o m == 0) = true := by simpa using hz
            clear hz hcase
            go_wp2_with (fail)
            refine (one_any m hm64 _).mono ?_
            rintro e w5 ⟨rfl, rfl⟩
            have HO2 := HO1.out
            go_wp2
            go_roundw
            case rel => exact ⟨k + 1, by omega, by go_num, by rw [HS.out, HN1.out], Lib.hid (below_set (below_set HB4.out (p := ⟨w.heap.size + 1, m, none⟩) (Nat.le_succ _) _) (p := ⟨w.heap.size + 1, 64 + m, none⟩) (Nat.le_succ _) _), Lib.hid ((HT4.out.far (p := ⟨w.heap.size + 1, m, none⟩) (by show w.heap.size ≠ w.heap.size + 1; omega) _).far (p := ⟨w.heap.size + 1, 64 + m, none⟩) (by show w.heap.size ≠ w.heap.size + 1; omega) _), Lib.hid (by rw [HS.out]; exact ((HU4.out.setO hm64 _).setE hm64 _).like HC1.out), Lib.hid ((HR4.out.set _ _).set _ _)⟩
            case measure => simp [intOf]; omega
          · have hz1 : (t.o m == 0) = false := by simpa using hz
            have hz2 : t.e m < ep := by omega
            clear hz hcase
            go_wp2_with (fail)
            refine (one_any m hm64 _).mono ?_
            rintro e w5 ⟨rfl, rfl⟩
            have HO2 := HO1.out
            go_wp2
            go_roundw
            case rel => exact ⟨k + 1, by omega, by go_num, by rw [HS.out, HN1.out], Lib.hid (below_set (below_set HB4.out (p := ⟨w.heap.size + 1, m, none⟩) (Nat.le_succ _) _) (p := ⟨w.heap.size + 1, 64 + m, none⟩) (Nat.le_succ _) _), Lib.hid ((HT4.out.far (p := ⟨w.heap.size + 1, m, none⟩) (by show w.heap.size ≠ w.heap.size + 1; omega) _).far (p := ⟨w.heap.size + 1, 64 + m, none⟩) (by show w.heap.size ≠ w.heap.size + 1; omega) _), Lib.hid (by rw [HS.out]; exact ((HU4.out.setO hm64 _).setE hm64 _).like HC1.out), Lib.hid ((HR4.out.set _ _).set _ _)⟩
            case measure => simp [intOf]; omega
        · have htk' : tookB t id ep m = false := by simpa using htk
          have HN1 := Lib.hid (taken_no (l := L.take k) htk')
          have HC1 := Lib.hid (claim_leave HM.out htk' hown)
          have h2 := took_no.1 htk'
          have hz1 : (t.o m == 0) = false := by simp; omega
          have hz2 : decide (t.e m < ep) = false := by simp; omega
          clear hown htk htk' h2
          go_wp2
          go_roundw
          case rel => exact ⟨k + 1, by omega, by go_num, by rw [HS.out, HN1.out], HB4, HT4, Lib.hid (by rw [HS.out]; exact HU4.out.like HC1.out), HR4⟩
          case measure => simp [intOf]; omega
    · obtain rfl : k = L.length := by omega
      have e := List.take_length (l := L)
      rw [e] at hU
      rw [e, HN.out]
      have HU5 : Hid (TabAt wr (w.heap.size + 1) (claimP t id ep s.testBit)) := Lib.hid (by unfold TabAt; rw [← HE.out]; exact hU.out)
      clear e
      go_wp2_with (first | refine at_load rfl HU5.out rfl ?_ | refine at_store rfl rfl HU5.out rfl ?_)
      exact bodyPost_ret (results_tab3 rfl _ _ (w.heap.size + 1) _ rfl (HU5.out.store _)) rfl ⟨rfl, below_row hb.out (Nat.le_succ _) _⟩
end Go.Proofs.YteoodompphhkbaaGreatDoor.K.C

/- Bytes -/
namespace Go.Proofs.YteoodompphhkbaaGreatDoor.K
set_option maxRecDepth 100000
open Go.RowKit

/-- bytes as cells -/
def bs (l : List UInt8) : List Value := l.map fun c => .int .u8 (c.toNat : Int)
theorem take_snoc {l : List UInt8} {k : Nat} {c : UInt8} (h : l[k]? = some c) : l.take (k + 1) = l.take k ++ [c] := by
  rw [List.take_add_one, h]; rfl

/-- a string of these bytes -/
def str (l : List UInt8) : ByteArray := ⟨l.toArray⟩

theorem str_toList (l : List UInt8) : (str l).toList = l := by rw [Lib.toList_data]; rfl
theorem str_size (l : List UInt8) : (str l).size = l.length := rfl
theorem str_ext0 (l : List UInt8) (i : Nat) : (str l).extract 0 i = str (l.take i) := by rw [Lib.extract_eq]; simp [str]
theorem str_ext (l : List UInt8) (i : Nat) : (str l).extract i l.length = str (l.drop i) := by
  rw [Lib.extract_eq]
  simp only [str]
  rw [List.take_of_length_le (by simp)]
theorem str_data (s : ByteArray) : s = str s.data.toList := (Lib.mk_data s).symm

end Go.Proofs.YteoodompphhkbaaGreatDoor.K

/- Cut -/
namespace Go.Proofs.YteoodompphhkbaaGreatDoor.K
set_option maxRecDepth 100000
open Go.RowKit

theorem ixb (l : List UInt8) (c : UInt8) (w : World) :
    (callFunc 326 #[.string (str l), .int .u8 (c.toNat : Int)]).run Tryz.prog w = .ok (.value (.int .i64 (Lib.indexByte l c))) w := by
  rw [run_callFunc_extern Tryz.func326 (by kernel_rfl) (by kernel_rfl) (by kernel_rfl) (e := Extern.BytealgIndexByte.indexByte) (by kernel_rfl), Lib.run_indexByteString]
  have e : (str l).data.toList = l := rfl
  rw [e]
  simp [Result.andThen]

set_option maxRecDepth 100000 in
theorem indexbyte_any (l : List UInt8) (c : UInt8) (w : World) :
    Calls Tryz.prog 302 #[.string (str l), .int .u8 (c.toNat : Int)] w fun e w' => e = .returned (.int .i64 (Lib.indexByte l c)) ∧ w = w' := by
  have hx := ixb l c
  go_enter Tryz.func302, Tryz.ntmps302
  go_wp2
  go_ret
  exact ⟨rfl, rfl⟩

set_option maxRecDepth 100000 in
theorem index_any (l : List UInt8) (c : UInt8) (w : World) :
    Calls Tryz.prog 269 #[.string (str l), .string (str [c])] w fun e w' => e = .returned (.int .i64 (Lib.indexByte l c)) ∧ w = w' := by
  have hsz1 : (str [c]).size = 1 := rfl
  have hc0 : (str [c])[0]'(by rw [hsz1]; omega) = c := rfl
  by_cases hl : [c] = l
  · have hq : ((str [c]).toList == (str l).toList) = true := by rw [str_toList, str_toList]; simpa using hl
    have HF : Hid (Lib.indexByte l c = 0) := by subst hl; show _ = _; simp [Lib.indexByte]
    clear hl
    go_enter Tryz.func269, Tryz.ntmps269
    go_wp2
    go_ret
    exact ⟨by rw [HF.out]; rfl, rfl⟩
  · have hq : ((str [c]).toList == (str l).toList) = false := by rw [str_toList, str_toList]; simpa using hl
    clear hl
    go_enter Tryz.func269, Tryz.ntmps269
    go_wp2_with (go_at_call 302; refine (indexbyte_any l c _).mono ?_; rintro e w' ⟨rfl, rfl⟩)
    go_ret
    exact ⟨rfl, rfl⟩

/-- what a cut at one byte comes to -/
def cutL (l : List UInt8) (c : UInt8) : List UInt8 × List UInt8 × Bool :=
  if 0 ≤ Lib.indexByte l c then (l.take (Lib.indexByte l c).toNat, l.drop ((Lib.indexByte l c).toNat + 1), true) else (l, [], false)

set_option maxRecDepth 100000 in
set_option maxHeartbeats 1000000 in
theorem slcut_any (l : List UInt8) (c : UInt8) (w : World) (hs : l.length ≤ 4611686018427387904) :
    Calls Tryz.prog 223 #[.string (str l), .string (str [c])] w fun e w' => e = .returned (.tuple #[.string (str (cutL l c).1), .string (str (cutL l c).2.1), .bool (cutL l c).2.2]) ∧ ∃ n, w' = w.drewN n := by
  have hsz1 : (str [c]).size = 1 := rfl
  have hsz : (str l).size = l.length := rfl
  by_cases hi : 0 ≤ Lib.indexByte l c
  · obtain ⟨i, hie⟩ := Int.eq_ofNat_of_zero_le hi
    have hlt : i < l.length := by
      have := (Lib.indexByte_some hie).1
      rcases Nat.lt_or_ge i l.length with h | h
      · exact h
      · rw [List.getElem?_eq_none h] at this; cases this
    have HC : Hid (cutL l c = (l.take i, l.drop (i + 1), true)) := by
      show _ = _
      unfold cutL
      rw [if_pos hi, hie]
      simp
    have hx := str_ext0 l i
    have hy := str_ext l (i + 1)
    have HI := Lib.hid hie
    clear hi hie
    go_enter Tryz.func223, Tryz.ntmps223
    go_wp2_with (go_at_call 269; refine (index_any l c _).mono ?_; rintro e w' ⟨rfl, rfl⟩; rw [HI.out])
    go_region
    go_wp2
    go_ret3
    exact ⟨by rw [HC.out]; rfl, 1, rfl⟩
  · have HC : Hid (cutL l c = (l, [], false)) := by
      show _ = _
      unfold cutL
      rw [if_neg hi]
    have hneg : (Lib.indexByte l c) < 0 := by omega
    go_enter Tryz.func223, Tryz.ntmps223
    go_wp2_with (go_at_call 269; refine (index_any l c _).mono ?_; rintro e w' ⟨rfl, rfl⟩)
    go_ret3
    exact ⟨by rw [HC.out]; rfl, 0, rfl⟩

theorem cut_any (l : List UInt8) (c : UInt8) (w : World) (hs : l.length ≤ 4611686018427387904) :
    Calls Tryz.prog 151 #[.string (str l), .string (str [c])] w fun e w' => e = .returned (.tuple #[.string (str (cutL l c).1), .string (str (cutL l c).2.1), .bool (cutL l c).2.2]) ∧ ∃ n, w' = w.drewN n := by
  go_enter Tryz.func151, Tryz.ntmps151
  go_wp2_with (go_at_call 223; refine (slcut_any l c _ hs).mono ?_; rintro e w' ⟨rfl, n, rfl⟩)
  go_ret3
  exact ⟨rfl, n, rfl⟩

end Go.Proofs.YteoodompphhkbaaGreatDoor.K

/- SA -/
/-
  WHAT IS PROVED: plain facts on sets of slots, their stretches and their texts (lists and numbers; no program): the text of a set is read back as that set; two sets have one text only if they are one. No condition.
-/
namespace Go.Proofs.YteoodompphhkbaaGreatDoor.K.S
set_option maxRecDepth 100000

/-! ### cuts -/
theorem cutL_cons (x : UInt8) (l : List UInt8) (c : UInt8) : cutL (x :: l) c = if x = c then ([], l, true) else (x :: (cutL l c).1, (cutL l c).2.1, (cutL l c).2.2) := by
  unfold cutL
  simp only [Lib.indexByte]
  have hge := Lib.indexByte_ge l c
  by_cases h : x = c
  · simp [h]
  · have h' : (x == c) = false := by simpa using h
    simp only [h', h, if_false, Bool.false_eq_true]
    by_cases hn : Lib.indexByte l c = -1
    · simp [hn]
    · have hb : (Lib.indexByte l c == -1) = false := by simpa using hn
      obtain ⟨k, hk⟩ := Int.eq_ofNat_of_zero_le (show 0 ≤ Lib.indexByte l c by omega)
      simp only [hk]
      have e1 : (0 : Int) ≤ (k : Int) + 1 := by omega
      have e2 : (0 : Int) ≤ (k : Int) := by omega
      have e3 : ((k : Int) + 1).toNat = k + 1 := by omega
      simp [e1, e2, e3]
theorem cutL_at {c : UInt8} : ∀ {a b : List UInt8}, (∀ x ∈ a, x ≠ c) → cutL (a ++ c :: b) c = (a, b, true)
  | [], b, _ => by simp [cutL_cons]
  | x :: a, b, h => by
    rw [List.cons_append, cutL_cons, if_neg (h x (by simp)), cutL_at (fun y hy => h y (by simp [hy]))]
theorem cutL_none {c : UInt8} : ∀ {a : List UInt8}, (∀ x ∈ a, x ≠ c) → cutL a c = (a, [], false)
  | [], _ => rfl
  | x :: a, h => by
    rw [cutL_cons, if_neg (h x (by simp)), cutL_none (fun y hy => h y (by simp [hy]))]
theorem cutL_shorter {l : List UInt8} {c : UInt8} (h : l ≠ []) : (cutL l c).2.1.length < l.length := by
  unfold cutL
  split
  · simp; have := List.length_pos_iff.2 h; omega
  · simp; exact List.length_pos_iff.2 h
theorem cutL_first_le (l : List UInt8) (c : UInt8) : (cutL l c).1.length ≤ l.length := by
  unfold cutL; split
  · simp; omega
  · simp
theorem cutL_rest_le (l : List UInt8) (c : UInt8) : (cutL l c).2.1.length ≤ l.length := by
  unfold cutL; split <;> simp

/-! ### digits, stretches -/
def dig (n : Nat) : List UInt8 := if n < 10 then [UInt8.ofNat (48 + n)] else [UInt8.ofNat (48 + n / 10), UInt8.ofNat (48 + n % 10)]
def part (p : Nat × Nat) : List UInt8 := if p.1 = p.2 then dig p.1 else dig p.1 ++ 45 :: dig p.2

theorem dig_no : ∀ n, n < 64 → ∀ x ∈ dig n, x ≠ 32 ∧ x ≠ 45 := by decide +kernel
theorem dig_ne (n : Nat) : dig n ≠ [] := by unfold dig; split <;> simp
theorem part_no {p : Nat × Nat} (h1 : p.1 < 64) (h2 : p.2 < 64) : ∀ x ∈ part p, x ≠ 32 := by
  intro x hx
  unfold part at hx
  split at hx
  · exact (dig_no _ h1 x hx).1
  · rw [List.mem_append, List.mem_cons] at hx
    rcases hx with hx | rfl | hx
    · exact (dig_no _ h1 x hx).1
    · decide
    · exact (dig_no _ h2 x hx).1
theorem part_ne (p : Nat × Nat) : part p ≠ [] := by
  unfold part
  split
  · exact dig_ne _
  · simp
theorem dig_le (n : Nat) : (dig n).length ≤ 2 := by unfold dig; split <;> simp
theorem part_le (p : Nat × Nat) : (part p).length ≤ 5 := by
  have h1 := dig_le p.1
  have h2 := dig_le p.2
  unfold part
  split
  · omega
  · simp; omega

/-- what a slot's digits are read as -/
def num (w : List UInt8) : Option Nat := match Lib.atoiAll w with
  | .ok v => if 0 ≤ v ∧ v < 64 then some v.toNat else none
  | _ => none
theorem num_lt {w : List UInt8} {n : Nat} (h : num w = some n) : n < 64 := by
  unfold num at h
  split at h
  · split at h
    · injection h with h; omega
    · cases h
  · cases h
theorem num_dig : ∀ n, n < 64 → num (dig n) = some n := by decide +kernel

def ends (w : List UInt8) : Option (Nat × Nat) :=
  match num (cutL w 45).1, num (if (cutL w 45).2.2 = true then (cutL w 45).2.1 else (cutL w 45).1) with
  | some a, some b => some (a, b)
  | _, _ => none
theorem ends_part {p : Nat × Nat} (h1 : p.1 < 64) (h2 : p.2 < 64) : ends (part p) = some p := by
  unfold ends part
  by_cases h : p.1 = p.2
  · rw [if_pos h, cutL_none (fun x hx => (dig_no _ h1 x hx).2)]
    simp only [num_dig _ h1, Bool.false_eq_true, if_false]
    exact congrArg some (Prod.ext rfl h)
  · rw [if_neg h, cutL_at (fun x hx => (dig_no _ h1 x hx).2)]
    simp [num_dig _ h1, num_dig _ h2]
theorem ends_lt {w : List UInt8} {p : Nat × Nat} (h : ends w = some p) : p.1 < 64 ∧ p.2 < 64 := by
  unfold ends at h
  split at h
  · rename_i a b ha hb
    injection h with h
    subst h
    exact ⟨num_lt ha, num_lt hb⟩
  · cases h

/-- the stretches of a text, up to a part that is none -/
def lens : Nat → List UInt8 → List (Nat × Nat)
  | 0, _ => []
  | k + 1, l => if l = [] then [] else match ends (cutL l 32).1 with
    | none => []
    | some p => p :: lens k (cutL l 32).2.1

/-! ### joined parts -/
def tx' (L : List (Nat × Nat)) : List UInt8 := L.flatMap fun p => 32 :: part p
def tx : List (Nat × Nat) → List UInt8
  | [] => []
  | p :: r => part p ++ tx' r
theorem tx'_cons (p : Nat × Nat) (r : List (Nat × Nat)) : tx' (p :: r) = 32 :: (part p ++ tx' r) := by simp [tx']
theorem lens_tx : ∀ {L : List (Nat × Nat)} {k : Nat}, L.length ≤ k → (∀ p ∈ L, p.1 < 64 ∧ p.2 < 64) → lens k (tx L) = L
  | [], k, _, _ => by cases k <;> simp [lens, tx]
  | [p], k, hk, h => by
    obtain ⟨k, rfl⟩ : ∃ j, k = j + 1 := ⟨k - 1, by simp at hk; omega⟩
    have hp := h p (by simp)
    have e : tx [p] = part p := by simp [tx, tx']
    rw [e, lens, if_neg (part_ne p), cutL_none (part_no hp.1 hp.2), ends_part hp.1 hp.2]
    cases k <;> simp [lens]
  | p :: q :: r, k, hk, h => by
    obtain ⟨k, rfl⟩ : ∃ j, k = j + 1 := ⟨k - 1, by simp at hk; omega⟩
    have hp := h p (by simp)
    have e : tx (p :: q :: r) = part p ++ 32 :: tx (q :: r) := by simp [tx, tx'_cons]
    rw [e, lens, if_neg (by simp), cutL_at (part_no hp.1 hp.2), ends_part hp.1 hp.2]
    simp only
    rw [lens_tx (by simp at hk ⊢; omega) (fun x hx => h x (by simp at hx ⊢; exact .inr hx))]

/-! ### words -/
end Go.Proofs.YteoodompphhkbaaGreatDoor.K.S

/-
  WHAT IS PROVED: plain facts on sets of slots as numbers: their stretches are canonical, and make the set; canonical stretches are those of their set; a text is a set's just if the document's reader takes it. No condition.
-/
namespace Go.Proofs.YteoodompphhkbaaGreatDoor.K.S
set_option maxRecDepth 100000

/-! ### one stretch as a number -/
def spanN (a b : Nat) : Nat := ((18446744073709551615 <<< a) % 18446744073709551616) &&& (18446744073709551615 >>> (63 - b))
theorem all_bit (i : Nat) : (18446744073709551615 : Nat).testBit i = decide (i < 64) := by
  have h := Nat.testBit_two_pow_sub_one 64 i
  exact h
theorem span_bit {a b : Nat} (hb : b < 64) (i : Nat) : (spanN a b).testBit i = decide (a ≤ i ∧ i ≤ b) := by
  unfold spanN
  have e : (18446744073709551616 : Nat) = 2 ^ 64 := rfl
  rw [Nat.testBit_and, e, Nat.testBit_mod_two_pow, Nat.testBit_shiftLeft, Nat.testBit_shiftRight, all_bit, all_bit, Bool.eq_iff_iff]
  simp
  omega
theorem span_lt (a b : Nat) : spanN a b < 18446744073709551616 := Nat.lt_of_le_of_lt Nat.and_le_left (Nat.mod_lt _ (by decide))

def setOf : List (Nat × Nat) → Nat
  | [] => 0
  | p :: r => spanN p.1 p.2 ||| setOf r
theorem or_lt {a b : Nat} (ha : a < 18446744073709551616) (hb : b < 18446744073709551616) : a ||| b < 18446744073709551616 := Nat.or_lt_two_pow (n := 64) ha hb
theorem and_lt {a b : Nat} (ha : a < 18446744073709551616) : a &&& b < 18446744073709551616 := Nat.lt_of_le_of_lt Nat.and_le_left ha
theorem set_lt : ∀ L, setOf L < 18446744073709551616
  | [] => by decide
  | p :: r => or_lt (span_lt _ _) (set_lt r)
theorem set_snoc (L : List (Nat × Nat)) (p : Nat × Nat) : setOf (L ++ [p]) = setOf L ||| spanN p.1 p.2 := by
  induction L with
  | nil => simp [setOf]
  | cons q r ih => rw [List.cons_append, setOf, setOf, ih, Nat.or_assoc]
/-- a place of one of the stretches -/
def In (L : List (Nat × Nat)) (i : Nat) : Prop := ∃ p ∈ L, p.1 ≤ i ∧ i ≤ p.2
theorem In_nil (i : Nat) : ¬ In [] i := by rintro ⟨p, hp, _⟩; cases hp
theorem In_cons (p : Nat × Nat) (r : List (Nat × Nat)) (i : Nat) : In (p :: r) i ↔ (p.1 ≤ i ∧ i ≤ p.2) ∨ In r i := by
  constructor
  · rintro ⟨q, hq, h⟩
    rw [List.mem_cons] at hq
    rcases hq with rfl | hq
    · exact .inl h
    · exact .inr ⟨q, hq, h⟩
  · rintro (h | ⟨q, hq, h⟩)
    · exact ⟨p, by simp, h⟩
    · exact ⟨q, by simp [hq], h⟩
theorem set_bit : ∀ {L : List (Nat × Nat)}, (∀ p ∈ L, p.2 < 64) → ∀ i, (setOf L).testBit i = true ↔ In L i
  | [], _, i => by simp [setOf, In_nil]
  | p :: r, h, i => by
    rw [setOf, Nat.testBit_or, span_bit (h p (by simp)), Bool.or_eq_true, set_bit (fun q hq => h q (by simp [hq])) i, In_cons, decide_eq_true_eq]
theorem ext64 {s t : Nat} (hs : s < 18446744073709551616) (ht : t < 18446744073709551616) (h : ∀ i, i < 64 → (s.testBit i = true ↔ t.testBit i = true)) : s = t := by
  apply Nat.eq_of_testBit_eq
  intro i
  rw [Bool.eq_iff_iff]
  by_cases hi : i < 64
  · exact h i hi
  · have e : ∀ x : Nat, x < 18446744073709551616 → x.testBit i = false := fun x hx => Nat.testBit_lt_two_pow (Nat.lt_of_lt_of_le hx (by
      have := Nat.pow_le_pow_right (show 0 < 2 by decide) (show 64 ≤ i by omega)
      exact this))
    rw [e s hs, e t ht]
theorem bit_lt {s i : Nat} (hs : s < 18446744073709551616) (h : s.testBit i = true) : i < 64 := by
  rcases Nat.lt_or_ge i 64 with hi | hi
  · exact hi
  · have : s.testBit i = false := Nat.testBit_lt_two_pow (Nat.lt_of_lt_of_le hs (Nat.pow_le_pow_right (show 0 < 2 by decide) hi))
    rw [this] at h; cases h

/-! ### canonical lists of stretches -/
def Canon : Nat → List (Nat × Nat) → Prop
  | _, [] => True
  | m, p :: r => m ≤ p.1 ∧ p.1 ≤ p.2 ∧ p.2 < 64 ∧ Canon (p.2 + 2) r
theorem canon_in : ∀ {m : Nat} {L : List (Nat × Nat)} {i : Nat}, Canon m L → In L i → m ≤ i
  | _, [], i, _, h => absurd h (In_nil i)
  | m, p :: r, i, ⟨h1, h2, _, h4⟩, h => by
    rcases (In_cons p r i).1 h with h | h
    · omega
    · have := canon_in h4 h; omega
theorem canon_lt : ∀ {m : Nat} {L : List (Nat × Nat)}, Canon m L → ∀ p ∈ L, p.1 < 64 ∧ p.2 < 64
  | _, [], _, p, hp => by cases hp
  | _, q :: r, ⟨_, h2, h3, h4⟩, p, hp => by
    rw [List.mem_cons] at hp
    rcases hp with rfl | hp
    · omega
    · exact canon_lt h4 p hp
theorem canon_uniq : ∀ {m : Nat} {L M : List (Nat × Nat)}, Canon m L → Canon m M → (∀ i, In L i ↔ In M i) → L = M
  | _, [], [], _, _, _ => rfl
  | _, [], q :: _, _, ⟨_, h2, _, _⟩, h => absurd ((h q.1).2 ⟨q, by simp, by omega, by omega⟩) (In_nil _)
  | _, p :: _, [], ⟨_, h2, _, _⟩, _, h => absurd ((h p.1).1 ⟨p, by simp, by omega, by omega⟩) (In_nil _)
  | m, p :: r, q :: r', ⟨a1, a2, a3, a4⟩, ⟨b1, b2, b3, b4⟩, h => by
    have first : ∀ {x y : Nat × Nat} {u v : List (Nat × Nat)}, x.1 ≤ x.2 → y.1 ≤ y.2 → Canon (y.2 + 2) v → (In (x :: u) x.1 → In (y :: v) x.1) → y.1 ≤ x.1 := by
      intro x y u v hx hy hv hh
      rcases (In_cons y v x.1).1 (hh ⟨x, by simp, by omega, by omega⟩) with h | h
      · omega
      · have := canon_in hv h; omega
    have e1 : p.1 = q.1 := Nat.le_antisymm (first b2 a2 a4 (h q.1).2) (first a2 b2 b4 (h p.1).1)
    have last : ∀ {x y : Nat × Nat} {u v : List (Nat × Nat)}, x.1 = y.1 → x.1 ≤ x.2 → y.1 ≤ y.2 → Canon (y.2 + 2) v → (∀ i, In (x :: u) i → In (y :: v) i) → x.2 ≤ y.2 := by
      intro x y u v hxy hx hy hv hh
      rcases Nat.lt_or_ge y.2 x.2 with hlt | hge
      · rcases (In_cons y v (y.2 + 1)).1 (hh _ ⟨x, by simp, by omega, by omega⟩) with h | h
        · omega
        · have := canon_in hv h; omega
      · exact hge
    have e2 : p.2 = q.2 := Nat.le_antisymm (last e1 a2 b2 b4 fun i => (h i).1) (last e1.symm b2 a2 a4 fun i => (h i).2)
    have e : p = q := Prod.ext e1 e2
    subst e
    have hr : r = r' := canon_uniq a4 b4 fun i => by
      constructor
      · intro hi
        have := canon_in a4 hi
        rcases (In_cons p r' i).1 ((h i).1 ((In_cons p r i).2 (.inr hi))) with h | h
        · omega
        · exact h
      · intro hi
        have := canon_in b4 hi
        rcases (In_cons p r i).1 ((h i).2 ((In_cons p r' i).2 (.inr hi))) with h | h
        · omega
        · exact h
    rw [hr]

/-! ### the stretches of a set -/
def lastOf (s : Nat) : Nat → Nat → Nat
  | 0, i => i
  | k + 1, i => if s.testBit (i + 1) = true then lastOf s k (i + 1) else i
def isStart (s i : Nat) : Bool := s.testBit i && (decide (i = 0) || !s.testBit (i - 1))
theorem last_ge (s : Nat) : ∀ k i, i ≤ lastOf s k i
  | 0, _ => Nat.le_refl _
  | k + 1, i => by
    unfold lastOf
    split
    · have := last_ge s k (i + 1); omega
    · omega
theorem last_all (s : Nat) : ∀ k i j, i < j → j ≤ lastOf s k i → s.testBit j = true
  | 0, i, j, h1, h2 => by simp [lastOf] at h2; omega
  | k + 1, i, j, h1, h2 => by
    unfold lastOf at h2
    split at h2
    · rename_i h
      rcases Nat.lt_or_ge (i + 1) j with hj | hj
      · exact last_all s k (i + 1) j hj h2
      · obtain rfl : j = i + 1 := by omega
        exact h
    · omega
theorem last_end {s : Nat} (hs : s < 18446744073709551616) : ∀ k i, 64 ≤ k + i → s.testBit (lastOf s k i + 1) = false
  | 0, i, h => by
    cases e : s.testBit (lastOf s 0 i + 1) with
    | false => rfl
    | true => have := bit_lt hs e; simp [lastOf] at this; omega
  | k + 1, i, h => by
    unfold lastOf
    split
    · exact last_end hs k (i + 1) (by omega)
    · rename_i h; simpa using h
/-- where a stretch from i on ends -/
def lst (s i : Nat) : Nat := lastOf s 64 i
theorem lst_lt {s i : Nat} (hs : s < 18446744073709551616) (hi : i < 64) : lst s i < 64 := by
  rcases Nat.lt_or_ge i (lst s i) with h | h
  · exact bit_lt hs (last_all s 64 i _ h (Nat.le_refl _))
  · omega
/-- the stretches of a set that begin ahead of n -/
def upto (s n : Nat) : List (Nat × Nat) := ((List.range n).filter (isStart s)).map fun i => (i, lst s i)
def stretches (s : Nat) : List (Nat × Nat) := upto s 64
theorem upto_yes {s n : Nat} (h : isStart s n = true) : upto s (n + 1) = upto s n ++ [(n, lst s n)] := by
  unfold upto; rw [List.range_succ, List.filter_append, List.map_append]; simp [h]
theorem upto_no {s n : Nat} (h : isStart s n = false) : upto s (n + 1) = upto s n := by
  unfold upto; rw [List.range_succ, List.filter_append, List.map_append]; simp [h]
theorem upto_skip {s n : Nat} : ∀ k, (∀ j, n ≤ j → j < n + k → isStart s j = false) → upto s (n + k) = upto s n
  | 0, _ => rfl
  | k + 1, h => by
    rw [← Nat.add_assoc, upto_no (h (n + k) (by omega) (by omega)), upto_skip k (fun j h1 h2 => h j h1 (by omega))]
theorem start_run {s n j : Nat} (h1 : n < j) (h2 : j ≤ lst s n + 1) (hn : s.testBit n = true) (hs : s < 18446744073709551616) : isStart s j = false := by
  unfold isStart
  rcases Nat.lt_or_ge (lst s n) j with h | h
  · have e : j = lst s n + 1 := by omega
    rw [e, lst, last_end hs 64 n (by omega)]; rfl
  · have hp : s.testBit (j - 1) = true := by
      rcases Nat.lt_or_ge n (j - 1) with h' | h'
      · exact last_all s 64 n _ h' (by unfold lst at h; omega)
      · rw [show j - 1 = n by omega]; exact hn
    rw [hp]
    have : j ≠ 0 := by omega
    simp [this]
/-- behind a stretch there is none until its end is past -/
theorem upto_run {s n : Nat} (hs : s < 18446744073709551616) (h : isStart s n = true) : upto s (lst s n + 1) = upto s n ++ [(n, lst s n)] := by
  have hn : s.testBit n = true := by unfold isStart at h; simp at h; exact h.1
  have hge : n ≤ lst s n := last_ge s 64 n
  rw [← upto_yes h, show lst s n + 1 = (n + 1) + (lst s n - n) by omega]
  exact upto_skip _ fun j h1 h2 => start_run (by omega) (by omega) hn hs

theorem canon_from {s : Nat} (hs : s < 18446744073709551616) : ∀ k m c, m + k = 64 → (∀ i, m ≤ i → isStart s i = true → c ≤ i) →
    Canon c (((List.range' m k).filter (isStart s)).map fun i => (i, lst s i))
  | 0, _, _, _, _ => trivial
  | k + 1, m, c, hm, hc => by
    rw [List.range'_succ]
    by_cases h : isStart s m = true
    · have hn : s.testBit m = true := by have h' := h; unfold isStart at h'; simp at h'; exact h'.1
      rw [List.filter_cons_of_pos h, List.map_cons]
      refine ⟨hc m (Nat.le_refl _) h, last_ge s 64 m, lst_lt hs (by omega), canon_from hs k (m + 1) _ (by omega) fun i hi hst => ?_⟩
      rcases Nat.lt_or_ge (lst s m + 1) i with h2 | h2
      · exact h2
      · rw [start_run (by omega) h2 hn hs] at hst; cases hst
    · rw [List.filter_cons_of_neg h]
      exact canon_from hs k (m + 1) c (by omega) fun i hi hst => hc i (by omega) hst
theorem canon_set {s : Nat} (hs : s < 18446744073709551616) : Canon 0 (stretches s) := by
  have := canon_from hs 64 0 0 rfl (fun _ _ _ => Nat.zero_le _)
  unfold stretches upto
  rw [List.range_eq_range']
  exact this
theorem in_stretches {s : Nat} (hs : s < 18446744073709551616) (i : Nat) : In (stretches s) i ↔ s.testBit i = true := by
  constructor
  · rintro ⟨p, hp, h1, h2⟩
    unfold stretches upto at hp
    simp only [List.mem_map, List.mem_filter, List.mem_range] at hp
    obtain ⟨a, ⟨_, ha⟩, rfl⟩ := hp
    simp only at h1 h2
    rcases Nat.lt_or_ge a i with h | h
    · exact last_all s 64 a i h h2
    · rw [show i = a by omega]
      unfold isStart at ha; simp at ha; exact ha.1
  · intro hi
    have key : ∀ i, s.testBit i = true → ∃ a, a ≤ i ∧ isStart s a = true ∧ ∀ j, a < j → j ≤ i → s.testBit j = true := by
      intro i
      induction i with
      | zero => intro h; exact ⟨0, Nat.le_refl _, by simp [isStart, h], fun j h1 h2 => by omega⟩
      | succ i ih =>
        intro h
        by_cases hp : s.testBit i = true
        · obtain ⟨a, h1, h2, h3⟩ := ih hp
          refine ⟨a, by omega, h2, fun j h4 h5 => ?_⟩
          rcases Nat.lt_or_ge i j with h6 | h6
          · rw [show j = i + 1 by omega]; exact h
          · exact h3 j h4 h6
        · exact ⟨i + 1, Nat.le_refl _, by simp [isStart, h, hp], fun j h1 h2 => by omega⟩
    obtain ⟨a, h1, h2, h3⟩ := key i hi
    have hlt := bit_lt hs hi
    refine ⟨(a, lst s a), ?_, h1, ?_⟩
    · unfold stretches upto
      simp only [List.mem_map, List.mem_filter, List.mem_range]
      exact ⟨a, ⟨by omega, h2⟩, rfl⟩
    · show i ≤ lst s a
      rcases Nat.lt_or_ge (lst s a) i with h | h
      · have e := last_end hs 64 a (by omega)
        rw [h3 (lastOf s 64 a + 1) (by have := last_ge s 64 a; omega) h] at e
        cases e
      · exact h
theorem canon_lt2 {m : Nat} {L : List (Nat × Nat)} (h : Canon m L) : ∀ p ∈ L, p.2 < 64 := fun p hp => (canon_lt h p hp).2
theorem set_stretches {s : Nat} (hs : s < 18446744073709551616) : setOf (stretches s) = s :=
  ext64 (set_lt _) hs fun i _ => (set_bit (canon_lt2 (canon_set hs)) i).trans (in_stretches hs i)
theorem stretches_set {L : List (Nat × Nat)} (h : Canon 0 L) : stretches (setOf L) = L :=
  canon_uniq (canon_set (set_lt L)) h fun i => (in_stretches (set_lt L) i).trans (set_bit (canon_lt2 h) i)

/-- A SET's TEXT -/
def txt (s : Nat) : List UInt8 := tx (stretches s)
theorem txt_set {L : List (Nat × Nat)} (h : Canon 0 L) : txt (setOf L) = tx L := by unfold txt; rw [stretches_set h]
theorem tx_len : ∀ L : List (Nat × Nat), (tx L).length ≤ 6 * L.length
  | [] => by simp [tx]
  | p :: r => by
    have h1 := part_le p
    have h2 : ∀ M : List (Nat × Nat), (tx' M).length ≤ 6 * M.length := by
      intro M
      induction M with
      | nil => simp [tx']
      | cons q M ih => rw [tx'_cons]; have := part_le q; simp; omega
    have h3 := h2 r
    simp [tx]; omega
theorem tx_len_ge : ∀ L : List (Nat × Nat), L.length ≤ (tx L).length
  | [] => by simp
  | p :: r => by
    have h2 : ∀ M : List (Nat × Nat), M.length ≤ (tx' M).length := by
      intro M
      induction M with
      | nil => simp
      | cons q M ih => rw [tx'_cons]; simp; omega
    have h3 := h2 r
    have h4 : 0 < (part p).length := List.length_pos_iff.2 (part_ne p)
    simp [tx]; omega

/-- WHAT THE PROGRAM's READER ANSWERS -/
def parseP (t : List UInt8) : Nat × Int := if txt (setOf (lens t.length t)) = t then (setOf (lens t.length t), 0) else (0, 60)
theorem parse_txt {s : Nat} (hs : s < 18446744073709551616) : parseP (txt s) = (s, 0) := by
  have e : lens (txt s).length (txt s) = stretches s := by
    unfold txt
    exact lens_tx (tx_len_ge _) (canon_lt (canon_set hs))
  unfold parseP
  rw [e, set_stretches hs, if_pos rfl]
theorem parse_no {t : List UInt8} (h : ∀ s, s < 18446744073709551616 → txt s ≠ t) : parseP t = (0, 60) := by
  unfold parseP
  rw [if_neg (h _ (set_lt _))]
end Go.Proofs.YteoodompphhkbaaGreatDoor.K.S

/-
  WHAT IS PROVED: contracts of the calls that look at one slot. Condition: none.
-/
namespace Go.Proofs.YteoodompphhkbaaGreatDoor.K.S
set_option maxRecDepth 100000
open Go.RowKit

def slotB (n : Int) : Bool := decide (0 ≤ n ∧ n < 64)
theorem slotB_yes {n : Int} (h0 : 0 ≤ n) (h : n < 64) : slotB n = true := decide_eq_true ⟨h0, h⟩
theorem slotB_no {n : Int} (h : n < 0 ∨ 64 ≤ n) : slotB n = false := decide_eq_false (by omega)

theorem isslot_any (n : Int) (w : World) : Calls Tryz.prog 284 #[.int .i64 n] w fun e w' => e = .returned (.bool (slotB n)) ∧ w = w' := by
  by_cases h0 : 0 ≤ n
  · by_cases h1 : n < 64
    · have H := Lib.hid (slotB_yes h0 h1)
      go_enter Tryz.func284, Tryz.ntmps284
      go_wp2
      go_ret
      exact ⟨by rw [H.out]; rfl, rfl⟩
    · have H := Lib.hid (slotB_no (n := n) (.inr (by omega)))
      have h2 : 64 ≤ n := by omega
      have h3 : decide (n < 64) = false := by simpa using h2
      go_enter Tryz.func284, Tryz.ntmps284
      go_wp2
      go_ret
      exact ⟨by rw [H.out]; rfl, rfl⟩
  · have H := Lib.hid (slotB_no (n := n) (.inl (by omega)))
    have h2 : n < 0 := by omega
    have h3 : decide (0 ≤ n) = false := by simpa using h2
    go_enter Tryz.func284, Tryz.ntmps284
    go_wp2
    go_ret
    exact ⟨by rw [H.out]; rfl, rfl⟩

theorem span_int (a b : Nat) : bits .and .u64 (IntKind.u64.wrap (18446744073709551615 * 2 ^ a)) (18446744073709551615 / 2 ^ (63 - b)) = ((spanN a b : Nat) : Int) := by
  have e1 : IntKind.u64.wrap (18446744073709551615 * 2 ^ a) = (((18446744073709551615 <<< a) % 18446744073709551616 : Nat) : Int) := by
    rw [IntKind.wrap_u64, Nat.shiftLeft_eq, Int.natCast_emod, Int.natCast_mul, Int.natCast_pow]; rfl
  have e2 : (18446744073709551615 / 2 ^ (63 - b) : Int) = ((18446744073709551615 >>> (63 - b) : Nat) : Int) := by
    rw [Nat.shiftRight_eq_div_pow, Int.natCast_ediv, Int.natCast_pow]; rfl
  have h2 : (18446744073709551615 >>> (63 - b) : Nat) < 18446744073709551616 := by
    rw [Nat.shiftRight_eq_div_pow]
    exact Nat.lt_of_le_of_lt (Nat.div_le_self _ _) (by decide)
  rw [e1, e2, u64_and_nat _ _ (Nat.mod_lt _ (by decide)) h2]; rfl

set_option maxRecDepth 100000 in
theorem span_any (a b : Nat) (ha : a < 64) (hb : b < 64) (w : World) : Calls Tryz.prog 331 #[.int .i64 (a : Int), .int .i64 (b : Int)] w fun e w' => e = .returned (.int .u64 ((spanN a b : Nat) : Int)) ∧ ∃ n, w' = w.drewN n := by
  have h1 : (0 : Int) ≤ a := by omega
  have h2 : (a : Int) < 64 := by omega
  have h3 : (0 : Int) ≤ b := by omega
  have h4 : (b : Int) ≤ 63 := by omega
  have H := Lib.hid (span_int a b)
  go_enter Tryz.func331, Tryz.ntmps331
  go_wp2
  go_quiet (fail)
  go_wp2
  go_ret
  exact ⟨by rw [← H.out]; rfl, _, rfl⟩

/-- whether a set has a slot, as a number may ask -/
def hasB (s : Nat) (n : Int) : Bool := slotB n && s.testBit n.toNat
theorem has_at {s i : Nat} (hi : i < 64) : hasB s (i : Int) = s.testBit i := by
  unfold hasB; rw [slotB_yes (by omega) (by omega)]; simp
theorem has_out {s : Nat} {n : Int} (h : n < 0 ∨ 64 ≤ n) : hasB s n = false := by
  unfold hasB; rw [slotB_no h]; rfl
theorem bit_int {s : Nat} (hs : s < 18446744073709551616) (i : Nat) : bits .and .u64 ((s : Int) / 2 ^ i) 1 = ((if s.testBit i = true then 1 else 0 : Nat) : Int) := by
  have e : ((s : Int) / 2 ^ i) = ((s >>> i : Nat) : Int) := by rw [Nat.shiftRight_eq_div_pow, Int.natCast_ediv, Int.natCast_pow]; rfl
  have h2 : s >>> i < 18446744073709551616 := by rw [Nat.shiftRight_eq_div_pow]; exact Nat.lt_of_le_of_lt (Nat.div_le_self _ _) hs
  rw [e]
  have h := u64_and_nat (s >>> i) 1 h2 (by decide)
  rw [show ((1 : Nat) : Int) = 1 from rfl] at h
  rw [h]
  congr 1
  unfold Nat.testBit
  rw [Nat.and_comm, Nat.one_and_eq_mod_two]
  rcases Nat.mod_two_eq_zero_or_one (s >>> i) with h | h <;> simp [h]

set_option maxRecDepth 100000 in
theorem has_any (s : Nat) (hs : s < 18446744073709551616) (n : Int) (w : World) : Calls Tryz.prog 248 #[.int .u64 (s : Int), .int .i64 n] w fun e w' => e = .returned (.bool (hasB s n)) ∧ w = w' := by
  by_cases h : 0 ≤ n ∧ n < 64
  · obtain ⟨i, rfl⟩ := Int.eq_ofNat_of_zero_le h.1
    have hi : i < 64 := by omega
    have h1 : (0 : Int) ≤ i := by omega
    have h2 : (i : Int) < 64 := by omega
    have HH := Lib.hid (has_at (s := s) hi)
    have HB := Lib.hid (bit_int hs i)
    have HY := Lib.hid (slotB_yes h1 h2)
    clear h
    go_enter Tryz.func248, Tryz.ntmps248
    go_wp2_with (go_at_call 284; refine (isslot_any _ _).mono ?_; rintro e w' ⟨rfl, rfl⟩; rw [HY.out])
    go_ret
    refine ⟨?_, rfl⟩
    rw [HH.out]
    show Ending.returned (.bool (bits .and .u64 ((s : Int) / 2 ^ i) 1 == 1)) = _
    rw [HB.out]
    cases s.testBit i <;> rfl
  · have HH := Lib.hid (has_out (s := s) (show n < 0 ∨ 64 ≤ n by omega))
    have HN := Lib.hid (slotB_no (show n < 0 ∨ 64 ≤ n by omega))
    clear h
    go_enter Tryz.func248, Tryz.ntmps248
    go_wp2_with (go_at_call 284; refine (isslot_any _ _).mono ?_; rintro e w' ⟨rfl, rfl⟩; rw [HN.out])
    go_ret
    exact ⟨by rw [HH.out]; rfl, rfl⟩
end Go.Proofs.YteoodompphhkbaaGreatDoor.K.S

/-
  WHAT IS PROVED: the contract of a set's list: its slots, rising, in memory of its own. Condition: none.
-/
namespace Go.Proofs.YteoodompphhkbaaGreatDoor.K.S
set_option maxRecDepth 100000
open Go.RowKit

/-- the slots of a set ahead of n, rising -/
def slotsTo (s n : Nat) : List Nat := (List.range n).filter s.testBit
def ints (l : List Nat) : List Value := l.map fun (i : Nat) => Value.int .i64 (i : Int)
theorem slotsTo_yes {s n : Nat} (h : s.testBit n = true) : slotsTo s (n + 1) = slotsTo s n ++ [n] := by
  unfold slotsTo; rw [List.range_succ, List.filter_append]; simp [h]
theorem slotsTo_no {s n : Nat} (h : s.testBit n = false) : slotsTo s (n + 1) = slotsTo s n := by
  unfold slotsTo; rw [List.range_succ, List.filter_append]; simp [h]
theorem slotsTo_le (s n : Nat) : (slotsTo s n).length ≤ n := by
  unfold slotsTo
  have := List.length_filter_le s.testBit (List.range n)
  simpa using this
theorem ints_append (l m : List Nat) : ints (l ++ m) = ints l ++ ints m := by simp [ints]
theorem int_info : (Tryz.prog.info? 3).map (fun i => (i.zero, i.size, i.bytes)) = some (some (.int .i64 0), 1, 8) := by kernel_rfl

theorem own_reads {w : World} {base n : Nat} {e : TypeId} {v : Value} {xs : List Value} (h : w.ownsRow base e 1 v n xs) :
    ∃ A cap, v = .slice A n cap ∧ n ≤ cap ∧ cap ≤ 9223372036854775807 ∧ (∀ g, w.heap.size ≤ g ∨ g < base → Reads w g A n xs) := by
  have hl : xs.length = n := by have := h.1; omega
  rcases h.2 with ⟨rfl, rfl⟩ | ⟨b, cap, cur, rfl, hb, hh, hnc, hcm, _⟩
  · obtain rfl := List.eq_nil_of_length_eq_zero hl
    exact ⟨none, 0, rfl, Nat.le_refl _, by omega, fun g _ => Reads.none_⟩
  · have hlt : b < w.heap.size := by
      rcases Nat.lt_or_ge b w.heap.size with hlt | hge
      · exact hlt
      · rw [Array.getElem?_eq_none hge] at hh; cases hh
    exact ⟨some ⟨b, 0, none⟩, cap, rfl, hnc, by unfold maxLen at hcm; omega, fun g hg => ⟨hl, fun _ => ⟨_, rfl, hlt, by show b ≠ g; omega, h.cells rfl⟩⟩⟩

/-- a list of slots is handed back, in memory of its own -/
def Listed (L : List Nat) (w : World) (e : Ending) (w' : World) : Prop :=
  Below w.heap.size w w' ∧ ∃ A c, e = .returned (.slice A L.length c) ∧ L.length ≤ c ∧ c ≤ 9223372036854775807 ∧ ∀ g, w'.heap.size ≤ g ∨ g < w.heap.size → Reads w' g A L.length (ints L)

set_option maxRecDepth 100000 in
set_option maxHeartbeats 1000000 in
theorem list_any (s : Nat) (hs : s < 18446744073709551616) (w : World) : Calls Tryz.prog 185 #[.int .u64 (s : Int)] w (Listed (slotsTo s 64) w) := by
  obtain ⟨i0, hi0, hz0, hz1, hz2⟩ := info_parts int_info
  have HI : Hid (Tryz.prog.info? 3 = some i0) := hi0
  have HZ0 := Lib.hid hz0
  have HZ1 := Lib.hid hz1
  have HZ2 := Lib.hid hz2
  clear hi0 hz0 hz1 hz2
  go_enter Tryz.func185, Tryz.ntmps185
  go_wp2
  go_loopw [3, 5] (fun va i wr => ∃ k : Nat, k ≤ 64 ∧ i = .int .i64 k ∧ Below w.heap.size w wr ∧ wr.ownsRow w.heap.size 3 1 va (slotsTo s k).length (ints (slotsTo s k))) (fun _ i _ => 64 - (intOf i).toNat)
  case atStart => exact ⟨0, by omega, rfl, Below.refl _ _, rfl, .inl ⟨rfl, rfl⟩⟩
  case round =>
    obtain ⟨k, hk, rfl, hb, hown⟩ := hrel
    have hle := slotsTo_le s k
    by_cases hlt : k < 64
    · have HH := Lib.hid (has_at (s := s) hlt)
      by_cases hbit : s.testBit k = true
      · have HS := Lib.hid (slotsTo_yes hbit)
        have HB := Lib.hid hbit
        clear hbit
        have hbs := hb.size
        generalize slotsTo s k = F at *
        go_wp2_with (fail)
        refine (has_any s hs (k : Int) _).mono ?_
        rintro e w2 ⟨rfl, rfl⟩
        rw [HH.out, HB.out]
        go_wp2_with (at_builtin; refine wpList_append_own _ rfl _ _ 61 rfl w.heap.size 3 i0 (.int .i64 0) 1 8 Tryz.underlying61 HI.out HZ0.out HZ1.out HZ2.out rfl (by decide) _ _ _ rfl (hown.alloc _) ⟨wr.heap.size, 0, none⟩ 1 1 [.int .i64 (k : Int)] rfl rfl (cell_one_new _ _ _) (by simp [Value.oneCell']) (by unfold maxLen; omega) (by omega) (by simp; omega) ?_; intro v' w3 hown' hg3 _)
        have hb3 : Below w.heap.size w w3 := (hb.alloc hbs _).grown hg3 (by simp; omega) (fun g e => (hown.lt g e).1)
        go_wp2
        go_roundw
        case rel => exact ⟨k + 1, by omega, by go_num, hb3, by rw [HS.out, ints_append]; simpa [ints] using hown'⟩
        case measure => simp [intOf]; omega
      · have hbit' : s.testBit k = false := by simpa using hbit
        have HS := Lib.hid (slotsTo_no hbit')
        have HB := Lib.hid hbit'
        clear hbit hbit'
        generalize slotsTo s k = F at *
        go_wp2_with (fail)
        refine (has_any s hs (k : Int) _).mono ?_
        rintro e w2 ⟨rfl, rfl⟩
        rw [HH.out, HB.out]
        go_wp2
        go_roundw
        case rel => exact ⟨k + 1, by omega, by go_num, hb, by rw [HS.out]; exact hown⟩
        case measure => simp [intOf]; omega
    · obtain rfl : k = 64 := by omega
      generalize slotsTo s 64 = F at *
      obtain ⟨A, c, rfl, hnc, hcm, hr⟩ := own_reads hown
      go_wp2
      go_ret
      exact ⟨hb, A, c, rfl, hnc, hcm, hr⟩
end Go.Proofs.YteoodompphhkbaaGreatDoor.K.S

/-
  WHAT IS PROVED: the contract of a set's text. Condition: none.
-/
namespace Go.Proofs.YteoodompphhkbaaGreatDoor.K.S
set_option maxRecDepth 100000
open Go.RowKit

theorem dec_dig {n : Nat} (h : n < 100) : Lib.decDigits n = dig n := by
  unfold Lib.decDigits dig
  by_cases h1 : n < 10
  · simp [h1]
  · rw [dif_neg h1, if_neg h1]
    unfold Lib.decDigits
    rw [dif_pos (by omega)]
    rfl
theorem itoa_any (n : Nat) (h : n < 64) (w : World) : Calls Tryz.prog 18 #[.int .i64 (n : Int)] w fun e w' => e = .returned (.string (str (dig n))) ∧ w = w' :=
  (Tryz.strconv_Itoa_small n (by omega) w).mono fun _ _ ⟨he, hw⟩ => ⟨by rw [he, dec_dig (by omega)]; rfl, hw.symm⟩
theorem str_app (a b : List UInt8) : str a ++ str b = str (a ++ b) := by
  apply ByteArray.ext
  simp [str]

set_option maxRecDepth 100000 in
theorem part_any (a b : Nat) (ha : a < 64) (hb : b < 64) (w : World) : Calls Tryz.prog 276 #[.int .i64 (a : Int), .int .i64 (b : Int)] w fun e w' => e = .returned (.string (str (part (a, b)))) ∧ w = w' := by
  by_cases h : a = b
  · subst h
    have HP : Hid (part (a, a) = dig a) := by show _ = _; simp [part]
    go_enter Tryz.func276, Tryz.ntmps276
    go_wp2_with (go_at_call 18; refine (itoa_any a ha _).mono ?_; rintro e w' ⟨rfl, rfl⟩)
    go_ret
    exact ⟨by rw [HP.out]; rfl, rfl⟩
  · have HP : Hid (part (a, b) = dig a ++ 45 :: dig b) := by show _ = _; simp [part, h]
    have hn : ((a : Int) == (b : Int)) = false := by simpa using (by omega : (a : Int) ≠ b)
    have s1 : (str (dig a)).size ≤ 2 := dig_le a
    have s2 : (str (dig b)).size ≤ 2 := dig_le b
    clear h
    go_enter Tryz.func276, Tryz.ntmps276
    go_wp2_with (fail)
    refine (itoa_any a ha _).mono ?_
    rintro e w' ⟨rfl, rfl⟩
    go_wp2_with (fail)
    refine (itoa_any b hb _).mono ?_
    rintro e w' ⟨rfl, rfl⟩
    go_wp2
    go_ret
    refine ⟨?_, rfl⟩
    rw [HP.out]
    show Ending.returned (.string (str (dig a) ++ str [45] ++ str (dig b))) = _
    rw [str_app, str_app]; simp

def strs (L : List (Nat × Nat)) : List Value := L.map fun p => Value.string (str (part p))
theorem strs_append (L M : List (Nat × Nat)) : strs (L ++ M) = strs L ++ strs M := by simp [strs]
theorem str_info : (Tryz.prog.info? 9).map (fun i => (i.zero, i.size, i.bytes)) = some (some (.string ⟨#[]⟩), 1, 16) := by kernel_rfl
theorem join_tx (L : List (Nat × Nat)) : Lib.join (L.map part) [32] = tx L := by
  cases L with
  | nil => rfl
  | cons p r =>
    rw [List.map_cons, Lib.join_cons, tx, tx', Lib.joinTail]
    congr 1
    simp [List.flatMap, List.map_map, Function.comp_def]
theorem upto_le {s n : Nat} (hn : n ≤ 64) : (upto s n).length ≤ 64 := by
  unfold upto
  have := List.length_filter_le (isStart s) (List.range n)
  simp at this ⊢; omega

theorem add_mk (b j : Nat) : (⟨b, 0, none⟩ : Addr).add j = ⟨b, j, none⟩ := by
  unfold Addr.add
  by_cases h : j = 0 <;> simp [h]
/-- Join of the parts, however many -/
theorem join_any (L : List (Nat × Nat)) (base : Nat) (v : Value) (w : World) (h : w.ownsRow base 9 1 v L.length (strs L)) (hL : L.length ≤ 64) :
    Calls Tryz.prog 162 #[v, .string ⟨#[32]⟩] w fun e w' => e = .returned (.string (str (tx L))) ∧ Below w.heap.size w w' := by
  rcases h.2 with ⟨rfl, hn⟩ | ⟨b, cap, cur, rfl, hb, hh, hnc, hcm, _⟩
  · have : L = [] := by simpa [strs] using hn
    subst this
    exact (Tryz.strings_Join_none none 0 _ w).mono fun _ _ ⟨he, hw⟩ => ⟨he, hw ▸ Below.refl _ _⟩
  · have hlt : b < w.heap.size := by
      rcases Nat.lt_or_ge b w.heap.size with hlt | hge
      · exact hlt
      · rw [Array.getElem?_eq_none hge] at hh; cases hh
    have hj : Lib.join ((L.map fun p => str (part p)).map (·.data.toList)) (⟨#[32]⟩ : ByteArray).data.toList = tx L := by
      rw [← join_tx, List.map_map]; rfl
    have hl : (L.map fun p => str (part p)).length = L.length := by simp
    have key := Tryz.strings_Join b 0 cap (L.map fun p => str (part p)) ⟨#[32]⟩ w (fun j x hx => by
      have := h.cells rfl j (.string x) (by unfold strs; rw [List.getElem?_map] at hx ⊢; cases e : L[j]? <;> simp_all)
      rw [add_mk] at this
      rw [Nat.zero_add]; exact this) hlt (by omega) (by omega) (by rw [hj]; have := tx_len L; omega)
    rw [hj, hl] at key
    exact key

theorem start_no {s k : Nat} (h : s.testBit k = false) : isStart s k = false := by simp [isStart, h]
theorem start_yes {s k : Nat} (h : s.testBit k = true) (hp : k = 0 ∨ s.testBit k = false ∨ s.testBit (k - 1) = false) : isStart s k = true := by
  rcases hp with rfl | hp | hp
  · simp [isStart, h]
  · rw [h] at hp; cases hp
  · simp [isStart, h, hp]

set_option maxRecDepth 100000 in
set_option maxHeartbeats 2000000 in
theorem text_any (s : Nat) (hs : s < 18446744073709551616) (w : World) : Calls Tryz.prog 235 #[.int .u64 (s : Int)] w fun e w' => e = .returned (.string (str (txt s))) ∧ Below w.heap.size w w' := by
  obtain ⟨i0, hi0, hz0, hz1, hz2⟩ := info_parts str_info
  have HI : Hid (Tryz.prog.info? 9 = some i0) := hi0
  have HZ0 := Lib.hid hz0
  have HZ1 := Lib.hid hz1
  have HZ2 := Lib.hid hz2
  clear hi0 hz0 hz1 hz2
  go_enter Tryz.func235, Tryz.ntmps235
  go_wp2
  go_loopw [3, 4] (fun va i wr => ∃ k : Nat, k ≤ 64 ∧ i = .int .i64 k ∧ Below w.heap.size w wr ∧ wr.ownsRow w.heap.size 9 1 va (upto s k).length (strs (upto s k)) ∧ (k = 0 ∨ s.testBit k = false ∨ s.testBit (k - 1) = false)) (fun _ i _ => 64 - (intOf i).toNat)
  case atStart => exact ⟨0, by omega, rfl, Below.refl _ _, ⟨rfl, .inl ⟨rfl, rfl⟩⟩, .inl rfl⟩
  case round =>
    obtain ⟨k, hk, rfl, hb, hown, hp⟩ := hrel
    have hle := upto_le (s := s) hk
    by_cases hlt : k < 64
    · have HH := Lib.hid (has_at (s := s) hlt)
      by_cases hbit : s.testBit k = true
      · have hst := start_yes hbit hp
        have HS := Lib.hid (upto_run hs hst)
        have HB := Lib.hid hbit
        have hge : k ≤ lst s k := last_ge s 64 k
        have hll := lst_lt hs hlt
        have HE := Lib.hid (last_end hs 64 k (by omega))
        have HA : Hid (∀ j, k < j → j ≤ lst s k → s.testBit j = true) := by show _; exact last_all s 64 k
        have HX : Hid (s.testBit (lst s k + 1) = false) := HE.out
        clear hbit hp hst HE
        have hbs := hb.size
        generalize upto s k = F at *
        generalize lst s k = L at *
        go_wp2_with (fail)
        refine (has_any s hs (k : Int) _).mono ?_
        rintro e w2 ⟨rfl, rfl⟩
        rw [HH.out, HB.out]
        go_wp2_with (fail)
        obtain ⟨wo, rfl⟩ : ∃ wo : World, wo = wr := ⟨_, rfl⟩
        go_loop [5] (fun j => ∃ l : Nat, k ≤ l ∧ l ≤ L ∧ j = .int .i64 l) (fun j => L - (intOf j).toNat)
        case atStart => exact ⟨k, by omega, by omega, rfl⟩
        case round =>
          obtain ⟨l, hl1, hl2, rfl⟩ := hrel
          by_cases hll2 : l < L
          · have HY : Hid (hasB s ((l : Int) + 1) = true) := by
              show _ = _
              have := has_at (s := s) (i := l + 1) (by omega)
              rw [HA.out (l + 1) (by omega) (by omega)] at this
              exact this
            go_wp2_with (fail)
            refine (has_any s hs ((l : Int) + 1) _).mono ?_
            rintro e w2 ⟨rfl, rfl⟩
            rw [HY.out]
            go_wp2
            go_round
            case rel => exact ⟨l + 1, by omega, by omega, by go_num⟩
            case measure => simp [intOf]; omega
          · obtain rfl : l = L := by omega
            have HY : Hid (hasB s ((l : Int) + 1) = false) := by
              show _ = _
              by_cases h64 : l + 1 < 64
              · have := has_at (s := s) (i := l + 1) h64
                rw [HX.out] at this
                exact this
              · exact has_out (.inr (by omega))
            go_wp2_with (fail)
            refine (has_any s hs ((l : Int) + 1) _).mono ?_
            rintro e w2 ⟨rfl, rfl⟩
            rw [HY.out]
            go_wp2_with (fail)
            refine (part_any k l (by omega) (by omega) _).mono ?_
            rintro e w2 ⟨rfl, rfl⟩
            go_wp2_with (at_builtin; refine wpList_append_own _ rfl _ _ 225 rfl w.heap.size 9 i0 (.string ⟨#[]⟩) 1 16 Tryz.underlying225 HI.out HZ0.out HZ1.out HZ2.out rfl (by decide) _ _ _ rfl (hown.alloc _) ⟨wo.heap.size, 0, none⟩ 1 1 [.string (str (part (k, l)))] rfl rfl (cell_one_new _ _ _) (by simp [Value.oneCell']) (by unfold maxLen; omega) (by omega) (by simp; omega) ?_; intro v' w3 hown' hg3 _)
            have hb3 : Below w.heap.size w w3 := (hb.alloc hbs _).grown hg3 (by simp; omega) (fun g e => (hown.lt g e).1)
            go_wp2
            go_roundw
            case rel => exact ⟨l + 1, by omega, by go_num, hb3, by rw [HS.out, strs_append]; simpa [strs] using hown', .inr (.inl HX.out)⟩
            case measure => simp [intOf]; omega
      · have hbit' : s.testBit k = false := by simpa using hbit
        have HS := Lib.hid (upto_no (start_no hbit'))
        have HB := Lib.hid hbit'
        clear hbit hbit' hp
        generalize upto s k = F at *
        go_wp2_with (fail)
        refine (has_any s hs (k : Int) _).mono ?_
        rintro e w2 ⟨rfl, rfl⟩
        rw [HH.out, HB.out]
        go_wp2
        go_roundw
        case rel => exact ⟨k + 1, by omega, by go_num, hb, by rw [HS.out]; exact hown, .inr (.inr HB.out)⟩
        case measure => simp [intOf]; omega
    · obtain rfl : k = 64 := by omega
      have HT : Hid (txt s = tx (upto s 64)) := rfl
      clear hp
      generalize upto s 64 = F at *
      go_wp2_with (fail)
      refine (join_any F _ _ _ hown hle).mono ?_
      rintro e w2 ⟨rfl, hb2⟩
      go_wp2
      go_ret
      exact ⟨by rw [HT.out]; rfl, hb.trans (hb2.mono hb.size)⟩
end Go.Proofs.YteoodompphhkbaaGreatDoor.K.S

/-
  WHAT IS PROVED: contracts of the readers of one part of a text. Conditions: the two errors of strconv hold an error; a text has less than 2^32 bytes.
-/
namespace Go.Proofs.YteoodompphhkbaaGreatDoor.K.S
set_option maxRecDepth 100000
open Go.RowKit

/-- strconv's two errors hold an error -/
def Errs (w : World) : Prop := (∃ te pe, w.cell? ⟨4, 0, none⟩ = some (.iface te pe)) ∧ ∃ te pe, w.cell? ⟨5, 0, none⟩ = some (.iface te pe)
theorem lt_of_cell {w : World} {a : Addr} {v : Value} (h : w.cell? a = some v) : a.block < w.heap.size := by
  unfold World.cell? at h
  rcases Nat.lt_or_ge a.block w.heap.size with h' | h'
  · exact h'
  · rw [Array.getElem?_eq_none h'] at h
    cases h
theorem Errs.below {w w' : World} (h : Errs w) (hb : Below w.heap.size w w') : Errs w' := by
  obtain ⟨⟨a, b, h1⟩, c, d, h2⟩ := h
  exact ⟨⟨a, b, (hb.cell (lt_of_cell h1)).trans h1⟩, c, d, (hb.cell (lt_of_cell h2)).trans h2⟩
theorem Errs.drewN {w : World} (h : Errs w) (n : Nat) : Errs (w.drewN n) := h

/-- a part that is a number: it, and no error; else whatever, and an error that isn't nil -/
def AtoiPost (l : List UInt8) (w : World) (e : Ending) (w' : World) : Prop :=
  Below w.heap.size w w' ∧ ((∃ v, Lib.atoiAll l = .ok v ∧ e = .returned (.tuple #[.int .i64 v, .nilIface])) ∨ ((∀ v, Lib.atoiAll l ≠ .ok v) ∧ ∃ v t p, e = .returned (.tuple #[.int .i64 v, .iface t p])))
theorem atoi_any (l : List UInt8) (hl : l.length ≤ 4294967296) (w : World) (hE : Errs w) : Calls Tryz.prog 306 #[.string (str l)] w (AtoiPost l w) := by
  have hd : (str l).data.toList = l := rfl
  obtain ⟨⟨a, b, h1⟩, c, d, h2⟩ := hE
  cases h : Lib.atoiAll l
  · rename_i v
    refine (Tryz.strconv_Atoi_ok (str l) (by rw [str_size]; omega) v h w).mono fun e w' ⟨he, hw⟩ => ⟨?_, .inl ⟨v, h, he⟩⟩
    rcases hw with rfl | ⟨t, rfl⟩
    · exact Below.refl _ _
    · exact Lib.bytesWorld_below _ _ _
  · have k := Any.strconv_Atoi_syntax Tryz.laysC172 (str l) (by rw [str_size]; omega) h _ w h1 (.inr ⟨a, b, rfl⟩)
    have k' : Calls Tryz.prog 306 #[.string (str l)] w _ := k
    exact k'.mono fun e w' ⟨N, he, _, _, hb⟩ => ⟨hb, .inr ⟨fun v hv => (by rw [h] at hv; cases hv), _, _, _, he⟩⟩
  · have k := Any.strconv_Atoi_range Tryz.laysC172 (str l) (by rw [str_size]; omega) h _ w h2 (.inr ⟨c, d, rfl⟩)
    have k' : Calls Tryz.prog 306 #[.string (str l)] w _ := k
    exact k'.mono fun e w' ⟨N, he, _, _, hb⟩ => ⟨hb, .inr ⟨fun v hv => (by rw [h] at hv; cases hv), _, _, _, he⟩⟩

/-- what the reader of a slot hands back -/
def NumPost (l : List UInt8) (w : World) (e : Ending) (w' : World) : Prop :=
  Below w.heap.size w w' ∧ ((∃ n : Nat, num l = some n ∧ e = .returned (.tuple #[.int .i64 (n : Int), .bool true])) ∨ (num l = none ∧ ∃ v, e = .returned (.tuple #[.int .i64 v, .bool false])))
set_option maxRecDepth 100000 in
theorem number_any (l : List UInt8) (hl : l.length ≤ 4294967296) (w : World) (hE : Errs w) : Calls Tryz.prog 370 #[.string (str l)] w (NumPost l w) := by
  go_enter Tryz.func370, Tryz.ntmps370
  go_wp2_with (fail)
  refine (atoi_any l hl _ hE).mono ?_
  rintro e w1 ⟨hb, ⟨v, hv, rfl⟩ | ⟨hv, v, t, p, rfl⟩⟩
  · have HV := Lib.hid hv
    clear hv
    by_cases hr : 0 ≤ v ∧ v < 64
    · have HY := Lib.hid (slotB_yes hr.1 hr.2)
      have HN : Hid (num l = some v.toNat) := by show _ = _; unfold num; rw [HV.out]; simp [hr]
      have hv0 := hr.1
      clear hr
      go_wp2_with (go_at_call 284; refine (isslot_any _ _).mono ?_; rintro e w2 ⟨rfl, rfl⟩; rw [HY.out])
      go_ret2
      exact ⟨hb, .inl ⟨_, HN.out, by rw [Int.toNat_of_nonneg hv0]; rfl⟩⟩
    · have HY := Lib.hid (slotB_no (show v < 0 ∨ 64 ≤ v by omega))
      have HN : Hid (num l = none) := by show _ = _; unfold num; rw [HV.out]; simp; omega
      clear hr
      go_wp2_with (go_at_call 284; refine (isslot_any _ _).mono ?_; rintro e w2 ⟨rfl, rfl⟩; rw [HY.out])
      go_ret2
      exact ⟨hb, .inr ⟨HN.out, _, rfl⟩⟩
  · have HN : Hid (num l = none) := by
      show _ = _
      unfold num
      split
      · rename_i v' h; exact absurd h (hv v')
      · rfl
    clear hv
    go_wp2
    go_ret2
    exact ⟨hb, .inr ⟨HN.out, _, rfl⟩⟩

/-- what the reader of a part hands back -/
def EndsPost (l : List UInt8) (w : World) (e : Ending) (w' : World) : Prop :=
  Below w.heap.size w w' ∧ ((∃ a b : Nat, ends l = some (a, b) ∧ e = .returned (.tuple #[.int .i64 (a : Int), .int .i64 (b : Int), .bool true])) ∨ (ends l = none ∧ ∃ u v, e = .returned (.tuple #[.int .i64 u, .int .i64 v, .bool false])))
theorem ends_some {l : List UInt8} {a b : Nat} (h1 : num (cutL l 45).1 = some a) (h2 : num (if (cutL l 45).2.2 = true then (cutL l 45).2.1 else (cutL l 45).1) = some b) : ends l = some (a, b) := by
  unfold ends; rw [h1, h2]
theorem ends_no1 {l : List UInt8} (h1 : num (cutL l 45).1 = none) : ends l = none := by
  unfold ends; rw [h1]
theorem ends_no2 {l : List UInt8} (h2 : num (if (cutL l 45).2.2 = true then (cutL l 45).2.1 else (cutL l 45).1) = none) : ends l = none := by
  unfold ends; rw [h2]
  cases num (cutL l 45).1 <;> rfl
/-- the part behind the minus sign, or the part -/
def hi (l : List UInt8) : List UInt8 := if (cutL l 45).2.2 = true then (cutL l 45).2.1 else (cutL l 45).1
theorem hi_le (l : List UInt8) : (hi l).length ≤ l.length := by
  unfold hi; split
  · exact cutL_rest_le _ _
  · exact cutL_first_le _ _
set_option maxRecDepth 100000 in
set_option maxHeartbeats 1000000 in
theorem ends_any (l : List UInt8) (hl : l.length ≤ 4294967296) (w : World) (hE : Errs w) : Calls Tryz.prog 356 #[.string (str l)] w (EndsPost l w) := by
  have l1 := cutL_first_le l 45
  have l2 := hi_le l
  have HS : Hid (∀ a b, num (cutL l 45).1 = some a → num (hi l) = some b → ends l = some (a, b)) := fun a b => ends_some
  have HN1 : Hid (num (cutL l 45).1 = none → ends l = none) := ends_no1
  have HN2 : Hid (num (hi l) = none → ends l = none) := ends_no2
  have HT : Hid ((cutL l 45).2.2 = true → (cutL l 45).2.1 = hi l) := by show _ → _; intro h; unfold hi; rw [if_pos h]
  have HF : Hid ((cutL l 45).2.2 = false → (cutL l 45).1 = hi l) := by show _ → _; intro h; unfold hi; rw [h]; rfl
  go_enter Tryz.func356, Tryz.ntmps356
  go_wp2_with (fail)
  refine (cut_any l 45 _ (by omega)).mono ?_
  rintro e w' ⟨rfl, n, rfl⟩
  have hE2 : Errs (w.drewN n) := hE
  have hb0 : Below w.heap.size w (w.drewN n) := below_drewN (Below.refl _ _) n
  generalize w.drewN n = w0 at *
  generalize cutL l 45 = c at *
  obtain ⟨c1, c2, c3⟩ := c
  simp only at l1 HS HN1 HN2 HT HF ⊢
  generalize hi l = h at *
  cases c3
  · have e1 := HF.out rfl
    subst e1
    go_wp2_with (fail)
    refine (number_any c1 (by omega) _ hE2).mono ?_
    rintro e w1 ⟨hb1, ⟨a, ha, rfl⟩ | ⟨ha, u, rfl⟩⟩
    · have hE3 := hE2.below hb1
      have hb1' := hb0.trans (hb1.mono hb0.size)
      have HA := Lib.hid ha
      clear ha hb0 hb1
      go_wp2_with (fail)
      refine (number_any c1 (by omega) _ hE3).mono ?_
      rintro e w2 ⟨hb2, ⟨b, hb, rfl⟩ | ⟨hb, u, rfl⟩⟩
      · go_wp2
        go_ret3
        exact ⟨hb1'.trans (hb2.mono hb1'.size), .inl ⟨a, b, HS.out a b HA.out hb, rfl⟩⟩
      · go_wp2
        go_ret3
        exact ⟨hb1'.trans (hb2.mono hb1'.size), .inr ⟨HN2.out hb, _, _, rfl⟩⟩
    · have hE3 := hE2.below hb1
      have hb1' := hb0.trans (hb1.mono hb0.size)
      have HA := Lib.hid ha
      clear ha hb0 hb1
      go_wp2_with (fail)
      refine (number_any c1 (by omega) _ hE3).mono ?_
      rintro e w2 ⟨hb2, ⟨b, hb, rfl⟩ | ⟨hb, u2, rfl⟩⟩
      · go_wp2
        go_ret3
        exact ⟨hb1'.trans (hb2.mono hb1'.size), .inr ⟨HN1.out HA.out, _, _, rfl⟩⟩
      · go_wp2
        go_ret3
        exact ⟨hb1'.trans (hb2.mono hb1'.size), .inr ⟨HN1.out HA.out, _, _, rfl⟩⟩
  · have e1 := HT.out rfl
    subst e1
    go_wp2_with (fail)
    refine (number_any c1 (by omega) _ hE2).mono ?_
    rintro e w1 ⟨hb1, ⟨a, ha, rfl⟩ | ⟨ha, u, rfl⟩⟩
    · have hE3 := hE2.below hb1
      have hb1' := hb0.trans (hb1.mono hb0.size)
      have HA := Lib.hid ha
      clear ha hb0 hb1
      go_wp2_with (fail)
      refine (number_any c2 (by omega) _ hE3).mono ?_
      rintro e w2 ⟨hb2, ⟨b, hb, rfl⟩ | ⟨hb, u, rfl⟩⟩
      · go_wp2
        go_ret3
        exact ⟨hb1'.trans (hb2.mono hb1'.size), .inl ⟨a, b, HS.out a b HA.out hb, rfl⟩⟩
      · go_wp2
        go_ret3
        exact ⟨hb1'.trans (hb2.mono hb1'.size), .inr ⟨HN2.out hb, _, _, rfl⟩⟩
    · have hE3 := hE2.below hb1
      have hb1' := hb0.trans (hb1.mono hb0.size)
      have HA := Lib.hid ha
      clear ha hb0 hb1
      go_wp2_with (fail)
      refine (number_any c2 (by omega) _ hE3).mono ?_
      rintro e w2 ⟨hb2, ⟨b, hb, rfl⟩ | ⟨hb, u2, rfl⟩⟩
      · go_wp2
        go_ret3
        exact ⟨hb1'.trans (hb2.mono hb1'.size), .inr ⟨HN1.out HA.out, _, _, rfl⟩⟩
      · go_wp2
        go_ret3
        exact ⟨hb1'.trans (hb2.mono hb1'.size), .inr ⟨HN1.out HA.out, _, _, rfl⟩⟩
end Go.Proofs.YteoodompphhkbaaGreatDoor.K.S

/-
  WHAT IS PROVED: the contract of the iterator over a text's stretches: what it hands to a loop. Conditions: strconv's errors hold errors; a text has less than 2^32 bytes.
-/
namespace Go.Proofs.YteoodompphhkbaaGreatDoor.K.S
set_option maxRecDepth 100000
open Go.RowKit Go.Shelf
attribute [local go_sem] Oper.semAt_some

/-- the ends of a stretch that a text may name -/
abbrev Pair := { p : Nat × Nat // p.1 < 64 ∧ p.2 < 64 }
abbrev encP (p : Pair) : Array Value := #[.int .i64 (p.1.1 : Int), .int .i64 (p.1.2 : Int)]

def ErrsB (n₀ : Nat) (w : World) : Prop := Errs w ∧ 4 < n₀ ∧ 5 < n₀
theorem ErrsB.below {n₀ : Nat} {w w' : World} (h : ErrsB n₀ w) (hb : Below n₀ w w') : ErrsB n₀ w' := by
  obtain ⟨⟨⟨a, b, h1⟩, c, d, h2⟩, h3, h4⟩ := h
  exact ⟨⟨⟨a, b, (hb.cell h3).trans h1⟩, c, d, (hb.cell h4).trans h2⟩, h3, h4⟩
theorem ErrsB.of {w : World} (h : Errs w) : ErrsB w.heap.size w := ⟨h, by obtain ⟨⟨_, _, h1⟩, _⟩ := h; exact lt_of_cell h1, by obtain ⟨_, _, _, h1⟩ := h; exact lt_of_cell h1⟩

def strLen : Value → Nat
  | .string b => b.size
  | _ => 0
theorem lens_nil (k : Nat) : lens k [] = [] := by cases k <;> simp [lens]
theorem lens_yes {k : Nat} {l : List UInt8} {p : Nat × Nat} (h : l ≠ []) (hp : ends (cutL l 32).1 = some p) : lens (k + 1) l = p :: lens k (cutL l 32).2.1 := by
  rw [lens, if_neg h, hp]
theorem lens_stop {k : Nat} {l : List UInt8} (hp : ends (cutL l 32).1 = none) : lens k l = [] := by
  cases k with
  | zero => rfl
  | succ k =>
    rw [lens]
    split
    · rfl
    · rw [hp]
set_option maxRecDepth 100000 in
set_option maxHeartbeats 2000000 in
theorem stretches_stops (n : Nat) (hn : 1 ≤ n) (Bn n₀ : Nat) (t : List UInt8) (w : World) (hB : w.cell? ⟨Bn, 0, none⟩ = some (.string (str t))) (ht : t.length ≤ 4294967296) (hn0 : n₀ ≤ w.heap.size) (hE : ErrsB n₀ w) :
    SeqStopsK Fence.wide n Tryz.prog 355 #[.pointer (some ⟨Bn, 0, none⟩)] encP (Below n₀) (fun xs => xs.map (·.1) = lens t.length t) (fun _ => True) (t.length + 1) w := fun l J Jx W hW hJ hJx hY h0 => by
  have hBW : W.cell? ⟨Bn, 0, none⟩ = some (.string (str t)) := (hW.cell (lt_of_cell hB)).trans hB
  have hEW : ErrsB n₀ W := hE.below (hW.mono hn0)
  have hnW : n₀ ≤ W.heap.size := Nat.le_trans hn0 hW.size
  refine callsIn_of_wp Tryz.func355 rfl trivial ?_ rfl
  simp only [Tryz.ntmps355, List.size_toArray, List.length_cons, List.length_nil, Nat.reduceAdd, Nat.reduceSub, Array.replicate_succ, Array.replicate_zero, List.push_toArray, List.append_toArray, List.nil_append, List.cons_append]
  clear hB hE hW
  gi_wp2
  gi_loopw [3] (fun r wr => ∃ (pre : List Pair) (rest : List UInt8) (k : Nat), r = .string (str rest) ∧ rest.length ≤ k ∧ rest.length ≤ t.length ∧ pre.length + k ≤ t.length ∧ lens t.length t = pre.map (·.1) ++ lens k rest ∧ W.heap.size ≤ wr.heap.size ∧ ErrsB n₀ wr ∧ J pre wr)
    (fun r _ => strLen r)
  case atStart => exact ⟨[], t, t.length, rfl, Nat.le_refl _, Nat.le_refl _, by simp, by simp, Nat.le_refl _, hEW, h0⟩
  case round =>
    obtain ⟨pre, rest, k, rfl, hk1, hk2, hk3, hL, hsz, hEr, hJr⟩ := hrel
    by_cases hr : rest = []
    · subst hr
      have he : (str []).toList.isEmpty = true := by rw [str_toList]; rfl
      rw [lens_nil, List.append_nil] at hL
      have HL := Lib.hid hL
      clear hL
      gi_wp2
      go_end0
      exact ⟨⟨_, rfl⟩, .inl ⟨pre, HL.out.symm, hJr⟩⟩
    · obtain ⟨k, rfl⟩ : ∃ j, k = j + 1 := ⟨k - 1, by have := List.length_pos_iff.2 hr; omega⟩
      have he : (str rest).toList.isEmpty = false := by rw [str_toList]; simpa using hr
      have HSh := Lib.hid (cutL_shorter (c := 32) hr)
      have hfst := cutL_first_le rest 32
      have HY : Hid (∀ p, ends (cutL rest 32).1 = some p → lens (k + 1) rest = p :: lens k (cutL rest 32).2.1) := fun p => lens_yes hr
      have HN : Hid (ends (cutL rest 32).1 = none → lens (k + 1) rest = []) := lens_stop
      have HL := Lib.hid hL
      clear hL hr
      gi_wp2_with (fail)
      refine ⟨trivial, ?_⟩
      refine (callsIn_wide.2 (cut_any rest 32 _ (by omega))).mono ?_
      rintro e w' ⟨rfl, m, rfl⟩
      have hE2 : ErrsB n₀ (wr.drewN m) := hEr
      have hs2 : W.heap.size ≤ (wr.drewN m).heap.size := hsz
      have hJ2 : J pre (wr.drewN m) := hJ _ _ _ none hJr (only_of_below (below_drewN (Below.refl _ _) m) none) (fun r e => by cases e)
      generalize wr.drewN m = w0 at *
      generalize cutL rest 32 = c at *
      obtain ⟨c1, c2, c3⟩ := c
      simp only at HSh hfst HY HN ⊢
      gi_wp2_with (fail)
      refine ⟨trivial, ?_⟩
      refine (callsIn_wide.2 (ends_any c1 (by omega) _ hE2.1)).mono ?_
      rintro e w2 ⟨hb2, ⟨a, b, hab, rfl⟩ | ⟨hab, u, v, rfl⟩⟩
      · have hE3 : ErrsB n₀ w2 := hE2.below (hb2.mono (Nat.le_trans hnW hs2))
        have hs3 : W.heap.size ≤ w2.heap.size := Nat.le_trans hs2 hb2.size
        have hJ3 : J pre w2 := hJ _ _ _ none hJ2 (only_of_below hb2 none) (fun r e => by cases e)
        have hlt := ends_lt hab
        have HP : Hid (lens t.length t = pre.map (·.1) ++ (a, b) :: lens k c2) := by show _ = _; rw [← HY.out _ hab]; exact HL.out
        clear hab hJ2 hb2 HY HN HL
        obtain ⟨fn, tmps, assign, body, hy, hR⟩ := hY pre ⟨(a, b), hlt⟩ w2 hJ3 (by omega)
        dsimp only [encP] at hy
        gi_wp2
        refine hR.mono ?_
        rintro e w3 (⟨rfl, hJ4, hk4⟩ | ⟨rfl, hJx4⟩)
        · have hE4 : ErrsB n₀ w3 := hE3.below hk4
          have hs4 : W.heap.size ≤ w3.heap.size := Nat.le_trans hs3 hk4.size
          gi_wp2
          go_roundw
          case rel =>
            refine ⟨pre ++ [⟨(a, b), hlt⟩], c2, k, rfl, ?_, ?_, by simp; omega, ?_, hs4, hE4, hJ4⟩
            · have := HSh.out; omega
            · have := HSh.out; omega
            · rw [HP.out]; simp
          case measure =>
            have := HSh.out
            simpa [strLen, str_size] using this
        · gi_wp2
          refine bodyPost_ret (results_none rfl _ _ _) rfl ?_
          exact ⟨⟨_, rfl⟩, .inr ⟨_, trivial, hJx4⟩⟩
      · have hJ3 : J pre w2 := hJ _ _ _ none hJ2 (only_of_below hb2 none) (fun r e => by cases e)
        have HP : Hid (pre.map (·.1) = lens t.length t) := by show _ = _; rw [HL.out, HN.out hab, List.append_nil]
        clear hab hJ2 hb2 HY HN HL
        gi_wp2
        refine ⟨fun _ h => (by cases h), ?_⟩
        gi_wp2
        refine bodyPost_ret (results_none rfl _ _ _) rfl ?_
        exact ⟨⟨_, rfl⟩, .inl ⟨pre, HP.out, hJ3⟩⟩
end Go.Proofs.YteoodompphhkbaaGreatDoor.K.S

/-
  WHAT IS PROVED: the contract of the reader of a set's text. Conditions: strconv's errors hold errors; a text has less than 2^32 bytes.
-/
namespace Go.Proofs.YteoodompphhkbaaGreatDoor.K.S
set_option maxRecDepth 100000
open Go.RowKit Go.Shelf
attribute [local go_sem] Oper.semAt_some

theorem stretches_any (t : List UInt8) (w : World) : Calls Tryz.prog 330 #[.string (str t)] w fun e w' =>
    e = .returned (.func (.func 355) #[] #[.pointer (some ⟨w.heap.size, 0, none⟩)]) ∧ w' = w.alloc (.cells #[.string (str t)] 9) := by
  have hmf : ∀ (fn : Fn) (first cap : Array Value) (w : World), (Instr.makeFunc fn first cap).run Tryz.prog w = .ok (.func fn first cap) w := fun _ _ _ _ => rfl
  go_enter Tryz.func330, Tryz.ntmps330
  go_wp2
  go_ret
  exact ⟨rfl, rfl⟩

theorem cell_new_b (W : World) (v : Value) (t : TypeId) : (W.alloc (.cells #[v] t)).cell? ⟨W.heap.size, 0, none⟩ = some v ∧ (W.alloc (.cells #[v] t)).frozen? ⟨W.heap.size, 0, none⟩ = false :=
  ⟨(Blk.new W t #[v]).cell 0, (Blk.new W t #[v]).frozen 0⟩
theorem cell_alloc_b {W : World} {a : Addr} {v : Value} (o : Obj) (h : W.cell? a = some v) : (W.alloc o).cell? a = some v := cell_kept h (World.grownBy_alloc W o none) (fun r e => by cases e)
theorem frozen_alloc_b {W : World} {a : Addr} {v : Value} (o : Obj) (h : W.cell? a = some v) (hf : W.frozen? a = false) : (W.alloc o).frozen? a = false := (frozen_kept h (World.grownBy_alloc W o none) (fun r e => by cases e)).trans hf
theorem pairs_snoc (pre : List Pair) (x : Pair) : setOf ((pre ++ [x]).map (·.1)) = setOf (pre.map (·.1)) ||| spanN x.1.1 x.1.2 := by
  rw [List.map_append]; exact set_snoc _ _

theorem keeps_drewN (W : World) (n : Nat) : KeepsOthers W (W.drewN n) := ⟨Nat.le_refl _, fun _ _ h _ => h⟩
theorem body_close {w W : World} {s : Nat} {v : Value} (k : Nat) (hB : Below w.heap.size w W) (hf : W.frozen? ⟨w.heap.size, 0, none⟩ = false) (hc : W.cell? ⟨w.heap.size, 0, none⟩ = some (.int .u64 (s : Int))) :
    KeepsOthers W ((W.drewN k).setCell ⟨w.heap.size, 0, none⟩ v) ∧ Below w.heap.size W ((W.drewN k).setCell ⟨w.heap.size, 0, none⟩ v) ∧
      (((W.drewN k).setCell ⟨w.heap.size, 0, none⟩ v).cell? ⟨w.heap.size, 0, none⟩ = some v ∧ ((W.drewN k).setCell ⟨w.heap.size, 0, none⟩ v).frozen? ⟨w.heap.size, 0, none⟩ = false) ∧
      Below w.heap.size w ((W.drewN k).setCell ⟨w.heap.size, 0, none⟩ v) := by
  have h2 : Below w.heap.size W ((W.drewN k).setCell ⟨w.heap.size, 0, none⟩ v) := (below_drewN (Below.refl _ _) k).setCell (p := ⟨w.heap.size, 0, none⟩) (Nat.le_refl _) _
  exact ⟨(keeps_drewN W k).trans (KeepsOthers.setCell _ _ _), h2, ⟨World.cell?_setCell_same' _ _ _ (by show (W.cell? _).isSome = true; rw [hc]; rfl), by rw [World.frozen?_setCell]; exact hf⟩, hB.trans h2⟩

set_option maxRecDepth 100000 in
set_option maxHeartbeats 4000000 in
theorem parse_in (t : List UInt8) (ht : t.length ≤ 4294967296) (w : World) (hE : Errs w) :
    CallsIn Fence.wide 4 Tryz.prog 307 #[.string (str t)] w fun e w' => e = .returned (.tuple #[.int .u64 ((parseP t).1 : Int), .int .i64 (parseP t).2]) ∧ Below w.heap.size w w' := by
  have hEB := ErrsB.of hE
  refine callsIn_of_wp_marks Tryz.func307 rfl trivial ?_ rfl
  simp only [Tryz.ntmps307, List.size_toArray, List.length_cons, List.length_nil, Nat.reduceAdd, Nat.reduceSub, Array.replicate_succ, Array.replicate_zero, List.push_toArray, List.append_toArray, List.nil_append, List.cons_append]
  gi_wp2_with (refine ⟨trivial, ?_⟩; gi_at_call 330; refine (callsIn_wide.2 (stretches_any t _)).mono ?_; rintro e w' ⟨rfl, rfl⟩)
  have hs0 := cell_new_b w (.int .u64 0) 31
  have hb0 := cell_new_b (w.alloc (.cells #[.int .u64 0] 31)) (.string (str t)) 9
  rw [World.size_alloc] at hb0
  have hB0 : Below w.heap.size w ((w.alloc (.cells #[.int .u64 0] 31)).alloc (.cells #[.string (str t)] 9)) := ((Below.refl _ w).alloc (Nat.le_refl _) _).alloc (by simp) _
  refine wpIn_rangeFunc_ownF rfl (by omega) (gf := 355) (lb := #[.pointer (some ⟨w.heap.size + 1, 0, none⟩)]) rfl trivial (enters_of Tryz.func355 (by kernel_rfl) rfl)
    (stretches_stops 3 (by omega) (w.heap.size + 1) w.heap.size t _ hb0.1 ht (by simp; omega) (hEB.below hB0)) belowK_t (belowK_b (by simp; omega)) (Below.refl _ _) (fun _ => rfl)
    (fun pre W => (W.cell? ⟨w.heap.size, 0, none⟩ = some (.int .u64 (setOf (pre.map (·.1)) : Nat)) ∧ W.frozen? ⟨w.heap.size, 0, none⟩ = false) ∧ Below w.heap.size w W)
    (fun _ _ _ => False)
    (OwnFrom.and (Own.from (fun s A B row hs hg hr => ⟨cell_kept hs.1 hg hr, (frozen_kept hs.1 hg hr).trans hs.2⟩) _) (ownFrom_below (Nat.le_refl _) (by simp; omega)))
    (fun _ _ _ _ _ hs _ _ => hs)
    ⟨⟨cell_alloc_b _ hs0.1, frozen_alloc_b _ hs0.1 hs0.2⟩, hB0⟩
    (fun x => { tmps := #[.string (str t), undef, .int .u64 0, .int .i64 0, .pointer (some ⟨w.heap.size, 0, none⟩), .int .i64 (x.1.1 : Int), .int .i64 (x.1.2 : Int), .string (str t), .func (.func 355) #[] #[.pointer (some ⟨w.heap.size + 1, 0, none⟩)], .int .i64 (x.1.1 : Int), .int .i64 (x.1.2 : Int), undef, undef, undef, undef, undef, undef, undef, undef, undef, undef], defers := [] }) ?assign ?body ?done ?stop
  case assign =>
    intro l x W K hK
    gi_wp2
    exact hK
  case body =>
    rintro l pre x W ⟨⟨hc, hf⟩, hB⟩ _
    have hmx : Tryz.prog.follows .mixedOrders = true := by kernel_rfl
    obtain ⟨⟨a, b⟩, ha, hb⟩ := x
    simp only at ha hb
    have hlt := set_lt (pre.map (·.1))
    have hlt2 := span_lt a b
    have HP := Lib.hid (pairs_snoc pre ⟨(a, b), ha, hb⟩)
    have HO := Lib.hid (u64_or_nat _ _ hlt hlt2)
    clear hlt hlt2
    generalize setOf (pre.map (·.1)) = s at *
    gi_wp2
    gi_region_with_o (refine ⟨trivial, ?_⟩; gi_at_call 331; refine (CallsIn.inRound l (callsIn_wide.2 (span_any a b ha hb _))).mono ?_; rintro e w' ⟨rfl, m, rfl⟩)
    all_goals gi_wp2
    all_goals
      obtain ⟨x1, x2, ⟨x3, x4⟩, x5⟩ := body_close (v := .int .u64 (bits BinOp.or IntKind.u64 (s : Int) (spanN a b : Nat))) (1 + m) hB hf hc
      exact ⟨x1, x2, ⟨by rw [x3, HO.out, HP.out], x4⟩, x5⟩
  case done =>
    rintro D ys W hD hys ⟨⟨hc, hf⟩, hB⟩ hK
    have HY := Lib.hid hys
    have hlt := set_lt (lens t.length t)
    rw [hys] at hc
    have HP : Hid (parseP t = if txt (setOf (lens t.length t)) = t then (setOf (lens t.length t), 0) else (0, 60)) := rfl
    clear hys
    generalize setOf (lens t.length t) = s at *
    have HD : w.heap.size < W.heap.size := lt_of_cell hc
    by_cases he : txt s = t
    · have HX : Hid (parseP t = (s, 0)) := by show _ = _; rw [HP.out, if_pos he]
      have hq : ((str (txt s)).toList == (str t).toList) = true := by rw [str_toList, str_toList, he]; simp
      clear he
      gi_wp2_with (fail)
      refine ⟨trivial, (callsIn_wide.2 (text_any s hlt _)).mono ?_⟩
      rintro e W2 ⟨rfl, hb2⟩
      have hc2 : W2.cell? ⟨w.heap.size, 0, none⟩ = some (.int .u64 (s : Int)) := (hb2.cell HD).trans hc
      have hK2 : W2.heap[D]? = some (.deferred (some [])) := (hb2.block D (Array.getElem?_eq_some_iff.1 hK).1).trans hK
      have hB2 : Below w.heap.size w W2 := hB.trans (hb2.mono (by omega))
      clear hc hK hB hb2
      gi_wp2
      refine ⟨by simp, .inl ⟨_, _, rfl, run_takeDeferred hK2, ?_⟩⟩
      exact ⟨_, results_tmp2 rfl _ _ _, by rw [HX.out]; rfl, hB2.trans (belowK_b (w := w) (Nat.le_refl _) W2 D _ _ (by simp at hD; omega) hK2 rfl rfl)⟩
    · have HX : Hid (parseP t = (0, 60)) := by show _ = _; rw [HP.out, if_neg he]
      have hq : ((str (txt s)).toList == (str t).toList) = false := by rw [str_toList, str_toList]; simpa using he
      clear he
      gi_wp2_with (fail)
      refine ⟨trivial, (callsIn_wide.2 (text_any s hlt _)).mono ?_⟩
      rintro e W2 ⟨rfl, hb2⟩
      have hK2 : W2.heap[D]? = some (.deferred (some [])) := (hb2.block D (Array.getElem?_eq_some_iff.1 hK).1).trans hK
      have hB2 : Below w.heap.size w W2 := hB.trans (hb2.mono (by omega))
      clear hc hK hB hb2
      gi_wp2
      refine ⟨by simp, .inl ⟨_, _, rfl, run_takeDeferred hK2, ?_⟩⟩
      exact ⟨_, results_tmp2 rfl _ _ _, by rw [HX.out]; rfl, hB2.trans (belowK_b (w := w) (Nat.le_refl _) W2 D _ _ (by simp at hD; omega) hK2 rfl rfl)⟩
  case stop =>
    rintro D c pre W _ _ h _
    exact h.elim

theorem parse_any (t : List UInt8) (ht : t.length ≤ 4294967296) (w : World) (hE : Errs w) :
    Calls Tryz.prog 307 #[.string (str t)] w fun e w' => e = .returned (.tuple #[.int .u64 ((parseP t).1 : Int), .int .i64 (parseP t).2]) ∧ Below w.heap.size w w' :=
  callsIn_wide.1 (parse_in t ht w hE)
end Go.Proofs.YteoodompphhkbaaGreatDoor.K.S

/- Append -/
namespace Go.Proofs.YteoodompphhkbaaGreatDoor.K
set_option maxRecDepth 100000
open Go.RowKit

section
variable {P : Program} (w : World)
theorem run_append_cells (base : Nat) (t ty e : TypeId) (i : TypeInfo) (z : Value) (bytes : Nat) (ht : P.underlying t = some (.slice e)) (hi : P.info? e = some i) (hz : i.zero = some z)
    (hsize : i.size = 1) (hby : i.bytes = bytes) (hzs : z.cells.size = 1)
    (v : Value) (n : Nat) (xs : List Value) (hown : w.ownsRow base e 1 v n xs)
    (g : Nat) (A : Option Addr) (m c : Nat) (news : List Value) (hr : Reads w g A m news) (h1 : ∀ u ∈ news, u.oneCell' = true)
    (h63 : n + m ≤ maxLen) (hbytes : (n + m) * bytes ≤ 140737488355328) (hbase : base ≤ w.heap.size) :
    ∃ v' w', (Builtin.append_ #[t, t] ty #[v, .slice A m c]).run P w = .ok v' w' ∧ w'.ownsRow base e 1 v' (n + m) (xs ++ news) ∧ w.grownBy w' v.ownBlock ∧
      (v'.ownBlock = v.ownBlock ∨ v'.ownBlock = some w.heap.size) := by
  have hnil : m = 0 → ∃ v' w', (Builtin.append_ #[t, t] ty #[v, .slice none 0 c]).run P w = .ok v' w' ∧ w'.ownsRow base e 1 v' (n + m) (xs ++ news) ∧ w.grownBy w' v.ownBlock ∧
      (v'.ownBlock = v.ownBlock ∨ v'.ownBlock = some w.heap.size) := fun hm => by
    subst hm
    have hn : news = [] := List.eq_nil_of_length_eq_zero hr.1
    subst hn
    refine ⟨v, w, ?_, by simpa using hown, World.grownBy.refl w _, .inl rfl⟩
    rcases hown.2 with ⟨rfl, rfl⟩ | ⟨b, cap, cur, rfl, _, _, hnc, _⟩
    · simp [Builtin.append_, run_underlying ht, sizeOf, typeInfo, hi, Builtin.lenOf, Builtin.firstCells]
    · simp [Builtin.append_, run_underlying ht, sizeOf, typeInfo, hi, Builtin.lenOf, Builtin.firstCells, hnc, storeCells]
  cases A with
  | none =>
    have hm : m = 0 := by
      rcases Nat.eq_zero_or_pos m with h0 | h0
      · exact h0
      · obtain ⟨ad, h, _⟩ := hr.2 h0
        cases h
    have := hnil hm
    rwa [hm] at this ⊢
  | some ad =>
    have hcells : ∀ j u, news[j]? = some u → w.cell? (ad.add j) = some u := by
      intro j u hu
      rcases Nat.eq_zero_or_pos m with h0 | h0
      · have hn : news = [] := List.eq_nil_of_length_eq_zero (by rw [hr.1]; exact h0)
        subst hn
        simp at hu
      · obtain ⟨ad', h, _, _, hc⟩ := hr.2 h0
        injection h with h
        subst h
        exact hc j u hu
    obtain ⟨v', w', hrun, h2, h3, _, h5⟩ := run_append_own_at (P := P) w base t ty e i z 1 bytes ht hi hz hsize hby hzs (by omega) v n xs hown ad m c news (by rw [hr.1]; omega) hcells h1 h63 hbytes hbase
    exact ⟨v', w', hrun, h2, h3, h5⟩

theorem wpList_append_cells {ops : Array Oper} {rest : List Oper} {o : Oper} {a : Act} {Q : Exit → Act → World → Prop} (hgd : o.guard = none) (s x : Operand) (t : TypeId)
    (ho : o.op = .call { callee := .builtin .append, args := #[s, x], argTypes := #[t, t] })
    (base : Nat) (e : TypeId) (i : TypeInfo) (z : Value) (bytes : Nat) (ht : P.underlying t = some (.slice e)) (hi : P.info? e = some i) (hz : i.zero = some z)
    (hsize : i.size = 1) (hby : i.bytes = bytes) (hzs : z.cells.size = 1)
    (v : Value) (n : Nat) (xs : List Value) (hs : a.eval s = v) (hown : w.ownsRow base e 1 v n xs)
    (g : Nat) (A : Option Addr) (m c : Nat) (news : List Value) (hx : a.eval x = .slice A m c) (hr : Reads w g A m news) (h1 : ∀ u ∈ news, u.oneCell' = true)
    (h63 : n + m ≤ maxLen) (hbytes : (n + m) * bytes ≤ 140737488355328) (hbase : base ≤ w.heap.size)
    (h : ∀ v' w', w'.ownsRow base e 1 v' (n + m) (xs ++ news) → w.grownBy w' v.ownBlock → (v'.ownBlock = v.ownBlock ∨ v'.ownBlock = some w.heap.size) → wpList P ops Q rest (a.put o.dst v') w') : wpList P ops Q (o :: rest) a w :=
  wpList_plain hgd fun K hK => by
    obtain ⟨v', w', hrun, h2, h3, h4⟩ := run_append_cells (P := P) w base t o.type e i z bytes ht hi hz hsize hby hzs v n xs hown g A m c news hr h1 h63 hbytes hbase
    unfold Oper.wp execOp
    simp only [ho, resolve, invoke, builtin, Sem.run_bind, Sem.run_pure, Result.andThen_ok, List.map_toArray, List.map_cons, List.map_nil, hs, hx, hrun]
    exact hK _ _ (h v' w' h2 h3 h4)
end

end Go.Proofs.YteoodompphhkbaaGreatDoor.K

/- DA -/
/-
  WHAT IS PROVED: files, disks, what each call of a disk answers and leaves, plain facts about lists. No condition.
-/
namespace Go.Proofs.YteoodompphhkbaaGreatDoor.K.Dsk
set_option maxRecDepth 100000
set_option maxRecDepth 100000

/-- a file -/
structure Fl where
  name : List UInt8
  b : List UInt8
  safe : Bool
/-- a disk -/
structure Ds where
  fs : List Fl
  room : Int
  left : Int
  down : Bool
/-- a file's name -/
def nameB (s : List UInt8) : Bool := decide (1 ≤ s.length) && decide (s.length ≤ 16) && s.all (fun c => decide (97 ≤ c.toNat) && decide (c.toNat ≤ 122))
def hasF (l : List Fl) (x : List UInt8) : Bool := l.any fun f => decide (f.name = x)
def delF (l : List Fl) (x : List UInt8) : List Fl := l.filter fun f => decide (f.name ≠ x)
def putF (l : List Fl) (f : Fl) : List Fl := f :: delF l f.name
/-- the file of a name, or an empty one -/
def getF : List Fl → List UInt8 → Fl
  | [], x => ⟨x, [], false⟩
  | f :: l, x => if f.name = x then f else getF l x
def sumF (l : List Fl) : Nat := (l.map fun f => f.b.length).sum
structure Good (l : List Fl) : Prop where
  nodup : (l.map (·.name)).Nodup
  small : ∀ f ∈ l, f.name.length ≤ 1000 ∧ f.b.length ≤ 100000

theorem hasF_iff {l : List Fl} {x : List UInt8} : hasF l x = true ↔ ∃ f ∈ l, f.name = x := by simp [hasF]
theorem mem_delF {l : List Fl} {x : List UInt8} {f : Fl} : f ∈ delF l x ↔ f ∈ l ∧ f.name ≠ x := by simp [delF]
theorem mem_putF {l : List Fl} {f g : Fl} : g ∈ putF l f ↔ g = f ∨ g ∈ l ∧ g.name ≠ f.name := by unfold putF; rw [List.mem_cons, mem_delF]
theorem has_delF (l : List Fl) (x y : List UInt8) : hasF (delF l x) y = (hasF l y && decide (y ≠ x)) := by
  rw [Bool.eq_iff_iff, Bool.and_eq_true, hasF_iff, hasF_iff, decide_eq_true_eq]
  constructor
  · rintro ⟨f, hf, rfl⟩; obtain ⟨h1, h2⟩ := mem_delF.1 hf; exact ⟨⟨f, h1, rfl⟩, h2⟩
  · rintro ⟨⟨f, hf, rfl⟩, h⟩; exact ⟨f, mem_delF.2 ⟨hf, h⟩, rfl⟩
theorem has_putF (l : List Fl) (f : Fl) (y : List UInt8) : hasF (putF l f) y = (decide (y = f.name) || hasF l y) := by
  rw [Bool.eq_iff_iff, Bool.or_eq_true, hasF_iff, hasF_iff, decide_eq_true_eq]
  constructor
  · rintro ⟨g, hg, rfl⟩
    rcases mem_putF.1 hg with rfl | ⟨h, _⟩
    · exact .inl rfl
    · exact .inr ⟨g, h, rfl⟩
  · rintro (rfl | ⟨g, hg, rfl⟩)
    · exact ⟨f, mem_putF.2 (.inl rfl), rfl⟩
    · by_cases e : g.name = f.name
      · exact ⟨f, mem_putF.2 (.inl rfl), e.symm⟩
      · exact ⟨g, mem_putF.2 (.inr ⟨hg, e⟩), rfl⟩
theorem getF_name : ∀ (l : List Fl) (x : List UInt8), (getF l x).name = x
  | [], x => rfl
  | f :: l, x => by
    unfold getF
    split
    · assumption
    · exact getF_name l x
theorem getF_mem : ∀ {l : List Fl} {x : List UInt8}, hasF l x = true → getF l x ∈ l
  | [], x, h => by simp [hasF] at h
  | f :: l, x, h => by
    unfold getF
    split
    · exact List.mem_cons_self
    · rename_i hne
      refine List.mem_cons_of_mem _ (getF_mem ?_)
      unfold hasF at h ⊢
      simpa [hne] using h
theorem getF_none : ∀ {l : List Fl} {x : List UInt8}, hasF l x = false → getF l x = ⟨x, [], false⟩
  | [], x, _ => rfl
  | f :: l, x, h => by
    unfold hasF at h
    simp at h
    unfold getF
    rw [if_neg h.1]
    exact getF_none (by unfold hasF; simpa using h.2)
theorem good_nil : Good [] := ⟨by simp, fun f hf => by cases hf⟩
theorem Good.del {l : List Fl} (h : Good l) (x : List UInt8) : Good (delF l x) :=
  ⟨List.Pairwise.sublist (List.Sublist.map _ List.filter_sublist) h.nodup, fun f hf => h.small f (mem_delF.1 hf).1⟩
theorem Good.put {l : List Fl} (h : Good l) {f : Fl} (hn : f.name.length ≤ 1000) (hb : f.b.length ≤ 100000) : Good (putF l f) := by
  refine ⟨?_, fun g hg => ?_⟩
  · unfold putF
    rw [List.map_cons, List.nodup_cons]
    refine ⟨fun hm => ?_, (h.del _).nodup⟩
    obtain ⟨g, hg, e⟩ := List.mem_map.1 hm
    exact (mem_delF.1 hg).2 e
  · rcases mem_putF.1 hg with rfl | ⟨h1, _⟩
    · exact ⟨hn, hb⟩
    · exact h.small g h1
theorem len_delF_no {l : List Fl} {x : List UInt8} (h : hasF l x = false) : delF l x = l := by
  unfold delF
  rw [List.filter_eq_self]
  intro f hf
  simp only [decide_eq_true_eq]
  intro e
  have : hasF l x = true := hasF_iff.2 ⟨f, hf, e⟩
  rw [h] at this; cases this
theorem len_delF {l : List Fl} (h : Good l) {x : List UInt8} : (delF l x).length + (if hasF l x = true then 1 else 0) = l.length := by
  have hn := h.nodup
  clear h
  induction l with
  | nil => simp [delF, hasF]
  | cons f l ih =>
    rw [List.map_cons, List.nodup_cons] at hn
    have := ih hn.2
    by_cases e : f.name = x
    · have hl : hasF l x = false := by
        cases hh : hasF l x with
        | false => rfl
        | true => obtain ⟨g, hg, eg⟩ := hasF_iff.1 hh; exact absurd (List.mem_map.2 ⟨g, hg, eg.trans e.symm⟩) hn.1
      have h1 : hasF (f :: l) x = true := hasF_iff.2 ⟨f, List.mem_cons_self, e⟩
      have h2 : delF (f :: l) x = l := by
        have := len_delF_no hl
        unfold delF at this ⊢
        rw [List.filter_cons_of_neg (by simp [e])]
        exact this
      rw [h1, h2]; simp
    · have h1 : hasF (f :: l) x = hasF l x := by simp [hasF, e]
      have h2 : delF (f :: l) x = f :: delF l x := by unfold delF; rw [List.filter_cons_of_pos (by simp [e])]
      rw [h1, h2]; simp; omega
theorem len_putF {l : List Fl} (h : Good l) (f : Fl) : (putF l f).length = if hasF l f.name = true then l.length else l.length + 1 := by
  have := len_delF h (x := f.name)
  unfold putF
  rw [List.length_cons]
  split at this <;> rename_i hh
  · rw [if_pos hh]; omega
  · rw [if_neg hh]; omega
theorem len_putF_le {l : List Fl} (f : Fl) : (putF l f).length ≤ l.length + 1 := by
  unfold putF delF
  rw [List.length_cons]
  exact Nat.add_le_add_right (List.length_filter_le _ l) 1
theorem getF_put {l : List Fl} (f : Fl) : getF (putF l f) f.name = f := by unfold putF getF; rw [if_pos rfl]
theorem getF_del : ∀ (l : List Fl) {x y : List UInt8}, x ≠ y → getF (delF l y) x = getF l x
  | [], _, _, _ => rfl
  | f :: l, x, y, h => by
    have ih := getF_del l h
    by_cases e : f.name = y
    · have : delF (f :: l) y = delF l y := by unfold delF; rw [List.filter_cons_of_neg (by simp [e])]
      rw [this, ih]
      conv => rhs; unfold getF
      rw [if_neg (by rw [e]; exact fun e' => h e'.symm)]
    · have : delF (f :: l) y = f :: delF l y := by unfold delF; rw [List.filter_cons_of_pos (by simp [e])]
      rw [this]
      unfold getF
      rw [ih]
/-! ### what a disk does -/
def spendD (S : Ds) : Int × Ds := if S.left = 0 then (50, { S with down := true }) else if 0 < S.left then (0, { S with left := S.left - 1 }) else (0, S)
def butF (l : List Fl) (x : List UInt8) : Nat := sumF (delF l x)
def writeD (S : Ds) (x b : List UInt8) : Int × Ds :=
  if S.down = true then (50, S) else if nameB x = false then (52, S) else if S.room < (butF S.fs x : Int) + (b.length : Int) then (51, S) else spendD { S with fs := putF S.fs ⟨x, b, false⟩ }
def syncD (S : Ds) (x : List UInt8) : Int × Ds :=
  if S.down = true then (50, S) else if hasF S.fs x = false then (52, S) else if (spendD S).1 = 0 then (0, { (spendD S).2 with fs := putF S.fs { getF S.fs x with safe := true } }) else spendD S
def renameD (S : Ds) (x y : List UInt8) : Int × Ds :=
  if S.down = true then (50, S) else if hasF S.fs x = false ∨ nameB y = false then (52, S) else if (spendD S).1 = 0 then (0, { (spendD S).2 with fs := putF (delF S.fs x) { getF S.fs x with name := y } }) else spendD S
def readE (S : Ds) (x : List UInt8) : Int := if S.down = true then 50 else if hasF S.fs x = false then 52 else 0
def readB (S : Ds) (x : List UInt8) : List UInt8 := if readE S x = 0 then (getF S.fs x).b else []
theorem spend_cases (S : Ds) : (S.left = 0 ∧ spendD S = (50, { S with down := true })) ∨ (0 < S.left ∧ spendD S = (0, { S with left := S.left - 1 })) ∨ (S.left < 0 ∧ spendD S = (0, S)) := by
  unfold spendD
  by_cases h : S.left = 0
  · exact .inl ⟨h, if_pos h⟩
  · by_cases h2 : 0 < S.left
    · exact .inr (.inl ⟨h2, by rw [if_neg h, if_pos h2]⟩)
    · exact .inr (.inr ⟨by omega, by rw [if_neg h, if_neg h2]⟩)
theorem spend_fs (S : Ds) : (spendD S).2.fs = S.fs ∧ (spendD S).2.room = S.room := by
  rcases spend_cases S with ⟨_, h⟩ | ⟨_, h⟩ | ⟨_, h⟩ <;> rw [h] <;> exact ⟨rfl, rfl⟩
end Go.Proofs.YteoodompphhkbaaGreatDoor.K.Dsk

/-
  WHAT IS PROVED: words for memory: what stays outside of a set of blocks, slices of whatever size that are read outside of it. No condition.
-/
namespace Go.Proofs.YteoodompphhkbaaGreatDoor.K.Dsk
set_option maxRecDepth 100000
set_option maxRecDepth 100000
open Go.RowKit
variable {U : Nat → Prop}

/-- what lies outside of the blocks F stays as it is -/
structure Turn (w w' : World) (F : Nat → Prop) : Prop where
  os : w'.os = w.os
  tape : w'.tape = w.tape
  output : w'.output = w.output
  size : w.heap.size ≤ w'.heap.size
  block : ∀ i, i < w.heap.size → ¬ F i → w'.heap[i]? = w.heap[i]?
/-- of the blocks that were there F' has no more than F -/
def Sub (w : World) (F F' : Nat → Prop) : Prop := ∀ i, i < w.heap.size → F' i → F i
section
variable {a b c w w' : World} {F G F' : Nat → Prop} {C : Nat}
theorem Turn.refl (w : World) (F : Nat → Prop) : Turn w w F := ⟨rfl, rfl, rfl, Nat.le_refl _, fun _ _ _ => rfl⟩
theorem Turn.trans (h : Turn a b F) (k : Turn b c G) (hG : Sub a F G) : Turn a c F :=
  ⟨k.os.trans h.os, k.tape.trans h.tape, k.output.trans h.output, Nat.le_trans h.size k.size, fun i hi hn =>
    (k.block i (Nat.lt_of_lt_of_le hi h.size) (fun g => hn (hG i hi g))).trans (h.block i hi hn)⟩
theorem Turn.of_below (h : Below w.heap.size w w') (F : Nat → Prop) : Turn w w' F := ⟨h.os, h.tape, h.output, h.size, fun i hi _ => h.block i hi⟩
theorem Turn.of_grown {row : Option Nat} (h : w.grownBy w' row) (hr : ∀ k, row = some k → F k) : Turn w w' F :=
  ⟨h.os, h.tape, h.output, h.size, fun i hi hn => h.block i hi (fun e => hn (hr i e.symm))⟩
theorem Turn.below (h : Turn w w' F) (hF : ∀ i, F i → C ≤ i) (hC : C ≤ w.heap.size) : Below C w w' :=
  ⟨h.os, h.tape, h.output, h.size, fun i hi => h.block i (by omega) (fun f => by have := hF i f; omega)⟩
theorem Turn.cell (h : Turn w w' F) {p : Addr} (hp : p.block < w.heap.size) (hn : ¬ F p.block) : w'.cell? p = w.cell? p := World.cell?_of_block (h.block _ hp hn)
theorem Sub.refl (w : World) (F : Nat → Prop) : Sub w F F := fun _ _ h => h
theorem Sub.trans (h : Sub a F G) (k : Sub b G F') (hs : a.heap.size ≤ b.heap.size) : Sub a F F' := fun i hi f => h i hi (k i (Nat.lt_of_lt_of_le hi hs) f)
theorem _root_.Go.Proofs.YteoodompphhkbaaGreatDoor.K.Blk.turn {g : Nat} {t : TypeId} {cs : Array Value} (h : Blk w g t cs) (k : Turn w w' F) (hn : ¬ F g) : Blk w' g t cs := (k.block g h.lt hn).trans h
end

/-- the slice value '.slice A n c' of elements of s cells holds the cells xs, in a block that is there and outside of F -/
def Rd (w : World) (F : Nat → Prop) (s : Nat) (A : Option Addr) (n : Nat) (xs : List Value) : Prop :=
  xs.length = n * s ∧ (0 < n → ∃ ad, A = some ad ∧ ad.block < w.heap.size ∧ ¬ F ad.block ∧ ∀ j u, xs[j]? = some u → w.cell? (ad.add j) = some u)
def no : Nat → Prop := fun _ => False
section
variable {w w' : World} {F F' : Nat → Prop} {s n k cap : Nat} {A : Option Addr} {xs : List Value}
theorem Rd.nil_ (w : World) (F : Nat → Prop) (s : Nat) (A : Option Addr) : Rd w F s A 0 [] := ⟨by simp, fun h => absurd h (by omega)⟩
theorem Rd.turn (h : Rd w F s A n xs) (hb : Turn w w' F) (hs : Sub w F F') : Rd w' F' s A n xs :=
  ⟨h.1, fun hn => by
    obtain ⟨ad, e, hlt, hf, hc⟩ := h.2 hn
    exact ⟨ad, e, Nat.lt_of_lt_of_le hlt hb.size, fun f => hf (hs _ hlt f), fun j u hu => (hb.cell (by rw [block_of_add]; exact hlt) (by rw [block_of_add]; exact hf)).trans (hc j u hu)⟩⟩
theorem Rd.below (h : Rd w F s A n xs) (hb : Below w.heap.size w w') : Rd w' F s A n xs := h.turn (Turn.of_below hb F) (Sub.refl w F)
theorem Rd.take (h : Rd w F s A n xs) (hk : k ≤ n) : Rd w F s A k (xs.take (k * s)) := by
  have hks : k * s ≤ n * s := Nat.mul_le_mul_right _ hk
  refine ⟨by rw [List.length_take, h.1]; omega, fun hn => ?_⟩
  obtain ⟨ad, e, hlt, hf, hc⟩ := h.2 (by omega)
  exact ⟨ad, e, hlt, hf, fun j u hu => hc j u (by rw [List.getElem?_take] at hu; split at hu <;> simp_all)⟩
theorem Rd.drop (h : Rd w F s A n xs) (hk : k ≤ n) (hc : n ≤ cap) : Rd w F s (if cap = k then A else A.map (·.add (k * s))) (n - k) (xs.drop (k * s)) := by
  refine ⟨by rw [List.length_drop, h.1, Nat.sub_mul], fun hn => ?_⟩
  obtain ⟨ad, rfl, hlt, hf, hcell⟩ := h.2 (by omega)
  rw [if_neg (by omega)]
  refine ⟨ad.add (k * s), rfl, by rw [block_of_add]; exact hlt, by rw [block_of_add]; exact hf, fun j u hu => ?_⟩
  rw [add_of_add]
  exact hcell _ u (by rw [← hu, List.getElem?_drop])
theorem Rd.of_own {base : Nat} {e : TypeId} {v : Value} {c : Nat} (h : w.ownsRow base e s v n xs) (hv : v = .slice A n c) (hF : ∀ k, v.ownBlock = some k → ¬ F k) : Rd w F s A n xs := by
  refine ⟨h.1, fun hn => ?_⟩
  rcases h.2 with ⟨_, h0⟩ | ⟨g, cap, cur, e1, hb, hh, hnc, hcm, hcs, ht⟩
  · omega
  · rw [hv] at e1
    injection e1 with e1 e2 e3
    subst e1; subst e3
    subst hv
    refine ⟨⟨g, 0, none⟩, rfl, (Array.getElem?_eq_some_iff.1 hh).1, hF g rfl, h.cells rfl⟩
end
theorem Rd.new (w : World) (F : Nat → Prop) (hF : ∀ i, F i → i < w.heap.size) (s n : Nat) (cs : Array Value) (t : TypeId) (hl : cs.size = n * s) : Rd (w.alloc (.cells cs t)) F s (some ⟨w.heap.size, 0, none⟩) n cs.toList :=
  ⟨by simpa using hl, fun _ => ⟨_, rfl, by simp, fun f => by have := hF _ f; simp at this, fun j u hu => by
    rw [Go.WideShapes.add_plain, Nat.zero_add, (Blk.new w t _).cell j]
    simpa using hu⟩⟩
theorem own_form {w : World} {base s n : Nat} {e : TypeId} {v : Value} {xs : List Value} (h : w.ownsRow base e s v n xs) :
    ∃ A cap, v = .slice A n cap ∧ n ≤ cap ∧ cap ≤ 9223372036854775807 := by
  rcases h.2 with ⟨rfl, rfl⟩ | ⟨b, cap, cur, rfl, hb, hh, hnc, hcm, _⟩
  · exact ⟨none, 0, rfl, Nat.le_refl _, by omega⟩
  · exact ⟨some ⟨b, 0, none⟩, cap, rfl, hnc, by unfold maxLen at hcm; omega⟩
theorem own_turn {w w' : World} {F : Nat → Prop} {base s n : Nat} {e : TypeId} {v : Value} {xs : List Value} (h : w.ownsRow base e s v n xs) (hb : Turn w w' F) (hF : ∀ k, v.ownBlock = some k → ¬ F k) : w'.ownsRow base e s v n xs := by
  refine ⟨h.1, ?_⟩
  rcases h.2 with hn | ⟨g, cap, cur, rfl, hbg, hh, rest⟩
  · exact .inl hn
  · exact .inr ⟨g, cap, cur, rfl, hbg, (hb.block g (Array.getElem?_eq_some_iff.1 hh).1 (hF g rfl)).trans hh, rest⟩
theorem own_below {w w' : World} {base s n : Nat} {e : TypeId} {v : Value} {xs : List Value} (h : w.ownsRow base e s v n xs) (hb : Below w.heap.size w w') : w'.ownsRow base e s v n xs :=
  own_turn h (Turn.of_below hb no) (fun _ _ f => f.elim)
theorem own_base {w : World} {base base' s n : Nat} {e : TypeId} {v : Value} {xs : List Value} (h : w.ownsRow base e s v n xs) (hb : base' ≤ base) : w.ownsRow base' e s v n xs := by
  refine ⟨h.1, ?_⟩
  rcases h.2 with hn | ⟨g, cap, cur, rfl, hbg, rest⟩
  · exact .inl hn
  · exact .inr ⟨g, cap, cur, rfl, by omega, rest⟩

end Go.Proofs.YteoodompphhkbaaGreatDoor.K.Dsk

/-
  WHAT IS PROVED: maps from names to files, as lists of files: look-up, store, delete, the names. No condition beyond the names' lengths.
-/
namespace Go.Proofs.YteoodompphhkbaaGreatDoor.K.Dsk
set_option maxRecDepth 100000
set_option maxRecDepth 100000
open Go.RowKit Go.Lib Go.Maps Go.Sort
variable {U : Nat → Prop}

abbrev Dm := DataW Value
theorem keyed : Keyed Tryz.prog 9 := string_keyed Tryz.underlying9
/-- what a name reads as, as a key -/
def kl (x : List UInt8) : Lit := .string x
theorem keyOf_name {x : List UInt8} (h : x.length ≤ 1000) : keyOf Tryz.prog 9 (.string (str x)) = some (kl x) := by
  have := Go.WideMaps.keyOf_string_mk Tryz.underlying9 (s := str x) (by rw [str_size]; unfold maxLen; omega)
  rw [this]; rfl
theorem kl_inj {x y : List UInt8} (h : kl x = kl y) : x = y := by unfold kl at h; injection h
theorem kl_key (x : List UInt8) : WideAt.IsKeyLit (kl x) := by simp [kl, WideAt.IsKeyLit]
/-- how a file reads: as it is -/
def fiElem (v : Value) : Option (Dm × List MemPlace) := some (.held v, [])
/-- a file's value -/
abbrev vF (A : Option Addr) (n c : Nat) (s : Bool) : Value := .agg #[.slice A n c, .bool s]
theorem zero_file (w : World) : (zeroValue 220).run Tryz.prog w = .ok (vF none 0 0 false) w := by kernel_rfl

/-- the value of the file f -/
def Vf (w : World) (F : Nat → Prop) (f : Fl) (v : Value) : Prop := ∃ A n c, v = .agg #[.slice A n c, .bool f.safe] ∧ f.b.length = n ∧ n ≤ c ∧ c ≤ 9223372036854775807 ∧ Rd w F 1 A n (bs f.b)
theorem Vf.turn {w w' : World} {F F' : Nat → Prop} {f : Fl} {v : Value} (h : Vf w F f v) (hb : Turn w w' F) (hs : Sub w F F') : Vf w' F' f v := by
  obtain ⟨A, n, c, e, hl, hc, hm, hr⟩ := h
  exact ⟨A, n, c, e, hl, hc, hm, hr.turn hb hs⟩
theorem Vf.zero (w : World) (F : Nat → Prop) (x : List UInt8) : Vf w F ⟨x, [], false⟩ (vF none 0 0 false) := ⟨none, 0, 0, rfl, rfl, Nat.le_refl _, by omega, Rd.nil_ w F 1 none⟩

/-! ### a datum and the list of its files -/
structure Agr (w : World) (F : Nat → Prop) (D : Dm) (l : List Fl) : Prop where
  at_ : ∀ f ∈ l, ∃ v, (∀ z, D.atKey (kl f.name) z = .held v) ∧ Vf w F f v
  has_ : ∀ x, Maps.has D (kl x) = hasF l x
  size : Maps.size D = l.length
section
variable {w w' : World} {F F' : Nat → Prop} {D : Dm} {l : List Fl}
theorem agr_nil : Agr w F (.map []) [] := ⟨fun r hr => (by cases hr), fun a => rfl, rfl⟩
theorem Agr.turn (h : Agr w F D l) (hb : Turn w w' F) (hs : Sub w F F') : Agr w' F' D l :=
  ⟨fun f hf => by obtain ⟨v, h1, h2⟩ := h.at_ f hf; exact ⟨v, h1, h2.turn hb hs⟩, h.has_, h.size⟩
theorem Agr.look (h : Agr w F D l) (x : List UInt8) : ∃ v, D.atKey (kl x) (.held (vF none 0 0 false)) = .held v ∧ Vf w F (getF l x) v := by
  cases hh : hasF l x
  · exact ⟨_, atKey_of_not_has (by rw [h.has_ x, hh]) _, by rw [getF_none hh]; exact Vf.zero w F x⟩
  · obtain ⟨v, h1, h2⟩ := h.at_ _ (getF_mem hh)
    rw [getF_name] at h1
    exact ⟨v, h1 _, h2⟩
theorem Agr.put (h : Agr w F D l) (hT : Tidy D) (hu : Good l) {q : Fl} {v : Value} (hv : Vf w F q v) : Agr w F (D.put (kl q.name) (.held v)) (putF l q) := by
  refine ⟨fun r hr => ?_, fun x => ?_, ?_⟩
  · rcases mem_putF.1 hr with rfl | ⟨h1, h2⟩
    · exact ⟨v, fun z => atKey_put_same hT.isMap (kl_key _) _ _, hv⟩
    · obtain ⟨v', e1, e2⟩ := h.at_ r h1
      exact ⟨v', fun z => by rw [atKey_put_other (fun e => h2 (kl_inj e))]; exact e1 z, e2⟩
  · rw [has_putF]
    by_cases e : x = q.name
    · subst e
      rw [has_put_same hT.isMap (kl_key _)]
      simp
    · rw [has_put_other (fun e' => e (kl_inj e')), h.has_ x]
      simp [e]
  · rw [size_put hT, h.has_, h.size, len_putF hu]
theorem Agr.del (h : Agr w F D l) (hT : Tidy D) (hu : Good l) (x : List UInt8) : Agr w F (D.del (kl x)) (delF l x) := by
  refine ⟨fun r hr => ?_, fun y => ?_, ?_⟩
  · obtain ⟨h1, h2⟩ := mem_delF.1 hr
    obtain ⟨v', e1, e2⟩ := h.at_ r h1
    exact ⟨v', fun z => by rw [atKey_del_other (fun e => h2 (kl_inj e))]; exact e1 z, e2⟩
  · rw [has_delF]
    by_cases e : y = x
    · subst e
      rw [has_del_same]
      simp
    · rw [has_del_other (fun e' => e (kl_inj e')), h.has_ y]
      simp [e]
  · have h1 := size_del (k := kl x) hT
    rw [h.has_ x, h.size] at h1
    have h2 := len_delF hu (x := x)
    omega
end

/-- a map of files in a block -/
def MapAt (w : World) (F : Nat → Prop) (b : Nat) (l : List Fl) : Prop := ∃ D : Dm, w.ownsMap Tryz.prog 9 fiElem b l.length D ∧ Agr w F D l
theorem own_tight {w : World} {b n : Nat} {D : Dm} {R : Value → Option (Dm × List MemPlace)} (h : w.ownsMap Tryz.prog 9 R b n D) : w.ownsMap Tryz.prog 9 R b (Maps.size D) D := by
  obtain ⟨es, clock, hb, F, hs, rfl⟩ := h
  exact ⟨es, clock, hb, F, by simp [Maps.size, length_sorted], rfl⟩
theorem map_new (w : World) (F : Nat → Prop) : MapAt (w.alloc (.map #[] 0)) F w.heap.size [] := ⟨.map [], World.ownsMap_made _ _ _ _, agr_nil⟩
section
variable {w w' : World} {b : Nat} {F F' : Nat → Prop} {l : List Fl}
theorem MapAt.lt (h : MapAt w F b l) : b < w.heap.size := by obtain ⟨D, h, _⟩ := h; exact h.lt
theorem own_turn_map {n : Nat} {D : Dm} {R : Value → Option (Dm × List MemPlace)} (h : w.ownsMap Tryz.prog 9 R b n D) (e : w'.heap[b]? = w.heap[b]?) : w'.ownsMap Tryz.prog 9 R b n D := by
  obtain ⟨es, clock, hb, r⟩ := h
  exact ⟨es, clock, e.trans hb, r⟩
/-- the block stays as it is, and so does what lies outside of F -/
theorem MapAt.kept (h : MapAt w F b l) (hb : Turn w w' F) (hs : Sub w F F') (e : w'.heap[b]? = w.heap[b]?) : MapAt w' F' b l := by
  obtain ⟨D, h1, h2⟩ := h
  exact ⟨D, own_turn_map h1 e, h2.turn hb hs⟩
theorem MapAt.look_ok (h : MapAt w F b l) {x : List UInt8} (hx : x.length ≤ 1000) :
    ∃ v, (Instr.lookup 62 (.map (some b)) (.string (str x)) true).run Tryz.prog w = .ok (.tuple #[v, .bool (hasF l x)]) w ∧ Vf w F (getF l x) v := by
  obtain ⟨D, h, r⟩ := h
  obtain ⟨v, ps, hrun, hv⟩ := h.look_ok keyed Tryz.underlying62 (zero_file _) (zp := []) rfl (keyOf_name hx)
  obtain ⟨v', e1, e2⟩ := r.look x
  rw [e1] at hv
  injection hv with hv
  injection hv with hv _
  injection hv with hv
  subst hv
  exact ⟨v, by rw [hrun, r.has_ x], e2⟩
theorem MapAt.look (h : MapAt w F b l) {x : List UInt8} (hx : x.length ≤ 1000) :
    ∃ v, (Instr.lookup 62 (.map (some b)) (.string (str x)) false).run Tryz.prog w = .ok v w ∧ Vf w F (getF l x) v := by
  obtain ⟨D, h, r⟩ := h
  obtain ⟨v, ps, hrun, hv⟩ := h.lookup keyed Tryz.underlying62 (zero_file _) (zp := []) rfl (keyOf_name hx)
  obtain ⟨v', e1, e2⟩ := r.look x
  rw [e1] at hv
  injection hv with hv
  injection hv with hv _
  injection hv with hv
  subst hv
  exact ⟨v, hrun, e2⟩
theorem MapAt.store (h : MapAt w F b l) (hF : F b) (hu : Good l) (hlen : l.length < 1000000) {q : Fl} {v : Value} (hq : q.name.length ≤ 1000) (hv : Vf w F q v) :
    ∃ w', (Instr.mapUpdate 62 (.map (some b)) (.string (str q.name)) v).run Tryz.prog w = .ok () w' ∧ MapAt w' F b (putF l q) ∧ w.grownBy w' (some b) := by
  obtain ⟨D, h, r⟩ := h
  obtain ⟨w', hrun, hown, hg⟩ := h.update keyed Tryz.underlying62 (by unfold maxLen; omega) (keyOf_name hq) (d := .held v) (ps := []) rfl
  have ht : Turn w w' F := Turn.of_grown hg (fun k e => by injection e with e; rw [← e]; exact hF)
  have hagr := (r.put (h.tidy keyed) hu hv).turn ht (Sub.refl w F)
  refine ⟨w', hrun, ⟨_, ?_, hagr⟩, hg⟩
  rw [← hagr.size]
  exact own_tight hown
theorem MapAt.del (h : MapAt w F b l) (hF : F b) (hu : Good l) {x : List UInt8} (hx : x.length ≤ 1000) (ty : TypeId) :
    ∃ w', (Builtin.delete_ #[62, 9] ty #[.map (some b), .string (str x)]).run Tryz.prog w = .ok (.tuple #[]) w' ∧ MapAt w' F b (delF l x) ∧ w.grownBy w' (some b) := by
  obtain ⟨D, h, r⟩ := h
  obtain ⟨w', hrun, hown, hg⟩ := h.drop keyed Tryz.underlying62 (keyOf_name hx) ty
  have ht : Turn w w' F := Turn.of_grown hg.grown (fun k e => by injection e with e; rw [← e]; exact hF)
  have hagr := (r.del (h.tidy keyed) hu x).turn ht (Sub.refl w F)
  refine ⟨w', hrun, ⟨_, ?_, hagr⟩, hg.grown⟩
  rw [← hagr.size]
  exact own_tight hown
end
/-- a map lies in no block that holds cells -/
theorem _root_.Go.Proofs.YteoodompphhkbaaGreatDoor.K.Blk.map_ne {w : World} {g b : Nat} {t : TypeId} {cs : Array Value} {F : Nat → Prop} {l : List Fl} (h : Blk w g t cs) (hs : MapAt w F b l) : g ≠ b := by
  intro e
  obtain ⟨D, ⟨es, clock, hh, _⟩, _⟩ := hs
  unfold Blk at h
  rw [e, hh] at h
  cases h
end Go.Proofs.YteoodompphhkbaaGreatDoor.K.Dsk

/-
  WHAT IS PROVED: words for a disk in memory. No condition.
-/
namespace Go.Proofs.YteoodompphhkbaaGreatDoor.K.Dsk
set_option maxRecDepth 100000
set_option maxRecDepth 100000
open Go.RowKit Go.Lib
variable {U : Nat → Prop}

/-- a disk's own two blocks -/
def FD (d g : Nat) : Nat → Prop := fun i => i = d ∨ i = g
abbrev dc (g : Nat) (S : Ds) : Array Value := #[.map (some g), .int .i64 S.room, .int .i64 S.left, .bool S.down]
/-- a disk's two blocks, and others that its files lie outside of -/
def FU (d g : Nat) (U : Nat → Prop) : Nat → Prop := fun i => FD d g i ∨ U i
theorem Turn.fu {w w' : World} {d g : Nat} (h : Turn w w' (FD d g)) : Turn w w' (FU d g U) := ⟨h.os, h.tape, h.output, h.size, fun i hi hn => h.block i hi fun f => hn (.inl f)⟩
/-- a disk behind a pointer, whose files lie outside of U -/
structure Dk (w : World) (d g : Nat) (U : Nat → Prop) (S : Ds) : Prop where
  blk : Blk w d 64 (dc g S)
  map : MapAt w (FU d g U) g S.fs
  ult : ∀ i, U i → i < w.heap.size
  ap : ¬ U d ∧ ¬ U g
  good : Good S.fs
  left : -9223372036854775808 ≤ S.left ∧ S.left ≤ 9223372036854775807
section
variable {w w' : World} {d g : Nat} {S : Ds}
theorem Dk.ne (h : Dk w d g U S) : d ≠ g := h.blk.map_ne h.map
theorem Dk.lt (h : Dk w d g U S) : d < w.heap.size ∧ g < w.heap.size := ⟨h.blk.lt, h.map.lt⟩
theorem Dk.turn (h : Dk w d g U S) (hb : Turn w w' (FD d g)) (e1 : w'.heap[d]? = w.heap[d]?) (e2 : w'.heap[g]? = w.heap[g]?) : Dk w' d g U S :=
  ⟨e1.trans h.blk, h.map.kept hb.fu (Sub.refl _ _) e2, fun i hi => Nat.lt_of_lt_of_le (h.ult i hi) hb.size, h.ap, h.good, h.left⟩
theorem Dk.below (h : Dk w d g U S) (hb : Below w.heap.size w w') : Dk w' d g U S :=
  h.turn (Turn.of_below hb _) (hb.block _ h.lt.1) (hb.block _ h.lt.2)
theorem Dk.drew (h : Dk w d g U S) : Dk w.drew d g U S := h.below (Below.refl _ w).drew
theorem turn_set {i : Nat} (w : World) (d g : Nat) (u : Value) : Turn w (w.setCell ⟨d, i, none⟩ u) (FD d g) :=
  ⟨rfl, rfl, rfl, by simp [World.setCell], fun j _ hn => Below.heap_setCell w _ u j (fun e => hn (.inl e))⟩
theorem Dk.set_ (h : Dk w d g U S) {i : Nat} {u : Value} {S' : Ds} (hf : S'.fs = S.fs) (hl : -9223372036854775808 ≤ S'.left ∧ S'.left ≤ 9223372036854775807) (hc : (dc g S).setIfInBounds i u = dc g S') : Dk (w.setCell ⟨d, i, none⟩ u) d g U S' := by
  refine ⟨?_, ?_, fun i hi => by simpa [World.setCell] using h.ult i hi, h.ap, by rw [hf]; exact h.good, hl⟩
  · rw [← hc]; exact h.blk.set_ i u
  · rw [hf]; exact h.map.kept (turn_set w d g u).fu (Sub.refl _ _) (Below.heap_setCell w _ u g (fun e => h.ne e.symm))
/-- the cells of a disk -/
theorem Dk.cells (h : Dk w d g U S) : w.cell? ⟨d, 0, none⟩ = some (.map (some g)) ∧ w.cell? ⟨d, 1, none⟩ = some (.int .i64 S.room) ∧ w.cell? ⟨d, 2, none⟩ = some (.int .i64 S.left) ∧ w.cell? ⟨d, 3, none⟩ = some (.bool S.down) :=
  ⟨h.blk.cell 0, h.blk.cell 1, h.blk.cell 2, h.blk.cell 3⟩
theorem Dk.map_ (h : Dk w d g U S) {l : List Fl} (hm : MapAt w' (FU d g U) g l) (hg : w.grownBy w' (some g)) (hl : Good l) : Dk w' d g U { S with fs := l } :=
  ⟨h.blk.grown hg (fun e => by injection e with e; exact h.ne e), hm, fun i hi => Nat.lt_of_lt_of_le (h.ult i hi) hg.size, h.ap, hl, h.left⟩
theorem turn_g (hg : w.grownBy w' (some g)) : Turn w w' (FD d g) := Turn.of_grown hg (fun k e => by injection e with e; exact .inr e.symm)
end
/-- what a call does to a disk -/
def Did (w : World) (d g : Nat) (U : Nat → Prop) (S' : Ds) (w' : World) : Prop := Dk w' d g U S' ∧ Turn w w' (FD d g)
theorem Did.refl {w : World} {d g : Nat} {S : Ds} (h : Dk w d g U S) : Did w d g U S w := ⟨h, Turn.refl _ _⟩
theorem Turn.fd {a b c : World} {d g : Nat} (h : Turn a b (FD d g)) (k : Turn b c (FD d g)) : Turn a c (FD d g) := h.trans k (Sub.refl _ _)
theorem Turn.low {a b : World} {d g C : Nat} (h : Turn a b (FD d g)) (hd : C ≤ d) (hg : C ≤ g) (hC : C ≤ a.heap.size) : Below C a b :=
  h.below (fun i hi => by rcases hi with rfl | rfl <;> assumption) hC

set_option maxRecDepth 100000 in
set_option maxHeartbeats 2000000 in
theorem new_ok (room : Int) (w : World) (h0 : 0 ≤ room) (h1 : room ≤ 65536) :
    Calls Tryz.prog 10 #[.int .i64 room] w fun e w' => ∃ d g, e = .returned (.pointer (some ⟨d, 0, none⟩)) ∧ Dk w' d g no ⟨[], room, -1, false⟩ ∧ w.heap.size ≤ d ∧ w.heap.size ≤ g ∧ Below w.heap.size w w' := by
  have b0 : ¬ room < 0 := by omega
  have b1 : ¬ 65536 < room := by omega
  have hmm := @run_makeMap Tryz.prog
  go_enter Tryz.func10, Tryz.ntmps10
  go_wp2
  go_ret
  refine ⟨w.heap.size + 1, by simp, w.heap.size, ⟨?_, ?_, fun _ f => f.elim, ⟨id, id⟩, good_nil, (by decide : (-9223372036854775808 : Int) ≤ -1 ∧ (-1 : Int) ≤ 9223372036854775807)⟩, Nat.le_succ _, Nat.le_refl _, ((Below.refl _ _).alloc (Nat.le_refl _) _).alloc (by simp) _⟩
  · have := Blk.new (w.alloc (.map #[] 0)) 64 (dc w.heap.size ⟨[], room, -1, false⟩)
    simpa using this
  · refine (map_new w (FU (w.heap.size + 1) w.heap.size no)).kept (Turn.of_below ((Below.refl _ _).alloc (Nat.le_refl _) _) _) (Sub.refl _ _) ?_
    exact Below.heap_alloc _ _ _ (by simp)
set_option maxRecDepth 100000 in
set_option maxHeartbeats 2000000 in
theorem spend_any (d g : Nat) (S : Ds) (w : World) (h : Dk w d g U S) :
    Calls Tryz.prog 165 #[.pointer (some ⟨d, 0, none⟩)] w fun e w' => e = .returned (.int .i64 (spendD S).1) ∧ Did w d g U (spendD S).2 w' := by
  obtain ⟨c0, c1, c2, c3⟩ := h.cells
  have fz2 := h.blk.frozen 2
  have fz3 := h.blk.frozen 3
  have HD := Lib.hid h
  have hl := h.left
  rcases spend_cases S with ⟨hc, hs⟩ | ⟨hc, hs⟩ | ⟨hc, hs⟩
  · rw [hs]
    rw [hc] at c2
    have HC := Lib.hid hc
    clear h hs hl hc
    go_enter Tryz.func165, Tryz.ntmps165
    go_wp2
    go_ret
    exact ⟨rfl, HD.out.set_ (S' := { S with down := true }) rfl HD.out.left (by simp), turn_set _ _ _ _⟩
  · rw [hs]
    obtain ⟨z, hz⟩ : ∃ z, S.left = z := ⟨_, rfl⟩
    rw [hz] at c2 hc hl ⊢
    have hne : (z == 0) = false := by simp; omega
    have hw : IntKind.i64.wrap (z - 1) = z - 1 := by rw [IntKind.wrap_i64]; omega
    have hn0 : ¬ z = 0 := by omega
    clear h hs hz
    go_enter Tryz.func165, Tryz.ntmps165
    go_wp2
    go_ret
    exact ⟨rfl, HD.out.set_ (S' := { S with left := z - 1 }) rfl ⟨by show _ ≤ z - 1; omega, by show z - 1 ≤ _; omega⟩ (by simp), turn_set _ _ _ _⟩
  · rw [hs]
    obtain ⟨z, hz⟩ : ∃ z, S.left = z := ⟨_, rfl⟩
    rw [hz] at c2 hc hl
    have hne : (z == 0) = false := by simp; omega
    have hn0 : ¬ z = 0 := by omega
    have hn1 : ¬ 0 < z := by omega
    clear h hs hz
    go_enter Tryz.func165, Tryz.ntmps165
    go_wp2
    go_ret
    exact ⟨rfl, Did.refl HD.out⟩
end Go.Proofs.YteoodompphhkbaaGreatDoor.K.Dsk

/-
  WHAT IS PROVED: contract of the function that tells whether a text may be a file's name. No condition beyond the text's length.
-/
namespace Go.Proofs.YteoodompphhkbaaGreatDoor.K.Dsk
set_option maxRecDepth 100000
set_option maxRecDepth 100000
open Go.RowKit Go.Lib
variable {U : Nat → Prop}

def low (c : UInt8) : Bool := decide (97 ≤ c.toNat) && decide (c.toNat ≤ 122)
theorem nameB_no {s : List UInt8} {pos : Nat} {c : UInt8} (h : s[pos]? = some c) (hc : low c = false) : nameB s = false := by
  unfold nameB
  cases hh : s.all (fun c => decide (97 ≤ c.toNat) && decide (c.toNat ≤ 122)) with
  | false => simp
  | true =>
    have := List.all_eq_true.1 hh c (List.mem_of_getElem? h)
    unfold low at hc
    rw [hc] at this; cases this
theorem nameB_yes {s : List UInt8} (h1 : 1 ≤ s.length) (h2 : s.length ≤ 16) (h : ∀ (i : Nat) (c : UInt8), s[i]? = some c → low c = true) : nameB s = true := by
  unfold nameB
  have : s.all (fun c => decide (97 ≤ c.toNat) && decide (c.toNat ≤ 122)) = true := List.all_eq_true.2 fun c hc => by
    obtain ⟨i, hi, e⟩ := List.mem_iff_getElem.1 hc
    exact h i c (by rw [List.getElem?_eq_getElem hi, e])
  rw [this]; simp [h1, h2]
theorem nameB_len {s : List UInt8} (h : s.length = 0 ∨ 16 < s.length) : nameB s = false := by
  unfold nameB
  rcases h with h | h
  · simp [h]
  · have : ¬ s.length ≤ 16 := by omega
    simp [this]

set_option maxRecDepth 100000 in
set_option maxHeartbeats 4000000 in
theorem name_any (s : List UInt8) (w : World) (hs : s.length ≤ 1000) :
    Calls Tryz.prog 163 #[.string (str s)] w (Says (nameB s) w) := by
  obtain ⟨n, hn⟩ : ∃ n, (str s).size = n := ⟨_, rfl⟩
  have hl : s.length = n := by rw [← hn, str_size]
  by_cases h0 : n = 0
  · rw [nameB_len (.inl (by omega))]
    have e0 : ((n : Int) == 0) = true := by rw [h0]; rfl
    clear hl
    subst h0
    go_enter Tryz.func163, Tryz.ntmps163
    go_wp2
    go_ret
    exact ⟨rfl, Below.refl _ _⟩
  have e0 : ((n : Int) == 0) = false := by rw [beq_eq_false_iff_ne]; omega
  have e0' : ¬ ((n : Int) = 0) := by omega
  by_cases h1 : (16 : Int) < (n : Int)
  · rw [nameB_len (.inr (by omega))]
    clear hl
    go_enter Tryz.func163, Tryz.ntmps163
    go_wp2
    go_ret
    exact ⟨rfl, Below.refl _ _⟩
  have HN := Lib.hid hn
  have HL := Lib.hid hl
  have hs0 := World.iter_heap w (str s) 0
  have HB0 : Below w.heap.size w (w.iter (str s) 0) := (Below.refl _ w).alloc (Nat.le_refl _) _
  clear hl
  go_enter Tryz.func163, Tryz.ntmps163
  go_wp2
  go_loopw [] (fun wr => ∃ pos : Nat, wr.heap[w.heap.size]? = some (.stringIter (str s) pos) ∧ Below w.heap.size w wr ∧ (∀ (i : Nat) (c : UInt8), i < pos → s[i]? = some c → low c = true) ∧ pos ≤ n) (fun wr => n - wr.iterPos w.heap.size)
  case atStart => exact ⟨0, hs0, HB0, fun i c h => absurd h (by omega), by omega⟩
  case round =>
    obtain ⟨pos, hit, hb, hlow, hpn⟩ := hrel
    have HB := Lib.hid hb
    have HIT := Lib.hid hit
    have HLOW := Lib.hid hlow
    clear hb hlow
    by_cases hp : pos < (str s).size
    · have hpl : pos < s.length := by have := HL.out; have := HN.out; omega
      obtain ⟨c, hc⟩ : ∃ c, s[pos]? = some c := ⟨_, List.getElem?_eq_getElem hpl⟩
      have hcs : (str s)[pos]'hp = c := by
        have := List.getElem?_eq_some_iff.1 hc
        obtain ⟨h, e⟩ := this
        rw [← e]; rfl
      have HC := Lib.hid hc
      by_cases ha : c.toNat < 128
      · have hnx := fun ty => run_next_ascii_at (P := Tryz.prog) wr w.heap.size (str s) pos ty hit hp (by rw [hcs]; exact ha)
        rw [hcs] at hnx
        obtain ⟨z, hz⟩ : ∃ z : Int, (c.toNat : Int) = z := ⟨_, rfl⟩
        have hit2 := iterAt_heap wr w.heap.size (str s) pos (pos + 1) hit
        have hb2 := below_iterAt HB.out (Nat.le_refl _) (str s) (pos + 1)
        obtain ⟨w2, hw2⟩ : ∃ x, wr.iterAt w.heap.size (str s) (pos + 1) = x := ⟨_, rfl⟩
        rw [hw2] at hnx hit2 hb2
        rw [hz] at hnx
        have HZ := Lib.hid hz
        have HB2 := Lib.hid hb2
        have HI2 := Lib.hid hit2
        clear hc hcs hz hit hw2 hb2 hit2 ha hp
        by_cases z0 : z < 97
        · have hno : nameB s = false := nameB_no HC.out (by have := HZ.out; unfold low; simp; omega)
          rw [hno]
          clear hno
          go_wp2
          go_ret
          exact ⟨rfl, HB2.out⟩
        · by_cases z1 : 122 < z
          · have hno : nameB s = false := nameB_no HC.out (by have := HZ.out; unfold low; simp; omega)
            rw [hno]
            clear hno
            go_wp2
            go_ret
            exact ⟨rfl, HB2.out⟩
          · go_wp2
            go_roundw
            case rel =>
              refine ⟨pos + 1, HI2.out, HB2.out, fun i c' hi hc' => ?_, by have := HL.out; omega⟩
              rcases Nat.lt_or_ge i pos with h | h
              · exact HLOW.out i c' h hc'
              · obtain rfl : i = pos := by omega
                rw [HC.out] at hc'
                injection hc' with hc'
                subst hc'
                have := HZ.out
                unfold low
                simp
                omega
            case measure =>
              simp only [World.iterPos, HIT.out, HI2.out]
              have := HL.out
              omega
      · have hnx := fun ty => run_next_any_at (P := Tryz.prog) wr w.heap.size (str s) pos ty hit hp
        have hd := (decode_high (str s) pos hp (by rw [hcs]; omega)).1
        have hb2 := below_iterAt HB.out (Nat.le_refl _) (str s) (pos + (Utf8.decode (str s) pos).2)
        obtain ⟨w2, hw2⟩ : ∃ x, wr.iterAt w.heap.size (str s) (pos + (Utf8.decode (str s) pos).2) = x := ⟨_, rfl⟩
        obtain ⟨z, hz⟩ : ∃ z : Int, ((Utf8.decode (str s) pos).1 : Int) = z := ⟨_, rfl⟩
        rw [hw2] at hnx hb2
        rw [hz] at hnx
        have z0 : ¬ z < 97 := by omega
        have z1 : 122 < z := by omega
        have hno : nameB s = false := nameB_no HC.out (by unfold low; simp; omega)
        rw [hno]
        have HB2 := Lib.hid hb2
        clear hc hcs hz hit hw2 hb2 ha hp hd hno
        go_wp2
        go_ret
        exact ⟨rfl, HB2.out⟩
    · have hnx := fun ty => run_next_end_at (P := Tryz.prog) wr w.heap.size (str s) pos ty hit hp
      have hyes : nameB s = true := nameB_yes (by have := HL.out; omega) (by have := HL.out; omega) (fun i c hc => HLOW.out i c (by
        have h1 := (List.getElem?_eq_some_iff.1 hc).1
        have := HL.out
        have := HN.out
        omega) hc)
      have HY := Lib.hid hyes
      clear hyes hit hp
      go_wp2
      go_ret
      exact ⟨by rw [HY.out]; rfl, HB.out⟩
end Go.Proofs.YteoodompphhkbaaGreatDoor.K.Dsk

/-
  WHAT IS PROVED: contracts of slices.Clone at bytes, and of the function that cuts bytes. Conditions: the bytes are there, at most a million.
-/
namespace Go.Proofs.YteoodompphhkbaaGreatDoor.K.Dsk
set_option maxRecDepth 100000
set_option maxRecDepth 100000
open Go.RowKit Go.Lib
variable {U : Nat → Prop}

theorem Rd.reads {w : World} {F : Nat → Prop} {n : Nat} {A : Option Addr} {xs : List Value} (h : Rd w F 1 A n xs) : Reads w w.heap.size A n xs := by
  refine ⟨by have := h.1; omega, fun hn => ?_⟩
  obtain ⟨ad, e, hlt, _, hc⟩ := h.2 hn
  exact ⟨ad, e, hlt, by omega, hc⟩
theorem bs_one (l : List UInt8) : ∀ u ∈ bs l, u.oneCell' = true := by
  intro u hu
  unfold bs at hu
  obtain ⟨c, _, rfl⟩ := List.mem_map.1 hu
  rfl
theorem bs_len (l : List UInt8) : (bs l).length = l.length := by unfold bs; simp
theorem u8_info : (Tryz.prog.info? 5).map (fun i => (i.zero, i.size, i.bytes)) = some (some (.int .u8 0), 1, 1) := by kernel_rfl
theorem info_parts {P : Program} {t : TypeId} {z : Option Value} {s b : Nat} (h : (P.info? t).map (fun i => (i.zero, i.size, i.bytes)) = some (z, s, b)) : ∃ i, P.info? t = some i ∧ i.zero = z ∧ i.size = s ∧ i.bytes = b := by
  cases hi : P.info? t with
  | none => rw [hi] at h; cases h
  | some i => rw [hi] at h; simp at h; exact ⟨i, rfl, h.1, h.2.1, h.2.2⟩
/-- what a clone is -/
def Clo (w : World) (b : List UInt8) (e : Ending) (w' : World) : Prop := ∃ A n c, e = .returned (.slice A n c) ∧ b.length = n ∧ n ≤ c ∧ c ≤ 9223372036854775807 ∧ w'.ownsRow w.heap.size 5 1 (.slice A n c) n (bs b) ∧ Below w.heap.size w w'
theorem Clo.rd {w w' : World} {b : List UInt8} {A : Option Addr} {n c : Nat} (h : w'.ownsRow w.heap.size 5 1 (.slice A n c) n (bs b)) {F : Nat → Prop} (hF : ∀ i, F i → i < w.heap.size) : Rd w' F 1 A n (bs b) :=
  Rd.of_own h rfl (fun k hk f => by have := (World.ownsRow.lt h k hk).1; have := hF k f; omega)
set_option maxRecDepth 100000 in
set_option maxHeartbeats 4000000 in
theorem clone_any (A : Option Addr) (n c : Nat) (b : List UInt8) (w : World) (F : Nat → Prop) (hr : Rd w F 1 A n (bs b)) (hn : n ≤ 1000000) :
    Calls Tryz.prog 156 #[.slice A n c] w (Clo w b) := by
  have hl : b.length = n := by have := hr.1; rw [bs_len] at this; omega
  obtain ⟨i0, hi0, hz0, hz1, hz2⟩ := info_parts u8_info
  cases A with
  | none =>
    obtain rfl : n = 0 := by
      rcases Nat.eq_zero_or_pos n with h | h
      · exact h
      · obtain ⟨ad, e, _⟩ := hr.2 h; cases e
    obtain rfl : b = [] := List.eq_nil_of_length_eq_zero hl
    have hq : ∀ w : World, (binOp BinOp.eql 41 (.slice none 0 c) (.slice none 0 0)).run Tryz.prog w = .ok (.bool true) w := fun _ => rfl
    clear hr hl
    go_enter Tryz.func156, Tryz.ntmps156
    go_wp2
    go_ret
    exact ⟨none, 0, 0, rfl, rfl, Nat.le_refl _, by omega, World.ownsRow_nil _ _ _ _, Below.refl _ _⟩
  | some ad =>
    have HR := Lib.hid hr
    have HL := Lib.hid hl
    have hq : ∀ w : World, (binOp BinOp.eql 41 (.slice (some ad) n c) (.slice none 0 0)).run Tryz.prog w = .ok (.bool false) w := fun _ => rfl
    clear hr hl
    go_enter Tryz.func156, Tryz.ntmps156
    have hown : (w.alloc (.cells #[] 5)).ownsRow w.heap.size 5 1 (.slice (some ⟨w.heap.size, 0, none⟩) 0 0) 0 [] := ⟨rfl, .inr ⟨w.heap.size, 0, #[], rfl, Nat.le_refl _, heap_alloc_new w _, Nat.le_refl _, by decide, rfl, rfl⟩⟩
    have hB1 : Below w.heap.size w (w.alloc (.cells #[] 5)) := (Below.refl _ _).alloc (Nat.le_refl _) _
    have hrd : Reads (w.alloc (.cells #[] 5)) w.heap.size (some ad) n (bs b) := HR.out.reads.below hB1
    have hn0 : 0 + n ≤ maxLen := by unfold maxLen; omega
    have hn1 : (0 + n) * 1 ≤ 140737488355328 := by omega
    have HOW := Lib.hid hown
    have HRD := Lib.hid hrd
    have HB1 := Lib.hid hB1
    clear hown hrd hB1
    go_wp2_with (at_builtin; refine wpList_append_cells _ rfl (.tmp 5) (.tmp 6) 41 rfl w.heap.size 5 i0 _ 1 Tryz.underlying41 hi0 hz0 hz1 hz2 rfl (.slice (some ⟨w.heap.size, 0, none⟩) 0 0) 0 [] rfl HOW.out w.heap.size (some ad) n c (bs b) rfl HRD.out (bs_one b) hn0 hn1 (by simp) ?_; intro v' w' ho hg _; obtain ⟨A', c', rfl, hc1, hc2⟩ := own_form ho)
    go_ret
    rw [Nat.zero_add, List.nil_append] at ho
    refine ⟨A', n, c', by simp, HL.out, by omega, hc2, ho, HB1.out.trans ?_⟩
    exact ⟨hg.os, hg.tape, hg.output, hg.size, fun i hi => hg.block i (by simp; omega) (fun e => by simp [Value.ownBlock] at e; omega)⟩
end Go.Proofs.YteoodompphhkbaaGreatDoor.K.Dsk

/-
  WHAT IS PROVED: contract of the function that counts the bytes of all files but one. Condition: the files' number and sizes.
-/
namespace Go.Proofs.YteoodompphhkbaaGreatDoor.K.Dsk
set_option maxRecDepth 100000
set_option maxRecDepth 100000
open Go.RowKit Go.Lib Go.Maps
variable {U : Nat → Prop}

abbrev Ra (w : World) (b r n : Nat) (D : Dm) (left : Lit → Bool) (cnt : Nat) : Prop := w.ranges Tryz.prog 9 fiElem b r n D left cnt
abbrev struck (left : Lit → Bool) (x : List UInt8) : Lit → Bool := fun z => left z && !z.sameKey (kl x)
/-- has the file come, and is it another one? -/
def dn (x : List UInt8) (left : Lit → Bool) (f : Fl) : Bool := !decide (f.name = x) && !left (kl f.name)
/-- the bytes of the files that have come, but for one -/
def doneS (l : List Fl) (x : List UInt8) (left : Lit → Bool) : Nat := sumF (l.filter (dn x left))
theorem sumF_cons (f : Fl) (l : List Fl) : sumF (f :: l) = f.b.length + sumF l := rfl
theorem sumF_le : ∀ {l : List Fl}, (∀ f ∈ l, f.b.length ≤ 100000) → sumF l ≤ l.length * 100000
  | [], _ => by simp [sumF]
  | f :: l, h => by
    have h1 := h f List.mem_cons_self
    have h2 := sumF_le (l := l) (fun g hg => h g (List.mem_cons_of_mem _ hg))
    rw [sumF_cons, List.length_cons]
    omega
theorem done_start {l : List Fl} {x : List UInt8} {left : Lit → Bool} (h : ∀ f ∈ l, left (kl f.name) = true) : doneS l x left = 0 := by
  unfold doneS
  rw [show l.filter (dn x left) = [] from List.filter_eq_nil_iff.2 fun f hf => by simp [dn, h f hf]]
  rfl
theorem done_end {l : List Fl} {x : List UInt8} {left : Lit → Bool} (h : ∀ z, left z = false) : doneS l x left = butF l x := by
  unfold doneS butF delF
  congr 1
  refine List.filter_congr fun f _ => ?_
  simp [dn, h]
theorem same_kl (x y : List UInt8) : (kl x).sameKey (kl y) = decide (x = y) := by
  by_cases h : x = y
  · subst h; rw [WideAt.sameKey_self (kl_key _)]; simp
  · rw [sameKey_ne (fun e => h (kl_inj e))]; simp [h]
theorem dn_other {x : List UInt8} {left : Lit → Bool} {f h : Fl} (hne : h.name ≠ f.name) : dn x (struck left f.name) h = dn x left h := by
  unfold dn struck; rw [same_kl]; simp [hne]
theorem dn_self {x : List UInt8} {left : Lit → Bool} {f : Fl} : dn x (struck left f.name) f = !decide (f.name = x) := by
  unfold dn struck; rw [same_kl]; simp
theorem done_step : ∀ {l : List Fl} {x : List UInt8} {left : Lit → Bool} {f : Fl}, Good l → f ∈ l → left (kl f.name) = true → doneS l x (struck left f.name) = doneS l x left + (if f.name = x then 0 else f.b.length) := by
  intro l x left f hu hf hl
  have hn := hu.nodup
  clear hu
  induction l with
  | nil => cases hf
  | cons g l ih =>
    rw [List.map_cons, List.nodup_cons] at hn
    rcases List.mem_cons.1 hf with rfl | hf'
    · have hsame : l.filter (dn x (struck left f.name)) = l.filter (dn x left) := by
        refine List.filter_congr fun h hh => ?_
        exact dn_other (fun e => hn.1 (List.mem_map.2 ⟨h, hh, e⟩))
      have h0 : dn x left f = false := by unfold dn; rw [hl]; simp
      unfold doneS
      rw [List.filter_cons, List.filter_cons, hsame, dn_self, h0]
      by_cases e : f.name = x
      · simp [e]
      · simp [e, sumF_cons]; omega
    · have hne : g.name ≠ f.name := fun e => hn.1 (List.mem_map.2 ⟨f, hf', e.symm⟩)
      have h := ih hf' hn.2
      unfold doneS at h ⊢
      rw [List.filter_cons, List.filter_cons, dn_other hne]
      cases dn x left g
      · simpa using h
      · simp only [if_true, sumF_cons, h]; omega
theorem done_le (l : List Fl) (x : List UInt8) (left : Lit → Bool) : doneS l x left ≤ sumF l := by
  unfold doneS
  induction l with
  | nil => exact Nat.le_refl _
  | cons f l ih =>
    rw [List.filter_cons, sumF_cons]
    cases dn x left f
    · simp; omega
    · simp [sumF_cons]; omega

theorem keyOf_inv {v : Value} {l : Lit} (h : keyOf Tryz.prog 9 v = some l) : ∃ x : List UInt8, x.length ≤ maxLen ∧ v = .string (str x) ∧ l = kl x := by
  obtain ⟨s, rfl, rfl, hs⟩ := Go.WideMaps.string_of_keyOf Tryz.underlying9 h
  exact ⟨s.data.toList, by rw [Array.length_toList]; exact hs, by rw [← str_data], rfl⟩
section
variable (w : World) {ops : Array Oper} {rest : List Oper} {o : Oper} {a : Act} {Q : Exit → Act → World → Prop}
/-- a step of the range: one of the files comes, or none is left -/
theorem wpList_next_files (hg : o.guard = none) (it : Operand) (hop : o.op = Op.next it false) (b r n : Nat) (D : Dm) (left : Lit → Bool) (cnt : Nat) (l : List Fl) (W : World) (F : Nat → Prop) (hag : Agr W F D l)
    (hit : a.eval it = .pointer (some ⟨r, 0, none⟩)) (h : Ra w b r n D left cnt)
    (hDone : (∀ kl, left kl = false) → wpList Tryz.prog ops Q rest (a.put o.dst (.tuple #[.bool false])) w)
    (hMore : ∀ (f : Fl) (A : Option Addr) (m c : Nat) (w' : World) (cnt' : Nat), f ∈ l → f.b.length = m → left (kl f.name) = true → Ra w' b r n D (struck left f.name) cnt' → cnt' < cnt → w.grownBy w' (some r) → w'.heap.size = w.heap.size →
      (Instr.entry (.pointer (some ⟨r, 0, none⟩))).run Tryz.prog w' = .ok (.tuple #[.string (str f.name), .agg #[.slice A m c, .bool f.safe]]) w' → wpList Tryz.prog ops Q rest (a.put o.dst (.tuple #[.bool true, .string (str f.name), .agg #[.slice A m c, .bool f.safe]])) w') :
    wpList Tryz.prog ops Q (o :: rest) a w := by
  refine wpList_next_ranges w hg it hop 9 keyed _ (fun x : List UInt8 => Value.string (str x)) (fun v : Value => v) (fun key kl hkey => ?_) (fun v y hv => ⟨v, rfl⟩) b r n D left cnt hit h (fun _ => hDone) ?_
  · obtain ⟨x, _, e, _⟩ := keyOf_inv hkey
    exact ⟨x, e⟩
  · intro x c k y w' cnt' hkey hlk hv hat hrg hlt hgr hsz hen
    obtain ⟨x', _, e, rfl⟩ := keyOf_inv hkey
    obtain rfl : x = x' := by
      injection e with e
      have := congrArg (fun s => s.data.toList) e
      simpa [str] using this
    have hh := has_true_of_atKey hat
    rw [hag.has_] at hh
    obtain ⟨f, hf, rfl⟩ := hasF_iff.1 hh
    obtain ⟨v, h1, A, m, c', rfl, hm, _⟩ := hag.at_ f hf
    have h2 := hat (.lit (.bool false))
    rw [h1] at h2
    unfold fiElem at hv
    injection hv with hv
    rw [← hv] at h2
    injection h2 with h2
    subst h2
    exact hMore f A m c' w' cnt' hf hm hlk hrg hlt hgr hsz hen
end

set_option maxRecDepth 100000 in
set_option maxHeartbeats 4000000 in
theorem but_any (d g : Nat) (S : Ds) (x : List UInt8) (w : World) (h : Dk w d g U S) (hl : S.fs.length ≤ 1000000) :
    Calls Tryz.prog 164 #[.pointer (some ⟨d, 0, none⟩), .string (str x)] w fun e w' => e = .returned (.int .i64 (butF S.fs x : Int)) ∧ Below w.heap.size w w' := by
  obtain ⟨c0, _, _, _⟩ := h.cells
  have HG := Lib.hid h.good
  obtain ⟨D, hown, hag⟩ := h.map
  have HAG := Lib.hid hag
  obtain ⟨l, hle⟩ : ∃ l, S.fs = l := ⟨_, rfl⟩
  have hlt := h.lt.2
  rw [hle] at HG HAG hl hown ⊢
  have HSM : Hid (sumF l ≤ 100000000000) := by
    show _ ≤ _
    have := sumF_le (fun f hf => (HG.out.small f hf).2)
    have h2 : l.length * 100000 ≤ 1000000 * 100000 := Nat.mul_le_mul_right _ hl
    omega
  clear hag h hle
  go_enter Tryz.func164, Tryz.ntmps164
  go_wp2_with (at_range; refine wpList_range_own _ rfl _ 62 rfl 9 220 keyed Tryz.underlying62 _ g _ D rfl hown ?_; intro w0 hrg0 hg0 hs0)
  go_frame
  have HRG0 := Lib.hid hrg0
  have HB0 : Hid (Below w.heap.size w w0) := Lib.hid (below_of_only (hg0.but (some w.heap.size)) (Nat.le_refl _) (Nat.le_refl _))
  clear hrg0 hg0 hs0 hown
  go_loopw [5] (fun va wr => ∃ (left : Lit → Bool) (cnt s : Nat), va = .int .i64 (s : Int) ∧ Ra wr g w.heap.size l.length D left cnt ∧ s = doneS l x left ∧ Below w.heap.size w wr) (fun _ wr => wr.rangeLeft g w.heap.size)
  case atStart => exact ⟨_, _, 0, rfl, HRG0.out, (done_start fun f hf => by rw [HAG.out.has_]; exact hasF_iff.2 ⟨f, hf, rfl⟩).symm, HB0.out⟩
  case round =>
    obtain ⟨left, cnt, s, rfl, hrg, hs, hb⟩ := hrel
    have HRG := Lib.hid hrg
    have HS := Lib.hid hs
    have HB := Lib.hid hb
    clear hrg hs hb
    go_wp2_with (at_next; refine wpList_next_files _ rfl _ rfl g w.heap.size l.length _ _ _ l w _ HAG.out rfl HRG.out ?_ ?_)
    · intro hl0
      have HE := Lib.hid (HS.out.trans (done_end hl0))
      clear hl0
      go_wp2
      go_ret
      exact ⟨by rw [HE.out]; rfl, HB.out⟩
    · intro f A m c w1 cnt1 hfl hm hlr hrg1 hlt hg1 hs1 hen
      have HM := Lib.hid hm
      have HST := Lib.hid (done_step (x := x) HG.out hfl hlr)
      have HLE := Lib.hid (done_le l x (struck left f.name))
      have HRG1 := Lib.hid (hrg1.alloc (.cells #[.slice A m c, .bool f.safe] 220))
      have HLT := Lib.hid hlt
      have HB1 := Lib.hid (((HB.out.grown hg1 HB.out.size (fun j e => by cases e; exact Nat.le_refl _)).alloc (by have := HB.out.size; omega) (.cells #[.slice A m c, .bool f.safe] 220)))
      clear hfl hlr hrg1 hlt hg1 hs1 hm
      by_cases e : f.name = x
      · go_wp2
        go_roundw
        case rel => exact ⟨_, cnt1, s, rfl, HRG1.out, by rw [HST.out, if_pos e, HS.out]; rfl, HB1.out⟩
        case measure => rw [HRG1.out.left_eq, HRG.out.left_eq]; exact HLT.out
      · have ht : ((str f.name).toList == (str x).toList) = false := by rw [str_toList, str_toList]; simpa using e
        have hw : IntKind.i64.wrap ((s : Int) + (m : Int)) = ((s + m : Nat) : Int) := by
          have h1 := HST.out
          rw [if_neg e, HM.out, ← HS.out] at h1
          have h2 := HLE.out
          have h3 := HSM.out
          rw [IntKind.wrap_i64]
          omega
        go_wp2
        go_roundw
        case rel => exact ⟨_, cnt1, s + m, by simp, HRG1.out, by rw [HST.out, if_neg e, HM.out, HS.out], HB1.out⟩
        case measure => rw [HRG1.out.left_eq, HRG.out.left_eq]; exact HLT.out
end Go.Proofs.YteoodompphhkbaaGreatDoor.K.Dsk

/- DB -/
/-
  WHAT IS PROVED: contract of Write. Conditions: the files' number, the name's length, the bytes are there.
-/
namespace Go.Proofs.YteoodompphhkbaaGreatDoor.K.Dsk
set_option maxRecDepth 100000
set_option maxRecDepth 100000
open Go.RowKit Go.Lib
variable {U : Nat → Prop}

theorem but_le {l : List Fl} (h : Good l) (hl : l.length ≤ 1000000) (x : List UInt8) : butF l x ≤ 100000000000 := by
  have h1 := done_le l x (fun _ => false)
  rw [done_end (fun _ => rfl)] at h1
  have h2 := sumF_le (fun f hf => (h.small f hf).2)
  have h3 : l.length * 100000 ≤ 1000000 * 100000 := Nat.mul_le_mul_right _ hl
  omega
theorem nameB_le {x : List UInt8} (h : nameB x = true) : x.length ≤ 16 := by
  unfold nameB at h
  simp at h
  exact h.1.2
set_option maxRecDepth 100000 in
set_option maxHeartbeats 4000000 in
theorem write_any (d g : Nat) (S : Ds) (x : List UInt8) (A : Option Addr) (n c : Nat) (b : List UInt8) (w : World) (h : Dk w d g U S) (hl : S.fs.length < 1000000) (hx : x.length ≤ 1000) (hr : Rd w (FD d g) 1 A n (bs b)) (hn : n ≤ 100000) :
    Calls Tryz.prog 89 #[.pointer (some ⟨d, 0, none⟩), .string (str x), .slice A n c] w fun e w' => e = .returned (.int .i64 (writeD S x b).1) ∧ Did w d g U (writeD S x b).2 w' := by
  have hbl : b.length = n := by have := hr.1; rw [bs_len] at this; omega
  unfold writeD
  obtain ⟨c0, c1, c2, c3⟩ := h.cells
  have HK := Lib.hid h
  cases hd : S.down with
  | true =>
    rw [if_pos rfl]
    rw [hd] at c3
    clear h hr hbl
    go_enter Tryz.func89, Tryz.ntmps89
    go_wp2
    go_ret
    exact ⟨rfl, Did.refl HK.out⟩
  | false =>
    rw [if_neg (by simp)]
    rw [hd] at c3
    have HR := Lib.hid hr
    have HBL := Lib.hid hbl
    cases hnm : nameB x with
    | false =>
      rw [if_pos rfl]
      have HNM := Lib.hid hnm
      clear h hr hbl hnm
      go_enter Tryz.func89, Tryz.ntmps89
      go_wp2_with (fail)
      refine (name_any x w hx).mono ?_
      rintro e w1 ⟨rfl, hb1⟩
      rw [HNM.out]
      go_wp2
      go_ret
      exact ⟨rfl, HK.out.below hb1, Turn.of_below hb1 _⟩
    | true =>
      rw [if_neg (by simp)]
      have HNM := Lib.hid hnm
      have hbt := but_le h.good (Nat.le_of_lt hl) x
      obtain ⟨q, hq⟩ : ∃ q, butF S.fs x = q := ⟨_, rfl⟩
      obtain ⟨t, ht⟩ : ∃ t : Int, t = (q : Int) + (n : Int) := ⟨_, rfl⟩
      have hw : IntKind.i64.wrap ((q : Int) + (n : Int)) = t := by rw [hq] at hbt; rw [IntKind.wrap_i64]; omega
      rw [hq, hbl, ← ht]
      have HQ := Lib.hid hq
      have HT := Lib.hid ht
      obtain ⟨room, hrm⟩ : ∃ r, S.room = r := ⟨_, rfl⟩
      have HRM := Lib.hid hrm
      have HDN := Lib.hid hd
      rw [hrm] at c1 ⊢
      by_cases hsp : room < t
      · rw [if_pos hsp]
        clear h hr hbl hnm hbt hq ht hrm
        go_enter Tryz.func89, Tryz.ntmps89
        go_wp2_with (fail)
        refine (name_any x w hx).mono ?_
        rintro e w1 ⟨rfl, hb1⟩
        rw [HNM.out]
        have c0' : w1.cell? ⟨d, 0, none⟩ = some (.map (some g)) := (hb1.cell (p := ⟨d, 0, none⟩) HK.out.lt.1).trans c0
        have c1' : w1.cell? ⟨d, 1, none⟩ = some (.int .i64 room) := (hb1.cell (p := ⟨d, 1, none⟩) HK.out.lt.1).trans c1
        have HK1 := Lib.hid (HK.out.below hb1)
        have HR1 := Lib.hid (HR.out.turn (Turn.of_below hb1 _) (Sub.refl _ _))
        have HB1 := Lib.hid hb1
        have hd1 := HK1.out.lt.1
        have c1d : w1.drew.cell? ⟨d, 1, none⟩ = some (.int .i64 room) := c1'
        clear hb1 c0 c1 c2 c3
        go_upto_region 5 with (fail)
        go_region_held3 (fun w' => w'.cell? ⟨d, 1, none⟩ = some (.int .i64 room)) (first | with_reducible exact c1d | with_reducible exact c1e | fail) (first | (go_at_call 164; refine (but_any d g S x w1.drew HK1.out.drew (Nat.le_of_lt hl)).mono ?_; rintro e w2 ⟨rfl, hb2⟩; rw [HQ.out]; have c1e : w2.cell? ⟨d, 1, none⟩ = some (.int .i64 room) := (hb2.cell (p := ⟨d, 1, none⟩) hd1).trans c1d; have HB2 := Lib.hid hb2) | fail)
        go_wp2
        go_ret
        exact ⟨rfl, HK1.out.drew.below HB2.out, (Turn.of_below HB1.out _).fd ((Turn.of_below (Below.refl _ w1).drew _).fd (Turn.of_below HB2.out _))⟩
      · rw [if_neg hsp]
        clear h hr hbl hnm hbt hq ht hrm
        go_enter Tryz.func89, Tryz.ntmps89
        go_wp2_with (fail)
        refine (name_any x w hx).mono ?_
        rintro e w1 ⟨rfl, hb1⟩
        rw [HNM.out]
        have c0' : w1.cell? ⟨d, 0, none⟩ = some (.map (some g)) := (hb1.cell (p := ⟨d, 0, none⟩) HK.out.lt.1).trans c0
        have c1' : w1.cell? ⟨d, 1, none⟩ = some (.int .i64 room) := (hb1.cell (p := ⟨d, 1, none⟩) HK.out.lt.1).trans c1
        have HK1 := Lib.hid (HK.out.below hb1)
        have HR1 := Lib.hid (HR.out.turn (Turn.of_below hb1 _) (Sub.refl _ _))
        have HB1 := Lib.hid hb1
        have hd1 := HK1.out.lt.1
        have c1d : w1.drew.cell? ⟨d, 1, none⟩ = some (.int .i64 room) := c1'
        clear hb1 c0 c1 c2 c3
        go_upto_region 5 with (fail)
        go_region_held3 (fun w' => w'.cell? ⟨d, 1, none⟩ = some (.int .i64 room)) (first | with_reducible exact c1d | with_reducible exact c1e | fail) (first | (go_at_call 164; refine (but_any d g S x w1.drew HK1.out.drew (Nat.le_of_lt hl)).mono ?_; rintro e w2 ⟨rfl, hb2⟩; rw [HQ.out]; have c1e : w2.cell? ⟨d, 1, none⟩ = some (.int .i64 room) := (hb2.cell (p := ⟨d, 1, none⟩) hd1).trans c1d; have HB2 := Lib.hid hb2) | fail)
        have hb12 : Below w1.heap.size w1 w2 := ((Below.refl _ w1).drew).trans HB2.out
        have HK2 := Lib.hid (HK1.out.below hb12)
        have HR2 := Lib.hid (HR1.out.turn (Turn.of_below hb12 _) (Sub.refl _ _))
        have HT2 : Hid (Turn w w2 (FD d g)) := Lib.hid ((Turn.of_below HB1.out _).fd (Turn.of_below hb12 _))
        have hlt2 := HK2.out.lt
        have m0 : w2.drew.cell? ⟨d, 0, none⟩ = some (.map (some g)) := HK2.out.cells.1
        have HX := Lib.hid (nameB_le HNM.out)
        clear hb2 hb12 c1e HB2 c0' c1' c1d HR1 HK1
        go_upto_region 7 with (fail)
        go_region_held3 (fun w' => w'.cell? ⟨d, 0, none⟩ = some (.map (some g))) (first | with_reducible exact m0 | with_reducible exact m1 | with_reducible exact m2 | fail) (first | (go_at_call 156; refine (clone_any A n c b w2.drew (FD d g) (HR2.out.turn (Turn.of_below (Below.refl _ w2).drew _) (Sub.refl _ _)) (by omega)).mono ?_; rintro e w3 ⟨A3, n3, c3, rfl, hl3, hc3, hm3, ho3, hb3⟩; have hk3 := HK2.out.drew.below hb3; have m1 : w3.cell? ⟨d, 0, none⟩ = some (.map (some g)) := hk3.cells.1; obtain ⟨w4, hrun, hmap4, hg4⟩ := hk3.map.store (.inl (.inr rfl)) hk3.good hl (q := ⟨x, b, false⟩) (v := .agg #[.slice A3 n3 c3, .bool false]) hx ⟨A3, n3, c3, rfl, hl3, hc3, hm3, Clo.rd ho3 (fun i hi => by rcases hi with (rfl | rfl) | hi; exact hlt2.1; exact hlt2.2; exact HK2.out.ult i hi)⟩; dsimp only at hrun; have hk4 := hk3.map_ hmap4 hg4 (hk3.good.put (by show x.length ≤ 1000; omega) (by show b.length ≤ 100000; have := HBL.out; omega)); have m2 : w4.cell? ⟨d, 0, none⟩ = some (.map (some g)) := hk4.cells.1; have HK4 := Lib.hid hk4; have HT4 : Hid (Turn w w4 (FD d g)) := Lib.hid (HT2.out.fd ((Turn.of_below (Below.refl _ w2).drew _).fd ((Turn.of_below hb3 _).fd (turn_g hg4)))); clear hk3 hk4 hmap4 hg4 hb3 ho3) | fail)
        go_wp2_with (fail)
        have HK5 : Hid (Dk w4 d g U ⟨putF S.fs ⟨x, b, false⟩, room, S.left, false⟩) := by
          have h := HK4.out
          rw [HRM.out, HDN.out] at h
          exact h
        refine (spend_any d g _ w4 HK5.out).mono ?_
        rintro e w5 ⟨rfl, hk5, ht5⟩
        go_wp2
        go_ret
        exact ⟨rfl, hk5, HT4.out.fd ht5⟩
end Go.Proofs.YteoodompphhkbaaGreatDoor.K.Dsk

/-
  WHAT IS PROVED: words for a file in a variable beside a disk. No condition.
-/
namespace Go.Proofs.YteoodompphhkbaaGreatDoor.K.Dsk
set_option maxRecDepth 100000
set_option maxRecDepth 100000
open Go.RowKit Go.Lib
variable {U : Nat → Prop}

/-- a file's cells -/
abbrev fc (A : Option Addr) (n c : Nat) (s : Bool) : Array Value := #[.slice A n c, .bool s]
section
variable {a w w' : World} {d g n : Nat} {S : Ds} {F : Nat → Prop}
theorem Turn.set_far (h : Turn a w F) {p : Addr} (hp : a.heap.size ≤ p.block) (u : Value) : Turn a (w.setCell p u) F :=
  ⟨h.os, h.tape, h.output, by simpa [World.setCell] using h.size, fun i hi hn => (Below.heap_setCell w p u i (by omega)).trans (h.block i hi hn)⟩
theorem Turn.alloc (h : Turn a w F) (o : Obj) : Turn a (w.alloc o) F :=
  ⟨h.os, h.tape, h.output, Nat.le_trans h.size (by simp), fun i hi hn => (Below.heap_alloc w o i (Nat.lt_of_lt_of_le hi h.size)).trans (h.block i hi hn)⟩
theorem Turn.drew (h : Turn a w F) : Turn a w.drew F := ⟨h.os, h.tape, h.output, h.size, h.block⟩
/-- bytes lie in no block of a file's cells -/
theorem Rd.far {A : Option Addr} {b : List UInt8} (h : Rd w F 1 A n (bs b)) {x : Nat} {t : TypeId} {A' : Option Addr} {n' c' : Nat} {s : Bool} (hx : Blk w x t (fc A' n' c' s)) (i : Nat) (u : Value) : Rd (w.setCell ⟨x, i, none⟩ u) F 1 A n (bs b) := by
  refine ⟨h.1, fun hn => ?_⟩
  obtain ⟨ad, e, hlt, hf, hc⟩ := h.2 hn
  have hne : x ≠ ad.block := by
    intro e
    have hb : 0 < b.length := by have := h.1; rw [bs_len] at this; omega
    have h0 := hc 0 _ (show (bs b)[0]? = some (.int .u8 ((b[0].toNat : Nat) : Int)) by unfold bs; rw [List.getElem?_map, List.getElem?_eq_getElem hb]; rfl)
    have h1 : ad.add 0 = ad := by unfold Addr.add; simp
    rw [h1] at h0
    obtain ⟨bk, off, m⟩ := ad
    dsimp only at e
    subst e
    unfold Blk at hx
    simp [World.cell?, hx] at h0
    obtain ⟨_, h0⟩ := h0
    match off with
    | 0 => simp at h0
    | 1 => simp at h0
    | k + 2 => simp at h0
  refine ⟨ad, e, by simpa [World.setCell] using hlt, hf, fun j u' hu => ?_⟩
  rw [World.cell?_setCell_far _ _ _ _ (by rw [block_of_add]; exact hne)]
  exact hc j u' hu
theorem Dk.box (h : Dk w d g U S) {x : Nat} {t : TypeId} {A' : Option Addr} {n' c' : Nat} {s : Bool} (hx : Blk w x t (fc A' n' c' s)) (hd : x ≠ d) (i : Nat) (u : Value) : Dk (w.setCell ⟨x, i, none⟩ u) d g U S := by
  have hg : x ≠ g := hx.map_ne h.map
  refine ⟨h.blk.far (fun e => hd e.symm) u, ?_, fun i hi => by simpa [World.setCell] using h.ult i hi, h.ap, h.good, h.left⟩
  obtain ⟨D, h1, h2⟩ := h.map
  refine ⟨D, own_turn_map h1 (Below.heap_setCell w _ u g (fun e => hg e.symm)), fun f hf => ?_, h2.has_, h2.size⟩
  obtain ⟨v, e1, A, n, c, e2, e3, e4, e5, e6⟩ := h2.at_ f hf
  exact ⟨v, e1, A, n, c, e2, e3, e4, e5, e6.far hx i u⟩
theorem fc_new (w : World) (A : Option Addr) (n c : Nat) (s : Bool) : Blk (w.alloc (.cells (fc A n c s) 220)) w.heap.size 220 (fc A n c s) := Blk.new w _ _
end
end Go.Proofs.YteoodompphhkbaaGreatDoor.K.Dsk

/-
  WHAT IS PROVED: contract of Read. Conditions: the name's length.
-/
namespace Go.Proofs.YteoodompphhkbaaGreatDoor.K.Dsk
set_option maxRecDepth 100000
set_option maxRecDepth 100000
open Go.RowKit Go.Lib
variable {U : Nat → Prop}

set_option maxRecDepth 100000 in
set_option maxHeartbeats 4000000 in
theorem read_any (d g : Nat) (S : Ds) (x : List UInt8) (w : World) (h : Dk w d g U S) (hx : x.length ≤ 1000) :
    Calls Tryz.prog 84 #[.pointer (some ⟨d, 0, none⟩), .string (str x)] w fun e w' => ∃ A n c, e = .returned (.tuple #[.slice A n c, .int .i64 (readE S x)]) ∧ (readB S x).length = n ∧ n ≤ c ∧ c ≤ 9223372036854775807 ∧ w'.ownsRow w.heap.size 5 1 (.slice A n c) n (bs (readB S x)) ∧ Below w.heap.size w w' := by
  obtain ⟨c0, c1, c2, c3⟩ := h.cells
  obtain ⟨v, hrun, A, n, c, rfl, hl, hc, hm, hr⟩ := h.map.look_ok hx
  have hlen : n ≤ 100000 := by
    cases hh : hasF S.fs x with
    | true => have := (h.good.small _ (getF_mem hh)).2; omega
    | false => rw [getF_none hh] at hl; have : n = 0 := hl.symm; omega
  have HK := Lib.hid h
  obtain ⟨s, hs⟩ : ∃ s, (getF S.fs x).safe = s := ⟨_, rfl⟩
  rw [hs] at hrun
  have HB1 : Hid (Below w.heap.size w (w.alloc (.cells #[.slice A n c, .bool s] 220))) := (Below.refl _ w).alloc (Nat.le_refl _) _
  have c3' : (w.alloc (.cells #[.slice A n c, .bool s] 220)).cell? ⟨d, 3, none⟩ = some (.bool S.down) := (HB1.out.cell (p := ⟨d, 3, none⟩) HK.out.lt.1).trans c3
  have b0 : (w.alloc (.cells #[.slice A n c, .bool s] 220)).cell? ⟨w.heap.size, 0, none⟩ = some (.slice A n c) := (fc_new w A n c s).cell 0
  have HR := Lib.hid hr
  have HL := Lib.hid hl
  unfold readB readE
  clear h hr hl hs c1 c2 c3
  cases hd : S.down with
  | true =>
    rw [if_pos rfl, if_neg (by omega)]
    rw [hd] at c3'
    go_enter Tryz.func84, Tryz.ntmps84
    go_wp2
    go_ret2
    exact ⟨none, 0, 0, by simp, rfl, Nat.le_refl _, by omega, World.ownsRow_nil _ _ _ _, HB1.out⟩
  | false =>
    rw [if_neg (by simp)]
    rw [hd] at c3'
    cases hh : hasF S.fs x with
    | false =>
      rw [if_pos rfl, if_neg (by omega)]
      rw [hh] at hrun
      clear hh
      go_enter Tryz.func84, Tryz.ntmps84
      go_wp2
      go_ret2
      exact ⟨none, 0, 0, by simp, rfl, Nat.le_refl _, by omega, World.ownsRow_nil _ _ _ _, HB1.out⟩
    | true =>
      rw [if_neg (by simp), if_pos rfl]
      rw [hh] at hrun
      clear hh
      go_enter Tryz.func84, Tryz.ntmps84
      go_wp2_with (fail)
      refine (clone_any A n c _ _ (FU d g U) (HR.out.turn (Turn.of_below HB1.out _) (Sub.refl _ _)) (by omega)).mono ?_
      rintro e w2 ⟨A2, n2, c2, rfl, hl2, hc2, hm2, ho2, hb2⟩
      have hB := HB1.out.trans (hb2.mono (by simp))
      go_wp2
      go_ret2
      exact ⟨A2, n2, c2, rfl, hl2, hc2, hm2, own_base ho2 (by simp), hB⟩
end Go.Proofs.YteoodompphhkbaaGreatDoor.K.Dsk

/-
  WHAT IS PROVED: contract of Sync. Conditions: the files' number, the name's length.
-/
namespace Go.Proofs.YteoodompphhkbaaGreatDoor.K.Dsk
set_option maxRecDepth 100000
set_option maxRecDepth 100000
open Go.RowKit Go.Lib
variable {U : Nat → Prop}

set_option maxRecDepth 100000 in
set_option maxHeartbeats 4000000 in
theorem sync_any (d g : Nat) (S : Ds) (x : List UInt8) (w : World) (h : Dk w d g U S) (hl : S.fs.length < 1000000) (hx : x.length ≤ 1000) :
    Calls Tryz.prog 91 #[.pointer (some ⟨d, 0, none⟩), .string (str x)] w fun e w' => e = .returned (.int .i64 (syncD S x).1) ∧ Did w d g U (syncD S x).2 w' := by
  obtain ⟨c0, c1, c2, c3⟩ := h.cells
  obtain ⟨v, hrun, A, n, c, rfl, hle, hc, hm, hr⟩ := h.map.look_ok hx
  have HK := Lib.hid h
  obtain ⟨s, hs⟩ : ∃ s, (getF S.fs x).safe = s := ⟨_, rfl⟩
  rw [hs] at hrun
  have hB1 : Below w.heap.size w (w.alloc (.cells #[.slice A n c, .bool s] 220)) := (Below.refl _ w).alloc (Nat.le_refl _) _
  have hbx := fc_new w A n c s
  obtain ⟨w1, hw1⟩ : ∃ x, w.alloc (.cells #[.slice A n c, .bool s] 220) = x := ⟨_, rfl⟩
  have hs1 : w1.heap.size = w.heap.size + 1 := by rw [← hw1]; simp
  have HW1 := Lib.hid hw1
  change Blk (w.alloc (.cells #[.slice A n c, .bool s] 220)) _ _ _ at hbx
  rw [hw1] at hB1 hbx
  have HB1 := Lib.hid hB1
  have HBX := Lib.hid hbx
  have HK1 := Lib.hid (h.below hB1)
  have HRW := Lib.hid hr
  have HLE := Lib.hid hle
  have hlt := h.lt
  have k3 := HK1.out.cells.2.2.2
  unfold syncD
  clear h hr hle hs hB1 hbx c1 c2 c3 hw1
  cases hd : S.down with
  | true =>
    rw [if_pos rfl]
    rw [hd] at k3
    go_enter Tryz.func91, Tryz.ntmps91
    go_upto_region 2 with (fail)
    rw [HW1.out]
    go_wp2
    go_ret
    exact ⟨rfl, HK1.out, Turn.of_below HB1.out _⟩
  | false =>
    rw [if_neg (by simp)]
    rw [hd] at k3
    cases hh : hasF S.fs x with
    | false =>
      rw [if_pos rfl]
      rw [hh] at hrun
      clear hh
      go_enter Tryz.func91, Tryz.ntmps91
      go_upto_region 2 with (fail)
      rw [HW1.out]
      go_wp2
      go_ret
      exact ⟨rfl, HK1.out, Turn.of_below HB1.out _⟩
    | true =>
      rw [if_neg (by simp)]
      rw [hh] at hrun
      have HH := Lib.hid hh
      have HD := Lib.hid hd
      have hsp := spend_fs S
      obtain ⟨r, S', hsd⟩ : ∃ r S', spendD S = (r, S') := ⟨_, _, rfl⟩
      rw [hsd] at hsp ⊢
      dsimp only at hsp ⊢
      have HSD := Lib.hid hsd
      have HSP := Lib.hid hsp.1
      clear hh hd hsp hsd
      by_cases hr0 : r = 0
      · rw [if_pos hr0]
        subst hr0
        go_enter Tryz.func91, Tryz.ntmps91
        go_upto_region 2 with (fail)
        rw [HW1.out]
        go_wp2_with (fail)
        refine (spend_any d g S w1 HK1.out).mono ?_
        rw [HSD.out]
        rintro e w2 ⟨rfl, hk2, ht2⟩
        dsimp only at hk2 ⊢
        have hbx2 : Blk w2 w.heap.size 220 (fc A n c s) := HBX.out.turn ht2 (fun f => by rcases f with f | f <;> omega)
        have b1 := hbx2.cell 1
        have f1 := hbx2.frozen 1
        have hk3 := hk2.box hbx2 (by omega) 1 (.bool true)
        have hbx3 : Blk (w2.setCell ⟨w.heap.size, 1, none⟩ (.bool true)) w.heap.size 220 (fc A n c true) := hbx2.set_ 1 (.bool true)
        have ht3 : Turn w (w2.setCell ⟨w.heap.size, 1, none⟩ (.bool true)) (FD d g) := ((Turn.of_below HB1.out _).fd ht2).set_far (Nat.le_refl _) _
        have HK3 := Lib.hid hk3
        have HBX3 := Lib.hid hbx3
        have HT3 := Lib.hid ht3
        clear hk2 ht2 hbx2 hk3 hbx3 ht3
        go_upto_region 9 with (fail)
        obtain ⟨w3, hw3⟩ : ∃ x, w2.setCell ⟨w.heap.size, 1, none⟩ (.bool true) = x := ⟨_, rfl⟩
        rw [hw3] at HK3 HBX3 HT3 ⊢
        have hk3d := HK3.out.drew
        have d0 : w3.drew.cell? ⟨d, 0, none⟩ = some (.map (some g)) := hk3d.cells.1
        have e0 : w3.drew.cell? ⟨w.heap.size, 0, none⟩ = some (.slice A n c) := HBX3.out.cell 0
        have e1 : w3.drew.cell? ⟨w.heap.size, 1, none⟩ = some (.bool true) := HBX3.out.cell 1
        obtain ⟨w4, hup, hmap4, hg4⟩ := hk3d.map.store (.inl (.inr rfl)) hk3d.good (by rw [HSP.out]; exact hl) (q := { getF S.fs x with safe := true }) (v := .agg #[.slice A n c, .bool true]) (by show (getF S.fs x).name.length ≤ 1000; rw [getF_name]; exact hx) ⟨A, n, c, rfl, HLE.out, hc, hm, HRW.out.turn HT3.out.drew.fu (Sub.refl _ _)⟩
        dsimp only at hup
        rw [getF_name] at hup
        have hsm := HK1.out.good.small _ (getF_mem HH.out)
        have hk4 := hk3d.map_ hmap4 hg4 (hk3d.good.put (f := { getF S.fs x with safe := true }) hsm.1 hsm.2)
        have d0' : w4.cell? ⟨d, 0, none⟩ = some (.map (some g)) := hk4.cells.1
        have hb4 : Blk w4 w.heap.size 220 (fc A n c true) := (HBX3.out.drew).grown hg4 (fun e => by injection e with e; omega)
        have e0' : w4.cell? ⟨w.heap.size, 0, none⟩ = some (.slice A n c) := hb4.cell 0
        have e1' : w4.cell? ⟨w.heap.size, 1, none⟩ = some (.bool true) := hb4.cell 1
        have HK4 := Lib.hid hk4
        have HT4 := Lib.hid (HT3.out.drew.fd (turn_g hg4))
        have S0 : w3.drew.cell? ⟨d, 0, none⟩ = some (.map (some g)) ∧ w3.drew.cell? ⟨w.heap.size, 0, none⟩ = some (.slice A n c) ∧ w3.drew.cell? ⟨w.heap.size, 1, none⟩ = some (.bool true) := ⟨d0, e0, e1⟩
        have S1 : w4.cell? ⟨d, 0, none⟩ = some (.map (some g)) ∧ w4.cell? ⟨w.heap.size, 0, none⟩ = some (.slice A n c) ∧ w4.cell? ⟨w.heap.size, 1, none⟩ = some (.bool true) := ⟨d0', e0', e1'⟩
        have HS0 := Lib.hid S0
        have HS1 := Lib.hid S1
        clear hk3d hmap4 hg4 hsm hk4 hb4 d0 e0 e1 d0' e0' e1' S0 S1 hw3
        go_region_held3 (fun w' => w'.cell? ⟨d, 0, none⟩ = some (.map (some g)) ∧ w'.cell? ⟨w.heap.size, 0, none⟩ = some (.slice A n c) ∧ w'.cell? ⟨w.heap.size, 1, none⟩ = some (.bool true)) (first | with_reducible exact HS0.out | with_reducible exact HS1.out | fail) (fail)
        go_wp2
        go_ret
        refine ⟨rfl, ?_, HT4.out⟩
        have := HK4.out
        rw [HSP.out] at this
        exact this
      · rw [if_neg hr0]
        have hb0 : (r == 0) = false := by simpa using hr0
        go_enter Tryz.func91, Tryz.ntmps91
        go_upto_region 2 with (fail)
        rw [HW1.out]
        go_wp2_with (fail)
        refine (spend_any d g S w1 HK1.out).mono ?_
        rw [HSD.out]
        rintro e w2 ⟨rfl, hk2, ht2⟩
        dsimp only at hk2 ⊢
        go_wp2
        go_ret
        exact ⟨rfl, hk2, (Turn.of_below HB1.out _).fd ht2⟩
end Go.Proofs.YteoodompphhkbaaGreatDoor.K.Dsk

/-
  WHAT IS PROVED: contract of Rename. Conditions: the files' number, the names' lengths.
-/
namespace Go.Proofs.YteoodompphhkbaaGreatDoor.K.Dsk
set_option maxRecDepth 100000
set_option maxRecDepth 100000
open Go.RowKit Go.Lib
variable {U : Nat → Prop}

set_option maxRecDepth 100000 in
set_option maxHeartbeats 4000000 in
theorem rename_any (d g : Nat) (S : Ds) (x y : List UInt8) (w : World) (h : Dk w d g U S) (hl : S.fs.length < 1000000) (hx : x.length ≤ 1000) (hy : y.length ≤ 1000) :
    Calls Tryz.prog 93 #[.pointer (some ⟨d, 0, none⟩), .string (str x), .string (str y)] w fun e w' => e = .returned (.int .i64 (renameD S x y).1) ∧ Did w d g U (renameD S x y).2 w' := by
  obtain ⟨c0, c1, c2, c3⟩ := h.cells
  obtain ⟨v, hrun, A, n, c, rfl, hle, hc, hm, hr⟩ := h.map.look_ok hx
  have HK := Lib.hid h
  obtain ⟨s, hs⟩ : ∃ s, (getF S.fs x).safe = s := ⟨_, rfl⟩
  rw [hs] at hrun
  have HSF := Lib.hid hs
  have hB1 : Below w.heap.size w (w.alloc (.cells #[.slice A n c, .bool s] 220)) := (Below.refl _ w).alloc (Nat.le_refl _) _
  have hbx := fc_new w A n c s
  obtain ⟨w1, hw1⟩ : ∃ x, w.alloc (.cells #[.slice A n c, .bool s] 220) = x := ⟨_, rfl⟩
  have hs1 : w1.heap.size = w.heap.size + 1 := by rw [← hw1]; simp
  have HW1 := Lib.hid hw1
  change Blk (w.alloc (.cells #[.slice A n c, .bool s] 220)) _ _ _ at hbx
  rw [hw1] at hB1 hbx
  have HB1 := Lib.hid hB1
  have HBX := Lib.hid hbx
  have HK1 := Lib.hid (h.below hB1)
  have HRW := Lib.hid hr
  have HLE := Lib.hid hle
  have hlt := h.lt
  have k3 := HK1.out.cells.2.2.2
  unfold renameD
  clear h hr hle hs hB1 hbx c1 c2 c3 hw1
  cases hd : S.down with
  | true =>
    rw [if_pos rfl]
    rw [hd] at k3
    go_enter Tryz.func93, Tryz.ntmps93
    go_upto_region 2 with (fail)
    rw [HW1.out]
    go_wp2
    go_ret
    exact ⟨rfl, HK1.out, Turn.of_below HB1.out _⟩
  | false =>
    rw [if_neg (by simp)]
    rw [hd] at k3
    cases hh : hasF S.fs x with
    | false =>
      rw [if_pos (.inl rfl)]
      rw [hh] at hrun
      clear hh
      go_enter Tryz.func93, Tryz.ntmps93
      go_upto_region 2 with (fail)
      rw [HW1.out]
      go_wp2
      go_ret
      exact ⟨rfl, HK1.out, Turn.of_below HB1.out _⟩
    | true =>
      rw [hh] at hrun
      have HH := Lib.hid hh
      cases hnm : nameB y with
      | false =>
        rw [if_pos (.inr rfl)]
        have HNM := Lib.hid hnm
        clear hh hnm
        go_enter Tryz.func93, Tryz.ntmps93
        go_upto_region 2 with (fail)
        rw [HW1.out]
        go_wp2_with (go_at_call 163; refine (name_any y w1 hy).mono ?_; rintro e w2 ⟨rfl, hb2⟩; rw [HNM.out])
        go_ret
        exact ⟨rfl, HK1.out.below hb2, (Turn.of_below HB1.out _).fd (Turn.of_below hb2 _)⟩
      | true =>
        rw [if_neg (by simp)]
        have HNM := Lib.hid hnm
        clear hnm
        have HD := Lib.hid hd
        have hsp := spend_fs S
        obtain ⟨r, S', hsd⟩ : ∃ r S', spendD S = (r, S') := ⟨_, _, rfl⟩
        rw [hsd] at hsp ⊢
        dsimp only at hsp ⊢
        have HSD := Lib.hid hsd
        have HSP := Lib.hid hsp.1
        clear hh hd hsp hsd
        by_cases hr0 : r = 0
        · rw [if_pos hr0]
          subst hr0
          go_enter Tryz.func93, Tryz.ntmps93
          go_upto_region 2 with (fail)
          rw [HW1.out]
          go_wp2_with (go_at_call 163; refine (name_any y w1 hy).mono ?_; rintro e w1' ⟨rfl, hb1'⟩; rw [HNM.out])
          have HK1' := Lib.hid (HK1.out.below hb1')
          have HBX' := Lib.hid (HBX.out.below hb1' HBX.out.lt)
          have HB1' := Lib.hid (HB1.out.trans (hb1'.mono HB1.out.size))
          have hs1' := hb1'.size
          refine (spend_any d g S w1' HK1'.out).mono ?_
          rw [HSD.out]
          rintro e w2 ⟨rfl, hk2, ht2⟩
          dsimp only at hk2 ⊢
          have hbx2 : Blk w2 w.heap.size 220 (fc A n c s) := HBX'.out.turn ht2 (fun f => by rcases f with f | f <;> omega)
          have m0 := hk2.cells.1
          have ht02 : Turn w w2 (FD d g) := (Turn.of_below HB1'.out _).fd ht2
          obtain ⟨w3, hdel, hmap3, hg3⟩ := hk2.map.del (.inl (.inr rfl)) hk2.good hx 0
          have hk3 := hk2.map_ hmap3 hg3 (hk2.good.del x)
          have hbx3 : Blk w3 w.heap.size 220 (fc A n c s) := hbx2.grown hg3 (fun e => by injection e with e; omega)
          have ht3 : Turn w w3 (FD d g) := ht02.fd (turn_g hg3)
          have HK3 := Lib.hid hk3
          have HBX3 := Lib.hid hbx3
          have HT3 := Lib.hid ht3
          clear hk2 ht2 hbx2 hk3 hbx3 ht3 ht02 hmap3 hg3
          go_upto_region 9 with (fail)
          have hk3d := HK3.out.drew
          have hsm := HK1.out.good.small _ (getF_mem HH.out)
          have hdl : (delF S'.fs x).length < 1000000 := by rw [HSP.out]; exact Nat.lt_of_le_of_lt (List.length_filter_le _ _) hl
          obtain ⟨w4, hup, hmap4, hg4⟩ := hk3d.map.store (.inl (.inr rfl)) hk3d.good hdl (q := { getF S.fs x with name := y }) (v := .agg #[.slice A n c, .bool s]) hy ⟨A, n, c, by rw [HSF.out], HLE.out, hc, hm, HRW.out.turn HT3.out.drew.fu (Sub.refl _ _)⟩
          dsimp only at hup
          have hk4 := hk3d.map_ hmap4 hg4 (hk3d.good.put (f := { getF S.fs x with name := y }) hy hsm.2)
          have hb4 : Blk w4 w.heap.size 220 (fc A n c s) := (HBX3.out.drew).grown hg4 (fun e => by injection e with e; omega)
          have HK4 := Lib.hid hk4
          have HT4 := Lib.hid (HT3.out.drew.fd (turn_g hg4))
          have S0 : w3.drew.cell? ⟨d, 0, none⟩ = some (.map (some g)) ∧ w3.drew.cell? ⟨w.heap.size, 0, none⟩ = some (.slice A n c) ∧ w3.drew.cell? ⟨w.heap.size, 1, none⟩ = some (.bool s) := ⟨hk3d.cells.1, HBX3.out.cell 0, HBX3.out.cell 1⟩
          have S1 : w4.cell? ⟨d, 0, none⟩ = some (.map (some g)) ∧ w4.cell? ⟨w.heap.size, 0, none⟩ = some (.slice A n c) ∧ w4.cell? ⟨w.heap.size, 1, none⟩ = some (.bool s) := ⟨hk4.cells.1, hb4.cell 0, hb4.cell 1⟩
          have HS0 := Lib.hid S0
          have HS1 := Lib.hid S1
          clear hk3d hmap4 hg4 hsm hk4 hb4 S0 S1 hdl
          go_region_held3 (fun w' => w'.cell? ⟨d, 0, none⟩ = some (.map (some g)) ∧ w'.cell? ⟨w.heap.size, 0, none⟩ = some (.slice A n c) ∧ w'.cell? ⟨w.heap.size, 1, none⟩ = some (.bool s)) (first | with_reducible exact HS0.out | with_reducible exact HS1.out | fail) (fail)
          go_wp2
          go_ret
          refine ⟨rfl, ?_, HT4.out⟩
          have := HK4.out
          rw [HSP.out] at this
          exact this
        · rw [if_neg hr0]
          have hb0 : (r == 0) = false := by simpa using hr0
          go_enter Tryz.func93, Tryz.ntmps93
          go_upto_region 2 with (fail)
          rw [HW1.out]
          go_wp2_with (go_at_call 163; refine (name_any y w1 hy).mono ?_; rintro e w1' ⟨rfl, hb1'⟩; rw [HNM.out])
          have HK1' := Lib.hid (HK1.out.below hb1')
          have HBX' := Lib.hid (HBX.out.below hb1' HBX.out.lt)
          have HB1' := Lib.hid (HB1.out.trans (hb1'.mono HB1.out.size))
          have hs1' := hb1'.size
          refine (spend_any d g S w1' HK1'.out).mono ?_
          rw [HSD.out]
          rintro e w2 ⟨rfl, hk2, ht2⟩
          dsimp only at hk2 ⊢
          go_wp2
          go_ret
          exact ⟨rfl, hk2, (Turn.of_below HB1'.out _).fd ht2⟩
end Go.Proofs.YteoodompphhkbaaGreatDoor.K.Dsk

