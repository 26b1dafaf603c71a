/-
  WHAT IS PROVED: layer 7's contracts: tables. Conditions: each states its own.
-/
import Derived.Test.YtmjbacmaafbdlaaGreatDoorBase
import Derived.Test.YtmjbacmaafbdlaaGreatDoorLaw
import Derived.Deep.MidRow
import Derived.Laws.StructEq
import Derived.Laws.ResultCell
import Derived.Laws.CopyOwn
import Derived.Deep.WholeRow
import Derived.Deep.QuietTactic
import Derived.Deep.Strs
import Derived.Lib.LaidTab
import Derived.OpenShut
import Derived.OpenVars
import Derived.BigQuiet
import Derived.IntWalk
import Derived.Laws.BitsAllLaws
import Derived.Laws.BitsLemmas
import Derived.Outline
import Derived.LoopTactic
import Derived.Maps.AppendAt
import Derived.OwnWalk

/-
  WHAT IS PROVED: how an argument of type []int reads: as a list of ints, each within int's bounds, in a block that was there. Condition: none.
-/
namespace Go.Proofs.YtmjbacmaafbdlaaGreatDoor.C
open Go.RowKit Go.ChangeShapes Go.WideShapes Go.ChangeAt Go.WideElems

theorem lt_of_cell {w : World} {a : Addr} {v : Value} (h : w.cell? a = some v) : a.block < w.heap.size := by
  unfold World.cell? at h
  rcases Nat.lt_or_ge a.block w.heap.size with h' | h'
  · exact h'
  · rw [Array.getElem?_eq_none h'] at h
    cases h
def zints (l : List Int) : List Value := l.map fun z => Value.int .i64 z
theorem zints_at {l : List Int} {k : Nat} {u : Value} (h : (zints l)[k]? = some u) : ∃ z, l[k]? = some z ∧ u = .int .i64 z := by
  unfold zints at h
  rw [List.getElem?_map] at h
  cases hz : l[k]? with
  | none => rw [hz] at h; cases h
  | some z => rw [hz] at h; simp at h; exact ⟨z, rfl, h.symm⟩
theorem wf_i64 {z : Int} (h : (Lit.int .i64 z).wf = true) : -9223372036854775808 ≤ z ∧ z ≤ 9223372036854775807 := by
  have e1 : IntKind.i64.min = -9223372036854775808 := by decide
  simp [Lit.wf] at h
  rw [e1] at h
  exact h

section
variable {H : Type} {enc : TypeId × Value → H} {P : Program}
/-- AN ARGUMENT OF TYPE []int -/
theorem open_zints {t e : TypeId} (ht : P.underlying t = some (.slice e)) (he : P.underlying e = some (.int .i64)) (hc : P.cellsOf e = 1) {W : World} {r : Reach} {b0 : Nat} {v : Value} {d : DataW H} {p : List MemPlace}
    (hval : Value.okWide P W r b0 t v) (h0 : DataW.Trod enc P W 0 (fun _ => true) true t v d p) :
    ∃ (A : Option Addr) (n cap : Nat) (l : List Int), v = .slice A n cap ∧ l.length = n ∧ n ≤ cap ∧ cap ≤ 9223372036854775807 ∧ (∀ g, W.heap.size ≤ g → Reads W g A n (zints l)) ∧ ∀ z ∈ l, -9223372036854775808 ≤ z ∧ z ≤ 9223372036854775807 := by
  obtain ⟨a0, len, cap, rfl⟩ := okWide_slice ht hval
  obtain ⟨fuel, hf⟩ := h0
  rcases open_ints ht he hc hf with ⟨hcs, _⟩ | ⟨a, len', cap', zs, hcs, _, hl, hm, hz, _, hcell, hwf⟩
  · simp [Value.cells] at hcs
    obtain ⟨rfl, rfl, rfl⟩ := hcs
    exact ⟨none, 0, 0, [], rfl, rfl, Nat.le_refl _, by omega, fun g _ => Reads.none_, fun z hz => by cases hz⟩
  · simp [Value.cells] at hcs
    obtain ⟨rfl, rfl, rfl⟩ := hcs
    simp only [if_true] at hz
    refine ⟨some a, len, cap, zs.take len, rfl, by simp; omega, hl, hm, fun g hg => ⟨by simp [zints]; omega, fun hn => ?_⟩, fun z hz => wf_i64 (hwf z (List.mem_of_mem_take hz))⟩
    have hlt : a.block < W.heap.size := by
      have := lt_of_cell (hcell 0 (by omega))
      rwa [block_of_add] at this
    refine ⟨a, rfl, hlt, by omega, fun j u hu => ?_⟩
    obtain ⟨c, hc, rfl⟩ := zints_at hu
    rw [List.getElem?_take] at hc
    by_cases hj : j < len
    · rw [if_pos hj] at hc
      rw [hcell j (by omega)]
      simp [List.getD, hc]
    · rw [if_neg hj] at hc; cases hc
end
theorem cells_int : Tryz.prog.cellsOf 3 = 1 := by kernel_rfl
end Go.Proofs.YtmjbacmaafbdlaaGreatDoor.C

/-
  WHAT IS PROVED: tables in memory (a variable of type Table, read and written as a whole and slot by slot), arguments of the types Table and Claim, '==' of two tables. No condition.
-/
namespace Go.Proofs.YtmjbacmaafbdlaaGreatDoor.C
set_option maxRecDepth 100000
open Go.RowKit Go.ChangeShapes Go.WideShapes Go.ChangeAt Go.WideElems

/-- who has each slot, and by which epoch -/
structure Tab where
  o : Nat → Int
  e : Nat → Int
def Tab.zero : Tab := ⟨fun _ => 0, fun _ => 0⟩
def row (f : Nat → Int) : List Value := (List.range 64).map fun i => Value.int .i64 (f i)
theorem row_len (f : Nat → Int) : (row f).length = 64 := by simp [row]
theorem row_at (f : Nat → Int) {i : Nat} (h : i < 64) : (row f)[i]? = some (.int .i64 (f i)) := by simp [row, h]
theorem row_congr {f g : Nat → Int} (h : ∀ i, i < 64 → f i = g i) : row f = row g := by
  unfold row
  refine List.map_congr_left fun i hi => ?_
  rw [h i (by simpa using hi)]
theorem row_mem {f : Nat → Int} {v : Value} (h : v ∈ row f) : ∃ z, v = .int .i64 z := by
  unfold row at h
  obtain ⟨i, _, rfl⟩ := List.mem_map.1 h
  exact ⟨_, rfl⟩
/-- a table's cells -/
def tb (t : Tab) : Array Value := (row t.o ++ row t.e).toArray
theorem tb_size (t : Tab) : (tb t).size = 128 := by simp [tb, row_len]
theorem tb_o (t : Tab) {i : Nat} (h : i < 64) : (tb t)[i]? = some (.int .i64 (t.o i)) := by
  simp only [tb, List.getElem?_toArray]
  rw [List.getElem?_append_left (by rw [row_len]; exact h), row_at _ h]
theorem tb_e (t : Tab) {i : Nat} (h : i < 64) : (tb t)[64 + i]? = some (.int .i64 (t.e i)) := by
  simp only [tb, List.getElem?_toArray]
  rw [List.getElem?_append_right (by rw [row_len]; omega), row_len, show 64 + i - 64 = i by omega, row_at _ h]
def same (t u : Tab) : Prop := ∀ i, i < 64 → t.o i = u.o i ∧ t.e i = u.e i
theorem tb_congr {t u : Tab} (h : same t u) : tb t = tb u := by
  unfold tb; rw [row_congr fun i hi => (h i hi).1, row_congr fun i hi => (h i hi).2]
theorem tb_inj {t u : Tab} (h : tb t = tb u) : same t u := fun i hi => by
  have h1 : (tb t)[i]? = (tb u)[i]? := by rw [h]
  have h2 : (tb t)[64 + i]? = (tb u)[64 + i]? := by rw [h]
  rw [tb_o t hi, tb_o u hi] at h1
  rw [tb_e t hi, tb_e u hi] at h2
  injection h1 with h1; injection h1 with _ h1
  injection h2 with h2; injection h2 with _ h2
  exact ⟨h1, h2⟩
theorem tb_cells (t : Tab) : (tb t).all (·.oneCell') = true := by
  rw [Array.all_eq_true_iff_forall_mem]
  intro x hx
  simp only [tb, List.mem_toArray, List.mem_append] at hx
  rcases hx with hx | hx <;> (obtain ⟨z, rfl⟩ := row_mem hx; rfl)
def setO (t : Tab) (k : Nat) (x : Int) : Tab := ⟨fun i => if i = k then x else t.o i, t.e⟩
def setE (t : Tab) (k : Nat) (x : Int) : Tab := ⟨t.o, fun i => if i = k then x else t.e i⟩
theorem tb_out (t : Tab) {i : Nat} (h : 128 ≤ i) : (tb t)[i]? = none := Array.getElem?_eq_none (by rw [tb_size]; exact h)
theorem tb_setO (t : Tab) {k : Nat} (hk : k < 64) (x : Int) : (tb t).setIfInBounds k (.int .i64 x) = tb (setO t k x) := by
  apply Array.ext_getElem?
  intro i
  rw [Array.getElem?_setIfInBounds, tb_size]
  by_cases h : k = i
  · subst h
    rw [if_pos rfl, if_pos (by omega), tb_o _ hk]; simp [setO]
  · rw [if_neg h]
    rcases Nat.lt_or_ge i 64 with h1 | h1
    · rw [tb_o _ h1, tb_o _ h1]; simp [setO, show ¬ i = k from fun e => h e.symm]
    · rcases Nat.lt_or_ge i 128 with h2 | h2
      · obtain ⟨j, rfl⟩ : ∃ j, i = 64 + j := ⟨i - 64, by omega⟩
        rw [tb_e _ (by omega), tb_e _ (by omega)]; rfl
      · rw [tb_out _ h2, tb_out _ h2]
theorem tb_setE (t : Tab) {k : Nat} (hk : k < 64) (x : Int) : (tb t).setIfInBounds (64 + k) (.int .i64 x) = tb (setE t k x) := by
  apply Array.ext_getElem?
  intro i
  rw [Array.getElem?_setIfInBounds, tb_size]
  by_cases h : 64 + k = i
  · subst h
    rw [if_pos rfl, if_pos (by omega), tb_e _ hk]; simp [setE]
  · rw [if_neg h]
    rcases Nat.lt_or_ge i 64 with h1 | h1
    · rw [tb_o _ h1, tb_o _ h1]; rfl
    · rcases Nat.lt_or_ge i 128 with h2 | h2
      · obtain ⟨j, rfl⟩ : ∃ j, i = 64 + j := ⟨i - 64, by omega⟩
        rw [tb_e _ (by omega), tb_e _ (by omega)]; simp [setE, show ¬ j = k by omega]
      · rw [tb_out _ h2, tb_out _ h2]

theorem tab_size (t : Tab) : (Tryz.prog.info? 28).map (·.size) = some (tb t).size := by rw [tb_size]; kernel_rfl
theorem arr_size (f : Nat → Int) : (Tryz.prog.info? 26).map (·.size) = some (row f).length := by rw [row_len]; kernel_rfl
theorem zero_cells : (Tryz.prog.info? 28).map (fun i => (i.zero, i.size)) = some (some (.agg (tb Tab.zero)), 128) := by kernel_rfl

/-- a variable of type Table -/
def TabAt (w : World) (b : Nat) (t : Tab) : Prop := Blk w b 28 (tb t)
section
variable {w w' : World} {b : Nat} {t : Tab}
theorem TabAt.new (w : World) (t : Tab) : TabAt (w.alloc (.cells (tb t) 28)) w.heap.size t := Blk.new _ _ _
theorem TabAt.lt (h : TabAt w b t) : b < w.heap.size := Blk.lt h
theorem TabAt.later (h : TabAt w b t) (hb : Below w.heap.size w w') : TabAt w' b t := Blk.below h hb h.lt
theorem TabAt.below {B : Nat} (h : TabAt w b t) (hb : Below B w w') (hlt : b < B) : TabAt w' b t := Blk.below h hb hlt
theorem TabAt.alloc (h : TabAt w b t) (o : Obj) : TabAt (w.alloc o) b t := Blk.alloc h o
theorem TabAt.drew (h : TabAt w b t) : TabAt w.drew b t := h
theorem TabAt.far (h : TabAt w b t) {p : Addr} (hp : b ≠ p.block) (u : Value) : TabAt (w.setCell p u) b t := Blk.far h hp u
theorem TabAt.fz (h : TabAt w b t) (i : Nat) : w.frozen? ⟨b, i, none⟩ = false := Blk.frozen h i
theorem TabAt.o (h : TabAt w b t) {i : Nat} (hi : i < 64) : w.cell? ⟨b, i, none⟩ = some (.int .i64 (t.o i)) := (Blk.cell h i).trans (tb_o t hi)
theorem TabAt.e (h : TabAt w b t) {i : Nat} (hi : i < 64) : w.cell? ⟨b, 64 + i, none⟩ = some (.int .i64 (t.e i)) := (Blk.cell h (64 + i)).trans (tb_e t hi)
theorem TabAt.setO (h : TabAt w b t) {k : Nat} (hk : k < 64) (x : Int) : TabAt (w.setCell ⟨b, k, none⟩ (.int .i64 x)) b (setO t k x) := by
  unfold TabAt; rw [← tb_setO t hk]; exact Blk.set_ h k _
theorem TabAt.setE (h : TabAt w b t) {k : Nat} (hk : k < 64) (x : Int) : TabAt (w.setCell ⟨b, 64 + k, none⟩ (.int .i64 x)) b (setE t k x) := by
  unfold TabAt; rw [← tb_setE t hk]; exact Blk.set_ h (64 + k) _
theorem TabAt.store (h : TabAt w b t) (u : Tab) : TabAt (w.setRow b (tb u)) b u := setRow_heap w b _ _ _ _ h
theorem TabAt.row_far (h : TabAt w b t) {g : Nat} (hg : b ≠ g) (cs : Array Value) : TabAt (w.setRow g cs) b t := (setRow_other w g b cs hg).trans h
theorem TabAt.like {u : Tab} (h : TabAt w b t) (hs : same t u) : TabAt w b u := by unfold TabAt; rw [← tb_congr hs]; exact h
end
theorem setRow_self {w : World} {b : Nat} {t : Tab} (h : TabAt w b t) : w.setRow b (tb t) = w := by
  unfold World.setRow
  cases w with
  | mk heap tape drawn os output =>
    congr 1
    apply Array.ext_getElem?
    intro i
    rw [Array.getElem?_modify]
    by_cases hi : b = i
    · subst hi
      have h' : heap[b]? = some (.cells (tb t) 28 (0, 0)) := h
      rw [if_pos rfl, h']; rfl
    · rw [if_neg hi]
theorem below_row {B : Nat} {w w' : World} (h : Below B w w') {g : Nat} (hg : B ≤ g) (cs : Array Value) : Below B w (w'.setRow g cs) := below_setRow h hg cs
theorem below_set {B : Nat} {w w' : World} (h : Below B w w') {p : Addr} (hp : B ≤ p.block) (u : Value) : Below B w (w'.setCell p u) :=
  ⟨h.os, h.tape, h.output, by simpa [World.setCell] using h.size, fun i hi => (Below.heap_setCell w' p u i (by omega)).trans (h.block i hi)⟩
theorem below_new {B : Nat} {w w1 : World} (h : Below B w w1) (hB : B ≤ w1.heap.size) (o : Obj) : Below B w (w1.alloc o) := h.alloc hB o

/-! ### the operations on a whole table -/
section
variable {ops : Array Oper} {rest : List Oper} {Q : Exit → Act → World → Prop} {a : Act} {w : World} {dst : Option Tmp} {ty : TypeId} {pos : String} {after : Array Edge} {g : Option (Nat × Bool)} {x y : Operand} {b : Nat} {t u : Tab}
theorem at_want {o : Oper} (hw : Region.wanted o (yielded ops a.tmps) = true) (h : ∀ K : Act → World → Prop, (∀ a w, wpList Tryz.prog ops Q rest a w → K a w) → o.wp Tryz.prog a w K Q) : wpList Tryz.prog ops Q (o :: rest) a w :=
  wpList_step fun K hK => by rw [if_pos hw]; exact h K hK
theorem at_load (hx : a.eval x = .pointer (some ⟨b, 0, none⟩)) (hT : TabAt w b t) (hw : Region.wanted ⟨dst, .load 28 x, ty, pos, after, g⟩ (yielded ops a.tmps) = true)
    (h : wpList Tryz.prog ops Q rest (a.put dst (.agg (tb t))) w) : wpList Tryz.prog ops Q (⟨dst, .load 28 x, ty, pos, after, g⟩ :: rest) a w :=
  at_want hw fun _ hK => wp_load_row 28 x rfl b hx _ (tb t) (0, 0) _ hT Tryz.underlying28 rfl (tab_size t) (hK _ _ h)
theorem at_store (hx : a.eval x = .pointer (some ⟨b, 0, none⟩)) (hy : a.eval y = .agg (tb u)) (hT : TabAt w b t) (hw : Region.wanted ⟨dst, .store 28 x y, ty, pos, after, g⟩ (yielded ops a.tmps) = true)
    (h : wpList Tryz.prog ops Q rest (a.put dst undef) (w.setRow b (tb u))) : wpList Tryz.prog ops Q (⟨dst, .store 28 x y, ty, pos, after, g⟩ :: rest) a w :=
  at_want hw fun _ hK => wp_store_row 28 x y rfl b (tb u) hx hy _ (tb t) hT (tab_size u) (by rw [tb_size, tb_size]) (tb_cells u) (hK _ _ h)
theorem wp_alloc_tab {o : Oper} {K : Act → World → Prop} (ho : o.op = .alloc 28) (h : K (a.put o.dst (.pointer (some ⟨w.heap.size, 0, none⟩))) (w.alloc (.cells (tb Tab.zero) 28))) : o.wp Tryz.prog a w K Q := by
  have hz := (zero_of_info zero_cells).1
  unfold Oper.wp execOp
  simp only [ho, Instr.alloc, newVar, newRow, Sem.run_bind, hz, Result.andThen_ok]
  exact h
theorem at_alloc (hw : Region.wanted ⟨dst, .alloc 28, ty, pos, after, g⟩ (yielded ops a.tmps) = true)
    (h : wpList Tryz.prog ops Q rest (a.put dst (.pointer (some ⟨w.heap.size, 0, none⟩))) (w.alloc (.cells (tb Tab.zero) 28))) : wpList Tryz.prog ops Q (⟨dst, .alloc 28, ty, pos, after, g⟩ :: rest) a w :=
  at_want hw fun _ hK => wp_alloc_tab rfl (hK _ _ h)
/-- a new variable's first value -/
theorem at_store_new (hx : a.eval x = .pointer (some ⟨w.heap.size, 0, none⟩)) (hy : a.eval y = .agg (tb u)) (hw : Region.wanted ⟨dst, .store 28 x y, ty, pos, after, g⟩ (yielded ops a.tmps) = true)
    (h : wpList Tryz.prog ops Q rest (a.put dst undef) (w.alloc (.cells (tb u) 28))) : wpList Tryz.prog ops Q (⟨dst, .store 28 x y, ty, pos, after, g⟩ :: rest) a (w.alloc (.cells (tb t) 28)) :=
  at_store hx hy (TabAt.new w t) hw (by rw [World.setRow_alloc_new]; exact h)
theorem built_zero : Tryz.prog.built 28 [] = some (tb Tab.zero) := by kernel_rfl
theorem at_build (hw : Region.wanted ⟨dst, .build 28 #[], ty, pos, after, g⟩ (yielded ops a.tmps) = true)
    (h : wpList Tryz.prog ops Q rest (a.put dst (.agg (tb Tab.zero))) w) : wpList Tryz.prog ops Q (⟨dst, .build 28 #[], ty, pos, after, g⟩ :: rest) a w :=
  at_want hw fun _ hK => by
    have hk := hK _ _ h
    refine wp_build 28 #[] rfl ?_ ?_
    · simp [built_zero]
    · simpa [built_zero] using hk
theorem row_range {f : Nat → Int} {off : Nat} (h : ∀ i, i < 64 → w.cell? ⟨b, off + i, none⟩ = some (.int .i64 (f i))) : w.rangeAt b off (row f) := fun j v hv => by
  have hj : j < 64 := by
    have := (List.getElem?_eq_some_iff.1 hv).1
    rwa [row_len] at this
  rw [row_at f hj] at hv
  injection hv with hv
  rw [h j hj, hv]
theorem at_owners (hx : a.eval x = .pointer (some ⟨b, 0, none⟩)) (hT : TabAt w b t) (hw : Region.wanted ⟨dst, .load 26 x, ty, pos, after, g⟩ (yielded ops a.tmps) = true)
    (h : wpList Tryz.prog ops Q rest (a.put dst (.agg (row t.o).toArray)) w) : wpList Tryz.prog ops Q (⟨dst, .load 26 x, ty, pos, after, g⟩ :: rest) a w :=
  at_want hw fun _ hK => wp_load_mid 26 x rfl b 0 hx (row t.o) _ (row_range fun _ hi => by rw [Nat.zero_add]; exact hT.o hi) Tryz.underlying26 rfl (arr_size _) (hK _ _ h)
theorem at_epochs (hx : a.eval x = .pointer (some ⟨b, 64, none⟩)) (hT : TabAt w b t) (hw : Region.wanted ⟨dst, .load 26 x, ty, pos, after, g⟩ (yielded ops a.tmps) = true)
    (h : wpList Tryz.prog ops Q rest (a.put dst (.agg (row t.e).toArray)) w) : wpList Tryz.prog ops Q (⟨dst, .load 26 x, ty, pos, after, g⟩ :: rest) a w :=
  at_want hw fun _ hK => wp_load_mid 26 x rfl b 64 hx (row t.e) _ (row_range fun _ hi => hT.e hi) Tryz.underlying26 rfl (arr_size _) (hK _ _ h)
end
/-- one element of an array's value -/
theorem index_row (f : Nat → Int) {k : Nat} (hk : k < 64) (w : World) : (Instr.index 26 (.agg (row f).toArray) (.int .i64 (k : Int))).run Tryz.prog w = .ok (.int .i64 (f k)) w := by
  have h1 : (0 : Int) ≤ k := by omega
  simp [Instr.index, asIntOf, run_underlying Tryz.underlying26, h1, hk, part, Tryz.isAgg3, Tryz.sizeOf3, row_at f hk]

/-- a table and two more are handed back -/
theorem results_tab3 {fn : Func} {p u v : Tmp} (h : fn.results = #[.cell p 28, .tmp u, .tmp v]) (tmps : Array Value) (w : World) (b : Nat) (t : Tab)
    (hp : tmps.getD p undef = .pointer (some ⟨b, 0, none⟩)) (hT : TabAt w b t) : (results fn tmps).run Tryz.prog w = .ok (.tuple #[.agg (tb t), tmps.getD u undef, tmps.getD v undef]) w := by
  have hp' : tmps[p]?.getD undef = .pointer (some ⟨b, 0, none⟩) := by simpa using hp
  simp [results, h, hp', asAddr, run_loadVar_row w b 28 28 (tb t) (0, 0) _ hT Tryz.underlying28 rfl (tab_size t), Result.andThen]
theorem results_tab {fn : Func} {p : Tmp} (h : fn.results = #[.cell p 28]) (tmps : Array Value) (w : World) (b : Nat) (t : Tab)
    (hp : tmps.getD p undef = .pointer (some ⟨b, 0, none⟩)) (hT : TabAt w b t) : (results fn tmps).run Tryz.prog w = .ok (.agg (tb t)) w :=
  results_cell_row h _ _ b _ (tb t) (0, 0) _ hp hT Tryz.underlying28 rfl (tab_size t)
end Go.Proofs.YtmjbacmaafbdlaaGreatDoor.C

/-
  WHAT IS PROVED: arguments of the types Table, Claim and []Claim; a variable of type Claim. No condition.
-/
namespace Go.Proofs.YtmjbacmaafbdlaaGreatDoor.C
set_option maxRecDepth 100000
open Go.RowKit Go.ChangeShapes Go.WideShapes Go.ChangeAt Go.WideElems

theorem cells_tab : Tryz.prog.cellsOf 28 = 128 := by kernel_rfl
theorem cells_arr : Tryz.prog.cellsOf 26 = 64 := by kernel_rfl
theorem cells_set : Tryz.prog.cellsOf 57 = 1 := by kernel_rfl
theorem wf_u64 {z : Int} (h : (Lit.int .u64 z).wf = true) : 0 ≤ z ∧ z ≤ 18446744073709551615 := by
  have e1 : IntKind.u64.min = 0 := by decide
  have e2 : IntKind.u64.max = 18446744073709551615 := by decide
  simp [Lit.wf] at h
  rw [e1, e2] at h
  exact h

section
variable {H : Type} {enc : TypeId × Value → H}
/-- an array of ints -/
theorem open_arr {W : World} {sp : Nat → Bool} {hd : Bool} {fuel : Nat} {cs : List Value} {x : DataW H × List MemPlace} (h : DataW.trod enc Tryz.prog W 0 sp hd fuel 26 cs = some x) : ∃ f, cs = row f := by
  obtain ⟨xs, m, _, _, hl, hn, hx⟩ := DataW.trod_array Tryz.underlying26 h
  rw [cells_arr] at hl
  have each : ∀ i, i < 64 → ∃ z : Int, cs[i]? = some (.int .i64 z) := fun i hi => by
    have hi' := hx i hi
    rw [cells_int, Nat.mul_one, List.getElem?_eq_getElem (by omega)] at hi'
    have e : (cs.drop i).take 1 = [cs[i]'(by omega)] := by
      rw [List.drop_eq_getElem_cons (by omega)]; rfl
    rw [e] at hi'
    obtain ⟨z, e0, _, _⟩ := DataW.trod_int Tryz.underlying3 hi'
    injection e0 with e0
    exact ⟨z, by rw [List.getElem?_eq_getElem (by omega), e0]⟩
  obtain ⟨f, hf⟩ := Go.Deep.choose_lt each
  refine ⟨f, List.ext_getElem? fun i => ?_⟩
  by_cases hi : i < 64
  · rw [hf i hi, row_at f hi]
  · rw [List.getElem?_eq_none (by omega), List.getElem?_eq_none (by rw [row_len]; omega)]

/-- AN ARGUMENT OF TYPE Table -/
theorem open_tab {W : World} {r : Reach} {b0 : Nat} {v : Value} {d : DataW H} {p : List MemPlace}
    (hval : Value.okWide Tryz.prog W r b0 28 v) (h0 : DataW.Trod enc Tryz.prog W 0 (fun _ => true) true 28 v d p) :
    ∃ t : Tab, v = .agg (tb t) := by
  obtain ⟨cs, rfl, _⟩ := okWide_struct Tryz.underlying28 hval
  obtain ⟨fuel, hf⟩ := h0
  obtain ⟨y0, y1, m, _, hl, h0, h1⟩ := Go.ChangeShapes.trod_struct2 Tryz.underlying28 hf
  rw [cells_tab] at hl
  simp only [cells_arr] at h0 h1
  obtain ⟨f, ef⟩ := open_arr h0
  obtain ⟨g, eg⟩ := open_arr h1
  refine ⟨⟨f, g⟩, ?_⟩
  have e : (Value.agg cs).cells.toList = row f ++ row g := by
    rw [← ef, ← eg, List.drop_zero, List.take_of_length_le (l := ((Value.agg cs).cells.toList.drop 64)) (by rw [List.length_drop, hl]; omega), List.take_append_drop]
  simp only [Value.cells] at e
  show Value.agg cs = .agg (row f ++ row g).toArray
  rw [← e]

/-- AN ARGUMENT OF TYPE Set -/
theorem open_set {W : World} {r : Reach} {b0 : Nat} {v : Value} {d : DataW H} {p : List MemPlace}
    (hval : Value.okWide Tryz.prog W r b0 57 v) (h0 : DataW.Trod enc Tryz.prog W 0 (fun _ => true) true 57 v d p) :
    ∃ n : Nat, v = .int .u64 (n : Int) ∧ n < 18446744073709551616 := by
  obtain ⟨z, rfl, rfl, rfl, wz⟩ := open_int Tryz.underlying57 hval h0
  obtain ⟨n, rfl⟩ := Int.eq_ofNat_of_zero_le (wf_u64 wz).1
  have := (wf_u64 wz).2
  exact ⟨n, rfl, by omega⟩

end
end Go.Proofs.YtmjbacmaafbdlaaGreatDoor.C

/-
  WHAT IS PROVED: what '==' and '!=' say of two tables. Condition: none.
-/
namespace Go.Proofs.YtmjbacmaafbdlaaGreatDoor.C
open Go.RowKit

def rowB (f g : Nat → Int) : Bool := (List.range 64).all fun i => f i == g i
def sameB (t u : Tab) : Bool := rowB t.o u.o && rowB t.e u.e
theorem rowB_iff {f g : Nat → Int} : rowB f g = true ↔ ∀ i, i < 64 → f i = g i := by
  unfold rowB; simp [List.all_eq_true]
theorem same_iff {t u : Tab} : sameB t u = true ↔ same t u := by
  unfold sameB same
  rw [Bool.and_eq_true, rowB_iff, rowB_iff]
  exact ⟨fun h i hi => ⟨h.1 i hi, h.2 i hi⟩, fun h => ⟨fun i hi => (h i hi).1, fun i hi => (h i hi).2⟩⟩

theorem arr_loop (f g : Nat → Int) (d : Nat) (w : World) : ∀ (n k : Nat), k + n ≤ 64 →
    (forIn (List.range' k n) ((none, ()) : Option Bool × Unit) (fun i (_ : Option Bool × Unit) => do
      let a ← part 3 (row f).toArray (i * 1)
      let b ← part 3 (row g).toArray (i * 1)
      let r ← Op.equalIn (d + 1) 3 a b
      if (!r) = true then pure (ForInStep.done (some false, ())) else pure (ForInStep.yield (none, ())))).run Tryz.prog w =
      .ok (if (List.range' k n).all (fun i => f i == g i) = true then (none, ()) else (some false, ())) w
  | 0, k, _ => by simp
  | n + 1, k, h => by
    have hk : k < 64 := by omega
    have ih := arr_loop f g d w n (k + 1) (by omega)
    rw [List.range'_succ]
    simp only [List.forIn_cons, Sem.run_bind]
    have pa : ∀ f : Nat → Int, (part 3 (row f).toArray (k * 1)).run Tryz.prog w = .ok (.int .i64 (f k)) w := fun f => by
      simp [part, Tryz.isAgg3, row_at f hk]
    rw [pa f, Result.andThen_ok, pa g, Result.andThen_ok, run_equalIn_int w d 3 .i64 .i64 _ _ Tryz.underlying3, Result.andThen_ok]
    by_cases hfg : f k = g k
    · simp only [hfg, beq_self_eq_true, Bool.not_true, Bool.false_eq_true, if_false, Sem.run_pure, Result.andThen_ok]
      rw [ih, List.all_cons]
      simp only [hfg, beq_self_eq_true, Bool.true_and]
    · have e : (f k == g k) = false := by simpa using hfg
      simp [e]

theorem same_arr (f g : Nat → Int) (d : Nat) (w : World) : (Op.equalIn (d + 2) 26 (.agg (row f).toArray) (.agg (row g).toArray)).run Tryz.prog w = .ok (rowB f g) w := by
  have h := arr_loop f g d w 64 0 (by omega)
  rw [Op.equalIn]
  simp only [Sem.run_bind, run_underlying Tryz.underlying26, Result.andThen_ok, Tryz.sizeOf3]
  simp only [Std.Legacy.Range.forIn_eq_forIn_range', Std.Legacy.Range.size, Nat.sub_zero, Nat.add_one_sub_one, Nat.div_one]
  rw [h]
  have e : rowB f g = (List.range' 0 64).all fun i => f i == g i := by unfold rowB; rw [List.range_eq_range']
  rw [e]
  cases (List.range' 0 64).all fun i => f i == g i <;> simp

theorem cut_o (t : Tab) : (tb t).extract 0 64 = (row t.o).toArray := by
  apply Array.ext_getElem?
  intro i
  rw [Array.getElem?_extract]
  by_cases h : i < 64
  · rw [if_pos (by rw [tb_size]; omega), Nat.zero_add, tb_o t h, List.getElem?_toArray, row_at _ h]
  · rw [if_neg (by rw [tb_size]; omega), List.getElem?_toArray, List.getElem?_eq_none (by rw [row_len]; omega)]
theorem cut_e (t : Tab) : (tb t).extract 64 128 = (row t.e).toArray := by
  apply Array.ext_getElem?
  intro i
  rw [Array.getElem?_extract]
  by_cases h : i < 64
  · rw [if_pos (by rw [tb_size]; omega), tb_e t h, List.getElem?_toArray, row_at _ h]
  · rw [if_neg (by rw [tb_size]; omega), List.getElem?_toArray, List.getElem?_eq_none (by rw [row_len]; omega)]

theorem part_o (t : Tab) (w : World) : (part 26 (tb t) 0).run Tryz.prog w = .ok (.agg (row t.o).toArray) w := by
  rw [← cut_o t]
  simp only [part, Sem.run_bind, Tryz.isAgg26, Result.andThen_ok, if_true, Tryz.sizeOf26, Sem.run_pure, Nat.zero_add]
theorem part_e (t : Tab) (w : World) : (part 26 (tb t) 64).run Tryz.prog w = .ok (.agg (row t.e).toArray) w := by
  rw [← cut_e t]
  simp only [part, Sem.run_bind, Tryz.isAgg26, Result.andThen_ok, if_true, Tryz.sizeOf26, Sem.run_pure, Nat.reduceAdd]
theorem eq_fields {P : Program} {d : Nat} {xs ys : Array Value} {f0 f1 : Field} {w : World} {a0 b0 a1 b1 : Value} {r0 r1 : Bool} (n0 : f0.name ≠ "_") (n1 : f1.name ≠ "_")
    (h0 : (part f0.type xs f0.offset).run P w = .ok a0 w) (h1 : (part f0.type ys f0.offset).run P w = .ok b0 w) (h2 : (Op.equalIn d f0.type a0 b0).run P w = .ok r0 w)
    (h3 : (part f1.type xs f1.offset).run P w = .ok a1 w) (h4 : (part f1.type ys f1.offset).run P w = .ok b1 w) (h5 : (Op.equalIn d f1.type a1 b1).run P w = .ok r1 w) :
    (Op.eqFields d xs ys [f0, f1]).run P w = .ok (r0 && r1) w := by
  simp only [Op.eqFields, if_pos n0, if_pos n1, Sem.run_bind, h0, h1, h2, Result.andThen_ok]
  cases r0
  · simp
  · simp only [Bool.not_true, Bool.false_eq_true, if_false, Sem.run_bind, h3, h4, h5, Result.andThen_ok]
    cases r1 <;> simp
theorem fields_tab : ∃ f0 f1 : Field, Tryz.prog.fieldsOf 28 = #[f0, f1] ∧ f0.name ≠ "_" ∧ f1.name ≠ "_" ∧ f0.type = 26 ∧ f1.type = 26 ∧ f0.offset = 0 ∧ f1.offset = 64 := by
  refine ⟨{ name := "Owner", type := 26, offset := 0, embedded := false, tag := "", pkgPath := "", byteOffset := 0 }, { name := "Epoch", type := 26, offset := 64, embedded := false, tag := "", pkgPath := "", byteOffset := 512 }, ?_, by decide, by decide, rfl, rfl, rfl, rfl⟩
  simp only [Program.fieldsOf, Tryz.underlying28]
theorem same_deep (t u : Tab) (d : Nat) (w : World) : (Op.equalIn (d + 2 + 1) 28 (.agg (tb t)) (.agg (tb u))).run Tryz.prog w = .ok (sameB t u) w := by
  have hS : Tryz.prog.underlying 28 = some (.struct (Tryz.prog.fieldsOf 28)) := by kernel_rfl
  have hp : Tryz.prog.stoodInHeld 28 = false := by kernel_rfl
  rw [run_equalIn_agg w (d + 2) 28 _ _ hS hp]
  obtain ⟨f0, f1, e, n0, n1, t0, t1, o0, o1⟩ := fields_tab
  rw [e]
  exact eq_fields n0 n1 (by rw [t0, o0]; exact part_o t w) (by rw [t0, o0]; exact part_o u w) (by rw [t0]; exact same_arr t.o u.o d w) (by rw [t1, o1]; exact part_e t w) (by rw [t1, o1]; exact part_e u w) (by rw [t1]; exact same_arr t.e u.e d w)
theorem same_tab (t u : Tab) (w : World) : (Op.equalIn 10000 28 (.agg (tb t)) (.agg (tb u))).run Tryz.prog w = .ok (sameB t u) w := by
  rw [show (10000 : Nat) = 9997 + 2 + 1 from rfl]
  exact same_deep t u 9997 w
theorem guard_tab (op : BinOp) (a b : Operand) (x r : Tab) (w : World) : (eqGuard op 28 a b (.agg (tb x)) (.agg (tb r))).run Tryz.prog w = .ok () w := run_eqGuard_agg w op 28 a b _ _ (by kernel_rfl)
end Go.Proofs.YtmjbacmaafbdlaaGreatDoor.C

/-
  WHAT IS PROVED: plain facts on sets of slots as numbers (the slots for which a test holds, the slots of a list). No condition.
-/
namespace Go.Proofs.YtmjbacmaafbdlaaGreatDoor.C

theorem or_lt {a b : Nat} (ha : a < 18446744073709551616) (hb : b < 18446744073709551616) : a ||| b < 18446744073709551616 := Nat.or_lt_two_pow (n := 64) ha hb
theorem and_lt {a b : Nat} (ha : a < 18446744073709551616) : a &&& b < 18446744073709551616 := Nat.lt_of_le_of_lt Nat.and_le_left ha
theorem bit_far {s i : Nat} (hs : s < 18446744073709551616) (hi : 64 ≤ i) : s.testBit i = false :=
  Nat.testBit_lt_two_pow (Nat.lt_of_lt_of_le hs (Nat.pow_le_pow_right (show 0 < 2 by decide) hi))
theorem ext64 {s t : Nat} (hs : s < 18446744073709551616) (ht : t < 18446744073709551616) (h : ∀ i, i < 64 → s.testBit i = t.testBit i) : s = t := by
  apply Nat.eq_of_testBit_eq
  intro i
  by_cases hi : i < 64
  · exact h i hi
  · rw [bit_far hs (by omega), bit_far ht (by omega)]
theorem bit_lt {s i : Nat} (hs : s < 18446744073709551616) (h : s.testBit i = true) : i < 64 := by
  rcases Nat.lt_or_ge i 64 with hi | hi
  · exact hi
  · rw [bit_far hs hi] at h; cases h

/-- the slots of a list -/
def ors : List Nat → Nat
  | [] => 0
  | i :: r => 2 ^ i ||| ors r
theorem ors_bit (l : List Nat) (i : Nat) : (ors l).testBit i = decide (i ∈ l) := by
  induction l with
  | nil => simp [ors]
  | cons j r ih =>
    rw [ors, Nat.testBit_or, ih, Nat.testBit_two_pow, Bool.eq_iff_iff, Bool.or_eq_true, decide_eq_true_eq, decide_eq_true_eq, decide_eq_true_eq, List.mem_cons]
    exact ⟨fun h => h.imp Eq.symm id, fun h => h.imp Eq.symm id⟩
theorem ors_snoc (l : List Nat) (i : Nat) : ors (l ++ [i]) = ors l ||| 2 ^ i := by
  apply Nat.eq_of_testBit_eq
  intro j
  rw [Nat.testBit_or, ors_bit, ors_bit, Nat.testBit_two_pow, Bool.eq_iff_iff, Bool.or_eq_true, decide_eq_true_eq, decide_eq_true_eq, decide_eq_true_eq, List.mem_append, List.mem_singleton]
  exact ⟨fun h => h.imp id Eq.symm, fun h => h.imp id Eq.symm⟩
theorem pow_lt64 {i : Nat} (h : i < 64) : 2 ^ i < 18446744073709551616 := Nat.pow_lt_pow_right (show 1 < 2 by decide) h
theorem ors_lt {l : List Nat} (h : ∀ i ∈ l, i < 64) : ors l < 18446744073709551616 := by
  induction l with
  | nil => decide
  | cons j r ih => exact or_lt (pow_lt64 (h j (by simp))) (ih fun i hi => h i (by simp [hi]))
/-- the slots for which a test holds -/
def pick (f : Nat → Bool) : Nat := ors ((List.range 64).filter f)
theorem pick_bit (f : Nat → Bool) {i : Nat} (h : i < 64) : (pick f).testBit i = f i := by
  unfold pick
  rw [ors_bit, Bool.eq_iff_iff]
  simp [h]
theorem pick_lt (f : Nat → Bool) : pick f < 18446744073709551616 := ors_lt fun i hi => by
  have := (List.mem_filter.1 hi).1
  simpa using this
theorem pick_eq {f : Nat → Bool} {s : Nat} (hs : s < 18446744073709551616) (h : ∀ i, i < 64 → f i = s.testBit i) : pick f = s :=
  ext64 (pick_lt f) hs fun i hi => by rw [pick_bit f hi, h i hi]
theorem pick_congr {f g : Nat → Bool} (h : ∀ i, i < 64 → f i = g i) : pick f = pick g :=
  pick_eq (pick_lt g) fun i hi => by rw [h i hi, pick_bit g hi]
/-- a and not b -/
def less (a b : Nat) : Nat := pick fun i => a.testBit i && !b.testBit i
theorem less_bit {a b i : Nat} (h : i < 64) : (less a b).testBit i = (a.testBit i && !b.testBit i) := pick_bit _ h
theorem less_lt (a b : Nat) : less a b < 18446744073709551616 := pick_lt _

/-- the slots of a set ahead of n, rising -/
def slotsTo (s n : Nat) : List Nat := (List.range n).filter s.testBit
theorem slotsTo_mem {s n i : Nat} : i ∈ slotsTo s n ↔ i < n ∧ s.testBit i = true := by unfold slotsTo; simp
theorem slotsTo_all {s : Nat} (hs : s < 18446744073709551616) {i : Nat} : i ∈ slotsTo s 64 ↔ s.testBit i = true := by
  rw [slotsTo_mem]; exact ⟨fun h => h.2, fun h => ⟨bit_lt hs h, h⟩⟩
theorem slotsTo_nodup (s n : Nat) : (slotsTo s n).Nodup := List.Nodup.sublist List.filter_sublist List.nodup_range
theorem slotsTo_le (s n : Nat) : (slotsTo s n).length ≤ n := by
  unfold slotsTo
  have := List.length_filter_le s.testBit (List.range n)
  simpa using this
theorem slotsTo_yes {s n : Nat} (h : s.testBit n = true) : slotsTo s (n + 1) = slotsTo s n ++ [n] := by
  unfold slotsTo; rw [List.range_succ, List.filter_append]; simp [h]
theorem slotsTo_no {s n : Nat} (h : s.testBit n = false) : slotsTo s (n + 1) = slotsTo s n := by
  unfold slotsTo; rw [List.range_succ, List.filter_append]; simp [h]
theorem take_snoc {l : List Nat} {k m : Nat} (h : l[k]? = some m) : l.take (k + 1) = l.take k ++ [m] := by
  rw [List.take_add_one, h]; rfl
/-- what stands at a place of a list without doubles stands not ahead of it -/
theorem not_ahead {l : List Nat} (hn : l.Nodup) {k m : Nat} (h : l[k]? = some m) : m ∉ l.take k := by
  intro hm
  obtain ⟨j, hj, e⟩ := List.getElem_of_mem hm
  rw [List.getElem_take] at e
  rw [List.length_take] at hj
  obtain ⟨hk, e2⟩ := List.getElem?_eq_some_iff.1 h
  exact List.pairwise_iff_getElem.1 hn j k (by omega) hk (by omega) (e.trans e2.symm)
end Go.Proofs.YtmjbacmaafbdlaaGreatDoor.C

/-
  WHAT IS PROVED: contracts of the calls that look at one slot. Condition: none.
-/
namespace Go.Proofs.YtmjbacmaafbdlaaGreatDoor.C
open Go.RowKit

def slotB (n : Int) : Bool := decide (0 ≤ n ∧ n < 64)
theorem slotB_yes {n : Int} (h0 : 0 ≤ n) (h : n < 64) : slotB n = true := decide_eq_true ⟨h0, h⟩
theorem slotB_no {n : Int} (h : n < 0 ∨ 64 ≤ n) : slotB n = false := decide_eq_false (by omega)

theorem isslot_any (n : Int) (w : World) : Calls Tryz.prog 73 #[.int .i64 n] w fun e w' => e = .returned (.bool (slotB n)) ∧ w = w' := by
  by_cases h0 : 0 ≤ n
  · by_cases h1 : n < 64
    · have H := Lib.hid (slotB_yes h0 h1)
      go_enter Tryz.func73, Tryz.ntmps73
      go_wp2
      go_ret
      exact ⟨by rw [H.out]; rfl, rfl⟩
    · have H := Lib.hid (slotB_no (n := n) (.inr (by omega)))
      have h2 : 64 ≤ n := by omega
      have h3 : decide (n < 64) = false := by simpa using h2
      go_enter Tryz.func73, Tryz.ntmps73
      go_wp2
      go_ret
      exact ⟨by rw [H.out]; rfl, rfl⟩
  · have H := Lib.hid (slotB_no (n := n) (.inl (by omega)))
    have h2 : n < 0 := by omega
    have h3 : decide (0 ≤ n) = false := by simpa using h2
    go_enter Tryz.func73, Tryz.ntmps73
    go_wp2
    go_ret
    exact ⟨by rw [H.out]; rfl, rfl⟩

/-- whether a set has a slot, as a number may ask -/
def hasB (s : Nat) (n : Int) : Bool := slotB n && s.testBit n.toNat
theorem has_at {s i : Nat} (hi : i < 64) : hasB s (i : Int) = s.testBit i := by
  unfold hasB; rw [slotB_yes (by omega) (by omega)]; simp
theorem has_out {s : Nat} {n : Int} (h : n < 0 ∨ 64 ≤ n) : hasB s n = false := by
  unfold hasB; rw [slotB_no h]; rfl
theorem bit_int {s : Nat} (hs : s < 18446744073709551616) (i : Nat) : bits .and .u64 ((s : Int) / 2 ^ i) 1 = ((if s.testBit i = true then 1 else 0 : Nat) : Int) := by
  have e : ((s : Int) / 2 ^ i) = ((s >>> i : Nat) : Int) := by rw [Nat.shiftRight_eq_div_pow, Int.natCast_ediv, Int.natCast_pow]; rfl
  have h2 : s >>> i < 18446744073709551616 := by rw [Nat.shiftRight_eq_div_pow]; exact Nat.lt_of_le_of_lt (Nat.div_le_self _ _) hs
  rw [e]
  have h := u64_and_nat (s >>> i) 1 h2 (by decide)
  rw [show ((1 : Nat) : Int) = 1 from rfl] at h
  rw [h]
  congr 1
  unfold Nat.testBit
  rw [Nat.and_comm, Nat.one_and_eq_mod_two]
  rcases Nat.mod_two_eq_zero_or_one (s >>> i) with h | h <;> simp [h]

set_option maxRecDepth 100000 in
theorem has_any (s : Nat) (hs : s < 18446744073709551616) (n : Int) (w : World) : Calls Tryz.prog 57 #[.int .u64 (s : Int), .int .i64 n] w fun e w' => e = .returned (.bool (hasB s n)) ∧ w = w' := by
  by_cases h : 0 ≤ n ∧ n < 64
  · obtain ⟨i, rfl⟩ := Int.eq_ofNat_of_zero_le h.1
    have hi : i < 64 := by omega
    have h1 : (0 : Int) ≤ i := by omega
    have h2 : (i : Int) < 64 := by omega
    have HH := Lib.hid (has_at (s := s) hi)
    have HB := Lib.hid (bit_int hs i)
    have HY := Lib.hid (slotB_yes h1 h2)
    clear h
    go_enter Tryz.func57, Tryz.ntmps57
    go_wp2_with (go_at_call 73; refine (isslot_any _ _).mono ?_; rintro e w' ⟨rfl, rfl⟩; rw [HY.out])
    go_ret
    refine ⟨?_, rfl⟩
    rw [HH.out]
    show Ending.returned (.bool (bits .and .u64 ((s : Int) / 2 ^ i) 1 == 1)) = _
    rw [HB.out]
    cases s.testBit i <;> rfl
  · have HH := Lib.hid (has_out (s := s) (show n < 0 ∨ 64 ≤ n by omega))
    have HN := Lib.hid (slotB_no (show n < 0 ∨ 64 ≤ n by omega))
    clear h
    go_enter Tryz.func57, Tryz.ntmps57
    go_wp2_with (go_at_call 73; refine (isslot_any _ _).mono ?_; rintro e w' ⟨rfl, rfl⟩; rw [HN.out])
    go_ret
    exact ⟨by rw [HH.out]; rfl, rfl⟩
end Go.Proofs.YtmjbacmaafbdlaaGreatDoor.C

/-
  WHAT IS PROVED: contracts of the small functions: ids, epochs, one slot's right, the set of one slot. Condition: none.
-/
namespace Go.Proofs.YtmjbacmaafbdlaaGreatDoor.C
open Go.RowKit

def betB (lo hi n : Int) : Bool := decide (lo ≤ n ∧ n ≤ hi)
theorem bet_yes {lo hi n : Int} (h0 : lo ≤ n) (h : n ≤ hi) : betB lo hi n = true := decide_eq_true ⟨h0, h⟩
theorem bet_no {lo hi n : Int} (h : n < lo ∨ hi < n) : betB lo hi n = false := decide_eq_false (by omega)
theorem bet_iff {lo hi n : Int} : betB lo hi n = true ↔ lo ≤ n ∧ n ≤ hi := by unfold betB; rw [decide_eq_true_eq]
def idB (n : Int) : Bool := betB 1 4294967296 n
def epB (n : Int) : Bool := betB 0 281474976710656 n

set_option maxRecDepth 100000 in
theorem isid_any (n : Int) (w : World) : Calls Tryz.prog 38 #[.int .i64 n] w fun e w' => e = .returned (.bool (betB 1 4294967296 n)) ∧ w = w' := by
  by_cases h0 : 1 ≤ n
  · by_cases h1 : n ≤ 4294967296
    · have H := Lib.hid (bet_yes h0 h1)
      go_enter Tryz.func38, Tryz.ntmps38
      go_wp2
      go_ret
      exact ⟨by rw [H.out]; rfl, rfl⟩
    · have H := Lib.hid (bet_no (lo := 1) (hi := 4294967296) (n := n) (.inr (by omega)))
      have h3 : decide (n ≤ 4294967296) = false := by simpa using h1
      clear h1
      go_enter Tryz.func38, Tryz.ntmps38
      go_wp2
      go_ret
      exact ⟨by rw [H.out]; rfl, rfl⟩
  · have H := Lib.hid (bet_no (lo := 1) (hi := 4294967296) (n := n) (.inl (by omega)))
    have h3 : decide (1 ≤ n) = false := by simpa using h0
    clear h0
    go_enter Tryz.func38, Tryz.ntmps38
    go_wp2
    go_ret
    exact ⟨by rw [H.out]; rfl, rfl⟩

set_option maxRecDepth 100000 in
theorem isepoch_any (n : Int) (w : World) : Calls Tryz.prog 95 #[.int .i64 n] w fun e w' => e = .returned (.bool (betB 0 281474976710656 n)) ∧ w = w' := by
  by_cases h0 : 0 ≤ n
  · by_cases h1 : n ≤ 281474976710656
    · have H := Lib.hid (bet_yes h0 h1)
      go_enter Tryz.func95, Tryz.ntmps95
      go_wp2
      go_ret
      exact ⟨by rw [H.out]; rfl, rfl⟩
    · have H := Lib.hid (bet_no (lo := 0) (hi := 281474976710656) (n := n) (.inr (by omega)))
      have h3 : decide (n ≤ 281474976710656) = false := by simpa using h1
      clear h1
      go_enter Tryz.func95, Tryz.ntmps95
      go_wp2
      go_ret
      exact ⟨by rw [H.out]; rfl, rfl⟩
  · have H := Lib.hid (bet_no (lo := 0) (hi := 281474976710656) (n := n) (.inl (by omega)))
    have h3 : decide (0 ≤ n) = false := by simpa using h0
    clear h0
    go_enter Tryz.func95, Tryz.ntmps95
    go_wp2
    go_ret
    exact ⟨by rw [H.out]; rfl, rfl⟩

/-- may a slot have that owner with that epoch -/
def heldB (o e : Int) : Bool := if o = 0 then decide (e = 0) else idB o && epB e
set_option maxRecDepth 100000 in
theorem isheld_any (o e : Int) (w : World) : Calls Tryz.prog 69 #[.int .i64 o, .int .i64 e] w fun d w' => d = .returned (.bool (heldB o e)) ∧ w = w' := by
  by_cases h0 : o = 0
  · subst h0
    have H : Hid (heldB 0 e = decide (e = 0)) := Lib.hid (by simp [heldB])
    go_enter Tryz.func69, Tryz.ntmps69
    go_wp2
    go_ret
    refine ⟨?_, rfl⟩
    rw [H.out]
    by_cases he : e = 0 <;> simp [he]
  · obtain ⟨b, HB⟩ : ∃ b, Hid (betB 1 4294967296 o = b) := ⟨_, Lib.hid rfl⟩
    obtain ⟨c, HC⟩ : ∃ c, Hid (betB 0 281474976710656 e = c) := ⟨_, Lib.hid rfl⟩
    have H : Hid (heldB o e = (b && c)) := Lib.hid (by rw [← HB.out, ← HC.out]; simp [heldB, h0, idB, epB])
    have h1 : (o == 0) = false := by simpa using h0
    clear h0
    go_enter Tryz.func69, Tryz.ntmps69
    go_wp2_with (fail)
    refine (isid_any o _).mono ?_
    rintro d w1 ⟨rfl, rfl⟩
    rw [HB.out]
    cases b
    · go_wp2
      go_ret
      exact ⟨by rw [H.out]; rfl, rfl⟩
    · go_wp2_with (fail)
      refine (isepoch_any e _).mono ?_
      rintro d w1 ⟨rfl, rfl⟩
      rw [HC.out]
      go_wp2
      go_ret
      exact ⟨by rw [H.out]; rfl, rfl⟩

theorem one_int {i : Nat} (h : i < 64) : IntKind.u64.wrap (2 ^ i) = ((2 ^ i : Nat) : Int) := by
  have h2 := pow_lt64 h
  have e : (2 : Int) ^ i = ((2 ^ i : Nat) : Int) := by rw [Int.natCast_pow]; rfl
  rw [IntKind.wrap_u64, e]
  generalize 2 ^ i = x at h2
  omega
/-- one slot -/
def pw (i : Nat) : Nat := 2 ^ i
theorem one_any (i : Nat) (h : i < 64) (w : World) : Calls Tryz.prog 61 #[.int .i64 (i : Int)] w fun d w' => d = .returned (.int .u64 ((pw i : Nat) : Int)) ∧ w = w' := by
  have H : Hid (IntKind.u64.wrap (2 ^ i) = ((pw i : Nat) : Int)) := Lib.hid (one_int h)
  have h1 : (0 : Int) ≤ i := by omega
  have h2 : (i : Int) < 64 := by omega
  clear h
  go_enter Tryz.func61, Tryz.ntmps61
  go_wp2
  go_ret
  refine ⟨?_, rfl⟩
  rw [← H.out]
  rfl
/-- a set and one slot more -/
theorem or_int {s : Nat} (hs : s < 18446744073709551616) {i : Nat} (h : i < 64) : bits .or .u64 (s : Int) ((pw i : Nat) : Int) = ((s ||| pw i : Nat) : Int) := u64_or_nat s (pw i) hs (pow_lt64 h)
theorem and_int {s t : Nat} (hs : s < 18446744073709551616) (ht : t < 18446744073709551616) : bits .and .u64 (s : Int) (t : Int) = ((s &&& t : Nat) : Int) := u64_and_nat s t hs ht
theorem orr_int {s t : Nat} (hs : s < 18446744073709551616) (ht : t < 18446744073709551616) : bits .or .u64 (s : Int) (t : Int) = ((s ||| t : Nat) : Int) := u64_or_nat s t hs ht
theorem less_int {s t : Nat} (hs : s < 18446744073709551616) (ht : t < 18446744073709551616) : bits .andNot .u64 (s : Int) (t : Int) = ((less s t : Nat) : Int) := by
  rw [u64_andNot_nat s t hs ht]
  congr 1
  refine ext64 (and_lt hs) (less_lt s t) fun i hi => ?_
  rw [Nat.testBit_and, less_bit hi]
  congr 1
  have e := Nat.testBit_two_pow_sub_succ (n := 64) (x := t) ht i
  rw [show (2 : Nat) ^ 64 - (t + 1) = 18446744073709551615 - t by omega] at e
  rw [e]; simp [hi]
end Go.Proofs.YtmjbacmaafbdlaaGreatDoor.C

/-
  WHAT IS PROVED: contracts of what only looks at a table: Right, the document's own right, Of. Condition: none.
-/
namespace Go.Proofs.YtmjbacmaafbdlaaGreatDoor.C
open Go.RowKit

def okB (t : Tab) : Bool := (List.range 64).all fun i => heldB (t.o i) (t.e i)
theorem okB_iff {t : Tab} : okB t = true ↔ ∀ i, i < 64 → heldB (t.o i) (t.e i) = true := by
  unfold okB; simp [List.all_eq_true]
theorem okB_no {t : Tab} {k : Nat} (hk : k < 64) (h : heldB (t.o k) (t.e k) = false) : okB t = false := by
  cases e : okB t with
  | false => rfl
  | true => rw [okB_iff.1 e k hk] at h; cases h
theorem held_iff {o e : Int} : heldB o e = true ↔ (o = 0 ∧ e = 0) ∨ (1 ≤ o ∧ o ≤ 4294967296 ∧ 0 ≤ e ∧ e ≤ 281474976710656) := by
  unfold heldB idB epB
  by_cases h : o = 0
  · rw [if_pos h, decide_eq_true_eq]; omega
  · rw [if_neg h, Bool.and_eq_true, bet_iff, bet_iff]; omega

set_option maxRecDepth 100000 in
set_option maxHeartbeats 1000000 in
theorem right_any (t : Tab) (w : World) : Calls Tryz.prog 54 #[.agg (tb t)] w (Says (okB t) w) := by
  have hT := Lib.hid (TabAt.new w t)
  have hb := Lib.hid ((Below.refl w.heap.size w).alloc (Nat.le_refl _) (.cells (tb t) 28))
  go_enter Tryz.func54, Tryz.ntmps54
  go_wp2_with (refine at_owners rfl hT.out rfl ?_)
  go_loop [7] (fun i => ∃ k : Nat, k ≤ 64 ∧ i = .int .i64 k ∧ Hid (∀ j, j < k → heldB (t.o j) (t.e j) = true)) (fun i => 64 - (intOf i).toNat)
  case atStart => exact ⟨0, by omega, rfl, Lib.hid (fun j hj => absurd hj (by omega))⟩
  case round =>
    obtain ⟨k, hk, rfl, hall⟩ := hrel
    by_cases hlt : k < 64
    · have hidx := index_row t.o hlt
      have hE := hT.out.e hlt
      obtain ⟨b, HB⟩ : ∃ b, Hid (heldB (t.o k) (t.e k) = b) := ⟨_, Lib.hid rfl⟩
      go_wp2_with (fail)
      refine (isheld_any _ _ _).mono ?_
      rintro d w1 ⟨rfl, rfl⟩
      rw [HB.out]
      cases b
      · go_wp2
        go_ret
        exact ⟨by rw [okB_no hlt HB.out]; rfl, hb.out⟩
      · go_wp2
        go_round
        case rel => exact ⟨k + 1, by omega, by go_num, Lib.hid fun j hj => by
          rcases Nat.lt_or_ge j k with h | h
          · exact hall.out j h
          · obtain rfl : j = k := by omega
            exact HB.out⟩
        case measure => simp [intOf]; omega
    · obtain rfl : k = 64 := by omega
      go_wp2
      go_ret
      exact ⟨by rw [okB_iff.2 hall.out]; rfl, hb.out⟩

/-- the slots that somebody has -/
def ofN (t : Tab) (id : Int) : Nat := pick fun i => t.o i == id
def ofTo (t : Tab) (id : Int) (k : Nat) : Nat := ors ((List.range k).filter fun i => t.o i == id)
theorem ofTo_yes {t : Tab} {id : Int} {k : Nat} (h : (t.o k == id) = true) : ofTo t id (k + 1) = ofTo t id k ||| pw k := by
  unfold ofTo; rw [List.range_succ, List.filter_append, List.filter_cons, if_pos h, List.filter_nil, ors_snoc]; rfl
theorem ofTo_no {t : Tab} {id : Int} {k : Nat} (h : (t.o k == id) = false) : ofTo t id (k + 1) = ofTo t id k := by
  unfold ofTo; rw [List.range_succ, List.filter_append, List.filter_cons, if_neg (by rw [h]; simp), List.filter_nil, List.append_nil]
theorem ofTo_lt (t : Tab) (id : Int) {k : Nat} (h : k ≤ 64) : ofTo t id k < 18446744073709551616 := ors_lt fun i hi => by
  have := (List.mem_filter.1 hi).1
  simp at this; omega

set_option maxRecDepth 100000 in
set_option maxHeartbeats 1000000 in
theorem of_any (t : Tab) (id : Int) (w : World) : Calls Tryz.prog 41 #[.agg (tb t), .int .i64 id] w fun d w' => d = .returned (.int .u64 ((ofN t id : Nat) : Int)) ∧ Below w.heap.size w w' := by
  have hT := Lib.hid (TabAt.new w t)
  have hb := Lib.hid ((Below.refl w.heap.size w).alloc (Nat.le_refl _) (.cells (tb t) 28))
  go_enter Tryz.func41, Tryz.ntmps41
  go_wp2_with (refine at_owners rfl hT.out rfl ?_)
  go_loop [5, 10] (fun s i => ∃ k : Nat, k ≤ 64 ∧ i = .int .i64 k ∧ s = .int .u64 ((ofTo t id k : Nat) : Int)) (fun _ i => 64 - (intOf i).toNat)
  case atStart => exact ⟨0, by omega, rfl, rfl⟩
  case round =>
    obtain ⟨k, hk, rfl, rfl⟩ := hrel
    by_cases hlt : k < 64
    · have hidx := index_row t.o hlt
      have hS := ofTo_lt t id hk
      obtain ⟨b, hB⟩ : ∃ b, (t.o k == id) = b := ⟨_, rfl⟩
      cases b
      · have HN := Lib.hid (ofTo_no hB)
        generalize ofTo t id k = s at *
        go_wp2
        go_round
        case rel => exact ⟨k + 1, by omega, by go_num, by rw [HN.out]⟩
        case measure => simp [intOf]; omega
      · have HN := Lib.hid (ofTo_yes hB)
        have HO := Lib.hid (or_int hS hlt)
        generalize ofTo t id k = s at *
        go_wp2_with (fail)
        refine (one_any k hlt _).mono ?_
        rintro d w1 ⟨rfl, rfl⟩
        have HO1 := HO.out
        go_wp2
        go_round
        case rel => exact ⟨k + 1, by omega, by go_num, by rw [HN.out, ← HO.out]⟩
        case measure => simp [intOf]; omega
    · obtain rfl : k = 64 := by omega
      go_wp2
      go_ret
      exact ⟨rfl, hb.out⟩
end Go.Proofs.YtmjbacmaafbdlaaGreatDoor.C

/-
  WHAT IS PROVED: plain facts on claims and drops, slot by slot. No condition.
-/
namespace Go.Proofs.YtmjbacmaafbdlaaGreatDoor.C
open Go.RowKit

/-- does a claim take a slot of its set -/
def tookB (t : Tab) (id ep : Int) (i : Nat) : Bool := decide (t.o i ≠ id) && (decide (t.o i = 0) || decide (t.e i < ep))
def newO (t : Tab) (id ep : Int) (i : Nat) : Int := if tookB t id ep i = true then id else t.o i
def newE (t : Tab) (id ep : Int) (i : Nat) : Int := if tookB t id ep i = true then ep else if t.o i = id then max (t.e i) ep else t.e i
/-- the table behind a claim of the slots for which p holds -/
def claimP (t : Tab) (id ep : Int) (p : Nat → Bool) : Tab := ⟨fun i => if p i = true then newO t id ep i else t.o i, fun i => if p i = true then newE t id ep i else t.e i⟩
def takenP (t : Tab) (id ep : Int) (p : Nat → Bool) : Nat := pick fun i => p i && tookB t id ep i
def goodB (t : Tab) (id ep : Int) : Bool := okB t && (idB id && epB ep)
theorem good_iff {t : Tab} {id ep : Int} : goodB t id ep = true ↔ okB t = true ∧ (1 ≤ id ∧ id ≤ 4294967296) ∧ (0 ≤ ep ∧ ep ≤ 281474976710656) := by
  unfold goodB idB epB; rw [Bool.and_eq_true, Bool.and_eq_true, bet_iff, bet_iff]
theorem ok_held {t : Tab} (h : okB t = true) {i : Nat} (hi : i < 64) : (t.o i = 0 ∧ t.e i = 0) ∨ (1 ≤ t.o i ∧ t.o i ≤ 4294967296 ∧ 0 ≤ t.e i ∧ t.e i ≤ 281474976710656) := held_iff.1 (okB_iff.1 h i hi)
theorem ok_of {t : Tab} (h : ∀ i, i < 64 → (t.o i = 0 ∧ t.e i = 0) ∨ (1 ≤ t.o i ∧ t.o i ≤ 4294967296 ∧ 0 ≤ t.e i ∧ t.e i ≤ 281474976710656)) : okB t = true := okB_iff.2 fun i hi => held_iff.2 (h i hi)
theorem took_iff {t : Tab} {id ep : Int} {i : Nat} : tookB t id ep i = true ↔ t.o i ≠ id ∧ (t.o i = 0 ∨ t.e i < ep) := by
  unfold tookB; simp
theorem took_no {t : Tab} {id ep : Int} {i : Nat} : tookB t id ep i = false ↔ t.o i = id ∨ (t.o i ≠ 0 ∧ ep ≤ t.e i) := by
  rw [← Bool.not_eq_true, took_iff]; omega
/-- what a slot has behind a claim of it -/
theorem new_cases (t : Tab) (id ep : Int) (i : Nat) :
    (tookB t id ep i = true ∧ t.o i ≠ id ∧ (t.o i = 0 ∨ t.e i < ep) ∧ newO t id ep i = id ∧ newE t id ep i = ep) ∨
    (tookB t id ep i = false ∧ t.o i = id ∧ newO t id ep i = id ∧ newE t id ep i = max (t.e i) ep) ∨
    (tookB t id ep i = false ∧ t.o i ≠ id ∧ t.o i ≠ 0 ∧ ep ≤ t.e i ∧ newO t id ep i = t.o i ∧ newE t id ep i = t.e i) := by
  unfold newO newE
  by_cases h : tookB t id ep i = true
  · have h' := took_iff.1 h
    rw [if_pos h, if_pos h]
    exact .inl ⟨h, h'.1, h'.2, rfl, rfl⟩
  · have h2 : tookB t id ep i = false := by simpa using h
    have h' := took_no.1 h2
    rw [if_neg h, if_neg h]
    by_cases e : t.o i = id
    · rw [if_pos e]; exact .inr (.inl ⟨h2, e, e, rfl⟩)
    · rw [if_neg e]; exact .inr (.inr ⟨h2, e, by omega, by omega, rfl, rfl⟩)
theorem claim_ok {t : Tab} {id ep : Int} {p : Nat → Bool} (h : goodB t id ep = true) : okB (claimP t id ep p) = true := by
  obtain ⟨h1, h2, h3⟩ := good_iff.1 h
  refine ok_of fun i hi => ?_
  have h4 := ok_held h1 hi
  show ((if p i = true then _ else _) = 0 ∧ (if p i = true then _ else _) = 0) ∨ (1 ≤ (if p i = true then _ else _) ∧ (if p i = true then _ else _) ≤ _ ∧ 0 ≤ (if p i = true then _ else _) ∧ (if p i = true then _ else _) ≤ _)
  cases p i
  · simpa using h4
  · simp only [if_true]
    rcases new_cases t id ep i with ⟨_, _, _, e1, e2⟩ | ⟨_, h5, e1, e2⟩ | ⟨_, _, _, _, e1, e2⟩ <;> rw [e1, e2] <;> omega
theorem claim_good {t : Tab} {id ep : Int} {p : Nat → Bool} (h : goodB t id ep = true) : goodB (claimP t id ep p) id ep = true :=
  good_iff.2 ⟨claim_ok h, (good_iff.1 h).2⟩

/-! ### one slot more -/
theorem mem_snoc {l : List Nat} {m i : Nat} : i ∈ l ++ [m] ↔ i ∈ l ∨ i = m := by simp
section
variable {t : Tab} {id ep : Int} {l : List Nat} {m : Nat}
theorem claim_own (hm : m ∉ l) (h : t.o m = id) : same (setE (claimP t id ep fun i => decide (i ∈ l)) m (max (t.e m) ep)) (claimP t id ep fun i => decide (i ∈ l ++ [m])) := fun i _ => by
  by_cases e : i = m
  · subst e
    have hn : tookB t id ep i = false := took_no.2 (.inl h)
    simp [claimP, setE, hm, newO, newE, hn, h]
  · simp [claimP, setE, e]
theorem claim_take (h : tookB t id ep m = true) : same (setE (setO (claimP t id ep fun i => decide (i ∈ l)) m id) m ep) (claimP t id ep fun i => decide (i ∈ l ++ [m])) := fun i _ => by
  by_cases e : i = m
  · subst e
    simp [claimP, setE, setO, newO, newE, h]
  · simp [claimP, setE, setO, e]
theorem claim_leave (hm : m ∉ l) (h : tookB t id ep m = false) (ho : t.o m ≠ id) : same (claimP t id ep fun i => decide (i ∈ l)) (claimP t id ep fun i => decide (i ∈ l ++ [m])) := fun i _ => by
  by_cases e : i = m
  · subst e
    simp [claimP, hm, newO, newE, h, ho]
  · simp [claimP, e]
end
def takenL (t : Tab) (id ep : Int) (l : List Nat) : Nat := ors (l.filter (tookB t id ep))
theorem taken_yes {t : Tab} {id ep : Int} {l : List Nat} {m : Nat} (h : tookB t id ep m = true) : takenL t id ep (l ++ [m]) = takenL t id ep l ||| pw m := by
  unfold takenL; rw [List.filter_append, List.filter_cons, if_pos h, List.filter_nil, ors_snoc]; rfl
theorem taken_no {t : Tab} {id ep : Int} {l : List Nat} {m : Nat} (h : tookB t id ep m = false) : takenL t id ep (l ++ [m]) = takenL t id ep l := by
  unfold takenL; rw [List.filter_append, List.filter_cons, if_neg (by rw [h]; simp), List.filter_nil, List.append_nil]
theorem taken_lt {t : Tab} {id ep : Int} {l : List Nat} (h : ∀ i ∈ l, i < 64) : takenL t id ep l < 18446744073709551616 := ors_lt fun i hi => h i (List.mem_filter.1 hi).1
theorem taken_all {t : Tab} {id ep : Int} {s : Nat} (hs : s < 18446744073709551616) : takenL t id ep (slotsTo s 64) = takenP t id ep s.testBit := by
  refine (pick_eq (taken_lt fun i hi => (slotsTo_mem.1 hi).1) fun i hi => ?_).symm
  unfold takenL
  rw [ors_bit, Bool.eq_iff_iff, decide_eq_true_eq, List.mem_filter, slotsTo_all hs, Bool.and_eq_true]
theorem claim_all {t : Tab} {id ep : Int} {s : Nat} (hs : s < 18446744073709551616) : same (claimP t id ep fun i => decide (i ∈ slotsTo s 64)) (claimP t id ep s.testBit) := fun i _ => by
  have e : decide (i ∈ slotsTo s 64) = s.testBit i := by rw [Bool.eq_iff_iff, decide_eq_true_eq, slotsTo_all hs]
  constructor
  · show (if decide (i ∈ slotsTo s 64) = true then _ else _) = _
    rw [e]; rfl
  · show (if decide (i ∈ slotsTo s 64) = true then _ else _) = _
    rw [e]; rfl
theorem claim_none (t : Tab) (id ep : Int) : same t (claimP t id ep fun i => decide (i ∈ ([] : List Nat))) := fun i _ => by simp [claimP]

/-! ### drops -/
def dropP (t : Tab) (p : Nat → Bool) : Tab := ⟨fun i => if p i = true then 0 else t.o i, fun i => if p i = true then 0 else t.e i⟩
theorem drop_step {t : Tab} {l : List Nat} {m : Nat} : same (setE (setO (dropP t fun i => decide (i ∈ l)) m 0) m 0) (dropP t fun i => decide (i ∈ l ++ [m])) := fun i _ => by
  by_cases e : i = m
  · subst e; simp [dropP, setE, setO]
  · simp [dropP, setE, setO, e]
theorem drop_none (t : Tab) : same t (dropP t fun i => decide (i ∈ ([] : List Nat))) := fun i _ => by simp [dropP]
theorem drop_all {t : Tab} {s : Nat} (hs : s < 18446744073709551616) : same (dropP t fun i => decide (i ∈ slotsTo s 64)) (dropP t s.testBit) := fun i _ => by
  have e : decide (i ∈ slotsTo s 64) = s.testBit i := by rw [Bool.eq_iff_iff, decide_eq_true_eq, slotsTo_all hs]
  constructor
  · show (if decide (i ∈ slotsTo s 64) = true then _ else _) = _
    rw [e]; rfl
  · show (if decide (i ∈ slotsTo s 64) = true then _ else _) = _
    rw [e]; rfl
/-- what somebody drops -/
def goneN (t : Tab) (id : Int) (keep : Nat) : Nat := less (ofN t id) keep
theorem ofN_lt (t : Tab) (id : Int) : ofN t id < 18446744073709551616 := pick_lt _
theorem ofN_bit (t : Tab) (id : Int) {i : Nat} (h : i < 64) : (ofN t id).testBit i = (t.o i == id) := pick_bit _ h
theorem gone_bit (t : Tab) (id : Int) (keep : Nat) {i : Nat} (h : i < 64) : (goneN t id keep).testBit i = ((t.o i == id) && !keep.testBit i) := by
  unfold goneN; rw [less_bit h, ofN_bit t id h]
theorem drop_ok {t : Tab} {p : Nat → Bool} (h : okB t = true) : okB (dropP t p) = true := by
  refine ok_of fun i hi => ?_
  have h4 := ok_held h hi
  cases e : p i <;> simp [dropP, e]
  exact h4
end Go.Proofs.YtmjbacmaafbdlaaGreatDoor.C

/-
  WHAT IS PROVED: the contract of a set's list: its slots, rising, in memory of its own. Condition: none.
-/
namespace Go.Proofs.YtmjbacmaafbdlaaGreatDoor.C
open Go.RowKit

def ints (l : List Nat) : List Value := l.map fun (i : Nat) => Value.int .i64 (i : Int)
theorem ints_append (l m : List Nat) : ints (l ++ m) = ints l ++ ints m := by simp [ints]
theorem int_info : (Tryz.prog.info? 3).map (fun i => (i.zero, i.size, i.bytes)) = some (some (.int .i64 0), 1, 8) := by kernel_rfl

theorem own_reads {w : World} {base n : Nat} {e : TypeId} {v : Value} {xs : List Value} (h : w.ownsRow base e 1 v n xs) :
    ∃ A cap, v = .slice A n cap ∧ n ≤ cap ∧ cap ≤ 9223372036854775807 ∧ (∀ g, w.heap.size ≤ g ∨ g < base → Reads w g A n xs) := by
  have hl : xs.length = n := by have := h.1; omega
  rcases h.2 with ⟨rfl, rfl⟩ | ⟨b, cap, cur, rfl, hb, hh, hnc, hcm, _⟩
  · obtain rfl := List.eq_nil_of_length_eq_zero hl
    exact ⟨none, 0, rfl, Nat.le_refl _, by omega, fun g _ => Reads.none_⟩
  · have hlt : b < w.heap.size := by
      rcases Nat.lt_or_ge b w.heap.size with hlt | hge
      · exact hlt
      · rw [Array.getElem?_eq_none hge] at hh; cases hh
    exact ⟨some ⟨b, 0, none⟩, cap, rfl, hnc, by unfold maxLen at hcm; omega, fun g hg => ⟨hl, fun _ => ⟨_, rfl, hlt, by show b ≠ g; omega, h.cells rfl⟩⟩⟩

/-- a list of slots is handed back, in memory of its own -/
def Listed (L : List Nat) (w : World) (e : Ending) (w' : World) : Prop :=
  Below w.heap.size w w' ∧ ∃ A c, e = .returned (.slice A L.length c) ∧ L.length ≤ c ∧ c ≤ 9223372036854775807 ∧ ∀ g, w'.heap.size ≤ g ∨ g < w.heap.size → Reads w' g A L.length (ints L)

set_option maxRecDepth 100000 in
set_option maxHeartbeats 1000000 in
theorem list_any (s : Nat) (hs : s < 18446744073709551616) (w : World) : Calls Tryz.prog 42 #[.int .u64 (s : Int)] w (Listed (slotsTo s 64) w) := by
  obtain ⟨i0, hi0, hz0, hz1, hz2⟩ := info_parts int_info
  have HI : Hid (Tryz.prog.info? 3 = some i0) := hi0
  have HZ0 := Lib.hid hz0
  have HZ1 := Lib.hid hz1
  have HZ2 := Lib.hid hz2
  clear hi0 hz0 hz1 hz2
  go_enter Tryz.func42, Tryz.ntmps42
  go_wp2
  go_loopw [3, 5] (fun va i wr => ∃ k : Nat, k ≤ 64 ∧ i = .int .i64 k ∧ Below w.heap.size w wr ∧ wr.ownsRow w.heap.size 3 1 va (slotsTo s k).length (ints (slotsTo s k))) (fun _ i _ => 64 - (intOf i).toNat)
  case atStart => exact ⟨0, by omega, rfl, Below.refl _ _, rfl, .inl ⟨rfl, rfl⟩⟩
  case round =>
    obtain ⟨k, hk, rfl, hb, hown⟩ := hrel
    have hle := slotsTo_le s k
    by_cases hlt : k < 64
    · have HH := Lib.hid (has_at (s := s) hlt)
      by_cases hbit : s.testBit k = true
      · have HS := Lib.hid (slotsTo_yes hbit)
        have HB := Lib.hid hbit
        clear hbit
        have hbs := hb.size
        generalize slotsTo s k = F at *
        go_wp2_with (fail)
        refine (has_any s hs (k : Int) _).mono ?_
        rintro e w2 ⟨rfl, rfl⟩
        rw [HH.out, HB.out]
        go_wp2_with (at_builtin; refine wpList_append_own _ rfl _ _ 53 rfl w.heap.size 3 i0 (.int .i64 0) 1 8 Tryz.underlying53 HI.out HZ0.out HZ1.out HZ2.out rfl (by decide) _ _ _ rfl (hown.alloc _) ⟨wr.heap.size, 0, none⟩ 1 1 [.int .i64 (k : Int)] rfl rfl (cell_one_new _ _ _) (by simp [Value.oneCell']) (by unfold maxLen; omega) (by omega) (by simp; omega) ?_; intro v' w3 hown' hg3 _)
        have hb3 : Below w.heap.size w w3 := (hb.alloc hbs _).grown hg3 (by simp; omega) (fun g e => (hown.lt g e).1)
        go_wp2
        go_roundw
        case rel => exact ⟨k + 1, by omega, by go_num, hb3, by rw [HS.out, ints_append]; simpa [ints] using hown'⟩
        case measure => simp [intOf]; omega
      · have hbit' : s.testBit k = false := by simpa using hbit
        have HS := Lib.hid (slotsTo_no hbit')
        have HB := Lib.hid hbit'
        clear hbit hbit'
        generalize slotsTo s k = F at *
        go_wp2_with (fail)
        refine (has_any s hs (k : Int) _).mono ?_
        rintro e w2 ⟨rfl, rfl⟩
        rw [HH.out, HB.out]
        go_wp2
        go_roundw
        case rel => exact ⟨k + 1, by omega, by go_num, hb, by rw [HS.out]; exact hown⟩
        case measure => simp [intOf]; omega
    · obtain rfl : k = 64 := by omega
      generalize slotsTo s 64 = F at *
      obtain ⟨A, c, rfl, hnc, hcm, hr⟩ := own_reads hown
      go_wp2
      go_ret
      exact ⟨hb, A, c, rfl, hnc, hcm, hr⟩
end Go.Proofs.YtmjbacmaafbdlaaGreatDoor.C

/-
  WHAT IS PROVED: the contract of Claim. Condition: none.
-/
namespace Go.Proofs.YtmjbacmaafbdlaaGreatDoor.C
open Go.RowKit

/-- a table, a set and an error are handed back; nothing that was there has turned -/
def Gives (T : Tab) (n : Nat) (f : Int) (w : World) (e : Ending) (w' : World) : Prop := e = .returned (.tuple #[.agg (tb T), .int .u64 (n : Int), .int .i64 f]) ∧ Below w.heap.size w w'

theorem ints_at {l : List Nat} {k m : Nat} (h : l[k]? = some m) : (ints l)[k]? = some (.int .i64 (m : Int)) := by simp [ints, h]

/-- a box of one's own and a new result, behind a call -/
theorem two_tabs {w w1 : World} {t u : Tab} (hb1 : Below ((w.alloc (.cells (tb t) 28)).alloc (.cells (tb u) 28)).heap.size ((w.alloc (.cells (tb t) 28)).alloc (.cells (tb u) 28)) w1) :
    TabAt w1 w.heap.size t ∧ TabAt w1 (w.heap.size + 1) u ∧ Below w.heap.size w w1 ∧ w.heap.size + 1 < w1.heap.size := by
  have h1 : TabAt w1 (w.heap.size + 1) u := (show TabAt ((w.alloc (.cells (tb t) 28)).alloc (.cells (tb u) 28)) (w.heap.size + 1) u by
    have := TabAt.new (w.alloc (.cells (tb t) 28)) u
    simpa using this).later hb1
  exact ⟨((TabAt.new w t).alloc _).later hb1, h1, (((Below.refl _ w).alloc (Nat.le_refl _) _).alloc (by simp) _).trans (hb1.mono (by simp; omega)), h1.lt⟩

set_option maxRecDepth 100000 in
set_option maxHeartbeats 2000000 in
theorem claim_no (t : Tab) (id ep : Int) (s : Nat) (h : goodB t id ep = false) (w : World) :
    Calls Tryz.prog 67 #[.agg (tb t), .int .i64 id, .int .i64 ep, .int .u64 (s : Int)] w (Gives Tab.zero 0 10 w) := by
  have HT : Hid (TabAt ((w.alloc (.cells (tb t) 28)).alloc (.cells (tb Tab.zero) 28)) w.heap.size t) := Lib.hid ((TabAt.new w t).alloc _)
  obtain ⟨b1, B1⟩ : ∃ b, Hid (okB t = b) := ⟨_, Lib.hid rfl⟩
  obtain ⟨b2, B2⟩ : ∃ b, Hid (betB 1 4294967296 id = b) := ⟨_, Lib.hid rfl⟩
  obtain ⟨b3, B3⟩ : ∃ b, Hid (betB 0 281474976710656 ep = b) := ⟨_, Lib.hid rfl⟩
  have HG : Hid ((b1 && (b2 && b3)) = false) := Lib.hid (by rw [← B1.out, ← B2.out, ← B3.out]; exact h)
  clear h
  go_enter Tryz.func67, Tryz.ntmps67
  go_wp2_with (first | refine at_alloc rfl ?_ | refine at_load rfl HT.out rfl ?_)
  refine (right_any t _).mono ?_
  rintro e w1 ⟨rfl, hb1⟩
  obtain ⟨_, k2, hb2, _⟩ := two_tabs hb1
  have K2 := Lib.hid k2
  have HB2 := Lib.hid hb2
  clear hb1 k2 hb2
  rw [B1.out]
  cases b1
  · go_wp2_with (first | refine at_build rfl ?_ | refine at_store rfl rfl K2.out rfl ?_)
    exact bodyPost_ret (results_tab3 rfl _ _ (w.heap.size + 1) Tab.zero rfl (K2.out.store _)) rfl ⟨rfl, below_row HB2.out (by omega) _⟩
  · go_wp2_with (fail)
    refine (isid_any id _).mono ?_
    rintro e w2 ⟨rfl, rfl⟩
    rw [B2.out]
    cases b2
    · go_wp2_with (first | refine at_build rfl ?_ | refine at_store rfl rfl K2.out rfl ?_)
      exact bodyPost_ret (results_tab3 rfl _ _ (w.heap.size + 1) Tab.zero rfl (K2.out.store _)) rfl ⟨rfl, below_row HB2.out (by omega) _⟩
    · go_wp2_with (fail)
      refine (isepoch_any ep _).mono ?_
      rintro e w2 ⟨rfl, rfl⟩
      rw [B3.out]
      cases b3
      · go_wp2_with (first | refine at_build rfl ?_ | refine at_store rfl rfl K2.out rfl ?_)
        exact bodyPost_ret (results_tab3 rfl _ _ (w.heap.size + 1) Tab.zero rfl (K2.out.store _)) rfl ⟨rfl, below_row HB2.out (by omega) _⟩
      · exact absurd HG.out (by decide)

theorem _root_.Go.Proofs.YtmjbacmaafbdlaaGreatDoor.Reads.set {w : World} {g n : Nat} {A : Option Addr} {xs : List Value} (h : Reads w g A n xs) (i : Nat) (u : Value) : Reads (w.setCell ⟨g, i, none⟩ u) g A n xs :=
  h.only (only_setCell (World.grownBy.refl _ _) (.inl rfl) u)
theorem max_if (a b : Int) : (if a < b then b else a) = max a b := by split <;> omega
theorem drewN_tab {w : World} {b : Nat} {t : Tab} (h : TabAt w b t) (n : Nat) : TabAt (w.drewN n) b t := h

set_option maxRecDepth 100000 in
set_option maxHeartbeats 2000000 in
theorem claim_yes (t : Tab) (id ep : Int) (s : Nat) (hs : s < 18446744073709551616) (h : goodB t id ep = true) (w : World) :
    Calls Tryz.prog 67 #[.agg (tb t), .int .i64 id, .int .i64 ep, .int .u64 (s : Int)] w (Gives (claimP t id ep s.testBit) (takenP t id ep s.testBit) 0 w) := by
  have HT : Hid (TabAt ((w.alloc (.cells (tb t) 28)).alloc (.cells (tb Tab.zero) 28)) w.heap.size t) := Lib.hid ((TabAt.new w t).alloc _)
  have B1 : Hid (okB t = true) := Lib.hid (good_iff.1 h).1
  have B2 : Hid (betB 1 4294967296 id = true) := Lib.hid (bet_iff.2 (good_iff.1 h).2.1)
  have B3 : Hid (betB 0 281474976710656 ep = true) := Lib.hid (bet_iff.2 (good_iff.1 h).2.2)
  have HE := Lib.hid (tb_congr (claim_all (t := t) (id := id) (ep := ep) hs))
  have HN := Lib.hid (taken_all (t := t) (id := id) (ep := ep) hs)
  have HLT : Hid (∀ i, i ∈ slotsTo s 64 → i < 64) := Lib.hid fun i hi => (slotsTo_mem.1 hi).1
  have HND := Lib.hid (slotsTo_nodup s 64)
  have HLE := Lib.hid (slotsTo_le s 64)
  clear h
  go_enter Tryz.func67, Tryz.ntmps67
  go_wp2_with (first | refine at_alloc rfl ?_ | refine at_load rfl HT.out rfl ?_)
  refine (right_any t _).mono ?_
  rintro e w1 ⟨rfl, hb1⟩
  obtain ⟨k1, k2, hb2, hlt2⟩ := two_tabs hb1
  have K1 := Lib.hid k1
  have K2 := Lib.hid k2
  have HB2 := Lib.hid hb2
  have HLT2 := Lib.hid hlt2
  clear hb1 k1 k2 hb2 hlt2
  rw [B1.out]
  go_wp2_with (fail)
  refine (isid_any id _).mono ?_
  rintro e w2 ⟨rfl, rfl⟩
  rw [B2.out]
  go_wp2_with (fail)
  refine (isepoch_any ep _).mono ?_
  rintro e w2 ⟨rfl, rfl⟩
  rw [B3.out]
  go_wp2_with (first | refine at_load rfl K1.out rfl ?_ | refine at_store rfl rfl K2.out rfl ?_)
  refine (list_any s hs _).mono ?_
  rintro e w2 ⟨hb3, A, c, rfl, hnc, hcm, hr⟩
  have K3 := Lib.hid (((K1.out.row_far (by omega) (tb t)) : TabAt (w1.setRow (w.heap.size + 1) (tb t)) w.heap.size t).later hb3)
  have L3 := Lib.hid ((K2.out.store t).later hb3)
  have HB3 := Lib.hid ((below_row HB2.out (Nat.le_succ _) (tb t)).trans (hb3.mono (by rw [size_setRow]; exact HB2.out.size)))
  have HR3 := Lib.hid (hr (w.heap.size + 1) (.inr (by rw [size_setRow]; exact HLT2.out)))
  clear hb3 hr
  generalize slotsTo s 64 = L at *
  go_wp2
  go_loopw [9, 33] (fun q i wr => ∃ k : Nat, k ≤ L.length ∧ i = .int .i64 k ∧ q = .int .u64 ((takenL t id ep (L.take k) : Nat) : Int) ∧ Hid (Below w.heap.size w wr) ∧ Hid (TabAt wr w.heap.size t) ∧ Hid (TabAt wr (w.heap.size + 1) (claimP t id ep fun i => decide (i ∈ L.take k))) ∧ Hid (Reads wr (w.heap.size + 1) A L.length (ints L))) (fun _ i _ => L.length - (intOf i).toNat)
  case atStart =>
    exact ⟨0, by omega, rfl, rfl, HB3, K3, Lib.hid (L3.out.like (claim_none t id ep)), HR3⟩
  case round =>
    obtain ⟨k, hk, rfl, rfl, hb, hT, hU, hR⟩ := hrel
    by_cases hlt : k < L.length
    · obtain ⟨ad, u, rfl, hu, hc⟩ := hR.out.at_ hlt
      obtain ⟨m, hm⟩ : ∃ m, L[k]? = some m := ⟨L[k], List.getElem?_eq_getElem hlt⟩
      rw [ints_at hm] at hu
      injection hu with hu
      subst hu
      have hm64 := HLT.out m (List.mem_of_getElem? hm)
      have hm0 : (0 : Int) ≤ m := by omega
      have hm1 : (m : Int) < 64 := by omega
      have HS := Lib.hid (take_snoc hm)
      have HM := Lib.hid (not_ahead HND.out hm)
      have HTL : Hid (takenL t id ep (L.take k) < 18446744073709551616) := Lib.hid (taken_lt fun i hi => HLT.out i (List.mem_of_mem_take hi))
      have hO := hT.out.o hm64
      have hE := hT.out.e hm64
      go_wp2
      go_quiet (fail)
      have HB4 := Lib.hid (below_drewN hb.out nq)
      have HT4 := Lib.hid (drewN_tab hT.out nq)
      have HU4 := Lib.hid (drewN_tab hU.out nq)
      have HR4 : Hid (Reads (wr.drewN nq) (w.heap.size + 1) (some ad) L.length (ints L)) := Lib.hid hR.out
      generalize wr.drewN nq = w4 at *
      clear hb hT hU hR hc hO hE
      have f0 := fun x => HU4.out.fz x
      obtain ⟨v0, hv0⟩ : ∃ v, w4.cell? ⟨w.heap.size + 1, m, none⟩ = some v := ⟨_, HU4.out.o hm64⟩
      obtain ⟨v1, hv1⟩ : ∃ v, w4.cell? ⟨w.heap.size + 1, 64 + m, none⟩ = some v := ⟨_, HU4.out.e hm64⟩
      have HTO : Hid (t.o m = t.o m) := rfl
      by_cases hown : t.o m = id
      · have HN1 := Lib.hid (taken_no (l := L.take k) (took_no.2 (.inl hown) : tookB t id ep m = false))
        have HC1 := Lib.hid (claim_own (ep := ep) HM.out hown)
        rw [← max_if] at HC1
        have hq : (t.o m == id) = true := by simpa using hown
        clear hown
        go_wp2
        go_roundw
        case rel => exact ⟨k + 1, by omega, by go_num, by rw [HS.out, HN1.out], Lib.hid (below_set HB4.out (p := ⟨w.heap.size + 1, 64 + m, none⟩) (Nat.le_succ _) _), Lib.hid (HT4.out.far (p := ⟨w.heap.size + 1, 64 + m, none⟩) (by show w.heap.size ≠ w.heap.size + 1; omega) _), Lib.hid (by rw [HS.out]; exact (HU4.out.setE hm64 _).like HC1.out), Lib.hid (HR4.out.set _ _)⟩
        case measure => simp [intOf]; omega
      · have hq : (t.o m == id) = false := by simpa using hown
        by_cases htk : tookB t id ep m = true
        · have HN1 := Lib.hid (taken_yes (l := L.take k) htk)
          have HO1 := Lib.hid (or_int HTL.out hm64)
          have HC1 := Lib.hid (claim_take (l := L.take k) htk)
          have hcase := (took_iff.1 htk).2
          clear hown htk
          by_cases hz : t.o m = 0
          · have hz1 : (t.o m == 0) = true := by simpa using hz
            clear hz hcase
            go_wp2_with (fail)
            refine (one_any m hm64 _).mono ?_
            rintro e w5 ⟨rfl, rfl⟩
            have HO2 := HO1.out
            go_wp2
            go_roundw
            case rel => exact ⟨k + 1, by omega, by go_num, by rw [HS.out, HN1.out], Lib.hid (below_set (below_set HB4.out (p := ⟨w.heap.size + 1, m, none⟩) (Nat.le_succ _) _) (p := ⟨w.heap.size + 1, 64 + m, none⟩) (Nat.le_succ _) _), Lib.hid ((HT4.out.far (p := ⟨w.heap.size + 1, m, none⟩) (by show w.heap.size ≠ w.heap.size + 1; omega) _).far (p := ⟨w.heap.size + 1, 64 + m, none⟩) (by show w.heap.size ≠ w.heap.size + 1; omega) _), Lib.hid (by rw [HS.out]; exact ((HU4.out.setO hm64 _).setE hm64 _).like HC1.out), Lib.hid ((HR4.out.set _ _).set _ _)⟩
            case measure => simp [intOf]; omega
          · have hz1 : (t.o m == 0) = false := by simpa using hz
            have hz2 : t.e m < ep := by omega
            clear hz hcase
            go_wp2_with (fail)
            refine (one_any m hm64 _).mono ?_
            rintro e w5 ⟨rfl, rfl⟩
            have HO2 := HO1.out
            go_wp2
            go_roundw
            case rel => exact ⟨k + 1, by omega, by go_num, by rw [HS.out, HN1.out], Lib.hid (below_set (below_set HB4.out (p := ⟨w.heap.size + 1, m, none⟩) (Nat.le_succ _) _) (p := ⟨w.heap.size + 1, 64 + m, none⟩) (Nat.le_succ _) _), Lib.hid ((HT4.out.far (p := ⟨w.heap.size + 1, m, none⟩) (by show w.heap.size ≠ w.heap.size + 1; omega) _).far (p := ⟨w.heap.size + 1, 64 + m, none⟩) (by show w.heap.size ≠ w.heap.size + 1; omega) _), Lib.hid (by rw [HS.out]; exact ((HU4.out.setO hm64 _).setE hm64 _).like HC1.out), Lib.hid ((HR4.out.set _ _).set _ _)⟩
            case measure => simp [intOf]; omega
        · have htk' : tookB t id ep m = false := by simpa using htk
          have HN1 := Lib.hid (taken_no (l := L.take k) htk')
          have HC1 := Lib.hid (claim_leave HM.out htk' hown)
          have h2 := took_no.1 htk'
          have hz1 : (t.o m == 0) = false := by simp; omega
          have hz2 : decide (t.e m < ep) = false := by simp; omega
          clear hown htk htk' h2
          go_wp2
          go_roundw
          case rel => exact ⟨k + 1, by omega, by go_num, by rw [HS.out, HN1.out], HB4, HT4, Lib.hid (by rw [HS.out]; exact HU4.out.like HC1.out), HR4⟩
          case measure => simp [intOf]; omega
    · obtain rfl : k = L.length := by omega
      have e := List.take_length (l := L)
      rw [e] at hU
      rw [e, HN.out]
      have HU5 : Hid (TabAt wr (w.heap.size + 1) (claimP t id ep s.testBit)) := Lib.hid (by unfold TabAt; rw [← HE.out]; exact hU.out)
      clear e
      go_wp2_with (first | refine at_load rfl HU5.out rfl ?_ | refine at_store rfl rfl HU5.out rfl ?_)
      exact bodyPost_ret (results_tab3 rfl _ _ (w.heap.size + 1) _ rfl (HU5.out.store _)) rfl ⟨rfl, below_row hb.out (Nat.le_succ _) _⟩
end Go.Proofs.YtmjbacmaafbdlaaGreatDoor.C
