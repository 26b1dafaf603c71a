/-
  WHAT IS PROVED: tables in memory (a variable of type Table, read and written as a whole and slot by slot), arguments of the types Table and Claim, '==' of two tables. No condition.
-/
import Derived.Test.YtngammeppiadgaaGreatDoorCInts
import Derived.Deep.MidRow
import Derived.Laws.StructEq
import Derived.Laws.ResultCell
import Derived.Laws.CopyOwn
import Derived.Deep.WholeRow
import Derived.Deep.QuietTactic
import Derived.Deep.Strs
import Derived.Lib.LaidTab
import Derived.OpenShut
import Derived.OpenVars
namespace Go.Proofs.YtngammeppiadgaaGreatDoor.C
set_option maxRecDepth 100000
open Go.RowKit Go.ChangeShapes Go.WideShapes Go.ChangeAt Go.WideElems

/-- who has each slot, and by which epoch -/
structure Tab where
  o : Nat → Int
  e : Nat → Int
def Tab.zero : Tab := ⟨fun _ => 0, fun _ => 0⟩
def row (f : Nat → Int) : List Value := (List.range 64).map fun i => Value.int .i64 (f i)
theorem row_len (f : Nat → Int) : (row f).length = 64 := by simp [row]
theorem row_at (f : Nat → Int) {i : Nat} (h : i < 64) : (row f)[i]? = some (.int .i64 (f i)) := by simp [row, h]
theorem row_congr {f g : Nat → Int} (h : ∀ i, i < 64 → f i = g i) : row f = row g := by
  unfold row
  refine List.map_congr_left fun i hi => ?_
  rw [h i (by simpa using hi)]
theorem row_mem {f : Nat → Int} {v : Value} (h : v ∈ row f) : ∃ z, v = .int .i64 z := by
  unfold row at h
  obtain ⟨i, _, rfl⟩ := List.mem_map.1 h
  exact ⟨_, rfl⟩
/-- a table's cells -/
def tb (t : Tab) : Array Value := (row t.o ++ row t.e).toArray
theorem tb_size (t : Tab) : (tb t).size = 128 := by simp [tb, row_len]
theorem tb_o (t : Tab) {i : Nat} (h : i < 64) : (tb t)[i]? = some (.int .i64 (t.o i)) := by
  simp only [tb, List.getElem?_toArray]
  rw [List.getElem?_append_left (by rw [row_len]; exact h), row_at _ h]
theorem tb_e (t : Tab) {i : Nat} (h : i < 64) : (tb t)[64 + i]? = some (.int .i64 (t.e i)) := by
  simp only [tb, List.getElem?_toArray]
  rw [List.getElem?_append_right (by rw [row_len]; omega), row_len, show 64 + i - 64 = i by omega, row_at _ h]
def same (t u : Tab) : Prop := ∀ i, i < 64 → t.o i = u.o i ∧ t.e i = u.e i
theorem tb_congr {t u : Tab} (h : same t u) : tb t = tb u := by
  unfold tb; rw [row_congr fun i hi => (h i hi).1, row_congr fun i hi => (h i hi).2]
theorem tb_inj {t u : Tab} (h : tb t = tb u) : same t u := fun i hi => by
  have h1 : (tb t)[i]? = (tb u)[i]? := by rw [h]
  have h2 : (tb t)[64 + i]? = (tb u)[64 + i]? := by rw [h]
  rw [tb_o t hi, tb_o u hi] at h1
  rw [tb_e t hi, tb_e u hi] at h2
  injection h1 with h1; injection h1 with _ h1
  injection h2 with h2; injection h2 with _ h2
  exact ⟨h1, h2⟩
theorem tb_cells (t : Tab) : (tb t).all (·.oneCell') = true := by
  rw [Array.all_eq_true_iff_forall_mem]
  intro x hx
  simp only [tb, List.mem_toArray, List.mem_append] at hx
  rcases hx with hx | hx <;> (obtain ⟨z, rfl⟩ := row_mem hx; rfl)
def setO (t : Tab) (k : Nat) (x : Int) : Tab := ⟨fun i => if i = k then x else t.o i, t.e⟩
def setE (t : Tab) (k : Nat) (x : Int) : Tab := ⟨t.o, fun i => if i = k then x else t.e i⟩
theorem tb_out (t : Tab) {i : Nat} (h : 128 ≤ i) : (tb t)[i]? = none := Array.getElem?_eq_none (by rw [tb_size]; exact h)
theorem tb_setO (t : Tab) {k : Nat} (hk : k < 64) (x : Int) : (tb t).setIfInBounds k (.int .i64 x) = tb (setO t k x) := by
  apply Array.ext_getElem?
  intro i
  rw [Array.getElem?_setIfInBounds, tb_size]
  by_cases h : k = i
  · subst h
    rw [if_pos rfl, if_pos (by omega), tb_o _ hk]; simp [setO]
  · rw [if_neg h]
    rcases Nat.lt_or_ge i 64 with h1 | h1
    · rw [tb_o _ h1, tb_o _ h1]; simp [setO, show ¬ i = k from fun e => h e.symm]
    · rcases Nat.lt_or_ge i 128 with h2 | h2
      · obtain ⟨j, rfl⟩ : ∃ j, i = 64 + j := ⟨i - 64, by omega⟩
        rw [tb_e _ (by omega), tb_e _ (by omega)]; rfl
      · rw [tb_out _ h2, tb_out _ h2]
theorem tb_setE (t : Tab) {k : Nat} (hk : k < 64) (x : Int) : (tb t).setIfInBounds (64 + k) (.int .i64 x) = tb (setE t k x) := by
  apply Array.ext_getElem?
  intro i
  rw [Array.getElem?_setIfInBounds, tb_size]
  by_cases h : 64 + k = i
  · subst h
    rw [if_pos rfl, if_pos (by omega), tb_e _ hk]; simp [setE]
  · rw [if_neg h]
    rcases Nat.lt_or_ge i 64 with h1 | h1
    · rw [tb_o _ h1, tb_o _ h1]; rfl
    · rcases Nat.lt_or_ge i 128 with h2 | h2
      · obtain ⟨j, rfl⟩ : ∃ j, i = 64 + j := ⟨i - 64, by omega⟩
        rw [tb_e _ (by omega), tb_e _ (by omega)]; simp [setE, show ¬ j = k by omega]
      · rw [tb_out _ h2, tb_out _ h2]

theorem tab_size (t : Tab) : (Tryz.prog.info? 27).map (·.size) = some (tb t).size := by rw [tb_size]; kernel_rfl
theorem arr_size (f : Nat → Int) : (Tryz.prog.info? 25).map (·.size) = some (row f).length := by rw [row_len]; kernel_rfl
theorem zero_cells : (Tryz.prog.info? 27).map (fun i => (i.zero, i.size)) = some (some (.agg (tb Tab.zero)), 128) := by kernel_rfl

/-- a variable of type Table -/
def TabAt (w : World) (b : Nat) (t : Tab) : Prop := Blk w b 27 (tb t)
section
variable {w w' : World} {b : Nat} {t : Tab}
theorem TabAt.new (w : World) (t : Tab) : TabAt (w.alloc (.cells (tb t) 27)) w.heap.size t := Blk.new _ _ _
theorem TabAt.lt (h : TabAt w b t) : b < w.heap.size := Blk.lt h
theorem TabAt.later (h : TabAt w b t) (hb : Below w.heap.size w w') : TabAt w' b t := Blk.below h hb h.lt
theorem TabAt.below {B : Nat} (h : TabAt w b t) (hb : Below B w w') (hlt : b < B) : TabAt w' b t := Blk.below h hb hlt
theorem TabAt.alloc (h : TabAt w b t) (o : Obj) : TabAt (w.alloc o) b t := Blk.alloc h o
theorem TabAt.drew (h : TabAt w b t) : TabAt w.drew b t := h
theorem TabAt.far (h : TabAt w b t) {p : Addr} (hp : b ≠ p.block) (u : Value) : TabAt (w.setCell p u) b t := Blk.far h hp u
theorem TabAt.fz (h : TabAt w b t) (i : Nat) : w.frozen? ⟨b, i, none⟩ = false := Blk.frozen h i
theorem TabAt.o (h : TabAt w b t) {i : Nat} (hi : i < 64) : w.cell? ⟨b, i, none⟩ = some (.int .i64 (t.o i)) := (Blk.cell h i).trans (tb_o t hi)
theorem TabAt.e (h : TabAt w b t) {i : Nat} (hi : i < 64) : w.cell? ⟨b, 64 + i, none⟩ = some (.int .i64 (t.e i)) := (Blk.cell h (64 + i)).trans (tb_e t hi)
theorem TabAt.setO (h : TabAt w b t) {k : Nat} (hk : k < 64) (x : Int) : TabAt (w.setCell ⟨b, k, none⟩ (.int .i64 x)) b (setO t k x) := by
  unfold TabAt; rw [← tb_setO t hk]; exact Blk.set_ h k _
theorem TabAt.setE (h : TabAt w b t) {k : Nat} (hk : k < 64) (x : Int) : TabAt (w.setCell ⟨b, 64 + k, none⟩ (.int .i64 x)) b (setE t k x) := by
  unfold TabAt; rw [← tb_setE t hk]; exact Blk.set_ h (64 + k) _
theorem TabAt.store (h : TabAt w b t) (u : Tab) : TabAt (w.setRow b (tb u)) b u := setRow_heap w b _ _ _ _ h
theorem TabAt.row_far (h : TabAt w b t) {g : Nat} (hg : b ≠ g) (cs : Array Value) : TabAt (w.setRow g cs) b t := (setRow_other w g b cs hg).trans h
theorem TabAt.like {u : Tab} (h : TabAt w b t) (hs : same t u) : TabAt w b u := by unfold TabAt; rw [← tb_congr hs]; exact h
end
theorem setRow_self {w : World} {b : Nat} {t : Tab} (h : TabAt w b t) : w.setRow b (tb t) = w := by
  unfold World.setRow
  cases w with
  | mk heap tape drawn os output =>
    congr 1
    apply Array.ext_getElem?
    intro i
    rw [Array.getElem?_modify]
    by_cases hi : b = i
    · subst hi
      have h' : heap[b]? = some (.cells (tb t) 27 (0, 0)) := h
      rw [if_pos rfl, h']; rfl
    · rw [if_neg hi]
theorem below_row {B : Nat} {w w' : World} (h : Below B w w') {g : Nat} (hg : B ≤ g) (cs : Array Value) : Below B w (w'.setRow g cs) := below_setRow h hg cs
theorem below_set {B : Nat} {w w' : World} (h : Below B w w') {p : Addr} (hp : B ≤ p.block) (u : Value) : Below B w (w'.setCell p u) :=
  ⟨h.os, h.tape, h.output, by simpa [World.setCell] using h.size, fun i hi => (Below.heap_setCell w' p u i (by omega)).trans (h.block i hi)⟩
theorem below_new {B : Nat} {w w1 : World} (h : Below B w w1) (hB : B ≤ w1.heap.size) (o : Obj) : Below B w (w1.alloc o) := h.alloc hB o

/-! ### the operations on a whole table -/
section
variable {ops : Array Oper} {rest : List Oper} {Q : Exit → Act → World → Prop} {a : Act} {w : World} {dst : Option Tmp} {ty : TypeId} {pos : String} {after : Array Edge} {g : Option (Nat × Bool)} {x y : Operand} {b : Nat} {t u : Tab}
theorem at_want {o : Oper} (hw : Region.wanted o (yielded ops a.tmps) = true) (h : ∀ K : Act → World → Prop, (∀ a w, wpList Tryz.prog ops Q rest a w → K a w) → o.wp Tryz.prog a w K Q) : wpList Tryz.prog ops Q (o :: rest) a w :=
  wpList_step fun K hK => by rw [if_pos hw]; exact h K hK
theorem at_load (hx : a.eval x = .pointer (some ⟨b, 0, none⟩)) (hT : TabAt w b t) (hw : Region.wanted ⟨dst, .load 27 x, ty, pos, after, g⟩ (yielded ops a.tmps) = true)
    (h : wpList Tryz.prog ops Q rest (a.put dst (.agg (tb t))) w) : wpList Tryz.prog ops Q (⟨dst, .load 27 x, ty, pos, after, g⟩ :: rest) a w :=
  at_want hw fun _ hK => wp_load_row 27 x rfl b hx _ (tb t) (0, 0) _ hT Tryz.underlying27 rfl (tab_size t) (hK _ _ h)
theorem at_store (hx : a.eval x = .pointer (some ⟨b, 0, none⟩)) (hy : a.eval y = .agg (tb u)) (hT : TabAt w b t) (hw : Region.wanted ⟨dst, .store 27 x y, ty, pos, after, g⟩ (yielded ops a.tmps) = true)
    (h : wpList Tryz.prog ops Q rest (a.put dst undef) (w.setRow b (tb u))) : wpList Tryz.prog ops Q (⟨dst, .store 27 x y, ty, pos, after, g⟩ :: rest) a w :=
  at_want hw fun _ hK => wp_store_row 27 x y rfl b (tb u) hx hy _ (tb t) hT (tab_size u) (by rw [tb_size, tb_size]) (tb_cells u) (hK _ _ h)
theorem wp_alloc_tab {o : Oper} {K : Act → World → Prop} (ho : o.op = .alloc 27) (h : K (a.put o.dst (.pointer (some ⟨w.heap.size, 0, none⟩))) (w.alloc (.cells (tb Tab.zero) 27))) : o.wp Tryz.prog a w K Q := by
  have hz := (zero_of_info zero_cells).1
  unfold Oper.wp execOp
  simp only [ho, Instr.alloc, newVar, newRow, Sem.run_bind, hz, Result.andThen_ok]
  exact h
theorem at_alloc (hw : Region.wanted ⟨dst, .alloc 27, ty, pos, after, g⟩ (yielded ops a.tmps) = true)
    (h : wpList Tryz.prog ops Q rest (a.put dst (.pointer (some ⟨w.heap.size, 0, none⟩))) (w.alloc (.cells (tb Tab.zero) 27))) : wpList Tryz.prog ops Q (⟨dst, .alloc 27, ty, pos, after, g⟩ :: rest) a w :=
  at_want hw fun _ hK => wp_alloc_tab rfl (hK _ _ h)
/-- a new variable's first value -/
theorem at_store_new (hx : a.eval x = .pointer (some ⟨w.heap.size, 0, none⟩)) (hy : a.eval y = .agg (tb u)) (hw : Region.wanted ⟨dst, .store 27 x y, ty, pos, after, g⟩ (yielded ops a.tmps) = true)
    (h : wpList Tryz.prog ops Q rest (a.put dst undef) (w.alloc (.cells (tb u) 27))) : wpList Tryz.prog ops Q (⟨dst, .store 27 x y, ty, pos, after, g⟩ :: rest) a (w.alloc (.cells (tb t) 27)) :=
  at_store hx hy (TabAt.new w t) hw (by rw [World.setRow_alloc_new]; exact h)
theorem built_zero : Tryz.prog.built 27 [] = some (tb Tab.zero) := by kernel_rfl
theorem at_build (hw : Region.wanted ⟨dst, .build 27 #[], ty, pos, after, g⟩ (yielded ops a.tmps) = true)
    (h : wpList Tryz.prog ops Q rest (a.put dst (.agg (tb Tab.zero))) w) : wpList Tryz.prog ops Q (⟨dst, .build 27 #[], ty, pos, after, g⟩ :: rest) a w :=
  at_want hw fun _ hK => by
    have hk := hK _ _ h
    refine wp_build 27 #[] rfl ?_ ?_
    · simp [built_zero]
    · simpa [built_zero] using hk
theorem row_range {f : Nat → Int} {off : Nat} (h : ∀ i, i < 64 → w.cell? ⟨b, off + i, none⟩ = some (.int .i64 (f i))) : w.rangeAt b off (row f) := fun j v hv => by
  have hj : j < 64 := by
    have := (List.getElem?_eq_some_iff.1 hv).1
    rwa [row_len] at this
  rw [row_at f hj] at hv
  injection hv with hv
  rw [h j hj, hv]
theorem at_owners (hx : a.eval x = .pointer (some ⟨b, 0, none⟩)) (hT : TabAt w b t) (hw : Region.wanted ⟨dst, .load 25 x, ty, pos, after, g⟩ (yielded ops a.tmps) = true)
    (h : wpList Tryz.prog ops Q rest (a.put dst (.agg (row t.o).toArray)) w) : wpList Tryz.prog ops Q (⟨dst, .load 25 x, ty, pos, after, g⟩ :: rest) a w :=
  at_want hw fun _ hK => wp_load_mid 25 x rfl b 0 hx (row t.o) _ (row_range fun _ hi => by rw [Nat.zero_add]; exact hT.o hi) Tryz.underlying25 rfl (arr_size _) (hK _ _ h)
theorem at_epochs (hx : a.eval x = .pointer (some ⟨b, 64, none⟩)) (hT : TabAt w b t) (hw : Region.wanted ⟨dst, .load 25 x, ty, pos, after, g⟩ (yielded ops a.tmps) = true)
    (h : wpList Tryz.prog ops Q rest (a.put dst (.agg (row t.e).toArray)) w) : wpList Tryz.prog ops Q (⟨dst, .load 25 x, ty, pos, after, g⟩ :: rest) a w :=
  at_want hw fun _ hK => wp_load_mid 25 x rfl b 64 hx (row t.e) _ (row_range fun _ hi => hT.e hi) Tryz.underlying25 rfl (arr_size _) (hK _ _ h)
end
/-- one element of an array's value -/
theorem index_row (f : Nat → Int) {k : Nat} (hk : k < 64) (w : World) : (Instr.index 25 (.agg (row f).toArray) (.int .i64 (k : Int))).run Tryz.prog w = .ok (.int .i64 (f k)) w := by
  have h1 : (0 : Int) ≤ k := by omega
  simp [Instr.index, asIntOf, run_underlying Tryz.underlying25, h1, hk, part, Tryz.isAgg3, Tryz.sizeOf3, row_at f hk]

/-- a table and two more are handed back -/
theorem results_tab3 {fn : Func} {p u v : Tmp} (h : fn.results = #[.cell p 27, .tmp u, .tmp v]) (tmps : Array Value) (w : World) (b : Nat) (t : Tab)
    (hp : tmps.getD p undef = .pointer (some ⟨b, 0, none⟩)) (hT : TabAt w b t) : (results fn tmps).run Tryz.prog w = .ok (.tuple #[.agg (tb t), tmps.getD u undef, tmps.getD v undef]) w := by
  have hp' : tmps[p]?.getD undef = .pointer (some ⟨b, 0, none⟩) := by simpa using hp
  simp [results, h, hp', asAddr, run_loadVar_row w b 27 27 (tb t) (0, 0) _ hT Tryz.underlying27 rfl (tab_size t), Result.andThen]
theorem results_tab {fn : Func} {p : Tmp} (h : fn.results = #[.cell p 27]) (tmps : Array Value) (w : World) (b : Nat) (t : Tab)
    (hp : tmps.getD p undef = .pointer (some ⟨b, 0, none⟩)) (hT : TabAt w b t) : (results fn tmps).run Tryz.prog w = .ok (.agg (tb t)) w :=
  results_cell_row h _ _ b _ (tb t) (0, 0) _ hp hT Tryz.underlying27 rfl (tab_size t)
end Go.Proofs.YtngammeppiadgaaGreatDoor.C
