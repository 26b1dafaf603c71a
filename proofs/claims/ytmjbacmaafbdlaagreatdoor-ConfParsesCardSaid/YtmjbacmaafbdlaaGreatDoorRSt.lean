/-
  WHAT IS PROVED: variables of the document's type State in memory, read and written as a whole; arrays of 64 ints within. No condition.
-/
import Derived.Test.YtmjbacmaafbdlaaGreatDoorSt
namespace Go.Proofs.YtmjbacmaafbdlaaGreatDoor
set_option maxRecDepth 100000
open Go.RowKit Go.ChangeShapes Go.WideShapes Go.ChangeAt Go.WideElems C

theorem rt_info : (Tryz.prog.info? 36).map (·.size) = some 134 := by kernel_rfl
theorem rt_size (s : Sv) : (Tryz.prog.info? 36).map (·.size) = some (stv s).size := by rw [stv_size]; exact rt_info
theorem rt_zero : (Tryz.prog.info? 36).map (fun i => (i.zero, i.size)) = some (some (.agg (stv Sv.zero)), 134) := by kernel_rfl

/-- a variable of type State -/
def RAt (w : World) (b : Nat) (s : Sv) : Prop := Blk w b 36 (stv s)
section
variable {w w' : World} {b : Nat} {s : Sv}
theorem RAt.new (w : World) (s : Sv) : RAt (w.alloc (.cells (stv s) 36)) w.heap.size s := Blk.new _ _ _
theorem RAt.lt (h : RAt w b s) : b < w.heap.size := Blk.lt h
theorem RAt.later (h : RAt w b s) (hb : Below w.heap.size w w') : RAt w' b s := Blk.below h hb h.lt
theorem RAt.below {B : Nat} (h : RAt w b s) (hb : Below B w w') (hlt : b < B) : RAt w' b s := Blk.below h hb hlt
theorem RAt.alloc (h : RAt w b s) (o : Obj) : RAt (w.alloc o) b s := Blk.alloc h o
theorem RAt.drew (h : RAt w b s) : RAt w.drew b s := h
theorem RAt.far (h : RAt w b s) {p : Addr} (hp : b ≠ p.block) (u : Value) : RAt (w.setCell p u) b s := Blk.far h hp u
theorem RAt.fz (h : RAt w b s) (i : Nat) : w.frozen? ⟨b, i, none⟩ = false := Blk.frozen h i
theorem RAt.box (h : RAt w b s) : w.cell? ⟨b, 0, none⟩ = some (.int .i64 s.i) ∧ w.cell? ⟨b, 1, none⟩ = some (.int .i64 s.m) ∧ w.cell? ⟨b, 2, none⟩ = some (.int .i64 s.c) ∧ w.cell? ⟨b, 3, none⟩ = some (.int .i64 s.v) ∧
    w.cell? ⟨b, 4, none⟩ = some (.int .i64 s.f) ∧ w.cell? ⟨b, 5, none⟩ = some (.slice s.a s.n s.cap) :=
  ⟨(Blk.cell h 0).trans (stv_0 s), (Blk.cell h 1).trans (stv_1 s), (Blk.cell h 2).trans (stv_2 s), (Blk.cell h 3).trans (stv_3 s), (Blk.cell h 4).trans (stv_4 s), (Blk.cell h 5).trans (stv_5 s)⟩
theorem RAt.range (h : RAt w b s) : w.rangeAt b 6 (tbL s.t) := fun j _ hv => (Blk.cell h (6 + j)).trans ((stv_t s j).trans hv)
theorem RAt.there (h : RAt w b s) : w.there b 6 128 := fun j hj => ⟨by
  rw [Blk.cell h (6 + j), stv_t, List.getElem?_eq_getElem (by rw [tbL_len]; exact hj)]; rfl, Blk.frozen h _⟩
theorem RAt.store (h : RAt w b s) (u : Sv) : RAt (w.setRow b (stv u)) b u := setRow_heap w b _ _ _ _ h
theorem RAt.row_far (h : RAt w b s) {g : Nat} (hg : b ≠ g) (cs : Array Value) : RAt (w.setRow g cs) b s := (setRow_other w g b cs hg).trans h
theorem RAt.cells_far (h : RAt w b s) {g : Nat} (hg : b ≠ g) (o : Nat) (vs : List Value) : RAt (w.setCells g o vs) b s := Blk.setAll_far hg vs o h
theorem RAt.like_ {u : Sv} (h : RAt w b s) (hs : s.like u) : RAt w b u := by unfold RAt; rw [← stv_congr hs]; exact h
end
/-! ### the operations on a whole State -/
section
variable {ops : Array Oper} {rest : List Oper} {Q : Exit → Act → World → Prop} {a : Act} {w : World} {dst : Option Tmp} {ty : TypeId} {pos : String} {after : Array Edge} {g : Option (Nat × Bool)} {x y : Operand} {b : Nat} {s u : Sv} {t : Tab}
theorem rt_load (hx : a.eval x = .pointer (some ⟨b, 0, none⟩)) (hT : RAt w b s) (hw : Region.wanted ⟨dst, .load 36 x, ty, pos, after, g⟩ (yielded ops a.tmps) = true)
    (h : wpList Tryz.prog ops Q rest (a.put dst (.agg (stv s))) w) : wpList Tryz.prog ops Q (⟨dst, .load 36 x, ty, pos, after, g⟩ :: rest) a w :=
  at_want hw fun _ hK => wp_load_row 36 x rfl b hx _ (stv s) (0, 0) _ hT Tryz.underlying36 rfl (rt_size s) (hK _ _ h)
theorem rt_store (hx : a.eval x = .pointer (some ⟨b, 0, none⟩)) (hy : a.eval y = .agg (stv u)) (hT : RAt w b s) (hw : Region.wanted ⟨dst, .store 36 x y, ty, pos, after, g⟩ (yielded ops a.tmps) = true)
    (h : wpList Tryz.prog ops Q rest (a.put dst undef) (w.setRow b (stv u))) : wpList Tryz.prog ops Q (⟨dst, .store 36 x y, ty, pos, after, g⟩ :: rest) a w :=
  at_want hw fun _ hK => wp_store_row 36 x y rfl b (stv u) hx hy _ (stv s) hT (rt_size u) (by rw [stv_size, stv_size]) (stv_cells u) (hK _ _ h)
theorem wp_alloc_rt {o : Oper} {K : Act → World → Prop} (ho : o.op = .alloc 36) (h : K (a.put o.dst (.pointer (some ⟨w.heap.size, 0, none⟩))) (w.alloc (.cells (stv Sv.zero) 36))) : o.wp Tryz.prog a w K Q := by
  have hz := (zero_of_info rt_zero).1
  unfold Oper.wp execOp
  simp only [ho, Instr.alloc, newVar, newRow, Sem.run_bind, hz, Result.andThen_ok]
  exact h
theorem rt_alloc (hw : Region.wanted ⟨dst, .alloc 36, ty, pos, after, g⟩ (yielded ops a.tmps) = true)
    (h : wpList Tryz.prog ops Q rest (a.put dst (.pointer (some ⟨w.heap.size, 0, none⟩))) (w.alloc (.cells (stv Sv.zero) 36))) : wpList Tryz.prog ops Q (⟨dst, .alloc 36, ty, pos, after, g⟩ :: rest) a w :=
  at_want hw fun _ hK => wp_alloc_rt rfl (hK _ _ h)
/-- a new variable's first value -/
theorem rt_store_new (hx : a.eval x = .pointer (some ⟨w.heap.size, 0, none⟩)) (hy : a.eval y = .agg (stv u)) (hw : Region.wanted ⟨dst, .store 36 x y, ty, pos, after, g⟩ (yielded ops a.tmps) = true)
    (h : wpList Tryz.prog ops Q rest (a.put dst undef) (w.alloc (.cells (stv u) 36))) : wpList Tryz.prog ops Q (⟨dst, .store 36 x y, ty, pos, after, g⟩ :: rest) a (w.alloc (.cells (stv s) 36)) :=
  rt_store hx hy (RAt.new w s) hw (by rw [World.setRow_alloc_new]; exact h)
theorem rt_built_zero : Tryz.prog.built 36 [] = some (stv Sv.zero) := by kernel_rfl
theorem rt_build (hw : Region.wanted ⟨dst, .build 36 #[], ty, pos, after, g⟩ (yielded ops a.tmps) = true)
    (h : wpList Tryz.prog ops Q rest (a.put dst (.agg (stv Sv.zero))) w) : wpList Tryz.prog ops Q (⟨dst, .build 36 #[], ty, pos, after, g⟩ :: rest) a w :=
  at_want hw fun _ hK => by
    have hk := hK _ _ h
    refine wp_build 36 #[] rfl ?_ ?_
    · simp [rt_built_zero]
    · simpa [rt_built_zero] using hk
end
/-- a State and one more are handed back -/
theorem results_rt {fn : Func} {p u : Tmp} (h : fn.results = #[.cell p 36, .tmp u]) (tmps : Array Value) (w : World) (b : Nat) (s : Sv)
    (hp : tmps.getD p undef = .pointer (some ⟨b, 0, none⟩)) (hT : RAt w b s) : (results fn tmps).run Tryz.prog w = .ok (.tuple #[.agg (stv s), tmps.getD u undef]) w := by
  have hp' : tmps[p]?.getD undef = .pointer (some ⟨b, 0, none⟩) := by simpa using hp
  simp [results, h, hp', asAddr, run_loadVar_row w b 36 36 (stv s) (0, 0) _ hT Tryz.underlying36 rfl (rt_size s), Result.andThen]
theorem results_rt1 {fn : Func} {p : Tmp} (h : fn.results = #[.cell p 36]) (tmps : Array Value) (w : World) (b : Nat) (s : Sv)
    (hp : tmps.getD p undef = .pointer (some ⟨b, 0, none⟩)) (hT : RAt w b s) : (results fn tmps).run Tryz.prog w = .ok (.agg (stv s)) w :=
  results_cell_row h _ _ b _ (stv s) (0, 0) _ hp hT Tryz.underlying36 rfl (rt_size s)

/-! ### the arrays of a State -/
theorem stv_o (s : Sv) {i : Nat} (h : i < 64) : (stv s)[6 + i]? = some (.int .i64 (s.t.o i)) := by
  rw [stv_t]; unfold tbL; rw [List.getElem?_append_left (by rw [row_len]; exact h), row_at _ h]
theorem stv_e (s : Sv) {i : Nat} (h : i < 64) : (stv s)[70 + i]? = some (.int .i64 (s.t.e i)) := by
  rw [show 70 + i = 6 + (64 + i) by omega, stv_t]; unfold tbL; rw [List.getElem?_append_right (by rw [row_len]; omega), row_len, show 64 + i - 64 = i by omega, row_at _ h]
theorem StAt.o {w : World} {b : Nat} {s : Sv} (h : StAt w b s) {i : Nat} (hi : i < 64) : w.cell? ⟨b, 6 + i, none⟩ = some (.int .i64 (s.t.o i)) := (Blk.cell h _).trans (stv_o s hi)
theorem StAt.e {w : World} {b : Nat} {s : Sv} (h : StAt w b s) {i : Nat} (hi : i < 64) : w.cell? ⟨b, 70 + i, none⟩ = some (.int .i64 (s.t.e i)) := (Blk.cell h _).trans (stv_e s hi)
theorem RAt.o {w : World} {b : Nat} {s : Sv} (h : RAt w b s) {i : Nat} (hi : i < 64) : w.cell? ⟨b, 6 + i, none⟩ = some (.int .i64 (s.t.o i)) := (Blk.cell h _).trans (stv_o s hi)
theorem RAt.e {w : World} {b : Nat} {s : Sv} (h : RAt w b s) {i : Nat} (hi : i < 64) : w.cell? ⟨b, 70 + i, none⟩ = some (.int .i64 (s.t.e i)) := (Blk.cell h _).trans (stv_e s hi)
section
variable {ops : Array Oper} {rest : List Oper} {Q : Exit → Act → World → Prop} {a : Act} {w : World} {dst : Option Tmp} {ty : TypeId} {pos : String} {after : Array Edge} {g : Option (Nat × Bool)} {x : Operand} {b : Nat} {s : Sv}
theorem st_owners (hx : a.eval x = .pointer (some ⟨b, 6, none⟩)) (hT : StAt w b s) (hw : Region.wanted ⟨dst, .load 26 x, ty, pos, after, g⟩ (yielded ops a.tmps) = true)
    (h : wpList Tryz.prog ops Q rest (a.put dst (.agg (row s.t.o).toArray)) w) : wpList Tryz.prog ops Q (⟨dst, .load 26 x, ty, pos, after, g⟩ :: rest) a w :=
  at_want hw fun _ hK => wp_load_mid 26 x rfl b 6 hx (row s.t.o) _ (row_range fun _ hi => hT.o hi) Tryz.underlying26 rfl (arr_size _) (hK _ _ h)
theorem st_epochs (hx : a.eval x = .pointer (some ⟨b, 70, none⟩)) (hT : StAt w b s) (hw : Region.wanted ⟨dst, .load 26 x, ty, pos, after, g⟩ (yielded ops a.tmps) = true)
    (h : wpList Tryz.prog ops Q rest (a.put dst (.agg (row s.t.e).toArray)) w) : wpList Tryz.prog ops Q (⟨dst, .load 26 x, ty, pos, after, g⟩ :: rest) a w :=
  at_want hw fun _ hK => wp_load_mid 26 x rfl b 70 hx (row s.t.e) _ (row_range fun _ hi => hT.e hi) Tryz.underlying26 rfl (arr_size _) (hK _ _ h)
theorem rt_owners (hx : a.eval x = .pointer (some ⟨b, 6, none⟩)) (hT : RAt w b s) (hw : Region.wanted ⟨dst, .load 26 x, ty, pos, after, g⟩ (yielded ops a.tmps) = true)
    (h : wpList Tryz.prog ops Q rest (a.put dst (.agg (row s.t.o).toArray)) w) : wpList Tryz.prog ops Q (⟨dst, .load 26 x, ty, pos, after, g⟩ :: rest) a w :=
  at_want hw fun _ hK => wp_load_mid 26 x rfl b 6 hx (row s.t.o) _ (row_range fun _ hi => hT.o hi) Tryz.underlying26 rfl (arr_size _) (hK _ _ h)
theorem rt_epochs (hx : a.eval x = .pointer (some ⟨b, 70, none⟩)) (hT : RAt w b s) (hw : Region.wanted ⟨dst, .load 26 x, ty, pos, after, g⟩ (yielded ops a.tmps) = true)
    (h : wpList Tryz.prog ops Q rest (a.put dst (.agg (row s.t.e).toArray)) w) : wpList Tryz.prog ops Q (⟨dst, .load 26 x, ty, pos, after, g⟩ :: rest) a w :=
  at_want hw fun _ hK => wp_load_mid 26 x rfl b 70 hx (row s.t.e) _ (row_range fun _ hi => hT.e hi) Tryz.underlying26 rfl (arr_size _) (hK _ _ h)
end
end Go.Proofs.YtmjbacmaafbdlaaGreatDoor
