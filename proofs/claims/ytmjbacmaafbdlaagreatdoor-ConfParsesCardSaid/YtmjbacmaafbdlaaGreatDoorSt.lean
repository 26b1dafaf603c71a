/-
  WHAT IS PROVED: variables of type State in memory, read and written as a whole, and their table. No condition.
-/
import Derived.Test.YtmjbacmaafbdlaaGreatDoorCA
import Derived.Test.YtmjbacmaafbdlaaGreatDoorKn
namespace Go.Proofs.YtmjbacmaafbdlaaGreatDoor
set_option maxRecDepth 100000
open Go.RowKit Go.ChangeShapes Go.WideShapes Go.ChangeAt Go.WideElems C

/-- a State's cells, told by numbers, a slice and a table -/
structure Sv where
  i : Int
  m : Int
  c : Int
  v : Int
  f : Int
  a : Option Addr
  n : Nat
  cap : Nat
  t : Tab
def Sv.zero : Sv := ⟨0, 0, 0, 0, 0, none, 0, 0, Tab.zero⟩
def stL (s : Sv) : List Value := [.int .i64 s.i, .int .i64 s.m, .int .i64 s.c, .int .i64 s.v, .int .i64 s.f, .slice s.a s.n s.cap]
def tbL (t : Tab) : List Value := row t.o ++ row t.e
theorem tbL_eq (t : Tab) : (tb t).toList = tbL t := rfl
theorem tbL_len (t : Tab) : (tbL t).length = 128 := by simp [tbL, row_len]
def stv (s : Sv) : Array Value := (stL s ++ tbL s.t).toArray
theorem stv_size (s : Sv) : (stv s).size = 134 := by simp [stv, stL, tbL_len]
theorem stv_0 (s : Sv) : (stv s)[0]? = some (.int .i64 s.i) := by simp [stv, stL]
theorem stv_1 (s : Sv) : (stv s)[1]? = some (.int .i64 s.m) := by simp [stv, stL]
theorem stv_2 (s : Sv) : (stv s)[2]? = some (.int .i64 s.c) := by simp [stv, stL]
theorem stv_3 (s : Sv) : (stv s)[3]? = some (.int .i64 s.v) := by simp [stv, stL]
theorem stv_4 (s : Sv) : (stv s)[4]? = some (.int .i64 s.f) := by simp [stv, stL]
theorem stv_5 (s : Sv) : (stv s)[5]? = some (.slice s.a s.n s.cap) := by simp [stv, stL]
theorem stv_t (s : Sv) (j : Nat) : (stv s)[6 + j]? = (tbL s.t)[j]? := by
  simp only [stv, List.getElem?_toArray]
  rw [List.getElem?_append_right (by simp [stL])]
  simp [stL]
theorem stv_cells (s : Sv) : (stv s).all (·.oneCell') = true := by
  rw [Array.all_eq_true_iff_forall_mem]
  intro x hx
  simp only [stv, List.mem_toArray, List.mem_append, stL, tbL] at hx
  rcases hx with hx | hx | hx
  · simp at hx
    rcases hx with rfl | rfl | rfl | rfl | rfl | rfl <;> rfl
  · obtain ⟨z, rfl⟩ := row_mem hx; rfl
  · obtain ⟨z, rfl⟩ := row_mem hx; rfl
def Sv.like (s u : Sv) : Prop := s.i = u.i ∧ s.m = u.m ∧ s.c = u.c ∧ s.v = u.v ∧ s.f = u.f ∧ s.a = u.a ∧ s.n = u.n ∧ s.cap = u.cap ∧ same s.t u.t
theorem stv_congr {s u : Sv} (h : s.like u) : stv s = stv u := by
  obtain ⟨h1, h2, h3, h4, h5, h6, h7, h8, h9⟩ := h
  unfold stv stL tbL
  rw [h1, h2, h3, h4, h5, h6, h7, h8, row_congr fun i hi => (h9 i hi).1, row_congr fun i hi => (h9 i hi).2]
def withT (s : Sv) (u : Tab) : Sv := { s with t := u }

theorem st_info : (Tryz.prog.info? 30).map (·.size) = some 134 := by kernel_rfl
theorem st_size (s : Sv) : (Tryz.prog.info? 30).map (·.size) = some (stv s).size := by rw [stv_size]; exact st_info
theorem st_zero : (Tryz.prog.info? 30).map (fun i => (i.zero, i.size)) = some (some (.agg (stv Sv.zero)), 134) := by kernel_rfl

/-- a variable of type State -/
def StAt (w : World) (b : Nat) (s : Sv) : Prop := Blk w b 30 (stv s)
def setAll (C : Array Value) : Nat → List Value → Array Value
  | _, [] => C
  | o, v :: vs => setAll (C.setIfInBounds o v) (o + 1) vs
theorem setAll_size : ∀ (vs : List Value) (C : Array Value) (o : Nat), (setAll C o vs).size = C.size
  | [], _, _ => rfl
  | v :: vs, C, o => by rw [setAll, setAll_size vs]; simp
theorem setAll_get : ∀ (vs : List Value) (C : Array Value) (o i : Nat), o + vs.length ≤ C.size → (setAll C o vs)[i]? = if o ≤ i ∧ i < o + vs.length then vs[i - o]? else C[i]?
  | [], C, o, i, _ => by rw [setAll, if_neg (by simp)]
  | v :: vs, C, o, i, h => by
    rw [List.length_cons] at h ⊢
    rw [setAll, setAll_get vs _ _ _ (by simp; omega)]
    by_cases h1 : o + 1 ≤ i ∧ i < o + 1 + vs.length
    · rw [if_pos h1, if_pos (by omega), show i - o = (i - (o + 1)) + 1 by omega, List.getElem?_cons_succ]
    · rw [if_neg h1]
      by_cases h2 : i = o
      · subst h2
        rw [if_pos (by omega), Array.getElem?_setIfInBounds_self_of_lt (by omega)]; simp
      · rw [if_neg (by omega), Array.getElem?_setIfInBounds_ne (by omega)]
theorem setAll_stv (s : Sv) (u : Tab) : setAll (stv s) 6 (tbL u) = stv (withT s u) := by
  apply Array.ext_getElem?
  intro i
  rw [setAll_get _ _ _ _ (by rw [tbL_len, stv_size]; omega), tbL_len]
  by_cases h : 6 ≤ i ∧ i < 6 + 128
  · rw [if_pos h]
    obtain ⟨j, rfl⟩ : ∃ j, i = 6 + j := ⟨i - 6, by omega⟩
    rw [stv_t, show 6 + j - 6 = j by omega]; rfl
  · rw [if_neg h]
    rcases Nat.lt_or_ge i 6 with h1 | h1
    · match i, h1 with
      | 0, _ => rw [stv_0, stv_0]; rfl
      | 1, _ => rw [stv_1, stv_1]; rfl
      | 2, _ => rw [stv_2, stv_2]; rfl
      | 3, _ => rw [stv_3, stv_3]; rfl
      | 4, _ => rw [stv_4, stv_4]; rfl
      | 5, _ => rw [stv_5, stv_5]; rfl
    · rw [Array.getElem?_eq_none (by rw [stv_size]; omega), Array.getElem?_eq_none (by rw [stv_size]; omega)]
theorem Blk.setAll {w : World} {b : Nat} {t : TypeId} : ∀ (vs : List Value) {C : Array Value} {w : World} (o : Nat), Blk w b t C → Blk (w.setCells b o vs) b t (setAll C o vs)
  | [], _, _, _, h => h
  | v :: vs, _, _, o, h => Blk.setAll (w := w) vs (o + 1) (h.set_ o v)
theorem Blk.setAll_far {g : Nat} {t : TypeId} {C : Array Value} {b : Nat} (hb : g ≠ b) : ∀ (vs : List Value) {w : World} (o : Nat), Blk w g t C → Blk (w.setCells b o vs) g t C
  | [], _, _, h => h
  | v :: vs, _, o, h => Blk.setAll_far hb vs (o + 1) (h.far (p := ⟨b, o, none⟩) hb v)
theorem below_cells {B b : Nat} {w : World} (hb : B ≤ b) : ∀ (vs : List Value) {w' : World} (o : Nat), Below B w w' → Below B w (w'.setCells b o vs)
  | [], _, _, h => h
  | v :: vs, _, o, h => below_cells hb vs (o + 1) (below_set h (p := ⟨b, o, none⟩) hb v)
theorem size_cells {b : Nat} : ∀ (vs : List Value) (w : World) (o : Nat), (w.setCells b o vs).heap.size = w.heap.size
  | [], _, _ => rfl
  | _ :: vs, w, o => by rw [World.setCells, size_cells vs]; simp [World.setCell]

section
variable {w w' : World} {b : Nat} {s : Sv}
theorem StAt.new (w : World) (s : Sv) : StAt (w.alloc (.cells (stv s) 30)) w.heap.size s := Blk.new _ _ _
theorem StAt.lt (h : StAt w b s) : b < w.heap.size := Blk.lt h
theorem StAt.later (h : StAt w b s) (hb : Below w.heap.size w w') : StAt w' b s := Blk.below h hb h.lt
theorem StAt.below {B : Nat} (h : StAt w b s) (hb : Below B w w') (hlt : b < B) : StAt w' b s := Blk.below h hb hlt
theorem StAt.alloc (h : StAt w b s) (o : Obj) : StAt (w.alloc o) b s := Blk.alloc h o
theorem StAt.drew (h : StAt w b s) : StAt w.drew b s := h
theorem StAt.far (h : StAt w b s) {p : Addr} (hp : b ≠ p.block) (u : Value) : StAt (w.setCell p u) b s := Blk.far h hp u
theorem StAt.fz (h : StAt w b s) (i : Nat) : w.frozen? ⟨b, i, none⟩ = false := Blk.frozen h i
theorem StAt.box (h : StAt w b s) : w.cell? ⟨b, 0, none⟩ = some (.int .i64 s.i) ∧ w.cell? ⟨b, 1, none⟩ = some (.int .i64 s.m) ∧ w.cell? ⟨b, 2, none⟩ = some (.int .i64 s.c) ∧ w.cell? ⟨b, 3, none⟩ = some (.int .i64 s.v) ∧
    w.cell? ⟨b, 4, none⟩ = some (.int .i64 s.f) ∧ w.cell? ⟨b, 5, none⟩ = some (.slice s.a s.n s.cap) :=
  ⟨(Blk.cell h 0).trans (stv_0 s), (Blk.cell h 1).trans (stv_1 s), (Blk.cell h 2).trans (stv_2 s), (Blk.cell h 3).trans (stv_3 s), (Blk.cell h 4).trans (stv_4 s), (Blk.cell h 5).trans (stv_5 s)⟩
theorem StAt.range (h : StAt w b s) : w.rangeAt b 6 (tbL s.t) := fun j _ hv => (Blk.cell h (6 + j)).trans ((stv_t s j).trans hv)
theorem StAt.there (h : StAt w b s) : w.there b 6 128 := fun j hj => ⟨by
  rw [Blk.cell h (6 + j), stv_t, List.getElem?_eq_getElem (by rw [tbL_len]; exact hj)]; rfl, Blk.frozen h _⟩
theorem StAt.store (h : StAt w b s) (u : Sv) : StAt (w.setRow b (stv u)) b u := setRow_heap w b _ _ _ _ h
theorem StAt.row_far (h : StAt w b s) {g : Nat} (hg : b ≠ g) (cs : Array Value) : StAt (w.setRow g cs) b s := (setRow_other w g b cs hg).trans h
theorem StAt.putT (h : StAt w b s) (u : Tab) : StAt (w.setCells b 6 (tb u).toList) b (withT s u) := by
  unfold StAt; rw [← setAll_stv]; exact Blk.setAll (w := w) _ _ h
theorem StAt.cells_far (h : StAt w b s) {g : Nat} (hg : b ≠ g) (o : Nat) (vs : List Value) : StAt (w.setCells g o vs) b s := Blk.setAll_far hg vs o h
theorem StAt.like_ {u : Sv} (h : StAt w b s) (hs : s.like u) : StAt w b u := by unfold StAt; rw [← stv_congr hs]; exact h
end
theorem setRow_st {w : World} {b : Nat} {s : Sv} (h : StAt w b s) : w.setRow b (stv s) = w := by
  unfold World.setRow
  cases w with
  | mk heap tape drawn os output =>
    congr 1
    apply Array.ext_getElem?
    intro i
    rw [Array.getElem?_modify]
    by_cases hi : b = i
    · subst hi
      have h' : heap[b]? = some (.cells (stv s) 30 (0, 0)) := h
      rw [if_pos rfl, h']; rfl
    · rw [if_neg hi]

/-! ### the operations on a whole State -/
section
variable {ops : Array Oper} {rest : List Oper} {Q : Exit → Act → World → Prop} {a : Act} {w : World} {dst : Option Tmp} {ty : TypeId} {pos : String} {after : Array Edge} {g : Option (Nat × Bool)} {x y : Operand} {b : Nat} {s u : Sv} {t : Tab}
theorem st_load (hx : a.eval x = .pointer (some ⟨b, 0, none⟩)) (hT : StAt w b s) (hw : Region.wanted ⟨dst, .load 30 x, ty, pos, after, g⟩ (yielded ops a.tmps) = true)
    (h : wpList Tryz.prog ops Q rest (a.put dst (.agg (stv s))) w) : wpList Tryz.prog ops Q (⟨dst, .load 30 x, ty, pos, after, g⟩ :: rest) a w :=
  at_want hw fun _ hK => wp_load_row 30 x rfl b hx _ (stv s) (0, 0) _ hT Tryz.underlying30 rfl (st_size s) (hK _ _ h)
theorem st_store (hx : a.eval x = .pointer (some ⟨b, 0, none⟩)) (hy : a.eval y = .agg (stv u)) (hT : StAt w b s) (hw : Region.wanted ⟨dst, .store 30 x y, ty, pos, after, g⟩ (yielded ops a.tmps) = true)
    (h : wpList Tryz.prog ops Q rest (a.put dst undef) (w.setRow b (stv u))) : wpList Tryz.prog ops Q (⟨dst, .store 30 x y, ty, pos, after, g⟩ :: rest) a w :=
  at_want hw fun _ hK => wp_store_row 30 x y rfl b (stv u) hx hy _ (stv s) hT (st_size u) (by rw [stv_size, stv_size]) (stv_cells u) (hK _ _ h)
theorem wp_alloc_st {o : Oper} {K : Act → World → Prop} (ho : o.op = .alloc 30) (h : K (a.put o.dst (.pointer (some ⟨w.heap.size, 0, none⟩))) (w.alloc (.cells (stv Sv.zero) 30))) : o.wp Tryz.prog a w K Q := by
  have hz := (zero_of_info st_zero).1
  unfold Oper.wp execOp
  simp only [ho, Instr.alloc, newVar, newRow, Sem.run_bind, hz, Result.andThen_ok]
  exact h
theorem st_alloc (hw : Region.wanted ⟨dst, .alloc 30, ty, pos, after, g⟩ (yielded ops a.tmps) = true)
    (h : wpList Tryz.prog ops Q rest (a.put dst (.pointer (some ⟨w.heap.size, 0, none⟩))) (w.alloc (.cells (stv Sv.zero) 30))) : wpList Tryz.prog ops Q (⟨dst, .alloc 30, ty, pos, after, g⟩ :: rest) a w :=
  at_want hw fun _ hK => wp_alloc_st rfl (hK _ _ h)
/-- a new variable's first value -/
theorem st_store_new (hx : a.eval x = .pointer (some ⟨w.heap.size, 0, none⟩)) (hy : a.eval y = .agg (stv u)) (hw : Region.wanted ⟨dst, .store 30 x y, ty, pos, after, g⟩ (yielded ops a.tmps) = true)
    (h : wpList Tryz.prog ops Q rest (a.put dst undef) (w.alloc (.cells (stv u) 30))) : wpList Tryz.prog ops Q (⟨dst, .store 30 x y, ty, pos, after, g⟩ :: rest) a (w.alloc (.cells (stv s) 30)) :=
  st_store hx hy (StAt.new w s) hw (by rw [World.setRow_alloc_new]; exact h)
theorem st_built_zero : Tryz.prog.built 30 [] = some (stv Sv.zero) := by kernel_rfl
theorem st_build (hw : Region.wanted ⟨dst, .build 30 #[], ty, pos, after, g⟩ (yielded ops a.tmps) = true)
    (h : wpList Tryz.prog ops Q rest (a.put dst (.agg (stv Sv.zero))) w) : wpList Tryz.prog ops Q (⟨dst, .build 30 #[], ty, pos, after, g⟩ :: rest) a w :=
  at_want hw fun _ hK => by
    have hk := hK _ _ h
    refine wp_build 30 #[] rfl ?_ ?_
    · simp [st_built_zero]
    · simpa [st_built_zero] using hk
theorem tab_list (t : Tab) : (Tryz.prog.info? 28).map (·.size) = some (tbL t).length := by rw [tbL_len]; kernel_rfl
/-- a State's table -/
theorem st_table (hx : a.eval x = .pointer (some ⟨b, 6, none⟩)) (hT : StAt w b s) (hw : Region.wanted ⟨dst, .load 28 x, ty, pos, after, g⟩ (yielded ops a.tmps) = true)
    (h : wpList Tryz.prog ops Q rest (a.put dst (.agg (tb s.t))) w) : wpList Tryz.prog ops Q (⟨dst, .load 28 x, ty, pos, after, g⟩ :: rest) a w :=
  at_want hw fun _ hK => wp_load_mid 28 x rfl b 6 hx (tbL s.t) _ hT.range Tryz.underlying28 rfl (tab_list _) (hK _ _ h)
theorem st_put_table (hx : a.eval x = .pointer (some ⟨b, 6, none⟩)) (hy : a.eval y = .agg (tb t)) (hT : StAt w b s) (hw : Region.wanted ⟨dst, .store 28 x y, ty, pos, after, g⟩ (yielded ops a.tmps) = true)
    (h : wpList Tryz.prog ops Q rest (a.put dst undef) (w.setCells b 6 (tb t).toList)) : wpList Tryz.prog ops Q (⟨dst, .store 28 x y, ty, pos, after, g⟩ :: rest) a w :=
  at_want hw fun _ hK => wp_store_mid 28 x y rfl b 6 (tb t) hx hy (by rw [tb_size]; exact hT.there) (tab_size t) (tb_cells t) (hK _ _ h)
end
/-- a State and one more are handed back -/
theorem results_st {fn : Func} {p u : Tmp} (h : fn.results = #[.cell p 30, .tmp u]) (tmps : Array Value) (w : World) (b : Nat) (s : Sv)
    (hp : tmps.getD p undef = .pointer (some ⟨b, 0, none⟩)) (hT : StAt w b s) : (results fn tmps).run Tryz.prog w = .ok (.tuple #[.agg (stv s), tmps.getD u undef]) w := by
  have hp' : tmps[p]?.getD undef = .pointer (some ⟨b, 0, none⟩) := by simpa using hp
  simp [results, h, hp', asAddr, run_loadVar_row w b 30 30 (stv s) (0, 0) _ hT Tryz.underlying30 rfl (st_size s), Result.andThen]
theorem results_st1 {fn : Func} {p : Tmp} (h : fn.results = #[.cell p 30]) (tmps : Array Value) (w : World) (b : Nat) (s : Sv)
    (hp : tmps.getD p undef = .pointer (some ⟨b, 0, none⟩)) (hT : StAt w b s) : (results fn tmps).run Tryz.prog w = .ok (.agg (stv s)) w :=
  results_cell_row h _ _ b _ (stv s) (0, 0) _ hp hT Tryz.underlying30 rfl (st_size s)
end Go.Proofs.YtmjbacmaafbdlaaGreatDoor
