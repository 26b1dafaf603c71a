/-
  WHAT IS PROVED: a row of epochs of the call's own: made, read, written. Condition: the size.
-/
import Derived.Test.YtckdibnadokipaaUp
import Derived.Laws.MakeOwn
namespace Go.Proofs.Ytckdibnadokipaa
open Go.RowKit Go.Lib

/-- block g is a row of just these epochs -/
def RowAt (w : World) (g : Nat) (l : List Ep) : Prop :=
  ∃ cs : Array Value, Blk w g 23 cs ∧ cs.size = l.length * 3 ∧ ∀ i s, l[i]? = some s → cs[i * 3]? = some (.int .i64 s.cur) ∧ cs[i * 3 + 1]? = some (.int .i64 s.vote) ∧ cs[i * 3 + 2]? = some (.int .i64 s.conf)
section
variable {w w' : World} {g : Nat} {l : List Ep}
theorem RowAt.lt (h : RowAt w g l) : g < w.heap.size := by obtain ⟨_, h, _⟩ := h; exact Blk.lt h
theorem RowAt.later (h : RowAt w g l) (hb : Below w.heap.size w w') : RowAt w' g l := by obtain ⟨cs, h, r⟩ := h; exact ⟨cs, Blk.below h hb (Blk.lt h), r⟩
theorem RowAt.alloc (h : RowAt w g l) (o : Obj) : RowAt (w.alloc o) g l := by obtain ⟨cs, h, r⟩ := h; exact ⟨cs, Blk.alloc h o, r⟩
theorem RowAt.far3 (h : RowAt w g l) {c i j k : Nat} (hp : g ≠ c) (x y z : Value) : RowAt (((w.setCell ⟨c, i, none⟩ x).setCell ⟨c, j, none⟩ y).setCell ⟨c, k, none⟩ z) g l := by
  obtain ⟨cs, h, r⟩ := h
  exact ⟨cs, ((Blk.far h (p := ⟨c, i, none⟩) hp x).far (p := ⟨c, j, none⟩) hp y).far (p := ⟨c, k, none⟩) hp z, r⟩
theorem add0 (g j : Nat) : (⟨g, 0, none⟩ : Addr).add j = ⟨g, j, none⟩ := by rw [Go.WideShapes.add_plain, Nat.zero_add]
theorem RowAt.at_ (h : RowAt w g l) {i : Nat} {s : Ep} (hs : l[i]? = some s) : (w.cell? ⟨g, i * 3, none⟩ = some (.int .i64 s.cur) ∧ w.cell? ⟨g, i * 3 + 1, none⟩ = some (.int .i64 s.vote) ∧ w.cell? ⟨g, i * 3 + 2, none⟩ = some (.int .i64 s.conf)) ∧
    w.frozen? ⟨g, i * 3, none⟩ = false ∧ w.frozen? ⟨g, i * 3 + 1, none⟩ = false ∧ w.frozen? ⟨g, i * 3 + 2, none⟩ = false := by
  obtain ⟨cs, h, _, r⟩ := h
  obtain ⟨r0, r1, r2⟩ := r i s hs
  exact ⟨⟨(Blk.cell h _).trans r0, (Blk.cell h _).trans r1, (Blk.cell h _).trans r2⟩, Blk.frozen h _, Blk.frozen h _, Blk.frozen h _⟩
theorem RowAt.store (h : RowAt w g l) {i : Nat} (hi : i < l.length) (x : Ep) :
    RowAt (((w.setCell ⟨g, i * 3, none⟩ (.int .i64 x.cur)).setCell ⟨g, i * 3 + 1, none⟩ (.int .i64 x.vote)).setCell ⟨g, i * 3 + 2, none⟩ (.int .i64 x.conf)) g (l.set i x) := by
  obtain ⟨cs, h, hl, r⟩ := h
  refine ⟨_, ((Blk.set_ h (i * 3) (.int .i64 x.cur)).set_ (i * 3 + 1) (.int .i64 x.vote)).set_ (i * 3 + 2) (.int .i64 x.conf), by simp [hl], fun j s hs => ?_⟩
  simp only [Array.getElem?_setIfInBounds, Array.size_setIfInBounds]
  by_cases hj : j = i
  · subst hj
    rw [List.getElem?_set_self hi] at hs
    cases hs
    refine ⟨?_, ?_, ?_⟩
    · rw [if_neg (by omega), if_neg (by omega), if_pos rfl, if_pos (by omega)]
    · rw [if_neg (by omega), if_pos rfl, if_pos (by omega)]
    · rw [if_pos rfl, if_pos (by omega)]
  · rw [List.getElem?_set_ne (fun e => hj e.symm)] at hs
    obtain ⟨r0, r1, r2⟩ := r j s hs
    refine ⟨?_, ?_, ?_⟩
    · rw [if_neg (by omega), if_neg (by omega), if_neg (by omega)]; exact r0
    · rw [if_neg (by omega), if_neg (by omega), if_neg (by omega)]; exact r1
    · rw [if_neg (by omega), if_neg (by omega), if_neg (by omega)]; exact r2
end
theorem ep_info : (Try.prog.info? 23).map (fun i => (i.zero, i.size, i.bytes)) = some (some (.agg #[.int .i64 0, .int .i64 0, .int .i64 0]), 3, 24) := by kernel_rfl
def zrow (n : Nat) : Array Value := madeCells #[.int .i64 0, .int .i64 0, .int .i64 0] (n * 3)
theorem zrow_get (n j : Nat) (h : j < n * 3) : (zrow n)[j]? = some (.int .i64 0) := by
  unfold zrow madeCells
  have hm : j % 3 < 3 := Nat.mod_lt _ (by omega)
  rw [Array.getElem?_map, Array.getElem?_range, if_pos h]
  show some ((#[Value.int .i64 0, Value.int .i64 0, Value.int .i64 0] : Array Value)[j % 3]!) = _
  rcases (by omega : j % 3 = 0 ∨ j % 3 = 1 ∨ j % 3 = 2) with e | e | e <;> rw [e] <;> rfl
theorem RowAt.new (w : World) (n : Nat) : RowAt (w.alloc (.cells (zrow n) 23)) w.heap.size (List.replicate n Ep.zero) := by
  refine ⟨zrow n, Blk.new _ _ _, by simp [zrow, size_madeCells], fun i s hs => ?_⟩
  obtain ⟨hi, e⟩ := List.getElem?_eq_some_iff.1 hs
  simp at hi e
  subst e
  exact ⟨zrow_get n _ (by omega), zrow_get n _ (by omega), zrow_get n _ (by omega)⟩
theorem run_mk (n : Nat) (hn : n ≤ 4096) (w : World) : (Instr.makeSlice 38 (.int .i64 (n : Int)) (.int .i64 (n : Int))).run Try.prog w = .ok (.slice (some ⟨w.heap.size, 0, none⟩) n n) (w.alloc (.cells (zrow n) 23)) := by
  obtain ⟨i0, hi0, hz0, hz1, hz2⟩ := info_parts ep_info
  have hr := run_make (P := Try.prog) w 38 23 i0 _ Try.underlying38 hi0 hz0 .i64 .i64 n n (by omega) (Int.le_refl _) (by rw [hz2]; omega) (by omega)
  simp only [Int.toNat_natCast, hz1] at hr
  rw [hr]
  rfl
end Go.Proofs.Ytckdibnadokipaa
