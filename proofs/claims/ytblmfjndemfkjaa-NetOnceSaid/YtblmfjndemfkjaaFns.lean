/-
  WHAT IS PROVED: contracts of bytes.Clone, and of the package's copied, New, has, isFull, Len, Lost. Conditions: the object is a net; bytes are there, at most a million.
-/
import Derived.Test.YtblmfjndemfkjaaMsg
import Derived.Test.YtblmfjndemfkjaaAppend
namespace Go.Proofs.Ytblmfjndemfkjaa
open Go.RowKit Go.Lib

theorem u8_info : (Try.prog.info? 5).map (fun i => (i.zero, i.size, i.bytes)) = some (some (.int .u8 0), 1, 1) := by kernel_rfl
theorem int_info : (Try.prog.info? 3).map (fun i => (i.zero, i.size, i.bytes)) = some (some (.int .i64 0), 1, 8) := by kernel_rfl
theorem msg_info : (Try.prog.info? 29).map (fun i => (i.zero, i.size, i.bytes)) = some (some (.agg #[.int .i64 0, .int .i64 0, .slice none 0 0]), 3, 40) := by kernel_rfl
/-- what a clone is -/
def Clo (w : World) (b : List UInt8) (e : Ending) (w' : World) : Prop := ∃ A n c, e = .returned (.slice A n c) ∧ b.length = n ∧ n ≤ c ∧ c ≤ 9223372036854775807 ∧ w'.ownsRow w.heap.size 5 1 (.slice A n c) n (bs b) ∧ Below w.heap.size w w'
set_option maxRecDepth 100000 in
set_option maxHeartbeats 4000000 in
theorem clone_any (A : Option Addr) (n c : Nat) (b : List UInt8) (w : World) (F : Nat → Prop) (hr : Rd w F 1 A n (bs b)) (hn : n ≤ 1000000) :
    Calls Try.prog 21 #[.slice A n c] w (Clo w b) := by
  have hl : b.length = n := by have := hr.1; rw [bs_len] at this; omega
  obtain ⟨i0, hi0, hz0, hz1, hz2⟩ := info_parts u8_info
  cases A with
  | none =>
    obtain rfl : n = 0 := by
      rcases Nat.eq_zero_or_pos n with h | h
      · exact h
      · obtain ⟨ad, e, _⟩ := hr.2 h; cases e
    obtain rfl : b = [] := List.eq_nil_of_length_eq_zero hl
    have hq : ∀ w : World, (binOp BinOp.eql 27 (.slice none 0 c) (.slice none 0 0)).run Try.prog w = .ok (.bool true) w := fun _ => rfl
    clear hr hl
    go_enter Try.func21, Try.ntmps21
    go_wp2
    go_ret
    exact ⟨none, 0, 0, rfl, rfl, Nat.le_refl _, by omega, World.ownsRow_nil _ _ _ _, Below.refl _ _⟩
  | some ad =>
    have HR := Lib.hid hr
    have HL := Lib.hid hl
    have hq : ∀ w : World, (binOp BinOp.eql 27 (.slice (some ad) n c) (.slice none 0 0)).run Try.prog w = .ok (.bool false) w := fun _ => rfl
    clear hr hl
    go_enter Try.func21, Try.ntmps21
    have hown : (w.alloc (.cells #[] 5)).ownsRow w.heap.size 5 1 (.slice (some ⟨w.heap.size, 0, none⟩) 0 0) 0 [] := ⟨rfl, .inr ⟨w.heap.size, 0, #[], rfl, Nat.le_refl _, heap_alloc_new w _, Nat.le_refl _, by decide, rfl, rfl⟩⟩
    have hB1 : Below w.heap.size w (w.alloc (.cells #[] 5)) := (Below.refl _ _).alloc (Nat.le_refl _) _
    have hrd : Reads (w.alloc (.cells #[] 5)) w.heap.size (some ad) n (bs b) := HR.out.reads.below hB1
    have hn0 : 0 + n ≤ maxLen := by unfold maxLen; omega
    have hn1 : (0 + n) * 1 ≤ 140737488355328 := by omega
    have HOW := Lib.hid hown
    have HRD := Lib.hid hrd
    have HB1 := Lib.hid hB1
    clear hown hrd hB1
    go_wp2_with (at_builtin; refine wpList_append_cells _ rfl (.tmp 5) (.tmp 6) 27 rfl w.heap.size 5 i0 _ 1 Try.underlying27 hi0 hz0 hz1 hz2 rfl (.slice (some ⟨w.heap.size, 0, none⟩) 0 0) 0 [] rfl HOW.out w.heap.size (some ad) n c (bs b) rfl HRD.out (bs_one b) hn0 hn1 (by simp) ?_; intro v' w' ho hg _; obtain ⟨A', c', rfl, hc1, hc2⟩ := own_form ho)
    go_ret
    rw [Nat.zero_add, List.nil_append] at ho
    refine ⟨A', n, c', by simp, HL.out, by omega, hc2, ho, HB1.out.trans ?_⟩
    exact ⟨hg.os, hg.tape, hg.output, hg.size, fun i hi => hg.block i (by simp; omega) (fun e => by simp [Value.ownBlock] at e; omega)⟩

/-! ### a variable of type Message -/
def Bx (w : World) (b : Nat) (r : Ms) : Prop := Blk w b 29 (rowM r)
section
variable {w w' : World} {b : Nat} {r : Ms}
theorem Bx.new (w : World) (r : Ms) : Bx (w.alloc (.cells #[.int .i64 r.f, .int .i64 r.t, .slice r.A r.n r.c] 29)) w.heap.size r := Blk.new _ _ _
theorem Bx.lt (h : Bx w b r) : b < w.heap.size := Blk.lt h
theorem Bx.later (h : Bx w b r) (hb : Below w.heap.size w w') : Bx w' b r := Blk.below h hb h.lt
theorem Bx.turn {F : Nat → Prop} (h : Bx w b r) (hb : Turn w w' F) (hF : ¬ F b) : Bx w' b r := Blk.turn h hb hF
theorem Bx.cells (h : Bx w b r) : w.cell? ⟨b, 0, none⟩ = some (.int .i64 r.f) ∧ w.cell? ⟨b, 1, none⟩ = some (.int .i64 r.t) ∧ w.cell? ⟨b, 2, none⟩ = some (.slice r.A r.n r.c) :=
  ⟨Blk.cell h 0, Blk.cell h 1, Blk.cell h 2⟩
theorem Bx.fz (h : Bx w b r) (i : Nat) : w.frozen? ⟨b, i, none⟩ = false := Blk.frozen h i
theorem Bx.store (h : Bx w b r) (s : Ms) : Bx (((w.setCell ⟨b, 0, none⟩ (.int .i64 s.f)).setCell ⟨b, 1, none⟩ (.int .i64 s.t)).setCell ⟨b, 2, none⟩ (.slice s.A s.n s.c)) b s := by
  have h3 := ((Blk.set_ h 0 (.int .i64 s.f)).set_ 1 (.int .i64 s.t)).set_ 2 (.slice s.A s.n s.c)
  exact h3
theorem Bx.set2 (h : Bx w b r) (A : Option Addr) (n c : Nat) (d : List UInt8) : Bx (w.setCell ⟨b, 2, none⟩ (.slice A n c)) b ⟨r.f, r.t, A, n, c, d⟩ := by
  have h3 := Blk.set_ h 2 (.slice A n c)
  exact h3
end
theorem below_set {B : Nat} {w w' : World} (h : Below B w w') {p : Addr} (hp : B ≤ p.block) (u : Value) : Below B w (w'.setCell p u) :=
  ⟨h.os, h.tape, h.output, by simpa [World.setCell] using h.size, fun i hi => (Below.heap_setCell w' p u i (by omega)).trans (h.block i hi)⟩
theorem below3 {B : Nat} {w w' : World} (h : Below B w w') {c : Nat} (hc : B ≤ c) (i j k : Nat) (x y z : Value) : Below B w (((w'.setCell ⟨c, i, none⟩ x).setCell ⟨c, j, none⟩ y).setCell ⟨c, k, none⟩ z) :=
  below_set (below_set (below_set h (p := ⟨c, i, none⟩) hc x) (p := ⟨c, j, none⟩) hc y) (p := ⟨c, k, none⟩) hc z
theorem msg_size (r : Ms) : (Try.prog.info? 29).map (·.size) = some (rowM r).size := by
  rw [show (rowM r).size = 3 from rfl]; kernel_rfl
theorem results_box {fn : Func} {p u : Tmp} (h : fn.results = #[.cell p 29, .tmp u]) (tmps : Array Value) (w : World) (b : Nat) (r : Ms)
    (hp : tmps.getD p undef = .pointer (some ⟨b, 0, none⟩)) (hb : Bx w b r) : (results fn tmps).run Try.prog w = .ok (.tuple #[vM r, tmps.getD u undef]) w := by
  rw [results_cell_tmp h, hp]
  simp [asAddr, run_loadVar_row w b 29 29 (rowM r) (0, 0) _ hb Try.underlying29 rfl (msg_size r), Result.andThen]
theorem results_one {fn : Func} {p : Tmp} (h : fn.results = #[.cell p 29]) (tmps : Array Value) (w : World) (b : Nat) (r : Ms)
    (hp : tmps.getD p undef = .pointer (some ⟨b, 0, none⟩)) (hb : Bx w b r) : (results fn tmps).run Try.prog w = .ok (vM r) w :=
  results_cell_row h _ _ b _ (rowM r) (0, 0) _ hp hb Try.underlying29 rfl (msg_size r)

/-- a message handed back: the same, with bytes of its own -/
def Cop (w : World) (m : Ms) (e : Ending) (w' : World) : Prop := ∃ A c, e = .returned (vM ⟨m.f, m.t, A, m.n, c, m.d⟩) ∧ m.n ≤ c ∧ c ≤ 9223372036854775807 ∧ w'.ownsRow w.heap.size 5 1 (.slice A m.n c) m.n (bs m.d) ∧ Below w.heap.size w w'
set_option maxRecDepth 100000 in
set_option maxHeartbeats 4000000 in
theorem copied_any (m : Ms) (F : Nat → Prop) (w : World) (h : Good w F m) : Calls Try.prog 17 #[vM m] w (Cop w m) := by
  obtain ⟨f, t, A, n, c, d⟩ := m
  have H := Lib.hid h
  have hn := h.sz
  dsimp only at hn
  have hB1 : Below w.heap.size w (w.alloc (.cells #[.int .i64 f, .int .i64 t, .slice A n c] 29)) := (Below.refl _ _).alloc (Nat.le_refl _) _
  have hB2 : Below w.heap.size w ((w.alloc (.cells #[.int .i64 f, .int .i64 t, .slice A n c] 29)).alloc (.cells #[.int .i64 0, .int .i64 0, .slice none 0 0] 29)) := hB1.alloc hB1.size _
  have hx : Blk ((w.alloc (.cells #[.int .i64 f, .int .i64 t, .slice A n c] 29)).alloc (.cells #[.int .i64 0, .int .i64 0, .slice none 0 0] 29)) w.heap.size 29 #[.int .i64 f, .int .i64 t, .slice A n c] := (Blk.new w _ _).alloc _
  have hy : Blk ((w.alloc (.cells #[.int .i64 f, .int .i64 t, .slice A n c] 29)).alloc (.cells #[.int .i64 0, .int .i64 0, .slice none 0 0] 29)) (w.heap.size + 1) 29 #[.int .i64 0, .int .i64 0, .slice none 0 0] := by
    have := Blk.new (w.alloc (.cells #[.int .i64 f, .int .i64 t, .slice A n c] 29)) 29 #[.int .i64 0, .int .i64 0, .slice none 0 0]
    simpa using this
  obtain ⟨w2, hw2⟩ : ∃ x, ((w.alloc (.cells #[.int .i64 f, .int .i64 t, .slice A n c] 29)).alloc (.cells #[.int .i64 0, .int .i64 0, .slice none 0 0] 29)) = x := ⟨_, rfl⟩
  rw [hw2] at hB2 hx hy
  have HB2 := Lib.hid hB2
  have HX := Lib.hid hx
  have HY := Lib.hid hy
  have HG := Lib.hid (h.rd.below hB2)
  dsimp only at HG
  have x0 := hx.cell 0
  have x1 := hx.cell 1
  have x2 := hx.cell 2
  have f2 := hx.frozen 2
  simp at x0 x1 x2
  clear h hB1 hB2 hx hy
  go_enter Try.func17, Try.ntmps17
  go_wp2_with (fail)
  refine (clone_any A n c d w2 F HG.out hn).mono ?_
  rintro e w3 ⟨A3, n3, c3, rfl, hl3, hc3, hcm3, ho3, hb3⟩
  obtain rfl : n = n3 := by have := HG.out.lenB; omega
  have bx3 : Bx w3 w.heap.size ⟨f, t, A, n, c, d⟩ := Bx.later (show Bx w2 w.heap.size ⟨f, t, A, n, c, d⟩ from HX.out) hb3
  have by3 : Bx w3 (w.heap.size + 1) ⟨0, 0, none, 0, 0, []⟩ := Bx.later (show Bx w2 (w.heap.size + 1) ⟨0, 0, none, 0, 0, []⟩ from HY.out) hb3
  have hlo : w2.heap.size = w.heap.size + 2 := by rw [← hw2]; simp
  have bx4 : Bx (w3.setCell ⟨w.heap.size, 2, none⟩ (.slice A3 n c3)) w.heap.size ⟨f, t, A3, n, c3, d⟩ := bx3.set2 A3 n c3 d
  have by4 : Bx (w3.setCell ⟨w.heap.size, 2, none⟩ (.slice A3 n c3)) (w.heap.size + 1) ⟨0, 0, none, 0, 0, []⟩ := Blk.far by3 (by simp) _
  have hb4 : Below w.heap.size w (w3.setCell ⟨w.heap.size, 2, none⟩ (.slice A3 n c3)) := below_set (HB2.out.trans (hb3.mono HB2.out.size)) (Nat.le_refl _) _
  have g2 := bx3.fz 2
  have e2 := bx3.cells.2.2
  obtain ⟨w4, hw4⟩ : ∃ x, w3.setCell ⟨w.heap.size, 2, none⟩ (.slice A3 n c3) = x := ⟨_, rfl⟩
  have ho4 : w4.ownsRow w.heap.size 5 1 (.slice A3 n c3) n (bs d) := by
    rw [← hw4]
    refine own_base (own_turn ho3 (F := fun i => i = w.heap.size) ⟨rfl, rfl, rfl, by simp [World.setCell], fun i _ hn => Below.heap_setCell w3 _ _ i hn⟩ (fun k hk e => ?_)) (by omega)
    have := (ho3.lt k hk).1
    omega
  rw [hw4] at bx4 by4 hb4
  obtain ⟨a0, a1, a2⟩ := bx4.cells
  obtain ⟨y0, y1, y2⟩ := by4.cells
  have z0 := by4.fz 0
  have z1 := by4.fz 1
  have z2 := by4.fz 2
  have HY4 := Lib.hid by4
  have HB4 := Lib.hid hb4
  have HO4 := Lib.hid ho4
  have HK4 : Hid (∀ k, (Value.slice A3 n c3).ownBlock = some k → w.heap.size + 2 ≤ k) := Lib.hid (fun k hk => by have := (ho3.lt k hk).1; omega)
  clear ho3 hb3 bx3 by3 bx4 by4 hb4 ho4 hw2 x0 x1 x2 f2
  go_wp2
  exact bodyPost_ret (results_one (p := 2) rfl _ _ (w.heap.size + 1) ⟨f, t, A3, n, c3, d⟩ rfl (HY4.out.store ⟨f, t, A3, n, c3, d⟩)) rfl ⟨A3, c3, rfl, hc3, hcm3, (by
    refine own_turn HO4.out (F := fun i => i = w.heap.size + 1) ⟨rfl, rfl, rfl, by simp [World.setCell], fun i hi hn => ?_⟩ (fun k hk e => ?_)
    · exact ((Below.heap_setCell _ _ _ i hn).trans (Below.heap_setCell _ _ _ i hn)).trans (Below.heap_setCell _ _ _ i hn)
    · have := HK4.out k hk; omega), below3 HB4.out (by omega) 0 1 2 _ _ _⟩

/-! ### the short calls -/
theorem new_any (w : World) : Calls Try.prog 7 #[] w fun e w' => ∃ n, e = .returned (.pointer (some ⟨n, 0, none⟩)) ∧ Nt w' w.heap.size n no [] 0 ∧ Below w.heap.size w w' := by
  go_enter Try.func7, Try.ntmps7
  go_wp2
  go_ret
  exact ⟨w.heap.size, rfl, ⟨⟨.slice none 0 0, Blk.new _ _ _, World.ownsRow_nil _ _ _ _, fun _ hb => by simp [Value.ownBlock] at hb, fun _ hm => by cases hm⟩, Nat.le_refl _, fun f => f, fun _ f => f.elim, by simp⟩, (Below.refl _ _).alloc (Nat.le_refl _) _⟩
section
variable (C n : Nat) (U : Nat → Prop) (l : List Ms) (k : Int) (w : World) (h : Nt w C n U l k)
include h
theorem len_any : Calls Try.prog 15 #[.pointer (some ⟨n, 0, none⟩)] w fun e w' => e = .returned (.int .i64 (l.length : Int)) ∧ w = w' := by
  obtain ⟨A, c, hb, _⟩ := h.open_
  have c0 := hb.cell 0
  simp at c0
  clear hb h
  go_enter Try.func15, Try.ntmps15
  go_wp2
  go_ret
  exact ⟨rfl, rfl⟩
theorem lost_any : Calls Try.prog 14 #[.pointer (some ⟨n, 0, none⟩)] w fun e w' => e = .returned (.int .i64 k) ∧ w = w' := by
  obtain ⟨A, c, hb, _⟩ := h.open_
  have c1 := hb.cell 1
  simp at c1
  clear hb h
  go_enter Try.func14, Try.ntmps14
  go_wp2
  go_ret
  exact ⟨rfl, rfl⟩
theorem full_any : Calls Try.prog 16 #[.pointer (some ⟨n, 0, none⟩)] w fun e w' => e = .returned (.bool (decide (4096 ≤ l.length))) ∧ w = w' := by
  obtain ⟨A, c, hb, _⟩ := h.open_
  have c0 := hb.cell 0
  simp at c0
  clear hb h
  go_enter Try.func16, Try.ntmps16
  go_wp2
  go_ret
  refine ⟨?_, rfl⟩
  simp
  omega
/-- is there one at a place? -/
def inB (l : List Ms) (i : Int) : Bool := decide (0 ≤ i ∧ i < (l.length : Int))
theorem has_any (i : Int) : Calls Try.prog 18 #[.pointer (some ⟨n, 0, none⟩), .int .i64 i] w fun e w' => e = .returned (.bool (inB l i)) ∧ w = w' := by
  obtain ⟨A, c, hb, _⟩ := h.open_
  have c0 := hb.cell 0
  simp at c0
  clear hb h
  obtain ⟨x, hx⟩ : ∃ x, decide (i < (l.length : Int)) = x := ⟨_, rfl⟩
  by_cases h0 : 0 ≤ i
  · have HI : Hid (inB l i = x) := Lib.hid (by rw [← hx]; unfold inB; simp [h0])
    have h1 : decide (0 ≤ i) = true := decide_eq_true h0
    go_enter Try.func18, Try.ntmps18
    go_wp2
    go_ret
    exact ⟨by rw [HI.out]; rfl, rfl⟩
  · have HI : Hid (inB l i = false) := Lib.hid (by unfold inB; simp [h0])
    have h1 : decide (0 ≤ i) = false := decide_eq_false h0
    go_enter Try.func18, Try.ntmps18
    go_wp2
    go_ret
    exact ⟨by rw [HI.out]; rfl, rfl⟩
end
end Go.Proofs.Ytblmfjndemfkjaa
