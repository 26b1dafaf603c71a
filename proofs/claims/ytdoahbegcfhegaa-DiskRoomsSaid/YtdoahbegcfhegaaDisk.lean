/-
  WHAT IS PROVED: words for a disk in memory. No condition.
-/
import Derived.Test.YtdoahbegcfhegaaMap
namespace Go.Proofs.Ytdoahbegcfhegaa
open Go.RowKit Go.Lib

/-- a disk's own two blocks -/
def FD (d g : Nat) : Nat → Prop := fun i => i = d ∨ i = g
abbrev dc (g : Nat) (S : Ds) : Array Value := #[.map (some g), .int .i64 S.room, .int .i64 S.left, .bool S.down]
/-- a disk behind a pointer -/
structure Dk (w : World) (d g : Nat) (S : Ds) : Prop where
  blk : Blk w d 49 (dc g S)
  map : MapAt w (FD d g) g S.fs
  good : Good S.fs
  left : -9223372036854775808 ≤ S.left ∧ S.left ≤ 9223372036854775807
section
variable {w w' : World} {d g : Nat} {S : Ds}
theorem Dk.ne (h : Dk w d g S) : d ≠ g := h.blk.map_ne h.map
theorem Dk.lt (h : Dk w d g S) : d < w.heap.size ∧ g < w.heap.size := ⟨h.blk.lt, h.map.lt⟩
theorem Dk.turn (h : Dk w d g S) (hb : Turn w w' (FD d g)) (e1 : w'.heap[d]? = w.heap[d]?) (e2 : w'.heap[g]? = w.heap[g]?) : Dk w' d g S :=
  ⟨e1.trans h.blk, h.map.kept hb (Sub.refl _ _) e2, h.good, h.left⟩
theorem Dk.below (h : Dk w d g S) (hb : Below w.heap.size w w') : Dk w' d g S :=
  h.turn (Turn.of_below hb _) (hb.block _ h.lt.1) (hb.block _ h.lt.2)
theorem Dk.drew (h : Dk w d g S) : Dk w.drew d g S := h.below (Below.refl _ w).drew
theorem turn_set {i : Nat} (w : World) (d g : Nat) (u : Value) : Turn w (w.setCell ⟨d, i, none⟩ u) (FD d g) :=
  ⟨rfl, rfl, rfl, by simp [World.setCell], fun j _ hn => Below.heap_setCell w _ u j (fun e => hn (.inl e))⟩
theorem Dk.set_ (h : Dk w d g S) {i : Nat} {u : Value} {S' : Ds} (hf : S'.fs = S.fs) (hl : -9223372036854775808 ≤ S'.left ∧ S'.left ≤ 9223372036854775807) (hc : (dc g S).setIfInBounds i u = dc g S') : Dk (w.setCell ⟨d, i, none⟩ u) d g S' := by
  refine ⟨?_, ?_, by rw [hf]; exact h.good, hl⟩
  · rw [← hc]; exact h.blk.set_ i u
  · rw [hf]; exact h.map.kept (turn_set w d g u) (Sub.refl _ _) (Below.heap_setCell w _ u g (fun e => h.ne e.symm))
/-- the cells of a disk -/
theorem Dk.cells (h : Dk w d g S) : w.cell? ⟨d, 0, none⟩ = some (.map (some g)) ∧ w.cell? ⟨d, 1, none⟩ = some (.int .i64 S.room) ∧ w.cell? ⟨d, 2, none⟩ = some (.int .i64 S.left) ∧ w.cell? ⟨d, 3, none⟩ = some (.bool S.down) :=
  ⟨h.blk.cell 0, h.blk.cell 1, h.blk.cell 2, h.blk.cell 3⟩
theorem Dk.map_ (h : Dk w d g S) {l : List Fl} (hm : MapAt w' (FD d g) g l) (hg : w.grownBy w' (some g)) (hl : Good l) : Dk w' d g { S with fs := l } :=
  ⟨h.blk.grown hg (fun e => by injection e with e; exact h.ne e), hm, hl, h.left⟩
theorem turn_g (hg : w.grownBy w' (some g)) : Turn w w' (FD d g) := Turn.of_grown hg (fun k e => by injection e with e; exact .inr e.symm)
theorem sub_fd (w : World) (d g : Nat) : Sub w (FD d g) (FD d g) := Sub.refl _ _
end
/-- what a call does to a disk -/
def Did (w : World) (d g : Nat) (S' : Ds) (w' : World) : Prop := Dk w' d g S' ∧ Turn w w' (FD d g)
theorem Did.refl {w : World} {d g : Nat} {S : Ds} (h : Dk w d g S) : Did w d g S w := ⟨h, Turn.refl _ _⟩
theorem Turn.fd {a b c : World} {d g : Nat} (h : Turn a b (FD d g)) (k : Turn b c (FD d g)) : Turn a c (FD d g) := h.trans k (Sub.refl _ _)
theorem Turn.low {a b : World} {d g C : Nat} (h : Turn a b (FD d g)) (hd : C ≤ d) (hg : C ≤ g) (hC : C ≤ a.heap.size) : Below C a b :=
  h.below (fun i hi => by rcases hi with rfl | rfl <;> assumption) hC

set_option maxRecDepth 100000 in
set_option maxHeartbeats 2000000 in
theorem new_ok (room : Int) (w : World) (h0 : 0 ≤ room) (h1 : room ≤ 65536) :
    Calls Try.prog 8 #[.int .i64 room] w fun e w' => ∃ d g, e = .returned (.pointer (some ⟨d, 0, none⟩)) ∧ Dk w' d g ⟨[], room, -1, false⟩ ∧ w.heap.size ≤ d ∧ w.heap.size ≤ g ∧ Below w.heap.size w w' := by
  have b0 : ¬ room < 0 := by omega
  have b1 : ¬ 65536 < room := by omega
  have hmm := @run_makeMap Try.prog
  go_enter Try.func8, Try.ntmps8
  go_wp2
  go_ret
  refine ⟨w.heap.size + 1, by simp, w.heap.size, ⟨?_, ?_, good_nil, (by decide : (-9223372036854775808 : Int) ≤ -1 ∧ (-1 : Int) ≤ 9223372036854775807)⟩, Nat.le_succ _, Nat.le_refl _, ((Below.refl _ _).alloc (Nat.le_refl _) _).alloc (by simp) _⟩
  · have := Blk.new (w.alloc (.map #[] 0)) 49 (dc w.heap.size ⟨[], room, -1, false⟩)
    simpa using this
  · refine (map_new w (FD (w.heap.size + 1) w.heap.size)).kept (Turn.of_below ((Below.refl _ _).alloc (Nat.le_refl _) _) _) (Sub.refl _ _) ?_
    exact Below.heap_alloc _ _ _ (by simp)
set_option maxRecDepth 100000 in
set_option maxHeartbeats 2000000 in
theorem new_no (room : Int) (w : World) (h : room < 0 ∨ 65536 < room) :
    Calls Try.prog 8 #[.int .i64 room] w fun e w' => e = .returned (.pointer none) ∧ w' = w := by
  by_cases b0 : room < 0
  · go_enter Try.func8, Try.ntmps8
    go_wp2
    go_ret
    exact ⟨rfl, rfl⟩
  · have b1 : 65536 < room := by omega
    go_enter Try.func8, Try.ntmps8
    go_wp2
    go_ret
    exact ⟨rfl, rfl⟩
set_option maxRecDepth 100000 in
set_option maxHeartbeats 2000000 in
theorem spend_any (d g : Nat) (S : Ds) (w : World) (h : Dk w d g S) :
    Calls Try.prog 22 #[.pointer (some ⟨d, 0, none⟩)] w fun e w' => e = .returned (.int .i64 (spendD S).1) ∧ Did w d g (spendD S).2 w' := by
  obtain ⟨c0, c1, c2, c3⟩ := h.cells
  have fz2 := h.blk.frozen 2
  have fz3 := h.blk.frozen 3
  have HD := Lib.hid h
  have hl := h.left
  rcases spend_cases S with ⟨hc, hs⟩ | ⟨hc, hs⟩ | ⟨hc, hs⟩
  · rw [hs]
    rw [hc] at c2
    have HC := Lib.hid hc
    clear h hs hl hc
    go_enter Try.func22, Try.ntmps22
    go_wp2
    go_ret
    exact ⟨rfl, HD.out.set_ (S' := { S with down := true }) rfl HD.out.left (by simp), turn_set _ _ _ _⟩
  · rw [hs]
    obtain ⟨z, hz⟩ : ∃ z, S.left = z := ⟨_, rfl⟩
    rw [hz] at c2 hc hl ⊢
    have hne : (z == 0) = false := by simp; omega
    have hw : IntKind.i64.wrap (z - 1) = z - 1 := by rw [IntKind.wrap_i64]; omega
    have hn0 : ¬ z = 0 := by omega
    clear h hs hz
    go_enter Try.func22, Try.ntmps22
    go_wp2
    go_ret
    exact ⟨rfl, HD.out.set_ (S' := { S with left := z - 1 }) rfl ⟨by show _ ≤ z - 1; omega, by show z - 1 ≤ _; omega⟩ (by simp), turn_set _ _ _ _⟩
  · rw [hs]
    obtain ⟨z, hz⟩ : ∃ z, S.left = z := ⟨_, rfl⟩
    rw [hz] at c2 hc hl
    have hne : (z == 0) = false := by simp; omega
    have hn0 : ¬ z = 0 := by omega
    have hn1 : ¬ 0 < z := by omega
    clear h hs hz
    go_enter Try.func22, Try.ntmps22
    go_wp2
    go_ret
    exact ⟨rfl, Did.refl HD.out⟩
set_option maxRecDepth 100000 in
set_option maxHeartbeats 2000000 in
theorem arm_any (d g : Nat) (S : Ds) (n : Int) (w : World) (h : Dk w d g S) (hn : -9223372036854775808 ≤ n ∧ n ≤ 9223372036854775807) :
    Calls Try.prog 11 #[.pointer (some ⟨d, 0, none⟩), .int .i64 n] w fun e w' => e = .returned (.tuple #[]) ∧ Did w d g { S with left := n } w' := by
  obtain ⟨c0, c1, c2, c3⟩ := h.cells
  have fz2 := h.blk.frozen 2
  have HD := Lib.hid h
  have HN := Lib.hid hn
  clear h hn
  go_enter Try.func11, Try.ntmps11
  go_wp2
  go_end0
  exact ⟨rfl, HD.out.set_ (S' := { S with left := n }) rfl HN.out (by simp), turn_set _ _ _ _⟩
set_option maxRecDepth 100000 in
set_option maxHeartbeats 2000000 in
theorem safe_any (d g : Nat) (S : Ds) (x : List UInt8) (w : World) (h : Dk w d g S) (hx : x.length ≤ 1000) :
    Calls Try.prog 15 #[.pointer (some ⟨d, 0, none⟩), .string (str x)] w fun e w' => e = .returned (.bool (getF S.fs x).safe) ∧ w' = w := by
  obtain ⟨c0, c1, c2, c3⟩ := h.cells
  obtain ⟨v, hrun, A, n, c, rfl, _⟩ := h.map.look hx
  obtain ⟨s, hs⟩ : ∃ s, (getF S.fs x).safe = s := ⟨_, rfl⟩
  rw [hs] at hrun ⊢
  have hfd : ∀ w : World, (Instr.field 53 (.agg #[.slice A n c, .bool s]) 1).run Try.prog w = .ok (.bool s) w := fun _ => by kernel_rfl
  clear h hs
  go_enter Try.func15, Try.ntmps15
  go_wp2
  go_ret
  exact ⟨rfl, rfl⟩
end Go.Proofs.Ytdoahbegcfhegaa
