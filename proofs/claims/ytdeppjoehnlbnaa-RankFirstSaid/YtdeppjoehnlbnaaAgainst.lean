/-
  WHAT IS PROVED: contracts of the library's Or at two ints and of the program's comparison of two replicas. Condition: none.
-/
import Derived.Test.YtdeppjoehnlbnaaFns
import Derived.Test.YtdeppjoehnlbnaaShelf
import Derived.Deep.RegionHeld3
import Derived.Sort.Grow
import Derived.Shelf.SlSortCmp.InsertionK
import Derived.Lib.SliceRun
namespace Go.Proofs.Ytdeppjoehnlbnaa
open Go.RowKit Go.Lib Go.Sort

def orZ (x y : Int) : Int := if x = 0 then y else x
theorem or_any (x y : Int) (B c : Nat) (w : World) (c0 : w.cell? ⟨B, 0, none⟩ = some (.int .i64 x)) (c1 : w.cell? ⟨B, 1, none⟩ = some (.int .i64 y)) :
    Calls Try.prog 25 #[.slice (some ⟨B, 0, none⟩) 2 c] w fun e w' => e = .returned (.int .i64 (orZ x y)) ∧ w = w' := by
  by_cases hx : x = 0
  · subst hx
    by_cases hy : y = 0
    · subst hy
      go_enter Try.func25, Try.ntmps25
      go_wp2
      refine wp_loop_rounds 3 ?_
      rw [rounds_succ]
      go_wp2
      rw [rounds_succ]
      go_wp2
      rw [rounds_succ]
      go_wp2
      go_ret
      exact ⟨rfl, rfl⟩
    · have ht : (y != 0) = true := by simpa using hy
      go_enter Try.func25, Try.ntmps25
      go_wp2
      refine wp_loop_rounds 2 ?_
      rw [rounds_succ]
      go_wp2
      rw [rounds_succ]
      go_wp2
      go_ret
      exact ⟨rfl, rfl⟩
  · have ht : (x != 0) = true := by simpa using hx
    have HX : Hid (orZ x y = x) := by show _ = _; unfold orZ; rw [if_neg hx]
    clear hx
    go_enter Try.func25, Try.ntmps25
    go_wp2
    refine wp_loop_rounds 1 ?_
    rw [rounds_succ]
    go_wp2
    go_ret
    exact ⟨by rw [HX.out]; rfl, rfl⟩

theorem cell_new (W : World) {B : Nat} (hB : B = W.heap.size) (vs : Array Value) (t : TypeId) (i : Nat) : (W.alloc (.cells vs t)).cell? ⟨B, i, none⟩ = vs[i]? := by
  subst hB
  exact (Blk.new W t vs).cell i
theorem four_alloc {w : World} {p0 p1 p2 p3 : Addr} {v0 v1 v2 v3 : Value} (h : w.cell? p0 = some v0 ∧ w.cell? p1 = some v1 ∧ w.cell? p2 = some v2 ∧ w.cell? p3 = some v3) (o : Obj) :
    (w.alloc o).cell? p0 = some v0 ∧ (w.alloc o).cell? p1 = some v1 ∧ (w.alloc o).cell? p2 = some v2 ∧ (w.alloc o).cell? p3 = some v3 :=
  have k : ∀ {p : Addr} {v : Value}, w.cell? p = some v → (w.alloc o).cell? p = some v := fun h => Go.Lib.cell?_alloc_some _ h
  ⟨k h.1, k h.2.1, k h.2.2.1, k h.2.2.2⟩

set_option maxHeartbeats 4000000 in
theorem against_any (a b : Rep) (w : World) : Calls Try.prog 20 #[vRep a, vRep b] w fun e w' => e = .returned (.int .i64 (cf a b)) ∧ ∃ q os', w' = grow (w.drewN q) os' := by
  obtain ⟨x, HX⟩ : ∃ x, Hid (compareInt b.off a.off = x) := ⟨_, Lib.hid rfl⟩
  obtain ⟨y, HY⟩ : ∃ y, Hid (compareInt a.id b.id = y) := ⟨_, Lib.hid rfl⟩
  have HC : Hid (cf a b = orZ x y) := by show _ = _; unfold cf orZ; rw [HX.out, HY.out]
  have C1 : Hid (∀ W, Calls Try.prog 26 #[.int .i64 b.off, .int .i64 a.off] W fun e w' => e = .returned (.int .i64 x) ∧ w' = W) := fun W => by rw [← HX.out]; exact Try.cmp_Compare_int b.off a.off W
  have C2 : Hid (∀ W, Calls Try.prog 26 #[.int .i64 a.id, .int .i64 b.id] W fun e w' => e = .returned (.int .i64 y) ∧ w' = W) := fun W => by rw [← HY.out]; exact Try.cmp_Compare_int a.id b.id W
  clear HX HY
  rw [HC.out]
  clear HC
  go_enter Try.func20, Try.ntmps20
  go_wp2
  go_region_held3 (fun w' => w'.cell? ⟨w.heap.size, 0, none⟩ = some (.int .i64 a.id) ∧ w'.cell? ⟨w.heap.size, 1, none⟩ = some (.int .i64 a.off) ∧ w'.cell? ⟨w.heap.size + 1, 0, none⟩ = some (.int .i64 b.id) ∧ w'.cell? ⟨w.heap.size + 1, 1, none⟩ = some (.int .i64 b.off)) (first | assumption | exact four_alloc (by assumption) _ | exact ⟨by simp, by simp, by simp, by simp⟩) (first
    | (go_at_call 26; first | (with_reducible refine (C1.out _).mono ?_; rintro e w' ⟨rfl, rfl⟩) | (with_reducible refine (C2.out _).mono ?_; rintro e w' ⟨rfl, rfl⟩))
    | (go_at_call 25; refine (or_any x y _ _ _ (by simp; exact (cell_new _ (by simp) _ _ _).trans rfl) (by simp; exact (cell_new _ (by simp) _ _ _).trans rfl)).mono ?_; rintro e w' ⟨rfl, rfl⟩))
  go_wp2
  go_ret
  exact ⟨rfl, 1, _, by simp only [alloc_eq_grow, grow_grow]; rfl⟩

theorem against_lays (blk off size : Nat) (w : World) : CmpLays Try.prog 20 #[] encR 2 cf blk off size w :=
  fun _ _ _ _ x y => against_any x y _
end Go.Proofs.Ytdeppjoehnlbnaa
