/-
  WHAT IS PROVED: contracts of the lock of a meter (one goroutine; the lock free), of the atomic counters and of the small functions (plus, New, Get, High). Condition: the block is a meter that nobody is at.
-/
import Derived.Test.YthaikcopbeppeaaMeter
import Derived.Test.YthaikcopbeppeaaLocks
import Derived.Conc.RwLoneW
import Derived.LoopN
import Derived.Lib.Hide
namespace Go.Proofs.Ythaikcopbeppeaa
open Go.RowKit Go.Lib

section
variable {w : World} {g : Nat} {d m : Int} {s : St}
theorem up1 : wrap32 (0 + 1) = 1 := by unfold wrap32; omega
theorem down1 : wrap32 (1 + -1) = 0 := by unfold wrap32; omega
theorem grown_set (g i : Nat) (u : Value) (w : World) : w.grownBy (w.setCell ⟨g, i, none⟩ u) (some g) := only_setCell (World.grownBy.refl w (some g)) (.inl rfl) u

theorem rlock_any (h : Mt w g 0 0 d m s) : Calls Try.prog 19 #[.pointer (some ⟨g, 0, none⟩)] w fun e w' => e = .returned (.tuple #[]) ∧ Mt w' g 0 1 d m s ∧ w.grownBy w' (some g) := by
  refine (Go.RwLone.rlock_open Try.rwRLib g 0 0 (.int .i32 0) (.int .u32 0) w h.c0 h.c3 h.c4 (h.fz 4) (by rw [up1]; decide)).mono ?_
  rintro e w' ⟨rfl, rfl⟩
  rw [up1]
  exact ⟨rfl, h.s4 1, grown_set g 4 _ w⟩

theorem runlock_any (u : FrameMode) (h : Mt w g 0 1 d m s) : CallsD Try.prog 20 #[.pointer (some ⟨g, 0, none⟩)] u w fun e u' w' => u' = u ∧ (e = .returned (.tuple #[]) ∧ Mt w' g 0 0 d m s ∧ w.grownBy w' (some g)) := by
  refine (Go.RwLone.runlock_deferred Try.rwRLib g 0 1 (.int .i32 0) (.int .u32 0) u w h.c0 h.c2 h.c4 (h.fz 4) (by rw [down1]; decide)).mono ?_
  rintro e u' w' ⟨rfl, rfl, rfl⟩
  rw [down1]
  exact ⟨rfl, rfl, h.s4 0, grown_set g 4 _ w⟩

theorem wlock_any (h : Mt w g 0 0 d m s) : Calls Try.prog 27 #[.pointer (some ⟨g, 0, none⟩)] w fun e w' => e = .returned (.tuple #[]) ∧ Mt w' g 1 (-1073741824) d m s ∧ w.grownBy w' (some g) := by
  refine (Go.RwLone.wlock_free Try.rwWLib g 0 (.int .u32 0) (.int .u32 0) w h.c0 h.c2 h.c3 h.c4 (h.fz 0) (h.fz 4)).mono ?_
  rintro e w' ⟨rfl, rfl⟩
  exact ⟨rfl, (h.s0 1).s4 (-1073741824), (grown_set g 0 _ w).trans (grown_set g 4 _ _)⟩

theorem wunlock_any (u : FrameMode) (h : Mt w g 1 (-1073741824) d m s) : CallsD Try.prog 28 #[.pointer (some ⟨g, 0, none⟩)] u w fun e u' w' => u' = u ∧ (e = .returned (.tuple #[]) ∧ Mt w' g 0 0 d m s ∧ w.grownBy w' (some g)) := by
  refine (Go.RwLone.wunlock_deferred Try.rwWLib g 0 (.int .u32 0) (.int .u32 0) u w h.c0 h.c2 h.c3 h.c4 (h.fz 0) (h.fz 4)).mono ?_
  rintro e u' w' ⟨rfl, rfl, rfl⟩
  exact ⟨rfl, rfl, (h.s4 0).s0 0, (grown_set g 4 _ w).trans (grown_set g 0 _ _)⟩
end

theorem load_any (p : Addr) (v : Int) (w : World) (hc : w.cell? p = some (.int .i64 v)) :
    Calls Try.prog 29 #[.pointer (some p)] w fun e w' => e = .returned (.int .i64 v) ∧ w = w' := by
  have hl := run_call_load (P := Try.prog) Try.func47 (by kernel_rfl) (by kernel_rfl) (by kernel_rfl) .i64 (by kernel_rfl) hc
  go_enter Try.func29, Try.ntmps29
  go_wp2
  go_ret
  exact ⟨rfl, rfl⟩

theorem cas_any (p : Addr) (v x : Int) (w : World) (hc : w.cell? p = some (.int .i64 v)) (hz : w.frozen? p = false) :
    Calls Try.prog 38 #[.pointer (some p), .int .i64 v, .int .i64 x] w fun e w' => e = .returned (.bool true) ∧ w' = w.setCell p (.int .i64 x) := by
  have hcas := run_call_cas_hit (P := Try.prog) Try.func49 (by kernel_rfl) (by kernel_rfl) (by kernel_rfl) .i64 (by kernel_rfl) (y := x) hc hz
  go_enter Try.func38, Try.ntmps38
  go_wp2
  go_ret
  exact ⟨rfl, rfl⟩

theorem plus_any (a n : Int) (w : World) (h0 : 0 ≤ a) (h1 : a ≤ 4611686018427387904) (hn : 0 ≤ n) (hn2 : n ≤ 4611686018427387904) :
    Calls Try.prog 23 #[.int .i64 a, .int .i64 n] w fun e w' => e = .returned (.int .i64 (plusI a n)) ∧ w = w' := by
  have e1 : wrap64 (4611686018427387904 - a) = 4611686018427387904 - a := by unfold wrap64; omega
  go_enter Try.func23, Try.ntmps23
  go_wp2
  all_goals
    go_ret
    exact ⟨ret_int (by unfold plusI; omega), rfl⟩

theorem isKind_any (k : Int) (w : World) : Calls Try.prog 18 #[.int .i64 k] w fun e w' => e = .returned (.bool (decide (0 ≤ k) && decide (k < 16))) ∧ w = w' := by
  by_cases h0 : 0 ≤ k
  · by_cases h1 : k < 16
    · go_enter Try.func18, Try.ntmps18
      go_wp2
      go_ret
      exact ⟨by simp [h0, h1], rfl⟩
    · go_enter Try.func18, Try.ntmps18
      go_wp2
      go_ret
      exact ⟨by simp [h1], rfl⟩
  · go_enter Try.func18, Try.ntmps18
    go_wp2
    go_ret
    exact ⟨by rw [show decide (0 ≤ k) = false by simp; omega]; rfl, rfl⟩

theorem new_any (w : World) : Calls Try.prog 10 #[] w fun e w' => e = .returned (.pointer (some ⟨w.heap.size, 0, none⟩)) ∧ Me w' w.heap.size St.zero ∧ Below w.heap.size w w' := by
  go_enter Try.func10, Try.ntmps10
  go_wp2
  go_ret
  refine ⟨rfl, ⟨⟨_, Blk.new w _ _, rfl, rfl, rfl, rfl, rfl, fun i hi => ?_, rfl, rfl, rfl, rfl, rfl⟩, St.ok_zero⟩, (Below.refl _ _).alloc (Nat.le_refl _) _⟩
  match i, hi with
  | 0, _ | 1, _ | 2, _ | 3, _ | 4, _ | 5, _ | 6, _ | 7, _ | 8, _ | 9, _ | 10, _ | 11, _ | 12, _ | 13, _ | 14, _ | 15, _ => rfl
  | n + 16, h => exact absurd h (by omega)

theorem high_any (g : Nat) (s : St) (w : World) (h : Me w g s) : Calls Try.prog 16 #[.pointer (some ⟨g, 0, none⟩)] w (Did g (.int .i64 s.high) s w) := by
  have c := h.1.ch
  go_enter Try.func16, Try.ntmps16
  go_wp2_with (go_at_call 29; refine (load_any _ _ _ c).mono ?_; rintro e w' ⟨rfl, rfl⟩)
  go_ret
  exact ⟨rfl, h, World.grownBy.refl _ _⟩

theorem get_any (g : Nat) (s : St) (k : Int) (w : World) (h : Me w g s) : Calls Try.prog 14 #[.pointer (some ⟨g, 0, none⟩), .int .i64 k] w (Did g (.int .i64 (s.get k)) s w) := by
  by_cases hk : 0 ≤ k ∧ k < 16
  · have HG : Hid (s.get k = s.f k.toNat) := by show _ = _; unfold St.get; rw [if_pos hk]
    have HK : Hid ((decide (0 ≤ k) && decide (k < 16)) = true) := by show _ = _; simp [hk.1, hk.2]
    have c := h.1.cf (i := k.toNat) (by omega)
    go_enter Try.func14, Try.ntmps14
    go_wp2_with (fail)
    refine (isKind_any k w).mono ?_
    rintro e w' ⟨rfl, rfl⟩
    rw [HK.out]
    go_wp2_with (go_at_call 29; refine (load_any _ _ _ c).mono ?_; rintro e w' ⟨rfl, rfl⟩)
    go_ret
    rw [HG.out]
    exact ⟨rfl, h, World.grownBy.refl _ _⟩
  · have HG : Hid (s.get k = 0) := by show _ = _; unfold St.get; rw [if_neg hk]
    have HK : Hid ((decide (0 ≤ k) && decide (k < 16)) = false) := by show _ = _; simp; omega
    go_enter Try.func14, Try.ntmps14
    go_wp2_with (fail)
    refine (isKind_any k w).mono ?_
    rintro e w' ⟨rfl, rfl⟩
    rw [HK.out]
    go_wp2
    go_ret
    rw [HG.out]
    exact ⟨rfl, h, World.grownBy.refl _ _⟩
end Go.Proofs.Ythaikcopbeppeaa
