/-
  WHAT IS PROVED: contracts of the document's Flags and Set. Condition: none.
-/
import Derived.Test.YtogaaomedfpdnaaDoorSFlags
import Derived.LoopTactic
import Derived.WalkKit
import Derived.BigQuiet
import Derived.Deep.QuietTactic
namespace Go.Proofs.YtogaaomedfpdnaaDoor.S
open Go.RowKit

set_option maxRecDepth 100000 in
set_option maxHeartbeats 2000000 in
theorem flags_any (s : Nat) (hs : s < 18446744073709551616) (w : World) : Calls Tryd.prog 24 #[.int .u64 (s : Int)] w fun e w' => e = .returned (.agg (fl s)) ∧ Below w.heap.size w w' := by
  have HR : Hid (∀ v w', v = fl s ∧ Below w.heap.size w w' → (Ending.returned (.agg v) = .returned (.agg (fl s)) ∧ Below w.heap.size w w')) := fun v w' h => ⟨by rw [h.1], h.2⟩
  go_enter Tryd.func24, Tryd.ntmps24
  go_wp2
  go_loopw [0, 4] (fun q i wr => ∃ k : Nat, k ≤ 64 ∧ i = .int .i64 k ∧ q = .int .u64 (s / 2 ^ k : Nat) ∧ Below w.heap.size w wr ∧ Blk wr w.heap.size 57 (fl 0) ∧ Blk wr (w.heap.size + 1) 57 (fl (s % 2 ^ k))) (fun _ i _ => 64 - (intOf i).toNat)
  case atStart =>
    refine ⟨0, by omega, rfl, by simp, ((Below.refl _ _).alloc (Nat.le_refl _) _).alloc (by simp) _, (blk_new rfl (by kernel_rfl)).alloc _, ?_⟩
    rw [Nat.pow_zero, Nat.mod_one]
    exact blk_new (by simp) (by kernel_rfl)
  case round =>
    obtain ⟨k, hk, rfl, rfl, hb, hB0, hB⟩ := hrel
    by_cases hlt : k < 64
    · have HQ := Lib.hid (half_bit s k)
      have HN := Lib.hid (half_next hs k)
      have HF := Lib.hid (fl_step (s := s) hlt)
      have hc : wr.cell? ⟨w.heap.size + 1, k, none⟩ = some (.bool ((s % 2 ^ k).testBit k)) := (hB.cell k).trans (fl_at _ hlt)
      have hf := hB.frozen k
      generalize s / 2 ^ k = q at *
      go_wp2
      go_roundw
      case rel => exact ⟨k + 1, by omega, by go_num, by rw [HN.out], hb.setCell (p := ⟨w.heap.size + 1, k, none⟩) (Nat.le_succ _) _, hB0.far (p := ⟨w.heap.size + 1, k, none⟩) (by show w.heap.size ≠ w.heap.size + 1; omega) _, by rw [HQ.out, ← HF.out]; exact hB.set_ k _⟩
      case measure => simp [intOf]; omega
    · obtain rfl : k = 64 := by omega
      have e : s % 2 ^ 64 = s := Nat.mod_eq_of_lt hs
      rw [e] at hB
      have hB1 : wr.heap[w.heap.size + 1]? = some (.cells (fl s) 57 (0, 0)) := hB
      have hB2 : wr.heap[w.heap.size]? = some (.cells (fl 0) 57 (0, 0)) := hB0
      have HS : Hid ((Tryd.prog.info? 57).map (·.size) = some (fl s).size) := by show _ = _; rw [fl_size]; exact arr_size
      have HO : Hid ((fl 0).size = (fl s).size) := by show _ = _; rw [fl_size, fl_size]
      have HC := Lib.hid (fl_cells s)
      clear hB hB0 e
      go_wp2_with (first | (refine wpList_load_row rfl 57 (.tmp 3) rfl (w.heap.size + 1) rfl 57 (fl s) (0, 0) _ hB1 Tryd.underlying57 rfl HS.out ?_) | (refine wpList_store_row rfl 57 (.tmp 2) (.tmp 16) rfl w.heap.size (fl s) rfl rfl 57 (fl 0) hB2 HS.out HO.out HC.out ?_))
      exact bodyPost_ret (results_cell_row rfl _ _ w.heap.size 57 (fl s) (0, 0) _ rfl (setRow_heap wr w.heap.size _ (fl s) _ _ hB2) Tryd.underlying57 rfl HS.out) rfl ⟨rfl, below_setRow hb (Nat.le_refl _) _⟩

set_option maxRecDepth 100000 in
set_option maxHeartbeats 2000000 in
theorem refset_any (s : Nat) (hs : s < 18446744073709551616) (w : World) : Calls Tryd.prog 20 #[.agg (fl s)] w fun e w' => e = .returned (.int .u64 (s : Int)) ∧ Below w.heap.size w w' := by
  have hB : Blk (w.alloc (.cells (fl s) 57)) w.heap.size 57 (fl s) := Blk.new _ _ _
  have hb : Below w.heap.size w (w.alloc (.cells (fl s) 57)) := (Below.refl _ _).alloc (Nat.le_refl _) _
  have HC : Hid (∀ k, k < 64 → (w.alloc (.cells (fl s) 57)).cell? ⟨w.heap.size, k, none⟩ = some (.bool (s.testBit k))) := fun k hk => (hB.cell k).trans (fl_at s hk)
  clear hB
  generalize hF : fl s = F at *
  go_enter Tryd.func20, Tryd.ntmps20
  go_wp2
  go_loop [3, 4] (fun q i => ∃ k : Nat, k ≤ 64 ∧ i = .int .i64 ((k : Int) - 1) ∧ q = .int .u64 (s / 2 ^ k : Nat)) (fun _ i => (intOf i + 1).toNat)
  case atStart => exact ⟨64, by omega, rfl, by rw [Nat.div_eq_of_lt (show s < 2 ^ 64 from hs)]; rfl⟩
  case round =>
    obtain ⟨k, hk, rfl, rfl⟩ := hrel
    cases k with
    | zero =>
      rw [show (((0 : Nat) : Int) - 1) = -1 from rfl, Nat.pow_zero, Nat.div_one]
      go_wp2
      go_ret
      exact ⟨rfl, hb⟩
    | succ j =>
      rw [show (((j + 1 : Nat) : Int) - 1) = (j : Int) by omega]
      have hc := HC.out j (by omega)
      have hq1 : s / 2 ^ j < 18446744073709551616 := Nat.lt_of_le_of_lt (Nat.div_le_self _ _) hs
      have hh := horner s j
      have hj : (j : Int) < 64 := by omega
      cases hbit : s.testBit j with
      | true =>
        rw [hbit] at hh hc
        simp only [if_true] at hh
        have HH : Hid (IntKind.u64.wrap (IntKind.u64.wrap (((s / 2 ^ (j + 1) : Nat) : Int) * 2) + 1) = ((s / 2 ^ j : Nat) : Int)) := by
          show _ = _
          rw [IntKind.wrap_u64, IntKind.wrap_u64, ← hh]
          rw [← hh] at hq1
          generalize s / 2 ^ (j + 1) = q at *
          omega
        clear hh hq1 hbit
        generalize s / 2 ^ (j + 1) = q at *
        go_wp2
        go_round
        case rel => exact ⟨j, by omega, rfl, by rw [HH.out]⟩
        case measure => simp [intOf]
      | false =>
        rw [hbit] at hh hc
        simp only [Bool.false_eq_true, if_false] at hh
        have HH : Hid (IntKind.u64.wrap (((s / 2 ^ (j + 1) : Nat) : Int) * 2) = ((s / 2 ^ j : Nat) : Int)) := by
          show _ = _
          rw [IntKind.wrap_u64, ← hh]
          rw [← hh] at hq1
          generalize s / 2 ^ (j + 1) = q at *
          omega
        clear hh hq1 hbit
        generalize s / 2 ^ (j + 1) = q at *
        go_wp2
        go_round
        case rel => exact ⟨j, by omega, rfl, by rw [HH.out]⟩
        case measure => simp [intOf]

end Go.Proofs.YtogaaomedfpdnaaDoor.S
