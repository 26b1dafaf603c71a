/-
  WHAT IS PROVED: contracts of what only looks at a table: Right, the document's own right, Of. Condition: none.
-/
import Derived.Test.YtngammeppiadgaaGreatDoorCTab
import Derived.Test.YtngammeppiadgaaGreatDoorCFns
import Derived.LoopTactic
namespace Go.Proofs.YtngammeppiadgaaGreatDoor.C
open Go.RowKit

def okB (t : Tab) : Bool := (List.range 64).all fun i => heldB (t.o i) (t.e i)
theorem okB_iff {t : Tab} : okB t = true ↔ ∀ i, i < 64 → heldB (t.o i) (t.e i) = true := by
  unfold okB; simp [List.all_eq_true]
theorem okB_no {t : Tab} {k : Nat} (hk : k < 64) (h : heldB (t.o k) (t.e k) = false) : okB t = false := by
  cases e : okB t with
  | false => rfl
  | true => rw [okB_iff.1 e k hk] at h; cases h
theorem held_iff {o e : Int} : heldB o e = true ↔ (o = 0 ∧ e = 0) ∨ (1 ≤ o ∧ o ≤ 4294967296 ∧ 0 ≤ e ∧ e ≤ 281474976710656) := by
  unfold heldB idB epB
  by_cases h : o = 0
  · rw [if_pos h, decide_eq_true_eq]; omega
  · rw [if_neg h, Bool.and_eq_true, bet_iff, bet_iff]; omega

set_option maxRecDepth 100000 in
set_option maxHeartbeats 1000000 in
theorem right_any (t : Tab) (w : World) : Calls Tryz.prog 49 #[.agg (tb t)] w (Says (okB t) w) := by
  have hT := Lib.hid (TabAt.new w t)
  have hb := Lib.hid ((Below.refl w.heap.size w).alloc (Nat.le_refl _) (.cells (tb t) 27))
  go_enter Tryz.func49, Tryz.ntmps49
  go_wp2_with (refine at_owners rfl hT.out rfl ?_)
  go_loop [7] (fun i => ∃ k : Nat, k ≤ 64 ∧ i = .int .i64 k ∧ Hid (∀ j, j < k → heldB (t.o j) (t.e j) = true)) (fun i => 64 - (intOf i).toNat)
  case atStart => exact ⟨0, by omega, rfl, Lib.hid (fun j hj => absurd hj (by omega))⟩
  case round =>
    obtain ⟨k, hk, rfl, hall⟩ := hrel
    by_cases hlt : k < 64
    · have hidx := index_row t.o hlt
      have hE := hT.out.e hlt
      obtain ⟨b, HB⟩ : ∃ b, Hid (heldB (t.o k) (t.e k) = b) := ⟨_, Lib.hid rfl⟩
      go_wp2_with (fail)
      refine (isheld_any _ _ _).mono ?_
      rintro d w1 ⟨rfl, rfl⟩
      rw [HB.out]
      cases b
      · go_wp2
        go_ret
        exact ⟨by rw [okB_no hlt HB.out]; rfl, hb.out⟩
      · go_wp2
        go_round
        case rel => exact ⟨k + 1, by omega, by go_num, Lib.hid fun j hj => by
          rcases Nat.lt_or_ge j k with h | h
          · exact hall.out j h
          · obtain rfl : j = k := by omega
            exact HB.out⟩
        case measure => simp [intOf]; omega
    · obtain rfl : k = 64 := by omega
      go_wp2
      go_ret
      exact ⟨by rw [okB_iff.2 hall.out]; rfl, hb.out⟩

/-- the slots that somebody has -/
def ofN (t : Tab) (id : Int) : Nat := pick fun i => t.o i == id
def ofTo (t : Tab) (id : Int) (k : Nat) : Nat := ors ((List.range k).filter fun i => t.o i == id)
theorem ofTo_yes {t : Tab} {id : Int} {k : Nat} (h : (t.o k == id) = true) : ofTo t id (k + 1) = ofTo t id k ||| pw k := by
  unfold ofTo; rw [List.range_succ, List.filter_append, List.filter_cons, if_pos h, List.filter_nil, ors_snoc]; rfl
theorem ofTo_no {t : Tab} {id : Int} {k : Nat} (h : (t.o k == id) = false) : ofTo t id (k + 1) = ofTo t id k := by
  unfold ofTo; rw [List.range_succ, List.filter_append, List.filter_cons, if_neg (by rw [h]; simp), List.filter_nil, List.append_nil]
theorem ofTo_lt (t : Tab) (id : Int) {k : Nat} (h : k ≤ 64) : ofTo t id k < 18446744073709551616 := ors_lt fun i hi => by
  have := (List.mem_filter.1 hi).1
  simp at this; omega

set_option maxRecDepth 100000 in
set_option maxHeartbeats 1000000 in
theorem of_any (t : Tab) (id : Int) (w : World) : Calls Tryz.prog 42 #[.agg (tb t), .int .i64 id] w fun d w' => d = .returned (.int .u64 ((ofN t id : Nat) : Int)) ∧ Below w.heap.size w w' := by
  have hT := Lib.hid (TabAt.new w t)
  have hb := Lib.hid ((Below.refl w.heap.size w).alloc (Nat.le_refl _) (.cells (tb t) 27))
  go_enter Tryz.func42, Tryz.ntmps42
  go_wp2_with (refine at_owners rfl hT.out rfl ?_)
  go_loop [5, 10] (fun s i => ∃ k : Nat, k ≤ 64 ∧ i = .int .i64 k ∧ s = .int .u64 ((ofTo t id k : Nat) : Int)) (fun _ i => 64 - (intOf i).toNat)
  case atStart => exact ⟨0, by omega, rfl, rfl⟩
  case round =>
    obtain ⟨k, hk, rfl, rfl⟩ := hrel
    by_cases hlt : k < 64
    · have hidx := index_row t.o hlt
      have hS := ofTo_lt t id hk
      obtain ⟨b, hB⟩ : ∃ b, (t.o k == id) = b := ⟨_, rfl⟩
      cases b
      · have HN := Lib.hid (ofTo_no hB)
        generalize ofTo t id k = s at *
        go_wp2
        go_round
        case rel => exact ⟨k + 1, by omega, by go_num, by rw [HN.out]⟩
        case measure => simp [intOf]; omega
      · have HN := Lib.hid (ofTo_yes hB)
        have HO := Lib.hid (or_int hS hlt)
        generalize ofTo t id k = s at *
        go_wp2_with (fail)
        refine (one_any k hlt _).mono ?_
        rintro d w1 ⟨rfl, rfl⟩
        have HO1 := HO.out
        go_wp2
        go_round
        case rel => exact ⟨k + 1, by omega, by go_num, by rw [HN.out, ← HO.out]⟩
        case measure => simp [intOf]; omega
    · obtain rfl : k = 64 := by omega
      go_wp2
      go_ret
      exact ⟨rfl, hb.out⟩
end Go.Proofs.YtngammeppiadgaaGreatDoor.C
