/-
  WHAT IS PROVED: the contract of the document's reader of one slot. Condition: the text has at most 100000 bytes.
-/
import Derived.Test.YtogaaomedfpdnaaDoorSRead
import Derived.Test.YtogaaomedfpdnaaDoorBytes
import Derived.LoopN
import Derived.LoopTactic
import Derived.WalkKit
import Derived.Lib.Hide
import Derived.Outline
import Derived.BigQuiet
namespace Go.Proofs.YtogaaomedfpdnaaDoor.S
open Go.RowKit

theorem drop_head {t : List UInt8} {a : Nat} {c : UInt8} {r : List UInt8} (h : t.drop a = c :: r) : ∃ hl : a < (str t).size, (str t)[a] = c ∧ t.drop (a + 1) = r := by
  have hl : a < t.length := by
    rcases Nat.lt_or_ge a t.length with h' | h'
    · exact h'
    · rw [List.drop_eq_nil_of_le h'] at h; cases h
  rw [List.drop_eq_getElem_cons hl] at h
  injection h with h1 h2
  exact ⟨hl, h1, h2⟩
theorem drop_nil {t : List UInt8} {a : Nat} (ha : a ≤ t.length) (h : t.drop a = []) : a = (str t).size := by
  have := congrArg List.length h
  rw [List.length_drop] at this
  rw [str_size]
  simp at this; omega

/-- what the reader of a slot answers -/
def numV (t : List UInt8) (a : Nat) : Int × Nat := match numAt (t.drop a) with
  | none => (-1, a)
  | some (n, m) => ((n : Int), a + m)

set_option maxRecDepth 100000 in
set_option maxHeartbeats 4000000 in
theorem refnum_any (t : List UInt8) (a : Nat) (ht : t.length ≤ 100000) (ha : a ≤ t.length) (w : World) : Calls Tryd.prog 29 #[.string (str t), .int .i64 (a : Int)] w fun e w' =>
    e = .returned (.tuple #[.int .i64 (numV t a).1, .int .i64 ((numV t a).2 : Nat)]) ∧ w = w' := by
  have hz : (str t).size ≤ 100000 := ht
  have ha2 : (a : Int) ≤ 100000 := by omega
  have ha0 : (0 : Int) ≤ a := by omega
  cases hr : t.drop a with
  | nil =>
    have HV : Hid (numV t a = (-1, a)) := by show _ = _; unfold numV; rw [hr]; rfl
    have hsz := drop_nil ha hr
    have d1 : decide (a < (str t).size) = false := by rw [decide_eq_false_iff_not]; omega
    clear hr hsz
    go_enter Tryd.func29, Tryd.ntmps29
    go_wp2
    refine wp_loop_rounds 1 ?_
    rw [rounds_succ]
    go_wp2
    go_ret2
    exact ⟨by rw [HV.out]; rfl, rfl⟩
  | cons c r =>
    obtain ⟨hl, hc, hr1⟩ := drop_head hr
    by_cases hd : isDig c = true
    · have hb1 : (48 : Int) ≤ c.toNat := by unfold isDig at hd; simp at hd; omega
      have hb2 : (c.toNat : Int) ≤ 57 := by unfold isDig at hd; simp at hd; omega
      have d1 : decide (a < (str t).size) = true := by rw [decide_eq_true_eq]; exact hl
      have q1 : ((a : Int) + 1 == (a : Int)) = false := by rw [beq_eq_false_iff_ne]; omega
      have hone : (r = [] ∨ ∃ d r2, r = d :: r2 ∧ isDig d = false) → numV t a = ((c.toNat : Int) - 48, a + 1) := by
        intro h
        unfold numV
        rw [hr]
        rcases h with rfl | ⟨d, r2, rfl, hd2⟩
        · rw [numAt_one, if_pos hd]; simp only [Prod.mk.injEq, and_true]; omega
        · rw [numAt_two, if_pos hd, if_neg (by rw [hd2]; decide)]; simp only [Prod.mk.injEq, and_true]; omega
      have h48 : ((c.toNat : Int) == 48) = true ∨ ((c.toNat : Int) == 48) = false := by cases ((c.toNat : Int) == 48) <;> simp
      cases r with
      | nil =>
        have HV := Lib.hid (hone (.inl rfl))
        have hsz := drop_nil (t := t) (a := a + 1) (by rw [str_size] at hl; omega) hr1
        have d2 : ((str t).size : Int) ≤ (a : Int) + 1 := by omega
        clear hr hr1 hd hone hsz
        rcases h48 with h48 | h48
        all_goals
          go_enter Tryd.func29, Tryd.ntmps29
          go_wp2
          refine wp_loop_rounds 2 ?_
          rw [rounds_succ]
          go_wp2
          rw [rounds_succ]
          go_wp2
          go_ret2
          exact ⟨by rw [HV.out]; rfl, rfl⟩
      | cons d r2 =>
        obtain ⟨hl1, hd1, hr2⟩ := drop_head hr1
        have d2 : (a : Int) + 1 < (str t).size := by omega
        by_cases hdd : isDig d = true
        · have he1 : (48 : Int) ≤ d.toNat := by unfold isDig at hdd; simp at hdd; omega
          have he2 : (d.toNat : Int) ≤ 57 := by unfold isDig at hdd; simp at hdd; omega
          have HV : Hid (numV t a = if 63 < 10 * ((c.toNat : Int) - 48) + ((d.toNat : Int) - 48) ∨ ((c.toNat : Int) == 48) = true then (-1, a) else (10 * ((c.toNat : Int) - 48) + ((d.toNat : Int) - 48), a + 2)) := by
            show _ = _
            unfold numV
            rw [hr, numAt_two, if_pos hd, if_pos hdd]
            by_cases hx : 63 < 10 * (c.toNat - 48) + (d.toNat - 48) ∨ c.toNat = 48
            · rw [if_pos hx, if_pos (by rw [beq_iff_eq]; omega)]
            · rw [if_neg hx, if_neg (by rw [beq_iff_eq]; omega)]
              simp only [Prod.mk.injEq, and_true]; omega
          have q3 : ((a : Int) + 1 + 1 == (a : Int)) = false := by rw [beq_eq_false_iff_ne]; omega
          clear hr hr1 hr2 hd hdd hone
          rcases h48 with h48 | h48
          · have HV2 : Hid (numV t a = (-1, a)) := by show _ = _; rw [HV.out, if_pos (.inr h48)]
            clear HV
            go_enter Tryd.func29, Tryd.ntmps29
            go_wp2
            refine wp_loop_rounds 3 ?_
            rw [rounds_succ]
            go_wp2
            rw [rounds_succ]
            go_wp2
            rw [rounds_succ]
            go_wp2
            all_goals
              go_ret2
              exact ⟨by rw [HV2.out]; rfl, rfl⟩
          · by_cases h63 : 63 < 10 * ((c.toNat : Int) - 48) + ((d.toNat : Int) - 48)
            · have HV2 : Hid (numV t a = (-1, a)) := by show _ = _; rw [HV.out, if_pos (.inl h63)]
              clear HV
              go_enter Tryd.func29, Tryd.ntmps29
              go_wp2
              refine wp_loop_rounds 3 ?_
              rw [rounds_succ]
              go_wp2
              rw [rounds_succ]
              go_wp2
              rw [rounds_succ]
              go_wp2
              all_goals
                go_ret2
                exact ⟨by rw [HV2.out]; rfl, rfl⟩
            · have HV2 : Hid (numV t a = (10 * ((c.toNat : Int) - 48) + ((d.toNat : Int) - 48), a + 2)) := by show _ = _; rw [HV.out, if_neg (by rw [h48]; simp; omega)]
              have h63' : 10 * ((c.toNat : Int) - 48) + ((d.toNat : Int) - 48) ≤ 63 := by omega
              clear HV h63
              go_enter Tryd.func29, Tryd.ntmps29
              go_wp2
              refine wp_loop_rounds 3 ?_
              rw [rounds_succ]
              go_wp2
              rw [rounds_succ]
              go_wp2
              rw [rounds_succ]
              go_wp2
              all_goals
                go_ret2
                exact ⟨by rw [HV2.out]; rfl, rfl⟩
        · have HV := Lib.hid (hone (.inr ⟨d, r2, rfl, by simpa using hdd⟩))
          have hdn : (d.toNat : Int) < 48 ∨ ((48 : Int) ≤ d.toNat ∧ (57 : Int) < d.toNat) := by
            unfold isDig at hdd; simp at hdd; omega
          clear hr hr1 hr2 hd hdd hone
          rcases h48 with h48 | h48 <;> rcases hdn with hdn | ⟨hdm, hdn⟩
          all_goals
            go_enter Tryd.func29, Tryd.ntmps29
            go_wp2
            refine wp_loop_rounds 2 ?_
            rw [rounds_succ]
            go_wp2
            rw [rounds_succ]
            go_wp2
            all_goals
              go_ret2
              exact ⟨by rw [HV.out]; rfl, rfl⟩
    · have HV : Hid (numV t a = (-1, a)) := by
        show _ = _; unfold numV; rw [hr]
        have hd' : isDig c = false := by simpa using hd
        cases r with
        | nil => rw [numAt_one, hd']; rfl
        | cons d r => rw [numAt_two, hd']; rfl
      have hd2 : (c.toNat : Int) < 48 ∨ ((48 : Int) ≤ c.toNat ∧ (57 : Int) < c.toNat) := by
        unfold isDig at hd; simp at hd; omega
      have d1 : decide (a < (str t).size) = true := by rw [decide_eq_true_eq]; exact hl
      clear hr hr1 hd
      rcases hd2 with hd2 | ⟨hd3, hd2⟩
      all_goals
        go_enter Tryd.func29, Tryd.ntmps29
        go_wp2
        refine wp_loop_rounds 1 ?_
        rw [rounds_succ]
        go_wp2
        go_ret2
        exact ⟨by rw [HV.out]; rfl, rfl⟩
end Go.Proofs.YtogaaomedfpdnaaDoor.S
