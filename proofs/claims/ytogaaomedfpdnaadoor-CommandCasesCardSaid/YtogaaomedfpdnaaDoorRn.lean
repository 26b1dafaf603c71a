/-
  WHAT IS PROVED: the contract of the document's number. Condition: the text's size.
-/
import Derived.Test.YtogaaomedfpdnaaDoorRw
namespace Go.Proofs.YtogaaomedfpdnaaDoor
set_option maxRecDepth 100000
open Go.RowKit

theorem refN_no {d : List UInt8} (h : ¬ (1 ≤ d.length ∧ d.length ≤ 15 ∧ ¬ (d.head? = some 48 ∧ 1 < d.length) ∧ d.all isD = true)) : refN d = -1 := if_neg h
theorem refN_yes {d : List UInt8} (h : 1 ≤ d.length ∧ d.length ≤ 15 ∧ ¬ (d.head? = some 48 ∧ 1 < d.length) ∧ d.all isD = true) : refN d = (val d : Int) := if_pos h
def NPost (d : List UInt8) (w : World) (e : Ending) (w' : World) : Prop := e = .returned (.int .i64 (refN d)) ∧ w = w'

set_option maxHeartbeats 1000000 in
theorem refn_loop (d : List UInt8) (h1 : 1 ≤ d.length) (h15 : d.length ≤ 15) (hh : ¬ (d.head? = some 48 ∧ 1 < d.length)) (w : World) : Calls Tryd.prog 18 #[.string (str d)] w (NPost d w) := by
  have hz : (str d).size = d.length := rfl
  have hs0 : 0 < (str d).size := h1
  have g0 := str_get hs0
  have q1 : decide ((d.length : Int) < 1) = false := decide_eq_false (by omega)
  have q2 : decide ((15 : Int) < d.length) = false := decide_eq_false (by omega)
  have q1' : decide (d.length < 1) = false := decide_eq_false (by omega)
  have q2' : decide (15 < d.length) = false := decide_eq_false (by omega)
  have hcase : ((((str d)[0].toNat : Int) == 48) = false) ∨ ((((str d)[0].toNat : Int) == 48) = true ∧ decide ((1 : Int) < (d.length : Int)) = false) := by
    by_cases h48 : (str d)[0] = 48
    · refine .inr ⟨by rw [h48]; rfl, decide_eq_false fun h => hh ⟨?_, by omega⟩⟩
      rw [List.head?_eq_getElem?, g0, h48]
    · refine .inl ?_
      rw [beq_eq_false_iff_ne]
      intro e
      refine h48 (UInt8.toNat_inj.1 ?_)
      show (str d)[0].toNat = 48
      omega
  have HY : Hid ((∀ c ∈ d, isD c = true) → refN d = (val d : Int)) := Lib.hid fun h => refN_yes ⟨h1, h15, hh, List.all_eq_true.2 h⟩
  have HN : Hid (∀ c ∈ d, isD c = false → refN d = -1) := Lib.hid fun c hc hd => refN_no fun h => by
    have := List.all_eq_true.1 h.2.2.2 c hc
    rw [hd] at this; cases this
  have hl1 : (1 : Int) ≤ d.length := by omega
  have hl2 : (d.length : Int) ≤ 15 := by omega
  have hl0 : 0 < d.length := h1
  clear g0 hh
  rcases hcase with hc0 | ⟨hc0, hc1⟩
  all_goals
    go_enter Tryd.func18, Tryd.ntmps18
    go_wp2
    go_loopw [3, 4] (fun n i wr => ∃ k : Nat, k ≤ d.length ∧ i = .int .i64 k ∧ n = .int .i64 (val (d.take k) : Nat) ∧ Hid (∀ c ∈ d.take k, isD c = true) ∧ wr = w) (fun _ i _ => d.length - (intOf i).toNat)
    case atStart => exact ⟨0, by omega, rfl, rfl, Lib.hid (by simp), rfl⟩
    case round =>
      obtain ⟨k, hk, rfl, rfl, hp, rfl⟩ := hrel
      by_cases hlt : k < d.length
      · have hk1 : k < (str d).size := hlt
        have hkI : (k : Int) < d.length := by omega
        have hk0 : (0 : Int) ≤ k := by omega
        have g := str_get hk1
        have h256 := UInt8.toNat_lt (str d)[k]
        have hm : (str d)[k] ∈ d := List.mem_of_getElem? g
        have HX := Lib.hid (HN.out _ hm)
        have hv := val_take d k
        have HV : Hid (val (d.take (k + 1)) = 10 * val (d.take k) + ((str d)[k].toNat - 48)) := Lib.hid (val_take_succ g)
        have HP : Hid (isD (str d)[k] = true → ∀ c ∈ d.take (k + 1), isD c = true) := Lib.hid fun h c hc => by
          rw [take_snoc g] at hc
          rcases List.mem_append.1 hc with hc | hc
          · exact hp.out c hc
          · rw [List.mem_singleton.1 hc]; exact h
        have HDI := Lib.hid (@isD_iff (str d)[k])
        have hval : val (d.take k) < 10 ^ 15 := by
          have e1 : val (d.take k) < 10 ^ (d.take k).length := val_lt _ hp.out
          have e2 : (10 : Nat) ^ (d.take k).length ≤ 10 ^ 15 := Nat.pow_le_pow_right (by omega) (by rw [List.length_take]; omega)
          omega
        have e15 : (10 : Nat) ^ 15 = 1000000000000000 := by decide
        rw [e15] at hval
        clear hv g hm e15
        generalize hn : val (d.take k) = n at *
        have HNN := Lib.hid hn
        clear hn
        have hn0 : (0 : Int) ≤ n := by omega
        have hn1 : (n : Int) < 1000000000000000 := by omega
        by_cases a1 : (str d)[k].toNat < 48
        · have d1 : decide (((str d)[k].toNat : Int) < 48) = true := decide_eq_true (by omega)
          have HE := Lib.hid (HX.out (by
            rw [← Bool.not_eq_true]; intro e
            have := HDI.out.1 e
            omega))
          clear HX HV HP HDI
          go_wp2
          go_ret
          exact ⟨by rw [HE.out]; rfl, rfl⟩
        · have d1 : decide (((str d)[k].toNat : Int) < 48) = false := decide_eq_false (by omega)
          by_cases a2 : 57 < (str d)[k].toNat
          · have d2 : decide ((57 : Int) < ((str d)[k].toNat : Int)) = true := decide_eq_true (by omega)
            have HE := Lib.hid (HX.out (by
              rw [← Bool.not_eq_true]; intro e
              have := HDI.out.1 e
              omega))
            clear HX HV HP HDI
            go_wp2
            go_ret
            exact ⟨by rw [HE.out]; rfl, rfl⟩
          · have d2 : decide ((57 : Int) < ((str d)[k].toNat : Int)) = false := decide_eq_false (by omega)
            have HPP := Lib.hid (HP.out (HDI.out.2 ⟨by omega, by omega⟩))
            have hc48 : (48 : Int) ≤ (str d)[k].toNat := by omega
            have hc57 : ((str d)[k].toNat : Int) ≤ 57 := by omega
            have HVI : Hid (10 * (n : Int) + ((str d)[k].toNat - 48) = ((val (d.take (k + 1)) : Nat) : Int)) := Lib.hid (by rw [HV.out]; omega)
            clear HX HV HP HDI hp
            go_wp2
            go_roundw
            case rel => exact ⟨k + 1, by omega, by go_num, by rw [HVI.out], HPP, by first | trivial | rfl⟩
            case measure => simp [intOf]; omega
      · obtain rfl : k = d.length := by omega
        have HX : Hid (refN d = ((val (d.take d.length) : Nat) : Int)) := Lib.hid (by
          have := hp.out
          rw [List.take_length] at this ⊢
          exact HY.out this)
        generalize val (d.take d.length) = n at *
        go_wp2
        go_ret
        exact ⟨by rw [HX.out]; rfl, rfl⟩
set_option maxHeartbeats 1000000 in
theorem refn_any (d : List UInt8) (hd : d.length ≤ 4294967296) (w : World) : Calls Tryd.prog 18 #[.string (str d)] w (NPost d w) := by
  have hz : (str d).size = d.length := rfl
  by_cases h1 : 1 ≤ d.length
  · by_cases h15 : d.length ≤ 15
    · by_cases hh : d.head? = some 48 ∧ 1 < d.length
      · have HX := Lib.hid (refN_no (d := d) (fun h => h.2.2.1 hh))
        have hs0 : 0 < (str d).size := h1
        have g0 := str_get hs0
        have hc0 : (((str d)[0].toNat : Int) == 48) = true := by
          have := hh.1
          rw [List.head?_eq_getElem?, g0] at this
          injection this with this
          rw [this]; rfl
        have q1 : decide ((d.length : Int) < 1) = false := decide_eq_false (by omega)
        have q2 : decide ((15 : Int) < d.length) = false := decide_eq_false (by omega)
        have q1' : decide (d.length < 1) = false := decide_eq_false (by omega)
        have q2' : decide (15 < d.length) = false := decide_eq_false (by omega)
        have q3 : decide ((1 : Int) < d.length) = true := decide_eq_true (by omega)
        have q3' : decide (1 < d.length) = true := decide_eq_true (by omega)
        have hl0 : 0 < d.length := h1
        clear hh g0
        go_enter Tryd.func18, Tryd.ntmps18
        go_wp2
        go_ret
        exact ⟨by rw [HX.out]; rfl, rfl⟩
      · exact refn_loop d h1 h15 hh w
    · have HX := Lib.hid (refN_no (d := d) (fun h => h15 h.2.1))
      have q1 : decide ((d.length : Int) < 1) = false := decide_eq_false (by omega)
      have q2 : decide ((15 : Int) < d.length) = true := decide_eq_true (by omega)
      have q1' : decide (d.length < 1) = false := decide_eq_false (by omega)
      have q2' : decide (15 < d.length) = true := decide_eq_true (by omega)
      go_enter Tryd.func18, Tryd.ntmps18
      go_wp2
      go_ret
      exact ⟨by rw [HX.out]; rfl, rfl⟩
  · have HX := Lib.hid (refN_no (d := d) (fun h => h1 h.1))
    have q1 : decide ((d.length : Int) < 1) = true := decide_eq_true (by omega)
    have q1' : decide (d.length < 1) = true := decide_eq_true (by omega)
    go_enter Tryd.func18, Tryd.ntmps18
    go_wp2
    go_ret
    exact ⟨by rw [HX.out]; rfl, rfl⟩
end Go.Proofs.YtogaaomedfpdnaaDoor
