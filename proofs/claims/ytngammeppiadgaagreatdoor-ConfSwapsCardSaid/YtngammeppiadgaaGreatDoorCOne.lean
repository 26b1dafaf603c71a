/-
  WHAT IS PROVED: contracts of the calls that look at one slot. Condition: none.
-/
import Derived.Test.YtngammeppiadgaaGreatDoorCSet
import Derived.Deep.QuietTactic
import Derived.BigQuiet
import Derived.IntWalk
import Derived.Laws.BitsAllLaws
import Derived.Laws.BitsLemmas
import Derived.Outline
namespace Go.Proofs.YtngammeppiadgaaGreatDoor.C
open Go.RowKit

def slotB (n : Int) : Bool := decide (0 ≤ n ∧ n < 64)
theorem slotB_yes {n : Int} (h0 : 0 ≤ n) (h : n < 64) : slotB n = true := decide_eq_true ⟨h0, h⟩
theorem slotB_no {n : Int} (h : n < 0 ∨ 64 ≤ n) : slotB n = false := decide_eq_false (by omega)

theorem isslot_any (n : Int) (w : World) : Calls Tryz.prog 74 #[.int .i64 n] w fun e w' => e = .returned (.bool (slotB n)) ∧ w = w' := by
  by_cases h0 : 0 ≤ n
  · by_cases h1 : n < 64
    · have H := Lib.hid (slotB_yes h0 h1)
      go_enter Tryz.func74, Tryz.ntmps74
      go_wp2
      go_ret
      exact ⟨by rw [H.out]; rfl, rfl⟩
    · have H := Lib.hid (slotB_no (n := n) (.inr (by omega)))
      have h2 : 64 ≤ n := by omega
      have h3 : decide (n < 64) = false := by simpa using h2
      go_enter Tryz.func74, Tryz.ntmps74
      go_wp2
      go_ret
      exact ⟨by rw [H.out]; rfl, rfl⟩
  · have H := Lib.hid (slotB_no (n := n) (.inl (by omega)))
    have h2 : n < 0 := by omega
    have h3 : decide (0 ≤ n) = false := by simpa using h2
    go_enter Tryz.func74, Tryz.ntmps74
    go_wp2
    go_ret
    exact ⟨by rw [H.out]; rfl, rfl⟩

/-- whether a set has a slot, as a number may ask -/
def hasB (s : Nat) (n : Int) : Bool := slotB n && s.testBit n.toNat
theorem has_at {s i : Nat} (hi : i < 64) : hasB s (i : Int) = s.testBit i := by
  unfold hasB; rw [slotB_yes (by omega) (by omega)]; simp
theorem has_out {s : Nat} {n : Int} (h : n < 0 ∨ 64 ≤ n) : hasB s n = false := by
  unfold hasB; rw [slotB_no h]; rfl
theorem bit_int {s : Nat} (hs : s < 18446744073709551616) (i : Nat) : bits .and .u64 ((s : Int) / 2 ^ i) 1 = ((if s.testBit i = true then 1 else 0 : Nat) : Int) := by
  have e : ((s : Int) / 2 ^ i) = ((s >>> i : Nat) : Int) := by rw [Nat.shiftRight_eq_div_pow, Int.natCast_ediv, Int.natCast_pow]; rfl
  have h2 : s >>> i < 18446744073709551616 := by rw [Nat.shiftRight_eq_div_pow]; exact Nat.lt_of_le_of_lt (Nat.div_le_self _ _) hs
  rw [e]
  have h := u64_and_nat (s >>> i) 1 h2 (by decide)
  rw [show ((1 : Nat) : Int) = 1 from rfl] at h
  rw [h]
  congr 1
  unfold Nat.testBit
  rw [Nat.and_comm, Nat.one_and_eq_mod_two]
  rcases Nat.mod_two_eq_zero_or_one (s >>> i) with h | h <;> simp [h]

set_option maxRecDepth 100000 in
theorem has_any (s : Nat) (hs : s < 18446744073709551616) (n : Int) (w : World) : Calls Tryz.prog 56 #[.int .u64 (s : Int), .int .i64 n] w fun e w' => e = .returned (.bool (hasB s n)) ∧ w = w' := by
  by_cases h : 0 ≤ n ∧ n < 64
  · obtain ⟨i, rfl⟩ := Int.eq_ofNat_of_zero_le h.1
    have hi : i < 64 := by omega
    have h1 : (0 : Int) ≤ i := by omega
    have h2 : (i : Int) < 64 := by omega
    have HH := Lib.hid (has_at (s := s) hi)
    have HB := Lib.hid (bit_int hs i)
    have HY := Lib.hid (slotB_yes h1 h2)
    clear h
    go_enter Tryz.func56, Tryz.ntmps56
    go_wp2_with (go_at_call 74; refine (isslot_any _ _).mono ?_; rintro e w' ⟨rfl, rfl⟩; rw [HY.out])
    go_ret
    refine ⟨?_, rfl⟩
    rw [HH.out]
    show Ending.returned (.bool (bits .and .u64 ((s : Int) / 2 ^ i) 1 == 1)) = _
    rw [HB.out]
    cases s.testBit i <;> rfl
  · have HH := Lib.hid (has_out (s := s) (show n < 0 ∨ 64 ≤ n by omega))
    have HN := Lib.hid (slotB_no (show n < 0 ∨ 64 ≤ n by omega))
    clear h
    go_enter Tryz.func56, Tryz.ntmps56
    go_wp2_with (go_at_call 74; refine (isslot_any _ _).mono ?_; rintro e w' ⟨rfl, rfl⟩; rw [HN.out])
    go_ret
    exact ⟨by rw [HH.out]; rfl, rfl⟩
end Go.Proofs.YtngammeppiadgaaGreatDoor.C
