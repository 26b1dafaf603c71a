/-
  WHAT IS PROVED: contracts of the leaves: slot.shifted, and the document's own sum of bytes (grapevineref01.Sum). No condition but that the slice's cells are there.
-/
import Derived.Test.YtneanlffllejnaaBase
import Derived.Test.YtneanlffllejnaaCrc
namespace Go.Proofs.Ytneanlffllejnaa
open Go.RowKit

theorem u16_and_top (s : Nat) (h : s < 65536) : s &&& 32768 = if 32768 ≤ s then 32768 else 0 := by
  apply Nat.eq_of_testBit_eq
  intro i
  rw [Nat.testBit_and, show (32768 : Nat) = 2 ^ 15 from rfl, Nat.testBit_two_pow]
  have hb := le_iff_testBit s h
  by_cases hi : 15 = i
  · subst hi
    by_cases hs : 2 ^ 15 ≤ s
    · rw [if_pos hs, hb.1 hs]; decide
    · rw [if_neg hs, Bool.eq_false_iff.2 (fun e => hs (hb.2 e))]; simp
  · by_cases hs : 2 ^ 15 ≤ s
    · rw [if_pos hs, Nat.testBit_two_pow]; simp [hi]
    · rw [if_neg hs]; simp [hi]

theorem and_top (s : Nat) (h : s < 65536) : bits .and .u16 (s : Int) 32768 = ((if 32768 ≤ s then 32768 else 0 : Nat) : Int) := by
  have e := u16_and_nat s 32768 h (by omega)
  rw [u16_and_top s h] at e
  exact e
theorem dbl (s : Nat) : IntKind.u16.wrap ((s : Int) * 2) = ((s * 2 % 65536 : Nat) : Int) := by
  rw [IntKind.wrap_u16]; omega
theorem st_hit (s : Nat) (hs : s < 65536) (h : (bits .and .u16 (s : Int) 32768 != 0) = true) : bits .xor .u16 (IntKind.u16.wrap ((s : Int) * 2)) 4129 = (st s : Int) := by
  rw [and_top s hs] at h
  have h1 : 32768 ≤ s := by
    by_cases hh : 32768 ≤ s
    · exact hh
    · rw [if_neg hh] at h; simp at h
  rw [dbl]
  have e := u16_xor_nat (s * 2 % 65536) 4129 (by omega) (by omega)
  unfold st
  rw [if_pos h1]
  exact e
theorem st_miss (s : Nat) (hs : s < 65536) (h : (bits .and .u16 (s : Int) 32768 != 0) = false) : IntKind.u16.wrap ((s : Int) * 2) = (st s : Int) := by
  rw [and_top s hs] at h
  have h1 : ¬ 32768 ≤ s := by
    intro hh
    rw [if_pos hh] at h; simp at h
  rw [dbl]
  unfold st
  rw [if_neg h1]
theorem ret_u16 {a b : Int} (h : a = b) : Ending.returned (.int .u16 a) = .returned (.int .u16 b) := by rw [h]

set_option maxHeartbeats 400000 in
theorem shifted_any (s : Nat) (hs : s < 65536) (w : World) :
    Calls Try.prog 53 #[.int .u16 s] w fun e w' => e = .returned (.int .u16 (stN 8 s)) ∧ w = w' := by
  go_enter Try.func53, Try.ntmps53
  go_wp2
  go_loop [0, 3, 4] (fun a b i => ∃ k : Nat, k ≤ 8 ∧ i = .int .i64 k ∧ a = .int .u16 (stN k s)) (fun _ _ i => 8 - (intOf i).toNat)
  case atStart => exact ⟨0, by omega, rfl, rfl⟩
  case round =>
    obtain ⟨k, hk, rfl, rfl⟩ := hrel
    have hlt := stN_lt k s hs
    have hn := stN_snoc k s
    have HN := Lib.hid hn
    clear hn
    go_wp2
    · go_round
      case rel => exact ⟨k + 1, by omega, by go_num, by rw [HN.out, st_hit _ hlt (by assumption)]⟩
      case measure => simp [intOf]; omega
    · go_round
      case rel => exact ⟨k + 1, by omega, by go_num, by rw [HN.out, st_miss _ hlt (by assumption)]⟩
      case measure => simp [intOf]; omega
    · have hk8 : (8 : Int) ≤ k := by assumption
      obtain rfl : k = 8 := by omega
      go_ret
      exact ⟨rfl, rfl⟩
end Go.Proofs.Ytneanlffllejnaa
