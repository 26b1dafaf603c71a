/-
  WHAT IS PROVED: contracts of the document's own answers (package grapevineref01): Sum, find, Tag, Slot. Condition: a slice's cells are there; a string is shorter than 2^63 bytes.
-/
import Derived.Test.YtneanlffllejnaaShift
import Derived.Test.YtneanlffllejnaaBytes
namespace Go.Proofs.Ytneanlffllejnaa
open Go.RowKit

theorem i64_xor_nat (a b : Nat) (ha : a < 16777216) (hb : b < 16777216) : bits .xor .i64 (a : Int) (b : Int) = ((a ^^^ b : Nat) : Int) := by
  have hx : a ^^^ b < 2 ^ 24 := Nat.xor_lt_two_pow (by omega) (by omega)
  have e : ∀ x : Nat, x < 16777216 → (BitVec.ofInt 64 (x : Int)).toNat = x := fun x hx => by
    rw [BitVec.ofInt_natCast, BitVec.toNat_ofNat]; exact Nat.mod_eq_of_lt (by omega)
  show IntKind.i64.wrap ((BitVec.ofInt 64 (a : Int) ^^^ BitVec.ofInt 64 (b : Int)).toNat : Int) = _
  rw [BitVec.toNat_xor, e a ha, e b hb]
  exact IntWalk.i64_in _ (by omega)
theorem refx (s c : Nat) (hs : s < 65536) (hc : c < 256) : bits .xor .i64 (s : Int) ((c : Int) * 256) = ((s ^^^ c * 256 : Nat) : Int) := by
  rw [← i64_xor_nat s (c * 256) (by omega) (by omega)]
  rfl
theorem refst (s : Nat) (hs : s < 65536) (h : (32768 : Int) ≤ s) : bits .xor .i64 (((s : Int) - 32768) * 2) 4129 = (st s : Int) := by
  unfold st
  rw [if_pos (by omega)]
  have e := i64_xor_nat (s * 2 % 65536) 4129 (by omega) (by omega)
  rw [← e]
  congr 1
  omega
theorem refst_no (s : Nat) (hs : s < 65536) (h : ((s : Int) < 32768)) : (s : Int) * 2 = (st s : Int) := by
  unfold st
  rw [if_neg (by omega)]
  omega

set_option maxRecDepth 100000 in
set_option maxHeartbeats 1000000 in
theorem refsum_any (A : Option Addr) (n cap g : Nat) (l : List UInt8) (w : World) (hn : n ≤ 9223372036854775807) (hr : Reads w g A n (bs l)) :
    Calls Try.prog 37 #[.slice A n cap] w fun e w' => e = .returned (.int .i64 (crc 0 l)) ∧ w = w' := by
  have hl : l.length = n := by have := hr.1; simpa [bs] using this
  have HL := Lib.hid hl
  clear hl
  go_enter Try.func37, Try.ntmps37
  go_wp2
  go_loop [3, 4, 5] (fun s i j => ∃ k : Nat, k ≤ n ∧ i = .int .i64 k ∧ s = .int .i64 (crc 0 (l.take k))) (fun _ i _ => n - (intOf i).toNat)
  case atStart => exact ⟨0, by omega, rfl, rfl⟩
  case round =>
    obtain ⟨k, hk, rfl, rfl⟩ := hrel
    have hlt := crc_lt 0 (l.take k) (by omega)
    by_cases hkn : k < n
    · obtain ⟨ad, u, rfl, hx, hc⟩ := hr.at_ hkn
      obtain ⟨c, hlc, rfl⟩ := bs_at hx
      have hc256 := UInt8.toNat_lt c
      obtain ⟨z, hx16, HS, HT⟩ : ∃ z : Nat, z < 65536 ∧ Hid (bits .xor .i64 (crc 0 (l.take k) : Int) ((c.toNat : Int) * 256) = (z : Int)) ∧ Hid (crc 0 (l.take (k + 1)) = stN 8 z) :=
        ⟨crc 0 (l.take k) ^^^ c.toNat * 256, xor_lt16 hlt (by omega), refx _ _ hlt hc256, by rw [take_snoc hlc, crc_snoc]; rfl⟩
      clear hx hlc
      go_wp2
      go_loop [3, 5] (fun s j => ∃ m : Nat, m ≤ 8 ∧ j = .int .i64 m ∧ s = .int .i64 (stN m z)) (fun _ j => 8 - (intOf j).toNat)
      case atStart => exact ⟨0, by omega, rfl, by rw [HS.out]; rfl⟩
      case round =>
        obtain ⟨m, hm, rfl, rfl⟩ := hrel
        clear hc hc256 HS
        have hs1 := stN_lt m _ hx16
        have HN := Lib.hid (stN_snoc m z)
        have HS1 := Lib.hid hs1
        clear hs1 hx16 hlt
        have hb : (stN m z : Int) ≤ 65535 := by have := HS1.out; omega
        by_cases hm8 : m < 8
        · by_cases ht : (32768 : Int) ≤ (stN m z : Int)
          · go_wp2
            go_round
            case rel => exact ⟨m + 1, by omega, by go_num, by rw [HN.out, refst _ HS1.out ht]⟩
            case measure => simp [intOf]; omega
          · go_wp2
            go_round
            case rel => exact ⟨m + 1, by omega, by go_num, by rw [HN.out, refst_no _ HS1.out (by omega)]⟩
            case measure => simp [intOf]; omega
        · obtain rfl : m = 8 := by omega
          go_wp2
          go_round
          case rel => exact ⟨k + 1, by omega, by go_num, by rw [HT.out]⟩
          case measure => simp [intOf]; omega
    · obtain rfl : k = n := by omega
      go_wp2
      go_ret
      exact ⟨ret_int (by rw [List.take_of_length_le (by rw [HL.out]; exact Nat.le_refl _)]), rfl⟩
end Go.Proofs.Ytneanlffllejnaa
