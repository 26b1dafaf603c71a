/-
  WHAT IS PROVED: plain facts on the sum of bytes (CRC-16, polynomial 1021 hexadecimal), on numbers and lists alone: one shift is linear, so a byte's eight shifts are one look-up. No condition.
-/
import Derived.WalkKit
namespace Go.Proofs.Ytneanlffllejnaa

/-- one shift of sixteen bits -/
def st (s : Nat) : Nat := if 32768 ≤ s then (s * 2 % 65536) ^^^ 4129 else s * 2 % 65536
def stN : Nat → Nat → Nat
  | 0, s => s
  | n + 1, s => stN n (st s)
/-- what a byte in the upper eight bits comes to -/
def tb (i : Nat) : Nat := stN 8 (i * 256)
/-- one byte more, as the document has it -/
def up (s c : Nat) : Nat := stN 8 (s ^^^ c * 256)
def crc (s : Nat) (l : List UInt8) : Nat := l.foldl (fun s c => up s c.toNat) s

theorem xor_lt16 {a b : Nat} (ha : a < 65536) (hb : b < 65536) : a ^^^ b < 65536 := Nat.xor_lt_two_pow (n := 16) ha hb
theorem st_lt (s : Nat) : st s < 65536 := by
  unfold st
  split
  · exact xor_lt16 (by omega) (by omega)
  · omega
theorem stN_lt (n s : Nat) (h : s < 65536) : stN n s < 65536 := by
  induction n generalizing s with
  | zero => exact h
  | succ n ih => exact ih _ (st_lt s)
theorem stN_snoc (n s : Nat) : stN (n + 1) s = st (stN n s) := by
  induction n generalizing s with
  | zero => rfl
  | succ n ih => exact ih (st s)
theorem stN_add (m n s : Nat) : stN (m + n) s = stN n (stN m s) := by
  induction m generalizing s with
  | zero => simp [stN]
  | succ m ih => rw [show m + 1 + n = (m + n) + 1 from by omega]; exact ih (st s)
theorem tb_lt (i : Nat) (h : i < 256) : tb i < 65536 := stN_lt _ _ (by omega)
theorem up_lt (s c : Nat) (hs : s < 65536) (hc : c < 256) : up s c < 65536 := stN_lt _ _ (xor_lt16 hs (by omega))
theorem crc_cons (s : Nat) (c : UInt8) (l : List UInt8) : crc s (c :: l) = crc (up s c.toNat) l := by simp [crc]
theorem crc_lt (s : Nat) (l : List UInt8) (hs : s < 65536) : crc s l < 65536 := by
  induction l generalizing s with
  | nil => exact hs
  | cons c l ih => rw [crc_cons]; exact ih _ (up_lt s _ hs (UInt8.toNat_lt c))
theorem crc_snoc (s : Nat) (l : List UInt8) (c : UInt8) : crc s (l ++ [c]) = up (crc s l) c.toNat := by simp [crc]
theorem crc_append (s : Nat) (l m : List UInt8) : crc s (l ++ m) = crc (crc s l) m := by simp [crc]

/-- bit 15 -/
theorem le_iff_testBit (s : Nat) (h : s < 65536) : 32768 ≤ s ↔ s.testBit 15 = true := by
  rw [Nat.testBit_eq_decide_div_mod_eq]
  simp
  omega
theorem st_eq (s : Nat) (h : s < 65536) : st s = (s * 2 % 65536) ^^^ (if s.testBit 15 then 4129 else 0) := by
  unfold st
  by_cases hs : 32768 ≤ s
  · rw [if_pos hs, if_pos ((le_iff_testBit s h).1 hs)]
  · rw [if_neg hs, if_neg (fun e => hs ((le_iff_testBit s h).2 e))]; simp
theorem dbl_xor (a b : Nat) : (a ^^^ b) * 2 % 65536 = (a * 2 % 65536) ^^^ (b * 2 % 65536) := by
  have h1 : ∀ x : Nat, x * 2 = x <<< 1 := fun x => by rw [Nat.shiftLeft_eq]
  rw [h1, h1, h1, Nat.shiftLeft_xor_distrib, show (65536 : Nat) = 2 ^ 16 from rfl, Nat.xor_mod_two_pow]
theorem st_xor (a b : Nat) (ha : a < 65536) (hb : b < 65536) : st (a ^^^ b) = st a ^^^ st b := by
  rw [st_eq _ (xor_lt16 ha hb), st_eq a ha, st_eq b hb, dbl_xor, Nat.testBit_xor]
  have key : (if (a.testBit 15 ^^ b.testBit 15) = true then 4129 else 0) = (if a.testBit 15 = true then 4129 else 0) ^^^ (if b.testBit 15 = true then 4129 else 0) := by
    cases a.testBit 15 <;> cases b.testBit 15 <;> decide
  rw [key]
  ac_rfl
theorem stN_xor (n a b : Nat) (ha : a < 65536) (hb : b < 65536) : stN n (a ^^^ b) = stN n a ^^^ stN n b := by
  induction n generalizing a b with
  | zero => rfl
  | succ n ih => show stN n (st (a ^^^ b)) = _; rw [st_xor a b ha hb]; exact ih _ _ (st_lt a) (st_lt b)
theorem stN_zero (n : Nat) : stN n 0 = 0 := by
  induction n with
  | zero => rfl
  | succ n ih => exact ih
theorem st_small (s : Nat) (h : s < 32768) : st s = s * 2 := by
  unfold st
  rw [if_neg (by omega)]
  omega
theorem stN8_small (s : Nat) (h : s < 256) : stN 8 s = s * 256 := by
  have e : stN 8 s = st (st (st (st (st (st (st (st s))))))) := by simp [stN]
  have a1 := st_small s (by omega)
  have a2 := st_small (s * 2) (by omega)
  have a3 := st_small (s * 2 * 2) (by omega)
  have a4 := st_small (s * 2 * 2 * 2) (by omega)
  have a5 := st_small (s * 2 * 2 * 2 * 2) (by omega)
  have a6 := st_small (s * 2 * 2 * 2 * 2 * 2) (by omega)
  have a7 := st_small (s * 2 * 2 * 2 * 2 * 2 * 2) (by omega)
  have a8 := st_small (s * 2 * 2 * 2 * 2 * 2 * 2 * 2) (by omega)
  rw [e, a1, a2, a3, a4, a5, a6, a7, a8]
  omega
theorem mul256_xor (a b : Nat) : (a ^^^ b) * 256 = a * 256 ^^^ b * 256 := by
  have h1 : ∀ x : Nat, x * 256 = x <<< 8 := fun x => by rw [Nat.shiftLeft_eq]
  rw [h1, h1, h1, Nat.shiftLeft_xor_distrib]
theorem split256 (s : Nat) : s = (s / 256 * 256) ^^^ (s % 256) := by
  apply Nat.eq_of_testBit_eq
  intro i
  have h : s / 256 * 256 = (s >>> 8) <<< 8 := by rw [Nat.shiftLeft_eq, Nat.shiftRight_eq_div_pow]
  rw [Nat.testBit_xor, h, show s % 256 = s % 2 ^ 8 from rfl, Nat.testBit_mod_two_pow, Nat.testBit_shiftLeft, Nat.testBit_shiftRight]
  by_cases hi : i < 8
  · simp [hi, show ¬ 8 ≤ i by omega]
  · simp [hi, show 8 ≤ i by omega, show 8 + (i - 8) = i by omega]
theorem xor_turn (x y z : Nat) : (x ^^^ y) ^^^ z = (x ^^^ z) ^^^ y := by ac_rfl
/-- ONE LOOK-UP DOES FOR ALL EIGHT SHIFTS -/
theorem up_tab (s c : Nat) (hs : s < 65536) (hc : c < 256) : up s c = (s * 256 % 65536) ^^^ tb (s / 256 ^^^ c) := by
  have h1 : s ^^^ c * 256 = ((s / 256 ^^^ c) * 256) ^^^ (s % 256) := by
    have h0 := xor_turn (s / 256 * 256) (s % 256) (c * 256)
    rw [← split256] at h0
    rw [mul256_xor]
    exact h0
  have hx : s / 256 ^^^ c < 256 := Nat.xor_lt_two_pow (n := 8) (by omega) hc
  have h2 : (s / 256 ^^^ c) * 256 < 65536 := by generalize s / 256 ^^^ c = x at *; omega
  have h3 := stN_xor 8 ((s / 256 ^^^ c) * 256) (s % 256) h2 (by omega)
  have h4 := stN8_small (s % 256) (by omega)
  have h5 : s % 256 * 256 = s * 256 % 65536 := by omega
  unfold up tb
  rw [h1, h3, h4, h5, Nat.xor_comm]
end Go.Proofs.Ytneanlffllejnaa
