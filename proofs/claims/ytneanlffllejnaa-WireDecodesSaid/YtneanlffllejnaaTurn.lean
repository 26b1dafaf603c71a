/-
  WHAT IS PROVED: plain facts on the sum of bytes: it is linear; one bit that is turned gives another sum. No condition.
-/
import Derived.Test.YtneanlffllejnaaCrc
namespace Go.Proofs.Ytneanlffllejnaa

theorem up_xor (s t : Nat) (x y : UInt8) (hs : s < 65536) (ht : t < 65536) : up (s ^^^ t) (x ^^^ y).toNat = up s x.toNat ^^^ up t y.toNat := by
  have hx := UInt8.toNat_lt x
  have hy := UInt8.toNat_lt y
  have e : (s ^^^ t) ^^^ (x ^^^ y).toNat * 256 = (s ^^^ x.toNat * 256) ^^^ (t ^^^ y.toNat * 256) := by
    rw [UInt8.toNat_xor, mul256_xor]
    ac_rfl
  have h := stN_xor 8 (s ^^^ x.toNat * 256) (t ^^^ y.toNat * 256) (xor_lt16 hs (by omega)) (xor_lt16 ht (by omega))
  unfold up
  rw [e, h]
theorem crc_xor (n : Nat) : ∀ (a b : List UInt8) (s t : Nat), a.length = n → b.length = n → s < 65536 → t < 65536 → crc (s ^^^ t) (List.zipWith (· ^^^ ·) a b) = crc s a ^^^ crc t b := by
  induction n with
  | zero =>
    intro a b s t ha hb _ _
    obtain rfl : a = [] := List.eq_nil_of_length_eq_zero ha
    obtain rfl : b = [] := List.eq_nil_of_length_eq_zero hb
    simp [crc]
  | succ n ih =>
    intro a b s t ha hb hs ht
    cases a with
    | nil => simp at ha
    | cons x a => cases b with
      | nil => simp at hb
      | cons y b =>
        have h := ih a b (up s x.toNat) (up t y.toNat) (by simpa using ha) (by simpa using hb) (up_lt s _ hs (UInt8.toNat_lt x)) (up_lt t _ ht (UInt8.toNat_lt y))
        rw [List.zipWith_cons_cons, crc_cons, crc_cons, crc_cons, up_xor s t x y hs ht]
        exact h
theorem st_ne (s : Nat) (h : s < 65536) (hn : s ≠ 0) : st s ≠ 0 := by
  unfold st
  by_cases hs : 32768 ≤ s
  · rw [if_pos hs]
    intro e
    have e2 : s * 2 % 65536 = 4129 := by
      have := congrArg (fun x => x ^^^ 4129) e
      simpa [Nat.xor_assoc] using this
    omega
  · rw [if_neg hs]; omega
theorem stN_ne (n s : Nat) (h : s < 65536) (hn : s ≠ 0) : stN n s ≠ 0 := by
  induction n generalizing s with
  | zero => exact hn
  | succ n ih => exact ih _ (st_lt s) (st_ne s h hn)
theorem top_shift (r : Nat) (h : r ≤ 15) : stN r (32768 / 2 ^ r) = 32768 := by
  have : ∀ r, r ≤ 15 → stN r (32768 / 2 ^ r) = 32768 := by decide +kernel
  exact this r h
theorem crc_zeros (s m : Nat) : crc s (List.replicate m 0) = stN (8 * m) s := by
  induction m generalizing s with
  | zero => rfl
  | succ m ih =>
    rw [List.replicate_succ, crc_cons, ih]
    have e : up s (0 : UInt8).toNat = stN 8 s := by
      unfold up
      have : s ^^^ (0 : UInt8).toNat * 256 = s := by simp
      rw [this]
    rw [e, ← stN_add, show 8 + 8 * m = 8 * (m + 1) by omega]
/-- the sum of a text of noughts with one bit -/
theorem crc_bit (n j r : Nat) (c : UInt8) (hj : j < n) (hr : r < 8) (hc : c.toNat = 128 / 2 ^ r) :
    crc 0 (List.replicate j 0 ++ c :: List.replicate (n - 1 - j) 0) = stN (8 * n - (8 * j + r)) 32768 := by
  rw [crc_append, crc_zeros, stN_zero, crc_cons, crc_zeros]
  have e1 : up 0 c.toNat = stN (8 - r) 32768 := by
    have : ∀ r, r < 8 → up 0 (128 / 2 ^ r) = stN (8 - r) 32768 := by decide +kernel
    rw [hc]; exact this r hr
  rw [e1, ← stN_add, show 8 - r + 8 * (n - 1 - j) = 8 * n - (8 * j + r) by omega]
theorem zip_noughts (l : List UInt8) : ∀ (n : Nat), l.length = n → List.zipWith (· ^^^ ·) l (List.replicate n 0) = l := by
  induction l with
  | nil => intro n _; simp
  | cons x l ih =>
    intro n hn
    cases n with
    | zero => simp at hn
    | succ n => rw [List.replicate_succ, List.zipWith_cons_cons, ih n (by simpa using hn)]; simp
theorem zip_bit (l : List UInt8) (n j : Nat) (c x : UInt8) (hl : l.length = n) (hx : l[j]? = some x) :
    List.zipWith (· ^^^ ·) l (List.replicate j 0 ++ c :: List.replicate (n - 1 - j) 0) = l.set j (x ^^^ c) := by
  induction l generalizing n j with
  | nil => simp at hx
  | cons y l ih =>
    cases n with
    | zero => simp at hl
    | succ n =>
      cases j with
      | zero =>
        simp only [List.getElem?_cons_zero, Option.some.injEq] at hx
        subst hx
        simp only [List.replicate_zero, List.nil_append, List.zipWith_cons_cons, List.set_cons_zero]
        rw [show n + 1 - 1 - 0 = n by omega, zip_noughts l n (by simpa using hl)]
      | succ j =>
        have h := ih n j (by simpa using hl) (by simpa using hx)
        rw [List.replicate_succ, List.cons_append, List.zipWith_cons_cons, List.set_cons_succ, show n + 1 - 1 - (j + 1) = n - 1 - j by omega, h]
        simp
/-- one bit turned -/
theorem crc_turn (l : List UInt8) (n j r : Nat) (c x : UInt8) (hl : l.length = n) (hr : r < 8) (hc : c.toNat = 128 / 2 ^ r) (hx : l[j]? = some x) :
    crc 0 (l.set j (x ^^^ c)) = crc 0 l ^^^ stN (8 * n - (8 * j + r)) 32768 := by
  have hj : j < n := by have := (List.getElem?_eq_some_iff.1 hx).1; omega
  rw [← zip_bit l n j c x hl hx, ← crc_bit n j r c hj hr hc]
  exact crc_xor n l _ 0 0 hl (by simp; omega) (by omega) (by omega)

end Go.Proofs.Ytneanlffllejnaa
