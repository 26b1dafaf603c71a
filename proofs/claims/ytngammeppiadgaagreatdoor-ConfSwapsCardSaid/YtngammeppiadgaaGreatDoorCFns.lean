/-
  WHAT IS PROVED: contracts of the small functions: ids, epochs, one slot's right, the set of one slot. Condition: none.
-/
import Derived.Test.YtngammeppiadgaaGreatDoorCOne
namespace Go.Proofs.YtngammeppiadgaaGreatDoor.C
open Go.RowKit

def betB (lo hi n : Int) : Bool := decide (lo ≤ n ∧ n ≤ hi)
theorem bet_yes {lo hi n : Int} (h0 : lo ≤ n) (h : n ≤ hi) : betB lo hi n = true := decide_eq_true ⟨h0, h⟩
theorem bet_no {lo hi n : Int} (h : n < lo ∨ hi < n) : betB lo hi n = false := decide_eq_false (by omega)
theorem bet_iff {lo hi n : Int} : betB lo hi n = true ↔ lo ≤ n ∧ n ≤ hi := by unfold betB; rw [decide_eq_true_eq]
def idB (n : Int) : Bool := betB 1 4294967296 n
def epB (n : Int) : Bool := betB 0 281474976710656 n

set_option maxRecDepth 100000 in
theorem isid_any (n : Int) (w : World) : Calls Tryz.prog 39 #[.int .i64 n] w fun e w' => e = .returned (.bool (betB 1 4294967296 n)) ∧ w = w' := by
  by_cases h0 : 1 ≤ n
  · by_cases h1 : n ≤ 4294967296
    · have H := Lib.hid (bet_yes h0 h1)
      go_enter Tryz.func39, Tryz.ntmps39
      go_wp2
      go_ret
      exact ⟨by rw [H.out]; rfl, rfl⟩
    · have H := Lib.hid (bet_no (lo := 1) (hi := 4294967296) (n := n) (.inr (by omega)))
      have h3 : decide (n ≤ 4294967296) = false := by simpa using h1
      clear h1
      go_enter Tryz.func39, Tryz.ntmps39
      go_wp2
      go_ret
      exact ⟨by rw [H.out]; rfl, rfl⟩
  · have H := Lib.hid (bet_no (lo := 1) (hi := 4294967296) (n := n) (.inl (by omega)))
    have h3 : decide (1 ≤ n) = false := by simpa using h0
    clear h0
    go_enter Tryz.func39, Tryz.ntmps39
    go_wp2
    go_ret
    exact ⟨by rw [H.out]; rfl, rfl⟩

set_option maxRecDepth 100000 in
theorem isepoch_any (n : Int) (w : World) : Calls Tryz.prog 88 #[.int .i64 n] w fun e w' => e = .returned (.bool (betB 0 281474976710656 n)) ∧ w = w' := by
  by_cases h0 : 0 ≤ n
  · by_cases h1 : n ≤ 281474976710656
    · have H := Lib.hid (bet_yes h0 h1)
      go_enter Tryz.func88, Tryz.ntmps88
      go_wp2
      go_ret
      exact ⟨by rw [H.out]; rfl, rfl⟩
    · have H := Lib.hid (bet_no (lo := 0) (hi := 281474976710656) (n := n) (.inr (by omega)))
      have h3 : decide (n ≤ 281474976710656) = false := by simpa using h1
      clear h1
      go_enter Tryz.func88, Tryz.ntmps88
      go_wp2
      go_ret
      exact ⟨by rw [H.out]; rfl, rfl⟩
  · have H := Lib.hid (bet_no (lo := 0) (hi := 281474976710656) (n := n) (.inl (by omega)))
    have h3 : decide (0 ≤ n) = false := by simpa using h0
    clear h0
    go_enter Tryz.func88, Tryz.ntmps88
    go_wp2
    go_ret
    exact ⟨by rw [H.out]; rfl, rfl⟩

/-- may a slot have that owner with that epoch -/
def heldB (o e : Int) : Bool := if o = 0 then decide (e = 0) else idB o && epB e
set_option maxRecDepth 100000 in
theorem isheld_any (o e : Int) (w : World) : Calls Tryz.prog 64 #[.int .i64 o, .int .i64 e] w fun d w' => d = .returned (.bool (heldB o e)) ∧ w = w' := by
  by_cases h0 : o = 0
  · subst h0
    have H : Hid (heldB 0 e = decide (e = 0)) := Lib.hid (by simp [heldB])
    go_enter Tryz.func64, Tryz.ntmps64
    go_wp2
    go_ret
    refine ⟨?_, rfl⟩
    rw [H.out]
    by_cases he : e = 0 <;> simp [he]
  · obtain ⟨b, HB⟩ : ∃ b, Hid (betB 1 4294967296 o = b) := ⟨_, Lib.hid rfl⟩
    obtain ⟨c, HC⟩ : ∃ c, Hid (betB 0 281474976710656 e = c) := ⟨_, Lib.hid rfl⟩
    have H : Hid (heldB o e = (b && c)) := Lib.hid (by rw [← HB.out, ← HC.out]; simp [heldB, h0, idB, epB])
    have h1 : (o == 0) = false := by simpa using h0
    clear h0
    go_enter Tryz.func64, Tryz.ntmps64
    go_wp2_with (fail)
    refine (isid_any o _).mono ?_
    rintro d w1 ⟨rfl, rfl⟩
    rw [HB.out]
    cases b
    · go_wp2
      go_ret
      exact ⟨by rw [H.out]; rfl, rfl⟩
    · go_wp2_with (fail)
      refine (isepoch_any e _).mono ?_
      rintro d w1 ⟨rfl, rfl⟩
      rw [HC.out]
      go_wp2
      go_ret
      exact ⟨by rw [H.out]; rfl, rfl⟩

theorem one_int {i : Nat} (h : i < 64) : IntKind.u64.wrap (2 ^ i) = ((2 ^ i : Nat) : Int) := by
  have h2 := pow_lt64 h
  have e : (2 : Int) ^ i = ((2 ^ i : Nat) : Int) := by rw [Int.natCast_pow]; rfl
  rw [IntKind.wrap_u64, e]
  generalize 2 ^ i = x at h2
  omega
/-- one slot -/
def pw (i : Nat) : Nat := 2 ^ i
theorem one_any (i : Nat) (h : i < 64) (w : World) : Calls Tryz.prog 60 #[.int .i64 (i : Int)] w fun d w' => d = .returned (.int .u64 ((pw i : Nat) : Int)) ∧ w = w' := by
  have H : Hid (IntKind.u64.wrap (2 ^ i) = ((pw i : Nat) : Int)) := Lib.hid (one_int h)
  have h1 : (0 : Int) ≤ i := by omega
  have h2 : (i : Int) < 64 := by omega
  clear h
  go_enter Tryz.func60, Tryz.ntmps60
  go_wp2
  go_ret
  refine ⟨?_, rfl⟩
  rw [← H.out]
  rfl
/-- a set and one slot more -/
theorem or_int {s : Nat} (hs : s < 18446744073709551616) {i : Nat} (h : i < 64) : bits .or .u64 (s : Int) ((pw i : Nat) : Int) = ((s ||| pw i : Nat) : Int) := u64_or_nat s (pw i) hs (pow_lt64 h)
theorem and_int {s t : Nat} (hs : s < 18446744073709551616) (ht : t < 18446744073709551616) : bits .and .u64 (s : Int) (t : Int) = ((s &&& t : Nat) : Int) := u64_and_nat s t hs ht
theorem orr_int {s t : Nat} (hs : s < 18446744073709551616) (ht : t < 18446744073709551616) : bits .or .u64 (s : Int) (t : Int) = ((s ||| t : Nat) : Int) := u64_or_nat s t hs ht
theorem less_int {s t : Nat} (hs : s < 18446744073709551616) (ht : t < 18446744073709551616) : bits .andNot .u64 (s : Int) (t : Int) = ((less s t : Nat) : Int) := by
  rw [u64_andNot_nat s t hs ht]
  congr 1
  refine ext64 (and_lt hs) (less_lt s t) fun i hi => ?_
  rw [Nat.testBit_and, less_bit hi]
  congr 1
  have e := Nat.testBit_two_pow_sub_succ (n := 64) (x := t) ht i
  rw [show (2 : Nat) ^ 64 - (t + 1) = 18446744073709551615 - t by omega] at e
  rw [e]; simp [hi]
end Go.Proofs.YtngammeppiadgaaGreatDoor.C
