/-
  WHAT IS PROVED: the contract of the document's Digits, at every int from 0 on. No other condition.
-/
import Derived.Test.YtogaaomedfpdnaaDoorSRefText
import Derived.Test.YtogaaomedfpdnaaDoorPl
namespace Go.Proofs.YtogaaomedfpdnaaDoor
set_option maxRecDepth 100000
open Go.RowKit Go.Lib

def SaysS (b : List UInt8) (w : World) (e : Ending) (w' : World) : Prop := e = .returned (.string (str b)) ∧ Below w.heap.size w w'
theorem rdigit1 (n : Nat) (hn : n < 10) (w : World) : Calls Tryd.prog 22 #[.int .i64 (n : Int)] w (SaysS (digL n) w) := by
  have hc : ((UInt8.ofNat (48 + n)).toNat : Int) = 48 + n := by
    have : (UInt8.ofNat (48 + n)).toNat = 48 + n := by simp; omega
    rw [this]; omega
  have hb := S.byte_back (UInt8.ofNat (48 + n)) w
  rw [hc] at hb
  have HD : Hid (digL n = [UInt8.ofNat (48 + n)]) := Lib.hid (digL_small hn)
  have h1 : (n : Int) < 10 := by omega
  clear hc
  generalize [UInt8.ofNat (48 + n)] = l at *
  go_enter Tryd.func22, Tryd.ntmps22
  go_wp2
  go_ret
  exact ⟨by rw [HD.out]; rfl, (Below.refl _ _).alloc (Nat.le_refl _) _⟩
theorem rdig_any : ∀ (n : Nat), n < 9223372036854775808 → ∀ w : World, Calls Tryd.prog 22 #[.int .i64 (n : Int)] w (SaysS (digL n) w) := by
  intro n
  induction n using Nat.strongRecOn with
  | ind n ih =>
    intro hn w
    by_cases h : n < 10
    · exact rdigit1 n h w
    · have HD : Hid (digL n = digL (n / 10) ++ digL (n % 10)) := Lib.hid (digL_big h)
      have HA : Hid (∀ W, Calls Tryd.prog 22 #[.int .i64 ((n : Int) / 10)] W (SaysS (digL (n / 10)) W)) := Lib.hid fun W => ih (n / 10) (by omega) (by omega) W
      have HB : Hid (∀ W, Calls Tryd.prog 22 #[.int .i64 ((n : Int) % 10)] W (SaysS (digL (n % 10)) W)) := Lib.hid fun W => rdigit1 (n % 10) (by omega) W
      have h0 : (0 : Int) ≤ n := by omega
      have h1 : (10 : Int) ≤ n := by omega
      have h2 : (n : Int) ≤ 9223372036854775807 := by omega
      have s1 : (str (digL (n / 10))).size ≤ 20 := digL_len 19 _ (by have e : (10 : Nat) ^ (19 + 1) = 100000000000000000000 := by decide
                                                                     omega)
      have s2 : (str (digL (n % 10))).size ≤ 1 := digL_len 0 _ (by omega)
      clear h ih hn
      go_enter Tryd.func22, Tryd.ntmps22
      go_wp2_with (fail)
      refine (HA.out _).mono ?_
      rintro e w1 ⟨rfl, hb1⟩
      go_wp2_with (fail)
      refine (HB.out _).mono ?_
      rintro e w2 ⟨rfl, hb2⟩
      have hb2' := hb1.trans (hb2.mono hb1.size)
      go_wp2
      go_ret
      refine ⟨?_, hb2'⟩
      rw [HD.out, ← S.str_app]; rfl
end Go.Proofs.YtogaaomedfpdnaaDoor
