/-
  WHAT IS PROVED: contracts of the leaves that ask for a kind, an id, a range, a state. No condition.
-/
import Derived.Test.YtneanlffllejnaaBase
import Derived.Test.YtneanlffllejnaaPlain
namespace Go.Proofs.Ytneanlffllejnaa
open Go.RowKit Go.Lib

/-- a bool is answered, and nothing turns -/
def Ans (b : Bool) (w : World) (e : Ending) (w' : World) : Prop := e = .returned (.bool b) ∧ w = w'
theorem kind_any (n : Int) (w : World) : Calls Try.prog 23 #[.int .i64 n] w (Ans (isKd n) w) := by
  rcases Int.lt_or_le n 1 with h | h
  · have HX : Hid ((isKd n) = false) := by show _ = _; unfold isKd; exact decide_eq_false (by omega)
    go_enter Try.func23, Try.ntmps23
    go_wp2
    go_ret
    exact ⟨by rw [HX.out]; rfl, rfl⟩
  · have HX : Hid ((isKd n) = decide (n ≤ 7)) := by show _ = _; unfold isKd; rw [decide_eq_decide]; omega
    go_enter Try.func23, Try.ntmps23
    go_wp2
    go_ret
    exact ⟨by rw [HX.out]; rfl, rfl⟩
theorem id_any (n : Int) (w : World) : Calls Try.prog 24 #[.int .i64 n] w (Ans (isId n) w) := by
  rcases Int.lt_or_le n 1 with h | h
  · have HX : Hid ((isId n) = false) := by show _ = _; unfold isId; exact decide_eq_false (by omega)
    go_enter Try.func24, Try.ntmps24
    go_wp2
    go_ret
    exact ⟨by rw [HX.out]; rfl, rfl⟩
  · have HX : Hid ((isId n) = decide (n ≤ 4294967296)) := by show _ = _; unfold isId; rw [decide_eq_decide]; omega
    go_enter Try.func24, Try.ntmps24
    go_wp2
    go_ret
    exact ⟨by rw [HX.out]; rfl, rfl⟩
theorem epoch_any (n : Int) (w : World) : Calls Try.prog 25 #[.int .i64 n] w (Ans (isIn n 281474976710656) w) := by
  rcases Int.lt_or_le n 0 with h | h
  · have HX : Hid ((isIn n 281474976710656) = false) := by show _ = _; unfold isIn; exact decide_eq_false (by omega)
    go_enter Try.func25, Try.ntmps25
    go_wp2
    go_ret
    exact ⟨by rw [HX.out]; rfl, rfl⟩
  · have HX : Hid ((isIn n 281474976710656) = decide (n ≤ 281474976710656)) := by show _ = _; unfold isIn; rw [decide_eq_decide]; omega
    go_enter Try.func25, Try.ntmps25
    go_wp2
    go_ret
    exact ⟨by rw [HX.out]; rfl, rfl⟩
theorem state_any (n : Int) (w : World) : Calls Try.prog 42 #[.int .i64 n] w (Ans (isIn n 2) w) := by
  rcases Int.lt_or_le n 0 with h | h
  · have HX : Hid ((isIn n 2) = false) := by show _ = _; unfold isIn; exact decide_eq_false (by omega)
    go_enter Try.func42, Try.ntmps42
    go_wp2
    go_ret
    exact ⟨by rw [HX.out]; rfl, rfl⟩
  · have HX : Hid ((isIn n 2) = decide (n ≤ 2)) := by show _ = _; unfold isIn; rw [decide_eq_decide]; omega
    go_enter Try.func42, Try.ntmps42
    go_wp2
    go_ret
    exact ⟨by rw [HX.out]; rfl, rfl⟩
theorem rid_any (n : Int) (w : World) : Calls Try.prog 29 #[.int .i64 n] w (Ans (isId n) w) := by
  rcases Int.lt_or_le n 1 with h | h
  · have HX : Hid ((isId n) = false) := by show _ = _; unfold isId; exact decide_eq_false (by omega)
    go_enter Try.func29, Try.ntmps29
    go_wp2
    go_ret
    exact ⟨by rw [HX.out]; rfl, rfl⟩
  · have HX : Hid ((isId n) = decide (n ≤ 4294967296)) := by show _ = _; unfold isId; rw [decide_eq_decide]; omega
    go_enter Try.func29, Try.ntmps29
    go_wp2
    go_ret
    exact ⟨by rw [HX.out]; rfl, rfl⟩
theorem rin_any (n m : Int) (w : World) : Calls Try.prog 30 #[.int .i64 n, .int .i64 m] w (Ans (isIn n m) w) := by
  rcases Int.lt_or_le n 0 with h | h
  · have HX : Hid ((isIn n m) = false) := by show _ = _; unfold isIn; exact decide_eq_false (by omega)
    go_enter Try.func30, Try.ntmps30
    go_wp2
    go_ret
    exact ⟨by rw [HX.out]; rfl, rfl⟩
  · have HX : Hid ((isIn n m) = decide (n ≤ m)) := by show _ = _; unfold isIn; rw [decide_eq_decide]; omega
    go_enter Try.func30, Try.ntmps30
    go_wp2
    go_ret
    exact ⟨by rw [HX.out]; rfl, rfl⟩
end Go.Proofs.Ytneanlffllejnaa
