/-
  WHAT IS PROVED: contracts of the functions that tell whether epochs, or a number, are right: the program's and the law's. Condition: none.
-/
import Derived.Test.YtckdibnadokipaaEps
namespace Go.Proofs.Ytckdibnadokipaa
open Go.RowKit Go.Lib

theorem upto_any (n t : Int) (w : World) : Calls Try.prog 23 #[.int .i64 n, .int .i64 t] w fun e w' => e = .returned (.bool (upB n t)) ∧ w = w' := by
  by_cases h1 : 0 ≤ n
  · by_cases h2 : n ≤ t
    · have HX : Hid (upB n t = true) := up_iff.2 ⟨h1, h2⟩
      go_enter Try.func23, Try.ntmps23
      go_wp2
      go_ret
      exact ⟨by rw [HX.out]; rfl, rfl⟩
    · have HX : Hid (upB n t = false) := up_no.2 (by omega)
      have h3 : decide (n ≤ t) = false := by simp; omega
      clear h2
      go_enter Try.func23, Try.ntmps23
      go_wp2
      go_ret
      exact ⟨by rw [HX.out]; rfl, rfl⟩
  · have HX : Hid (upB n t = false) := up_no.2 (by omega)
    have h3 : decide (0 ≤ n) = false := by simp; omega
    clear h1
    go_enter Try.func23, Try.ntmps23
    go_wp2
    go_ret
    exact ⟨by rw [HX.out]; rfl, rfl⟩

theorem num_any (n : Int) (w : World) : Calls Try.prog 16 #[.int .i64 n] w fun e w' => e = .returned (.bool (upB n 281474976710656)) ∧ w = w' := by
  by_cases h1 : 0 ≤ n
  · by_cases h2 : n ≤ 281474976710656
    · have HX : Hid (upB n 281474976710656 = true) := up_iff.2 ⟨h1, h2⟩
      go_enter Try.func16, Try.ntmps16
      go_wp2
      go_ret
      exact ⟨by rw [HX.out]; rfl, rfl⟩
    · have HX : Hid (upB n 281474976710656 = false) := up_no.2 (by omega)
      have h3 : decide (n ≤ 281474976710656) = false := by simp; omega
      clear h2
      go_enter Try.func16, Try.ntmps16
      go_wp2
      go_ret
      exact ⟨by rw [HX.out]; rfl, rfl⟩
  · have HX : Hid (upB n 281474976710656 = false) := up_no.2 (by omega)
    have h3 : decide (0 ≤ n) = false := by simp; omega
    clear h1
    go_enter Try.func16, Try.ntmps16
    go_wp2
    go_ret
    exact ⟨by rw [HX.out]; rfl, rfl⟩

theorem yields_any (i o m t : Int) (w : World) : Calls Try.prog 21 #[.int .i64 i, .int .i64 o, .int .i64 m, .int .i64 t] w fun e w' => e = .returned (.bool (yieldB i o m t)) ∧ w = w' := by
  by_cases h1 : m = t
  · by_cases h2 : i < o
    · have HX : Hid (yieldB i o m t = true) := yield_iff.2 ⟨h1, h2⟩
      have h3 : (m == t) = true := by simpa using h1
      clear h1
      go_enter Try.func21, Try.ntmps21
      go_wp2
      go_ret
      exact ⟨by rw [HX.out]; rfl, rfl⟩
    · have HX : Hid (yieldB i o m t = false) := yield_no.2 (by omega)
      have h3 : (m == t) = true := by simpa using h1
      have h4 : decide (i < o) = false := by simp; omega
      clear h1 h2
      go_enter Try.func21, Try.ntmps21
      go_wp2
      go_ret
      exact ⟨by rw [HX.out]; rfl, rfl⟩
  · have HX : Hid (yieldB i o m t = false) := yield_no.2 (by omega)
    have h3 : (m == t) = false := by simpa using h1
    clear h1
    go_enter Try.func21, Try.ntmps21
    go_wp2
    go_ret
    exact ⟨by rw [HX.out]; rfl, rfl⟩

theorem right_any (r : Ep) (w : World) : Calls Try.prog 14 #[vEp r] w (Says (okB r) w) := by
  have close : ∀ o : Obj, Below w.heap.size w (w.alloc o) := fun o => (Below.refl _ w).alloc (Nat.le_refl _) o
  obtain ⟨b1, B1⟩ : ∃ b, Hid (upB r.cur 281474976710656 = b) := ⟨_, Lib.hid rfl⟩
  obtain ⟨b2, B2⟩ : ∃ b, Hid (upB r.vote r.cur = b) := ⟨_, Lib.hid rfl⟩
  obtain ⟨b3, B3⟩ : ∃ b, Hid (upB r.conf r.cur = b) := ⟨_, Lib.hid rfl⟩
  have HX : Hid (okB r = (b1 && b2 && b3)) := by
    show _ = _
    rw [← B1.out, ← B2.out, ← B3.out]
    unfold okB upB
    simp [Bool.decide_and, Bool.and_assoc]
  go_enter Try.func14, Try.ntmps14
  go_wp2_with (fail)
  refine (upto_any _ _ _).mono ?_
  rintro e w1 ⟨rfl, rfl⟩
  rw [B1.out]
  cases b1
  · go_wp2
    go_ret
    exact ⟨by rw [HX.out]; rfl, close _⟩
  · go_wp2_with (fail)
    refine (upto_any _ _ _).mono ?_
    rintro e w1 ⟨rfl, rfl⟩
    rw [B2.out]
    cases b2
    · go_wp2
      go_ret
      exact ⟨by rw [HX.out]; rfl, close _⟩
    · go_wp2_with (fail)
      refine (upto_any _ _ _).mono ?_
      rintro e w1 ⟨rfl, rfl⟩
      rw [B3.out]
      cases b3
      all_goals
        go_wp2
        go_ret
        exact ⟨by rw [HX.out]; rfl, close _⟩

theorem takes_any (r : Ep) (n : Int) (w : World) : Calls Try.prog 22 #[vEp r, .int .i64 n] w (Says (takesB r n) w) := by
  have close : ∀ o : Obj, Below w.heap.size w (w.alloc o) := fun o => (Below.refl _ w).alloc (Nat.le_refl _) o
  obtain ⟨b1, B1⟩ : ∃ b, Hid (okB r = b) := ⟨_, Lib.hid rfl⟩
  obtain ⟨b2, B2⟩ : ∃ b, Hid (upB n 281474976710656 = b) := ⟨_, Lib.hid rfl⟩
  have HX : Hid (takesB r n = (b1 && b2)) := by show _ = _; rw [← B1.out, ← B2.out]; rfl
  go_enter Try.func22, Try.ntmps22
  go_wp2_with (fail)
  refine (right_any r _).mono ?_
  rintro e w1 ⟨rfl, hb1⟩
  have hb2 := (close _).trans (hb1.mono (by simp))
  rw [B1.out]
  cases b1
  · go_wp2
    go_ret
    exact ⟨by rw [HX.out]; rfl, hb2⟩
  · go_wp2_with (fail)
    refine (upto_any _ _ _).mono ?_
    rintro e w1 ⟨rfl, rfl⟩
    rw [B2.out]
    cases b2
    all_goals
      go_wp2
      go_ret
      exact ⟨by rw [HX.out]; rfl, hb2⟩

theorem lawright_any (r : Ep) (w : World) : Calls Try.prog 15 #[vEp r] w (Says (okB r) w) := by
  have close : ∀ o : Obj, Below w.heap.size w (w.alloc o) := fun o => (Below.refl _ w).alloc (Nat.le_refl _) o
  by_cases h1 : 0 ≤ r.vote
  · by_cases h2 : 0 ≤ r.conf
    · by_cases h3 : r.vote ≤ r.cur
      · by_cases h4 : r.conf ≤ r.cur
        · by_cases h5 : r.cur ≤ 281474976710656
          · have HX : Hid (okB r = true) := ok_iff.2 (by omega)
            go_enter Try.func15, Try.ntmps15
            go_wp2
            go_ret
            exact ⟨by rw [HX.out]; rfl, close _⟩
          · have HX : Hid (okB r = false) := ok_no.2 (by omega)
            have g : decide (r.cur ≤ 281474976710656) = false := by simp; omega
            clear h5
            go_enter Try.func15, Try.ntmps15
            go_wp2
            go_ret
            exact ⟨by rw [HX.out]; rfl, close _⟩
        · have HX : Hid (okB r = false) := ok_no.2 (by omega)
          have g : decide (r.conf ≤ r.cur) = false := by simp; omega
          clear h4
          go_enter Try.func15, Try.ntmps15
          go_wp2
          go_ret
          exact ⟨by rw [HX.out]; rfl, close _⟩
      · have HX : Hid (okB r = false) := ok_no.2 (by omega)
        have g : decide (r.vote ≤ r.cur) = false := by simp; omega
        clear h3
        go_enter Try.func15, Try.ntmps15
        go_wp2
        go_ret
        exact ⟨by rw [HX.out]; rfl, close _⟩
    · have HX : Hid (okB r = false) := ok_no.2 (by omega)
      have g : decide (0 ≤ r.conf) = false := by simp; omega
      clear h2
      go_enter Try.func15, Try.ntmps15
      go_wp2
      go_ret
      exact ⟨by rw [HX.out]; rfl, close _⟩
  · have HX : Hid (okB r = false) := ok_no.2 (by omega)
    have g : decide (0 ≤ r.vote) = false := by simp; omega
    clear h1
    go_enter Try.func15, Try.ntmps15
    go_wp2
    go_ret
    exact ⟨by rw [HX.out]; rfl, close _⟩
end Go.Proofs.Ytckdibnadokipaa
