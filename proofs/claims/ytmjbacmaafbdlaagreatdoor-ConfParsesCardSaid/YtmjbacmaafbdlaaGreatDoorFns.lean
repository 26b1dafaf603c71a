/-
  WHAT IS PROVED: contracts of package conf's small functions: ids, epochs, whom one may follow; of an epochs' right. Condition: none.
-/
import Derived.Test.YtmjbacmaafbdlaaGreatDoorSt
import Derived.Test.YtmjbacmaafbdlaaGreatDoorCA
import Derived.Deep.QuietTactic
import Derived.BigQuiet
namespace Go.Proofs.YtmjbacmaafbdlaaGreatDoor
open Go.RowKit C

set_option maxRecDepth 100000 in
theorem cid_any (n : Int) (w : World) : Calls Tryz.prog 31 #[.int .i64 n] w fun e w' => e = .returned (.bool (betB 1 4294967296 n)) ∧ w = w' := by
  by_cases h0 : 1 ≤ n
  · by_cases h1 : n ≤ 4294967296
    · have H := Lib.hid (bet_yes h0 h1)
      go_enter Tryz.func31, Tryz.ntmps31
      go_wp2
      go_ret
      exact ⟨by rw [H.out]; rfl, rfl⟩
    · have H := Lib.hid (bet_no (lo := 1) (hi := 4294967296) (n := n) (.inr (by omega)))
      have h3 : decide (n ≤ 4294967296) = false := by simpa using h1
      clear h1
      go_enter Tryz.func31, Tryz.ntmps31
      go_wp2
      go_ret
      exact ⟨by rw [H.out]; rfl, rfl⟩
  · have H := Lib.hid (bet_no (lo := 1) (hi := 4294967296) (n := n) (.inl (by omega)))
    have h3 : decide (1 ≤ n) = false := by simpa using h0
    clear h0
    go_enter Tryz.func31, Tryz.ntmps31
    go_wp2
    go_ret
    exact ⟨by rw [H.out]; rfl, rfl⟩

set_option maxRecDepth 100000 in
theorem cep_any (n : Int) (w : World) : Calls Tryz.prog 68 #[.int .i64 n] w fun e w' => e = .returned (.bool (betB 0 281474976710656 n)) ∧ w = w' := by
  by_cases h0 : 0 ≤ n
  · by_cases h1 : n ≤ 281474976710656
    · have H := Lib.hid (bet_yes h0 h1)
      go_enter Tryz.func68, Tryz.ntmps68
      go_wp2
      go_ret
      exact ⟨by rw [H.out]; rfl, rfl⟩
    · have H := Lib.hid (bet_no (lo := 0) (hi := 281474976710656) (n := n) (.inr (by omega)))
      have h3 : decide (n ≤ 281474976710656) = false := by simpa using h1
      clear h1
      go_enter Tryz.func68, Tryz.ntmps68
      go_wp2
      go_ret
      exact ⟨by rw [H.out]; rfl, rfl⟩
  · have H := Lib.hid (bet_no (lo := 0) (hi := 281474976710656) (n := n) (.inl (by omega)))
    have h3 : decide (0 ≤ n) = false := by simpa using h0
    clear h0
    go_enter Tryz.func68, Tryz.ntmps68
    go_wp2
    go_ret
    exact ⟨by rw [H.out]; rfl, rfl⟩


/-- may an id follow that one -/
def folB (id m : Int) : Bool := (m == 0) || (betB 1 4294967296 m && (m != id))
set_option maxRecDepth 100000 in
theorem fol_any (id m : Int) (w : World) : Calls Tryz.prog 32 #[.int .i64 id, .int .i64 m] w fun e w' => e = .returned (.bool (folB id m)) ∧ w = w' := by
  by_cases h0 : m = 0
  · subst h0
    have H : Hid (folB id 0 = true) := Lib.hid (by simp [folB])
    go_enter Tryz.func32, Tryz.ntmps32
    go_wp2
    go_ret
    exact ⟨by rw [H.out]; rfl, rfl⟩
  · obtain ⟨b, B⟩ : ∃ b, Hid (betB 1 4294967296 m = b) := ⟨_, Lib.hid rfl⟩
    have h1 : (m == 0) = false := by simpa using h0
    have H : Hid (folB id m = (b && (m != id))) := Lib.hid (by rw [← B.out]; simp [folB, h0])
    clear h0
    by_cases h2 : m = id
    · subst h2
      have H2 : Hid (folB m m = false) := Lib.hid (by rw [H.out]; simp)
      clear H
      go_enter Tryz.func32, Tryz.ntmps32
      go_wp2_with (fail)
      refine (cid_any m _).mono ?_
      rintro d w1 ⟨rfl, rfl⟩
      rw [B.out]
      cases b
      · go_wp2
        go_ret
        exact ⟨by rw [H2.out]; rfl, rfl⟩
      · go_wp2
        go_ret
        exact ⟨by rw [H2.out]; simp, rfl⟩
    · have h3 : (m != id) = true := by simpa using h2
      have H2 : Hid (folB id m = b) := Lib.hid (by rw [H.out, h3]; simp)
      clear H h2
      go_enter Tryz.func32, Tryz.ntmps32
      go_wp2_with (fail)
      refine (cid_any m _).mono ?_
      rintro d w1 ⟨rfl, rfl⟩
      rw [B.out]
      cases b
      · go_wp2
        go_ret
        exact ⟨by rw [H2.out]; rfl, rfl⟩
      · go_wp2
        go_ret
        exact ⟨by rw [H2.out]; rfl, rfl⟩

set_option maxRecDepth 100000 in
theorem upto_any (n x : Int) (w : World) : Calls Tryz.prog 52 #[.int .i64 n, .int .i64 x] w fun e w' => e = .returned (.bool (betB 0 x n)) ∧ w = w' := by
  by_cases h0 : 0 ≤ n
  · by_cases h1 : n ≤ x
    · have H := Lib.hid (bet_yes h0 h1)
      go_enter Tryz.func52, Tryz.ntmps52
      go_wp2
      go_ret
      exact ⟨by rw [H.out]; rfl, rfl⟩
    · have H := Lib.hid (bet_no (lo := 0) (hi := x) (n := n) (.inr (by omega)))
      have h3 : decide (n ≤ x) = false := by simpa using h1
      clear h1
      go_enter Tryz.func52, Tryz.ntmps52
      go_wp2
      go_ret
      exact ⟨by rw [H.out]; rfl, rfl⟩
  · have H := Lib.hid (bet_no (lo := 0) (hi := x) (n := n) (.inl (by omega)))
    have h3 : decide (0 ≤ n) = false := by simpa using h0
    clear h0
    go_enter Tryz.func52, Tryz.ntmps52
    go_wp2
    go_ret
    exact ⟨by rw [H.out]; rfl, rfl⟩

/-- are epochs right -/
def epsB (c v f : Int) : Bool := betB 0 281474976710656 c && betB 0 c v && betB 0 c f
set_option maxRecDepth 100000 in
theorem eps_any (c v f : Int) (w : World) : Calls Tryz.prog 33 #[.agg #[.int .i64 c, .int .i64 v, .int .i64 f]] w (Says (epsB c v f) w) := by
  have close : ∀ o : Obj, Below w.heap.size w (w.alloc o) := fun o => (Below.refl _ w).alloc (Nat.le_refl _) o
  obtain ⟨b1, B1⟩ : ∃ b, Hid (betB 0 281474976710656 c = b) := ⟨_, Lib.hid rfl⟩
  obtain ⟨b2, B2⟩ : ∃ b, Hid (betB 0 c v = b) := ⟨_, Lib.hid rfl⟩
  obtain ⟨b3, B3⟩ : ∃ b, Hid (betB 0 c f = b) := ⟨_, Lib.hid rfl⟩
  have HX : Hid (epsB c v f = (b1 && b2 && b3)) := by
    show _ = _
    rw [← B1.out, ← B2.out, ← B3.out]
    rfl
  go_enter Tryz.func33, Tryz.ntmps33
  go_wp2_with (fail)
  refine (upto_any _ _ _).mono ?_
  rintro e w1 ⟨rfl, rfl⟩
  rw [B1.out]
  cases b1
  · go_wp2
    go_ret
    exact ⟨by rw [HX.out]; rfl, close _⟩
  · go_wp2_with (fail)
    refine (upto_any _ _ _).mono ?_
    rintro e w1 ⟨rfl, rfl⟩
    rw [B2.out]
    cases b2
    · go_wp2
      go_ret
      exact ⟨by rw [HX.out]; rfl, close _⟩
    · go_wp2_with (fail)
      refine (upto_any _ _ _).mono ?_
      rintro e w1 ⟨rfl, rfl⟩
      rw [B3.out]
      cases b3
      · go_wp2
        go_ret
        exact ⟨by rw [HX.out]; rfl, close _⟩
      · go_wp2
        go_ret
        exact ⟨by rw [HX.out]; rfl, close _⟩

/-- may one be kept of somebody -/
def knB (k : Kn) : Bool := betB 1 4294967296 k.i && folB k.i k.m && betB 0 281474976710656 k.c
abbrev vKn (k : Kn) : Value := .agg #[.int .i64 k.i, .int .i64 k.m, .int .i64 k.c]
set_option maxRecDepth 100000 in
theorem kright_any (k : Kn) (w : World) : Calls Tryz.prog 53 #[vKn k] w (Says (knB k) w) := by
  obtain ⟨i, m, c⟩ := k
  have close : ∀ o : Obj, Below w.heap.size w (w.alloc o) := fun o => (Below.refl _ w).alloc (Nat.le_refl _) o
  obtain ⟨b1, B1⟩ : ∃ b, Hid (betB 1 4294967296 i = b) := ⟨_, Lib.hid rfl⟩
  obtain ⟨b2, B2⟩ : ∃ b, Hid (folB i m = b) := ⟨_, Lib.hid rfl⟩
  obtain ⟨b3, B3⟩ : ∃ b, Hid (betB 0 281474976710656 c = b) := ⟨_, Lib.hid rfl⟩
  have HX : Hid (knB ⟨i, m, c⟩ = (b1 && b2 && b3)) := by
    show _ = _
    rw [← B1.out, ← B2.out, ← B3.out]
    rfl
  go_enter Tryz.func53, Tryz.ntmps53
  go_wp2_with (fail)
  refine (cid_any _ _).mono ?_
  rintro e w1 ⟨rfl, rfl⟩
  rw [B1.out]
  cases b1
  · go_wp2
    go_ret
    exact ⟨by rw [HX.out]; rfl, close _⟩
  · go_wp2_with (fail)
    refine (fol_any _ _ _).mono ?_
    rintro e w1 ⟨rfl, rfl⟩
    rw [B2.out]
    cases b2
    · go_wp2
      go_ret
      exact ⟨by rw [HX.out]; rfl, close _⟩
    · go_wp2_with (fail)
      refine (cep_any _ _).mono ?_
      rintro e w1 ⟨rfl, rfl⟩
      rw [B3.out]
      cases b3
      · go_wp2
        go_ret
        exact ⟨by rw [HX.out]; rfl, close _⟩
      · go_wp2
        go_ret
        exact ⟨by rw [HX.out]; rfl, close _⟩
end Go.Proofs.YtmjbacmaafbdlaaGreatDoor
