/-
  WHAT IS PROVED: the contract of right: whether all that is said of a member may be. No condition.
-/
import Derived.Test.YtfchhlibjhblmaaGet
namespace Go.Proofs.Ytfchhlibjhblmaa
open Go.RowKit Go.Lib Go.Maps

theorem right_parts (m : Mb) : rightB m = ((decide (m.ma = 0) || (isIdB m.ma && !decide (m.ma = m.id))) && (decide (0 ≤ m.co ∧ m.co ≤ 281474976710656) && (decide (0 ≤ m.of_ ∧ m.of_ ≤ 281474976710656) && (decide (m.fa = -1) || isTimeB m.fa)))) := by
  unfold rightB
  rw [Bool.and_assoc, Bool.and_assoc]

set_option maxHeartbeats 4000000 in
theorem right_any (p : Mb) (w : World) : Calls Try.prog 36 #[vM p] w (Says (rightB p) w) := by
  obtain ⟨i, m, c, o, f⟩ := p
  obtain ⟨r, HE⟩ : ∃ r, Hid (rightB ⟨i, m, c, o, f⟩ = r) := ⟨_, Lib.hid rfl⟩
  obtain ⟨q, HI⟩ : ∃ q, Hid (isIdB m = q) := ⟨_, Lib.hid rfl⟩
  obtain ⟨t, HT⟩ : ∃ t, Hid (isTimeB f = t) := ⟨_, Lib.hid rfl⟩
  have hv := HE.out
  rw [right_parts] at hv
  simp only [HI.out, HT.out] at hv

  rcases (by omega : m = 0 ∨ (m ≠ 0 ∧ m = i) ∨ (m ≠ 0 ∧ m ≠ i)) with h0 | ⟨h0, h1⟩ | ⟨h0, h1⟩
  · subst h0
    rw [show decide ((0 : Int) = 0) = true by simp, Bool.true_or, Bool.true_and] at hv
    rcases (by omega : c < 0 ∨ 281474976710656 < c ∨ (0 ≤ c ∧ c ≤ 281474976710656)) with h2 | h2 | ⟨h2, h3⟩
    · obtain rfl : r = false := by rw [← hv, show decide (0 ≤ c ∧ c ≤ 281474976710656) = false by simp; omega]; simp
      have t2 : decide (0 ≤ c) = false := by simp; omega
      clear hv h2
      go_enter Try.func36, Try.ntmps36
      go_wp2
      go_ret
      exact ⟨by rw [HE.out]; rfl, (Below.refl _ _).alloc (Nat.le_refl _) _⟩
    · obtain rfl : r = false := by rw [← hv, show decide (0 ≤ c ∧ c ≤ 281474976710656) = false by simp; omega]; simp
      have t2 : (0 : Int) ≤ c := by omega
      have t3 : decide (c ≤ 281474976710656) = false := by simp; omega
      clear hv h2
      go_enter Try.func36, Try.ntmps36
      go_wp2
      go_ret
      exact ⟨by rw [HE.out]; rfl, (Below.refl _ _).alloc (Nat.le_refl _) _⟩
    · rw [show decide (0 ≤ c ∧ c ≤ 281474976710656) = true by simp; omega] at hv
      rcases (by omega : o < 0 ∨ 281474976710656 < o ∨ (0 ≤ o ∧ o ≤ 281474976710656)) with h4 | h4 | ⟨h4, h5⟩
      · obtain rfl : r = false := by rw [← hv, show decide (0 ≤ o ∧ o ≤ 281474976710656) = false by simp; omega]; simp
        have t4 : decide (0 ≤ o) = false := by simp; omega
        clear hv h4
        go_enter Try.func36, Try.ntmps36
        go_wp2
        go_ret
        exact ⟨by rw [HE.out]; rfl, (Below.refl _ _).alloc (Nat.le_refl _) _⟩
      · obtain rfl : r = false := by rw [← hv, show decide (0 ≤ o ∧ o ≤ 281474976710656) = false by simp; omega]; simp
        have t4 : (0 : Int) ≤ o := by omega
        have t5 : decide (o ≤ 281474976710656) = false := by simp; omega
        clear hv h4
        go_enter Try.func36, Try.ntmps36
        go_wp2
        go_ret
        exact ⟨by rw [HE.out]; rfl, (Below.refl _ _).alloc (Nat.le_refl _) _⟩
      · rw [show decide (0 ≤ o ∧ o ≤ 281474976710656) = true by simp; omega] at hv
        by_cases h6 : f = -1
        · subst h6
          obtain rfl : r = true := by rw [← hv]; simp
          clear hv
          go_enter Try.func36, Try.ntmps36
          go_wp2
          go_ret
          exact ⟨by rw [HE.out]; rfl, (Below.refl _ _).alloc (Nat.le_refl _) _⟩
        · obtain rfl : r = t := by rw [← hv]; simp [h6]
          have t6 : (f == -1) = false := by simpa using h6
          clear hv h6
          go_enter Try.func36, Try.ntmps36
          go_wp2_with (fail)
          refine (istime_any f _).mono ?_
          rintro e w1 ⟨rfl, rfl⟩
          rw [HT.out]
          go_wp2
          go_ret
          exact ⟨by rw [HE.out]; rfl, (Below.refl _ _).alloc (Nat.le_refl _) _⟩
  · subst h1
    have t0 : (m == 0) = false := by simpa using h0
    obtain rfl : r = false := by rw [← hv]; simp [h0]
    clear hv h0
    cases q
    · go_enter Try.func36, Try.ntmps36
      go_wp2_with (fail)
      refine (isid_any m _).mono ?_
      rintro e w1 ⟨rfl, rfl⟩
      rw [HI.out]
      go_wp2
      go_ret
      exact ⟨by rw [HE.out]; rfl, (Below.refl _ _).alloc (Nat.le_refl _) _⟩
    · go_enter Try.func36, Try.ntmps36
      go_wp2_with (fail)
      refine (isid_any m _).mono ?_
      rintro e w1 ⟨rfl, rfl⟩
      rw [HI.out]
      go_wp2
      go_ret
      exact ⟨by rw [HE.out]; rfl, (Below.refl _ _).alloc (Nat.le_refl _) _⟩
  · have t0 : (m == 0) = false := by simpa using h0
    have t1 : (m != i) = true := by simpa using h1
    cases q
    · obtain rfl : r = false := by rw [← hv]; simp [h0]
      clear hv h0 h1
      go_enter Try.func36, Try.ntmps36
      go_wp2_with (fail)
      refine (isid_any m _).mono ?_
      rintro e w1 ⟨rfl, rfl⟩
      rw [HI.out]
      go_wp2
      go_ret
      exact ⟨by rw [HE.out]; rfl, (Below.refl _ _).alloc (Nat.le_refl _) _⟩
    · rw [show decide (m = 0) = false by simpa using h0, show decide (m = i) = false by simpa using h1] at hv
      simp only [Bool.false_or, Bool.not_false, Bool.and_self, Bool.true_and] at hv
      clear h0 h1
      rcases (by omega : c < 0 ∨ 281474976710656 < c ∨ (0 ≤ c ∧ c ≤ 281474976710656)) with h2 | h2 | ⟨h2, h3⟩
      · obtain rfl : r = false := by rw [← hv, show decide (0 ≤ c ∧ c ≤ 281474976710656) = false by simp; omega]; simp
        have t2 : decide (0 ≤ c) = false := by simp; omega
        clear hv h2
        go_enter Try.func36, Try.ntmps36
        go_wp2_with (fail)
        refine (isid_any m _).mono ?_
        rintro e w1 ⟨rfl, rfl⟩
        rw [HI.out]
        go_wp2
        go_ret
        exact ⟨by rw [HE.out]; rfl, (Below.refl _ _).alloc (Nat.le_refl _) _⟩
      · obtain rfl : r = false := by rw [← hv, show decide (0 ≤ c ∧ c ≤ 281474976710656) = false by simp; omega]; simp
        have t2 : (0 : Int) ≤ c := by omega
        have t3 : decide (c ≤ 281474976710656) = false := by simp; omega
        clear hv h2
        go_enter Try.func36, Try.ntmps36
        go_wp2_with (fail)
        refine (isid_any m _).mono ?_
        rintro e w1 ⟨rfl, rfl⟩
        rw [HI.out]
        go_wp2
        go_ret
        exact ⟨by rw [HE.out]; rfl, (Below.refl _ _).alloc (Nat.le_refl _) _⟩
      · rw [show decide (0 ≤ c ∧ c ≤ 281474976710656) = true by simp; omega] at hv
        rcases (by omega : o < 0 ∨ 281474976710656 < o ∨ (0 ≤ o ∧ o ≤ 281474976710656)) with h4 | h4 | ⟨h4, h5⟩
        · obtain rfl : r = false := by rw [← hv, show decide (0 ≤ o ∧ o ≤ 281474976710656) = false by simp; omega]; simp
          have t4 : decide (0 ≤ o) = false := by simp; omega
          clear hv h4
          go_enter Try.func36, Try.ntmps36
          go_wp2_with (fail)
          refine (isid_any m _).mono ?_
          rintro e w1 ⟨rfl, rfl⟩
          rw [HI.out]
          go_wp2
          go_ret
          exact ⟨by rw [HE.out]; rfl, (Below.refl _ _).alloc (Nat.le_refl _) _⟩
        · obtain rfl : r = false := by rw [← hv, show decide (0 ≤ o ∧ o ≤ 281474976710656) = false by simp; omega]; simp
          have t4 : (0 : Int) ≤ o := by omega
          have t5 : decide (o ≤ 281474976710656) = false := by simp; omega
          clear hv h4
          go_enter Try.func36, Try.ntmps36
          go_wp2_with (fail)
          refine (isid_any m _).mono ?_
          rintro e w1 ⟨rfl, rfl⟩
          rw [HI.out]
          go_wp2
          go_ret
          exact ⟨by rw [HE.out]; rfl, (Below.refl _ _).alloc (Nat.le_refl _) _⟩
        · rw [show decide (0 ≤ o ∧ o ≤ 281474976710656) = true by simp; omega] at hv
          by_cases h6 : f = -1
          · subst h6
            obtain rfl : r = true := by rw [← hv]; simp
            clear hv
            go_enter Try.func36, Try.ntmps36
            go_wp2_with (fail)
            refine (isid_any m _).mono ?_
            rintro e w1 ⟨rfl, rfl⟩
            rw [HI.out]
            go_wp2
            go_ret
            exact ⟨by rw [HE.out]; rfl, (Below.refl _ _).alloc (Nat.le_refl _) _⟩
          · obtain rfl : r = t := by rw [← hv]; simp [h6]
            have t6 : (f == -1) = false := by simpa using h6
            clear hv h6
            go_enter Try.func36, Try.ntmps36
            go_wp2_with (fail)
            refine (isid_any m _).mono ?_
            rintro e w1 ⟨rfl, rfl⟩
            rw [HI.out]
            go_wp2_with (fail)
            refine (istime_any f _).mono ?_
            rintro e w1 ⟨rfl, rfl⟩
            rw [HT.out]
            go_wp2
            go_ret
            exact ⟨by rw [HE.out]; rfl, (Below.refl _ _).alloc (Nat.le_refl _) _⟩
end Go.Proofs.Ytfchhlibjhblmaa
