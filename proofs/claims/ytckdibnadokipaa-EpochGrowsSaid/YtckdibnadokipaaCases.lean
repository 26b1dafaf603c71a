/-
  WHAT IS PROVED: each call's answer, case by case. No condition.
-/
import Derived.Test.YtckdibnadokipaaPlain
namespace Go.Proofs.Ytckdibnadokipaa
open Go.RowKit Go.Lib

theorem ok_dec {e : Ep} {n : Int} (h : takesB e n = false) : okB e = false ∨ (okB e = true ∧ upB n 281474976710656 = false) := by
  unfold takesB at h
  cases h1 : okB e with
  | false => exact .inl rfl
  | true => rw [h1] at h; exact .inr ⟨rfl, by simpa using h⟩
theorem ok_both {e : Ep} {n : Int} (h : takesB e n = true) : okB e = true ∧ upB n 281474976710656 = true := by unfold takesB at h; rwa [Bool.and_eq_true] at h
theorem not_dec {p : Prop} [Decidable p] (h : ¬ p) : decide p = false := by simpa using h

theorem see_cases (e : Ep) (n : Int) :
    (okB e = false ∧ seeE e n = ⟨0, 0, 0⟩ ∧ seeF e n = 10) ∨ (okB e = true ∧ upB n 281474976710656 = false ∧ seeE e n = ⟨0, 0, 0⟩ ∧ seeF e n = 10) ∨
    (okB e = true ∧ upB n 281474976710656 = true ∧ seeE e n = ⟨max e.cur n, e.vote, e.conf⟩ ∧ seeF e n = 0) := by
  by_cases h : takesB e n = true
  · exact .inr (.inr ⟨(ok_both h).1, (ok_both h).2, see_yes h⟩)
  · have h' : takesB e n = false := by simpa using h
    rcases ok_dec h' with g | ⟨g, g2⟩
    · exact .inl ⟨g, see_no h'⟩
    · exact .inr (.inl ⟨g, g2, see_no h'⟩)
theorem grant_cases (e : Ep) (n : Int) :
    (okB e = false ∧ grantE e n = ⟨0, 0, 0⟩ ∧ grantF e n = 10) ∨ (okB e = true ∧ upB n 281474976710656 = false ∧ grantE e n = ⟨0, 0, 0⟩ ∧ grantF e n = 10) ∨
    (okB e = true ∧ upB n 281474976710656 = true ∧ n ≤ e.vote ∧ grantE e n = ⟨0, 0, 0⟩ ∧ grantF e n = 22) ∨
    (okB e = true ∧ upB n 281474976710656 = true ∧ decide (n ≤ e.vote) = false ∧ n < e.cur ∧ grantE e n = ⟨0, 0, 0⟩ ∧ grantF e n = 22) ∨
    (okB e = true ∧ upB n 281474976710656 = true ∧ decide (n ≤ e.vote) = false ∧ decide (n < e.cur) = false ∧ grantE e n = ⟨n, n, e.conf⟩ ∧ grantF e n = 0) := by
  by_cases h : takesB e n = true
  · obtain ⟨g1, g2⟩ := ok_both h
    refine .inr (.inr ?_)
    by_cases h1 : n ≤ e.vote
    · exact .inl ⟨g1, g2, h1, grant_late h (.inl h1)⟩
    · by_cases h2 : n < e.cur
      · exact .inr (.inl ⟨g1, g2, not_dec h1, h2, grant_late h (.inr h2)⟩)
      · exact .inr (.inr ⟨g1, g2, not_dec h1, not_dec h2, grant_yes h (by omega)⟩)
  · have h' : takesB e n = false := by simpa using h
    rcases ok_dec h' with g | ⟨g, g2⟩
    · exact .inl ⟨g, grant_no h'⟩
    · exact .inr (.inl ⟨g, g2, grant_no h'⟩)
theorem win_cases (e : Ep) (n : Int) :
    (okB e = false ∧ winE e n = ⟨0, 0, 0⟩ ∧ winF e n = 10) ∨ (okB e = true ∧ upB n 281474976710656 = false ∧ winE e n = ⟨0, 0, 0⟩ ∧ winF e n = 10) ∨
    (okB e = true ∧ upB n 281474976710656 = true ∧ e.cur < n ∧ winE e n = ⟨0, 0, 0⟩ ∧ winF e n = 22) ∨
    (okB e = true ∧ upB n 281474976710656 = true ∧ decide (e.cur < n) = false ∧ n ≤ e.conf ∧ winE e n = ⟨0, 0, 0⟩ ∧ winF e n = 22) ∨
    (okB e = true ∧ upB n 281474976710656 = true ∧ decide (e.cur < n) = false ∧ decide (n ≤ e.conf) = false ∧ winE e n = ⟨e.cur, e.vote, n⟩ ∧ winF e n = 0) := by
  by_cases h : takesB e n = true
  · obtain ⟨g1, g2⟩ := ok_both h
    refine .inr (.inr ?_)
    by_cases h1 : e.cur < n
    · exact .inl ⟨g1, g2, h1, win_late h (.inl h1)⟩
    · by_cases h2 : n ≤ e.conf
      · exact .inr (.inl ⟨g1, g2, not_dec h1, h2, win_late h (.inr h2)⟩)
      · exact .inr (.inr ⟨g1, g2, not_dec h1, not_dec h2, win_yes h (by omega)⟩)
  · have h' : takesB e n = false := by simpa using h
    rcases ok_dec h' with g | ⟨g, g2⟩
    · exact .inl ⟨g, win_no h'⟩
    · exact .inr (.inl ⟨g, g2, win_no h'⟩)
theorem stand_cases (e : Ep) :
    (okB e = false ∧ standE e = ⟨0, 0, 0⟩ ∧ standF e = 10 ∧ bumpE e = ⟨0, 0, 0⟩ ∧ bumpF e = 10) ∨
    (okB e = true ∧ (e.cur == 281474976710656) = true ∧ standE e = ⟨0, 0, 0⟩ ∧ standF e = 12 ∧ bumpE e = ⟨0, 0, 0⟩ ∧ bumpF e = 12) ∨
    (okB e = true ∧ (e.cur == 281474976710656) = false ∧ standE e = ⟨e.cur + 1, e.vote, e.conf⟩ ∧ standF e = 0 ∧ bumpE e = ⟨e.cur + 1, e.vote, e.cur + 1⟩ ∧ bumpF e = 0) := by
  cases h : okB e with
  | false => exact .inl ⟨rfl, (stand_no h).1, (stand_no h).2, bump_no h⟩
  | true =>
    by_cases h2 : e.cur = 281474976710656
    · exact .inr (.inl ⟨rfl, by simpa using h2, (stand_big h h2).1, (stand_big h h2).2, bump_big h h2⟩)
    · exact .inr (.inr ⟨rfl, by simpa using h2, (stand_yes h h2).1, (stand_yes h h2).2, bump_yes h h2⟩)
end Go.Proofs.Ytckdibnadokipaa
