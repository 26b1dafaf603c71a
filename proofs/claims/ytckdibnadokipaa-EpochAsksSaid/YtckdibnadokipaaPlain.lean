/-
  WHAT IS PROVED: plain facts on a node's epochs: which are right, what each call answers, what it leaves. No condition: nothing of the program is named here.
-/
import Derived.Test.YtckdibnadokipaaBase
namespace Go.Proofs.Ytckdibnadokipaa
open Go.RowKit Go.Lib

/-- a node's epochs -/
structure Ep where
  cur : Int
  vote : Int
  conf : Int
deriving DecidableEq

def Ep.zero : Ep := ⟨0, 0, 0⟩
def upB (n t : Int) : Bool := decide (0 ≤ n ∧ n ≤ t)
def okB (e : Ep) : Bool := decide ((0 ≤ e.cur ∧ e.cur ≤ 281474976710656) ∧ (0 ≤ e.vote ∧ e.vote ≤ e.cur) ∧ (0 ≤ e.conf ∧ e.conf ≤ e.cur))
def takesB (e : Ep) (n : Int) : Bool := okB e && upB n 281474976710656

def seeE (e : Ep) (n : Int) : Ep := if takesB e n = true then ⟨max e.cur n, e.vote, e.conf⟩ else Ep.zero
def seeF (e : Ep) (n : Int) : Int := if takesB e n = true then 0 else 10
def standE (e : Ep) : Ep := if okB e = true then (if e.cur = 281474976710656 then Ep.zero else ⟨e.cur + 1, e.vote, e.conf⟩) else Ep.zero
def standF (e : Ep) : Int := if okB e = true then (if e.cur = 281474976710656 then 12 else 0) else 10
def grantE (e : Ep) (n : Int) : Ep := if takesB e n = true then (if n ≤ e.vote ∨ n < e.cur then Ep.zero else ⟨n, n, e.conf⟩) else Ep.zero
def grantF (e : Ep) (n : Int) : Int := if takesB e n = true then (if n ≤ e.vote ∨ n < e.cur then 22 else 0) else 10
def winE (e : Ep) (n : Int) : Ep := if takesB e n = true then (if e.cur < n ∨ n ≤ e.conf then Ep.zero else ⟨e.cur, e.vote, n⟩) else Ep.zero
def winF (e : Ep) (n : Int) : Int := if takesB e n = true then (if e.cur < n ∨ n ≤ e.conf then 22 else 0) else 10
def bumpE (e : Ep) : Ep := if okB e = true then (if e.cur = 281474976710656 then Ep.zero else ⟨e.cur + 1, e.vote, e.cur + 1⟩) else Ep.zero
def bumpF (e : Ep) : Int := standF e

def yieldB (i o m t : Int) : Bool := decide (m = t ∧ i < o)
theorem yield_iff {i o m t : Int} : yieldB i o m t = true ↔ m = t ∧ i < o := by unfold yieldB; rw [decide_eq_true_iff]
theorem yield_no {i o m t : Int} : yieldB i o m t = false ↔ ¬ (m = t ∧ i < o) := by rw [← yield_iff, Bool.not_eq_true]
theorem ok_iff {e : Ep} : okB e = true ↔ (0 ≤ e.cur ∧ e.cur ≤ 281474976710656) ∧ (0 ≤ e.vote ∧ e.vote ≤ e.cur) ∧ (0 ≤ e.conf ∧ e.conf ≤ e.cur) := by unfold okB; rw [decide_eq_true_iff]
theorem up_iff {n t : Int} : upB n t = true ↔ 0 ≤ n ∧ n ≤ t := by unfold upB; rw [decide_eq_true_iff]
theorem takes_iff {e : Ep} {n : Int} : takesB e n = true ↔ okB e = true ∧ 0 ≤ n ∧ n ≤ 281474976710656 := by unfold takesB; rw [Bool.and_eq_true, up_iff]
theorem ok_no {e : Ep} : okB e = false ↔ ¬ ((0 ≤ e.cur ∧ e.cur ≤ 281474976710656) ∧ (0 ≤ e.vote ∧ e.vote ≤ e.cur) ∧ (0 ≤ e.conf ∧ e.conf ≤ e.cur)) := by rw [← ok_iff, Bool.not_eq_true]
theorem up_no {n t : Int} : upB n t = false ↔ ¬ (0 ≤ n ∧ n ≤ t) := by rw [← up_iff, Bool.not_eq_true]
theorem takes_no {e : Ep} {n : Int} : takesB e n = false ↔ ¬ (okB e = true ∧ 0 ≤ n ∧ n ≤ 281474976710656) := by rw [← takes_iff, Bool.not_eq_true]

section
variable {e : Ep} {n : Int}
theorem see_yes (h : takesB e n = true) : seeE e n = ⟨max e.cur n, e.vote, e.conf⟩ ∧ seeF e n = 0 := by unfold seeE seeF; rw [if_pos h, if_pos h]; exact ⟨rfl, rfl⟩
theorem see_no (h : takesB e n = false) : seeE e n = Ep.zero ∧ seeF e n = 10 := by unfold seeE seeF; rw [if_neg (by simp [h]), if_neg (by simp [h])]; exact ⟨rfl, rfl⟩
theorem stand_yes (h : okB e = true) (h2 : e.cur ≠ 281474976710656) : standE e = ⟨e.cur + 1, e.vote, e.conf⟩ ∧ standF e = 0 := by unfold standE standF; rw [if_pos h, if_pos h, if_neg h2, if_neg h2]; exact ⟨rfl, rfl⟩
theorem stand_big (h : okB e = true) (h2 : e.cur = 281474976710656) : standE e = Ep.zero ∧ standF e = 12 := by unfold standE standF; rw [if_pos h, if_pos h, if_pos h2, if_pos h2]; exact ⟨rfl, rfl⟩
theorem stand_no (h : okB e = false) : standE e = Ep.zero ∧ standF e = 10 := by unfold standE standF; rw [if_neg (by simp [h]), if_neg (by simp [h])]; exact ⟨rfl, rfl⟩
theorem bump_yes (h : okB e = true) (h2 : e.cur ≠ 281474976710656) : bumpE e = ⟨e.cur + 1, e.vote, e.cur + 1⟩ ∧ bumpF e = 0 := by unfold bumpE bumpF; rw [if_pos h, if_neg h2]; exact ⟨rfl, (stand_yes h h2).2⟩
theorem bump_big (h : okB e = true) (h2 : e.cur = 281474976710656) : bumpE e = Ep.zero ∧ bumpF e = 12 := by unfold bumpE bumpF; rw [if_pos h, if_pos h2]; exact ⟨rfl, (stand_big h h2).2⟩
theorem bump_no (h : okB e = false) : bumpE e = Ep.zero ∧ bumpF e = 10 := by unfold bumpE bumpF; rw [if_neg (by simp [h])]; exact ⟨rfl, (stand_no h).2⟩
theorem grant_yes (h : takesB e n = true) (h2 : ¬ (n ≤ e.vote ∨ n < e.cur)) : grantE e n = ⟨n, n, e.conf⟩ ∧ grantF e n = 0 := by unfold grantE grantF; rw [if_pos h, if_pos h, if_neg h2, if_neg h2]; exact ⟨rfl, rfl⟩
theorem grant_late (h : takesB e n = true) (h2 : n ≤ e.vote ∨ n < e.cur) : grantE e n = Ep.zero ∧ grantF e n = 22 := by unfold grantE grantF; rw [if_pos h, if_pos h, if_pos h2, if_pos h2]; exact ⟨rfl, rfl⟩
theorem grant_no (h : takesB e n = false) : grantE e n = Ep.zero ∧ grantF e n = 10 := by unfold grantE grantF; rw [if_neg (by simp [h]), if_neg (by simp [h])]; exact ⟨rfl, rfl⟩
theorem win_yes (h : takesB e n = true) (h2 : ¬ (e.cur < n ∨ n ≤ e.conf)) : winE e n = ⟨e.cur, e.vote, n⟩ ∧ winF e n = 0 := by unfold winE winF; rw [if_pos h, if_pos h, if_neg h2, if_neg h2]; exact ⟨rfl, rfl⟩
theorem win_late (h : takesB e n = true) (h2 : e.cur < n ∨ n ≤ e.conf) : winE e n = Ep.zero ∧ winF e n = 22 := by unfold winE winF; rw [if_pos h, if_pos h, if_pos h2, if_pos h2]; exact ⟨rfl, rfl⟩
theorem win_no (h : takesB e n = false) : winE e n = Ep.zero ∧ winF e n = 10 := by unfold winE winF; rw [if_neg (by simp [h]), if_neg (by simp [h])]; exact ⟨rfl, rfl⟩
end
end Go.Proofs.Ytckdibnadokipaa
