/-
  WHAT IS PROVED: plain facts on what a meter's counters have together, and on a meter of which one counter is used. No condition.
-/
import Derived.Test.YthaikcopbeppeaaTotal
namespace Go.Proofs.Ythaikcopbeppeaa

theorem sumTo_put {f f' : Nat → Int} : ∀ (k : Nat), (∀ i, i < k → f i = f' i) → sumTo f k = sumTo f' k
  | 0, _ => rfl
  | k + 1, h => by show sumTo f k + f k = sumTo f' k + f' k; rw [sumTo_put k (fun i hi => h i (by omega)), h k (by omega)]
theorem sumTo_one (v : Int) (j : Nat) : ∀ k, sumTo (fun i => if i = j then v else 0) k = if j < k then v else 0
  | 0 => by simp [sumTo]
  | k + 1 => by
    show sumTo _ k + (if k = j then v else 0) = _
    rw [sumTo_one v j k]
    by_cases h1 : j < k
    · rw [if_pos h1, if_neg (by omega), if_pos (by omega)]; omega
    · by_cases h2 : k = j
      · rw [if_neg h1, if_pos h2, if_pos (by omega)]; omega
      · rw [if_neg h1, if_neg h2, if_neg (by omega)]; rfl

/-- a meter in which only counter kind has anything, v -/
def only1 (kind v : Int) : St := ⟨fun i => if i = kind.toNat then v else 0, 0, false, 0⟩
theorem get_other {kind v other : Int} (h0 : 0 ≤ kind) (h : kind ≠ other) : (only1 kind v).get other = 0 := by
  unfold St.get only1
  by_cases ho : 0 ≤ other ∧ other < 16
  · rw [if_pos ho]; show (if other.toNat = kind.toNat then v else 0) = 0; rw [if_neg (by omega)]
  · rw [if_neg ho]
theorem get_own {kind v : Int} (h : 0 ≤ kind ∧ kind < 16) : (only1 kind v).get kind = v := by
  unfold St.get only1
  rw [if_pos h]; show (if kind.toNat = kind.toNat then v else 0) = v; rw [if_pos rfl]
theorem total_own {kind v : Int} (h : 0 ≤ kind ∧ kind < 16) (hv : v ≤ 4611686018427387904) : (only1 kind v).total = v := by
  unfold St.total only1
  show min (sumTo (fun i => if i = kind.toNat then v else 0) 16) _ = v
  rw [sumTo_one, if_pos (by omega)]; omega
theorem count_own {kind v n : Int} (hv : 0 ≤ v ∧ v ≤ 4294967296) : (only1 kind v).count kind n = if (only1 kind v).okC kind n then only1 kind (v + n) else only1 kind v := by
  unfold St.count
  split
  · rename_i ho
    have hn : 0 ≤ n ∧ n ≤ 4294967296 := by unfold St.okC only1 at ho; simp at ho; omega
    have e : plusI v n = v + n := by unfold plusI; omega
    unfold St.put only1
    show (⟨fun i => if i = kind.toNat then plusI (if kind.toNat = kind.toNat then v else 0) n else if i = kind.toNat then v else 0, 0, false, 0⟩ : St) = _
    rw [if_pos rfl, e]
    congr 1
    funext i
    split <;> rfl
  · rfl
theorem zero_only (kind : Int) : St.zero = only1 kind 0 := by
  unfold St.zero only1
  congr 1
  funext i
  split <;> rfl
theorem okC_kind {s : St} {kind n : Int} (h : s.okC kind n = true) : (0 ≤ kind ∧ kind < 16) ∧ 0 ≤ n ∧ n ≤ 4294967296 := by
  unfold St.okC at h; simp at h; omega
theorem count_no {s : St} {kind n : Int} (h : s.okC kind n = false) : s.count kind n = s := by unfold St.count; rw [h]; rfl

theorem apart_facts (kind n more : Int) (a b : Bool) (ha : St.zero.okC kind n = a) (hb : (St.zero.count kind n).okC kind more = b) :
    (∀ other, kind ≠ other → ((St.zero.count kind n).count kind more).get other = (St.zero.count kind n).get other) ∧
    ((St.zero.count kind n).count kind more).get kind = (if a then n else 0) + (if b then more else 0) ∧ ((St.zero.count kind n).count kind more).total = (if a then n else 0) + (if b then more else 0) := by
  by_cases hk : 0 ≤ kind ∧ kind < 16
  · have e1 : St.zero.count kind n = only1 kind (if a then n else 0) := by
      rw [zero_only kind, count_own ⟨Int.le_refl 0, by omega⟩, ← zero_only kind, ha]
      cases a with
      | true => exact congrArg (only1 kind) (Int.zero_add n)
      | false => exact zero_only kind
    have hv : 0 ≤ (if a then n else 0) ∧ (if a then n else 0) ≤ 4294967296 := by
      cases a with
      | true => exact (okC_kind ha).2
      | false => exact ⟨Int.le_refl 0, show (0 : Int) ≤ 4294967296 by decide⟩
    rw [e1] at hb ⊢
    have e2 : (only1 kind (if a then n else 0)).count kind more = only1 kind ((if a then n else 0) + (if b then more else 0)) := by
      rw [count_own hv, hb]
      cases b with
      | true => rfl
      | false => exact congrArg (only1 kind) (Int.add_zero _).symm
    have hv2 : (if b then more else 0) ≤ 4294967296 := by
      cases b with
      | true => exact (okC_kind hb).2.2
      | false => exact (show (0 : Int) ≤ 4294967296 by decide)
    rw [e2]
    exact ⟨fun o ho => by rw [get_other hk.1 ho, get_other hk.1 ho], get_own hk, total_own hk (by omega)⟩
  · have ha' : a = false := by cases a with
      | true => exact absurd (okC_kind ha).1 hk
      | false => rfl
    have hb' : b = false := by cases b with
      | true => exact absurd (okC_kind hb).1 hk
      | false => rfl
    subst ha'; subst hb'
    rw [count_no hb, count_no ha]
    refine ⟨fun _ _ => rfl, ?_, show St.zero.total = 0 by decide +kernel⟩
    unfold St.get; rw [if_neg hk]; rfl

end Go.Proofs.Ythaikcopbeppeaa
