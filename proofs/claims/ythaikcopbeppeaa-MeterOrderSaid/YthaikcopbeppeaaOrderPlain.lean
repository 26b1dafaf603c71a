/-
  WHAT IS PROVED: plain facts: counts and marks in any order come to the same meter. No condition.
-/
import Derived.Test.YthaikcopbeppeaaActs
import Derived.Test.YthaikcopbeppeaaPlain
namespace Go.Proofs.Ythaikcopbeppeaa

/-- a step as the law takes it: how 1: a count; any other: a mark -/
def St.app (s : St) (a : Step) : St := if a.how = 1 then s.count a.kind a.n else s.mark a.n
def appF (s : St) (a : Step) : Nat → Int := fun i => if a.how = 1 ∧ s.okC a.kind a.n = true ∧ i = a.kind.toNat then plusI (s.f i) a.n else s.f i
def appH (s : St) (a : Step) : Int := if a.how ≠ 1 ∧ s.closed = false ∧ s.high < a.n then a.n else s.high
theorem app_eq (s : St) (a : Step) : s.app a = ⟨appF s a, appH s a, s.closed, s.reason⟩ := by
  unfold St.app
  by_cases h : a.how = 1
  · rw [if_pos h]
    have e2 : appH s a = s.high := by unfold appH; rw [if_neg (fun x => x.1 h)]
    rw [e2]
    unfold St.count
    cases ho : s.okC a.kind a.n with
    | true =>
      have e1 : appF s a = fun i => if i = a.kind.toNat then plusI (s.f a.kind.toNat) a.n else s.f i := by
        funext i
        unfold appF
        by_cases hi : i = a.kind.toNat
        · rw [if_pos ⟨h, ho, hi⟩, if_pos hi, hi]
        · rw [if_neg (fun x => hi x.2.2), if_neg hi]
      rw [e1]
      rfl
    | false =>
      have e1 : appF s a = s.f := by
        funext i
        unfold appF
        rw [if_neg (fun x => by rw [ho] at x; cases x.2.1)]
      rw [e1]
      rfl
  · rw [if_neg h]
    have e1 : appF s a = s.f := by
      funext i
      unfold appF
      rw [if_neg (fun x => h x.1)]
    rw [e1]
    have e2 : appH s a = if s.okM a.n = true then a.n else s.high := by
      unfold appH St.okM
      cases hc : s.closed with
      | true => rw [if_neg (fun x => by cases x.2.1), if_neg (fun x => by cases x)]
      | false =>
        by_cases hl : s.high < a.n
        · rw [if_pos ⟨h, rfl, hl⟩, if_pos (by rw [decide_eq_true hl]; rfl)]
        · rw [if_neg (fun x => hl x.2.2), if_neg (by rw [decide_eq_false hl]; exact fun x => by cases x)]
    rw [e2]
    unfold St.mark
    cases s.okM a.n <;> rfl
theorem okC_app (s : St) (a b : Step) : (s.app a).okC b.kind b.n = s.okC b.kind b.n := by rw [app_eq]; rfl
theorem okC_nonneg {s : St} {k n : Int} (h : s.okC k n = true) : 0 ≤ n := (okC_kind h).2.1
theorem app_comm (s : St) (a b : Step) : (s.app a).app b = (s.app b).app a := by
  rw [app_eq (s.app a) b, app_eq (s.app b) a]
  have ea := okC_app s a b
  have eb := okC_app s b a
  have h1 : appF (s.app a) b = appF (s.app b) a := by
    funext i
    unfold appF
    rw [ea, eb]
    have fa : (s.app a).f i = appF s a i := by rw [app_eq]
    have fb : (s.app b).f i = appF s b i := by rw [app_eq]
    rw [fa, fb]
    unfold appF
    by_cases hb : b.how = 1 ∧ s.okC b.kind b.n = true ∧ i = b.kind.toNat
    · by_cases ha : a.how = 1 ∧ s.okC a.kind a.n = true ∧ i = a.kind.toNat
      · rw [if_pos hb, if_pos ha, if_pos ha, if_pos hb]
        have := okC_nonneg ha.2.1
        have := okC_nonneg hb.2.1
        unfold plusI; omega
      · rw [if_pos hb, if_neg ha, if_neg ha, if_pos hb]
    · by_cases ha : a.how = 1 ∧ s.okC a.kind a.n = true ∧ i = a.kind.toNat
      · rw [if_neg hb, if_pos ha, if_pos ha, if_neg hb]
      · rw [if_neg hb, if_neg ha, if_neg ha, if_neg hb]
  have ca : (s.app a).closed = s.closed := by rw [app_eq]
  have cb : (s.app b).closed = s.closed := by rw [app_eq]
  have ra : (s.app a).reason = s.reason := by rw [app_eq]
  have rb : (s.app b).reason = s.reason := by rw [app_eq]
  have h2 : appH (s.app a) b = appH (s.app b) a := by
    have fa : (s.app a).high = appH s a := by rw [app_eq]
    have fb : (s.app b).high = appH s b := by rw [app_eq]
    unfold appH
    rw [ca, cb, fa, fb]
    unfold appH
    by_cases x : a.how = 1 <;> by_cases y : b.how = 1 <;> by_cases z : s.closed = false <;> simp [x, y, z]
    all_goals (repeat' split) <;> omega
  rw [h1, h2, ca, cb, ra, rb]

def run (l : List Step) : St := l.foldl St.app St.zero
theorem run_snoc {l : List Step} {k : Nat} {a : Step} (h : l[k]? = some a) : run (l.take (k + 1)) = (run (l.take k)).app a := by
  unfold run
  rw [List.take_add_one, h, List.foldl_append]
  rfl
theorem run_turn (l : List Step) (k : Nat) : run (l.drop k ++ l.take k) = run l := by
  unfold run
  refine List.Perm.foldl_eq' ?_ (fun x _ y _ z => app_comm z x y) _
  exact (List.perm_append_comm).trans (by rw [List.take_append_drop])
theorem turn_at {l : List Step} {n k i : Nat} (hl : l.length = n) (hk : k ≤ n) (hi : i < n) : (l.drop k ++ l.take k)[i]? = l[(i + k) % n]? := by
  by_cases h : i + k < n
  · rw [List.getElem?_append_left (by rw [List.length_drop]; omega), List.getElem?_drop, Nat.mod_eq_of_lt h, Nat.add_comm]
  · have e : (i + k) % n = i + k - n := by rw [Nat.mod_eq_sub_mod (by omega), Nat.mod_eq_of_lt (by omega)]
    rw [List.getElem?_append_right (by rw [List.length_drop]; omega), List.length_drop, List.getElem?_take, if_pos (by omega), e]
    congr 1
    omega
theorem app_count {s : St} {a : Step} (h : a.how = 1) : s.app a = s.count a.kind a.n := by unfold St.app; rw [if_pos h]
theorem app_mark {s : St} {a : Step} (h : a.how ≠ 1) : s.app a = s.mark a.n := by unfold St.app; rw [if_neg h]
end Go.Proofs.Ythaikcopbeppeaa
