/-
  WHAT IS PROVED: plain facts on lists of reports of which one is cleared. No condition.
-/
import Derived.Test.YtcacjppdcmghjaaAnchor
namespace Go.Proofs.Ytcacjppdcmghjaa

/-! ### one is cleared -/
theorem drop_none {L : List Rp} {a b : Int} (h : hasL L a b = false) : dropL L a b = L := by
  unfold dropL
  rw [List.filter_eq_self]
  intro r hr
  simp [hasL_no.1 h r hr]
theorem drop_filter (p : Rp → Bool) : ∀ {L : List Rp}, Uniq L → ∀ {a b : Int}, ((dropL L a b).filter p).length = (L.filter p).length ∨ (hasL L a b = true ∧ ((dropL L a b).filter p).length + 1 = (L.filter p).length)
  | [], _, _, _ => .inl rfl
  | x :: l, hu, a, b => by
    obtain ⟨h1, h2⟩ := List.pairwise_cons.1 hu
    by_cases hx : x.is a b
    · have e1 : hasL (x :: l) a b = true := hasL_iff.2 ⟨x, by simp, hx⟩
      have e2 : hasL l a b = false := hasL_no.2 fun s hs hk => h1 s hs ⟨hx.1.trans hk.1.symm, hx.2.trans hk.2.symm⟩
      have e3 : dropL (x :: l) a b = l := by
        have : dropL (x :: l) a b = dropL l a b := by unfold dropL; simp [hx]
        rw [this, drop_none e2]
      rw [e3, e1]
      cases hp : p x
      · left; simp [hp]
      · right; simp [hp]
    · have e2 : hasL (x :: l) a b = hasL l a b := by unfold hasL; simp [hx]
      have e3 : dropL (x :: l) a b = x :: dropL l a b := by unfold dropL; simp [hx]
      rw [e2, e3]
      rcases drop_filter p h2 (a := a) (b := b) with h | ⟨h, h'⟩
      · left; cases hp : p x <;> simp [hp, h]
      · right
        refine ⟨h, ?_⟩
        cases hp : p x <;> simp [hp] <;> omega
theorem drop_one : ∀ {L : List Rp}, Uniq L → ∀ {a b : Int}, hasL L a b = true → (dropL L a b).length + 1 = L.length
  | [], _, _, _, h => by simp [hasL] at h
  | x :: l, hu, a, b, h => by
    obtain ⟨h1, h2⟩ := List.pairwise_cons.1 hu
    by_cases hx : x.is a b
    · have e2 : hasL l a b = false := hasL_no.2 fun s hs hk => h1 s hs ⟨hx.1.trans hk.1.symm, hx.2.trans hk.2.symm⟩
      have e3 : dropL (x :: l) a b = dropL l a b := by unfold dropL; simp [hx]
      rw [e3, drop_none e2]; rfl
    · have e2 : hasL (x :: l) a b = hasL l a b := by unfold hasL; simp [hx]
      have e3 : dropL (x :: l) a b = x :: dropL l a b := by unfold dropL; simp [hx]
      rw [e3, List.length_cons, List.length_cons, drop_one h2 (e2 ▸ h)]
end Go.Proofs.Ytcacjppdcmghjaa
