/-
  WHAT IS PROVED: plain facts on a word whose letters are big or small in any mixture. No condition.
-/
import Derived.Test.YtogaaomedfpdnaaDoorPl
namespace Go.Proofs.YtogaaomedfpdnaaDoor
open Go.RowKit

def mix : List Bool → List UInt8 → List UInt8
  | _, [] => []
  | [], a => a
  | f :: fl, c :: a => (if f = true then c + 32 else c) :: mix fl a
theorem mix_nil (fl : List Bool) : mix fl [] = [] := by cases fl <;> rfl
theorem mix_none (a : List UInt8) : mix [] a = a := by cases a <;> rfl
theorem mix_len : ∀ (fl : List Bool) (a : List UInt8), (mix fl a).length = a.length
  | fl, [] => by rw [mix_nil]
  | [], c :: a => rfl
  | f :: fl, c :: a => by simp [mix, mix_len fl a]
theorem mix_snoc : ∀ (fl : List Bool) (a : List UInt8) (c : UInt8), mix fl (a ++ [c]) = mix fl a ++ [if fl[a.length]? = some true then c + 32 else c]
  | [], a, c => by rw [mix_none, mix_none]; simp
  | f :: fl, [], c => by
    rw [mix_nil]
    cases f <;> cases fl <;> simp [mix]
  | f :: fl, d :: a, c => by
    simp only [List.cons_append, mix, mix_snoc fl a c, List.length_cons, List.getElem?_cons_succ]
theorem mix_letters : ∀ (fl : List Bool) (a : List UInt8), (∀ x ∈ a, 65 ≤ x.toNat ∧ x.toNat ≤ 90) → up (mix fl a) = a ∧ ∀ x ∈ mix fl a, x ≠ 32
  | fl, [], _ => by rw [mix_nil]; exact ⟨rfl, fun x hx => by cases hx⟩
  | [], c :: a, h => by
    rw [mix_none]
    constructor
    · unfold up
      conv => rhs; rw [← List.map_id (c :: a)]
      exact List.map_congr_left fun x hx => (upB_letter (h x hx)).2.2.1
    · exact fun x hx => (upB_letter (h x hx)).2.2.2
  | f :: fl, c :: a, h => by
    obtain ⟨h1, h2⟩ := mix_letters fl a (fun x hx => h x (List.mem_cons_of_mem _ hx))
    have hc := upB_letter (h c (List.mem_cons_self ..))
    constructor
    · show upB (if f = true then c + 32 else c) :: up (mix fl a) = c :: a
      rw [h1]
      cases f
      · simp [hc.2.2.1]
      · simp [hc.1]
    · intro x hx
      rcases List.mem_cons.1 hx with rfl | hx
      · cases f
        · simpa using hc.2.2.2
        · simpa using hc.2.1
      · exact h2 x hx
/-- the text of which k letters have been looked at -/
def cur (fl : List Bool) (a r : List UInt8) (k : Nat) : List UInt8 := mix fl (a.take k) ++ (a.drop k ++ r)
theorem cur_len (fl : List Bool) (a r : List UInt8) (k : Nat) : (cur fl a r k).length = (a ++ r).length := by
  unfold cur; simp [mix_len]; omega
theorem cur_zero (fl : List Bool) (a r : List UInt8) : cur fl a r 0 = a ++ r := by unfold cur; rw [List.take_zero, mix_nil]; rfl
theorem cur_all (fl : List Bool) (a r : List UInt8) : cur fl a r a.length = mix fl a ++ r := by unfold cur; simp
theorem cur_at {fl : List Bool} {a r : List UInt8} {k : Nat} {c : UInt8} (h : a[k]? = some c) : (cur fl a r k)[k]? = some c := by
  obtain ⟨hk, hc⟩ := List.getElem?_eq_some_iff.1 h
  have hl : (mix fl (a.take k)).length = k := by rw [mix_len]; simp; omega
  unfold cur
  rw [List.getElem?_append_right (by omega), hl, Nat.sub_self, List.drop_eq_getElem_cons hk, hc]
  rfl
theorem cur_end {fl : List Bool} {a r : List UInt8} {c : UInt8} (h : r.head? = some c) : (cur fl a r a.length)[a.length]? = some c := by
  rw [cur_all, List.getElem?_append_right (by rw [mix_len]; omega), mix_len, Nat.sub_self, ← List.head?_eq_getElem?]
  exact h
theorem cur_succ {fl : List Bool} {a r : List UInt8} {k : Nat} {c : UInt8} (h : a[k]? = some c) : cur fl a r (k + 1) = (cur fl a r k).set k (if fl[k]? = some true then c + 32 else c) := by
  obtain ⟨hk, hc⟩ := List.getElem?_eq_some_iff.1 h
  have hl : (mix fl (a.take k)).length = k := by rw [mix_len]; simp; omega
  have ht : (a.take k).length = k := by simp; omega
  unfold cur
  rw [take_snoc h, mix_snoc, ht, List.drop_eq_getElem_cons hk, hc, List.set_append_right _ _ (by omega), hl]
  simp
theorem cur_same {fl : List Bool} {a r : List UInt8} {k : Nat} {c : UInt8} (h : a[k]? = some c) (hf : fl[k]? ≠ some true) : cur fl a r (k + 1) = cur fl a r k := by
  rw [cur_succ h, if_neg hf]
  obtain ⟨h1, h2⟩ := List.getElem?_eq_some_iff.1 (cur_at (fl := fl) (r := r) h)
  conv => lhs; rw [← h2]
  exact List.set_getElem_self h1
theorem low_val {c : UInt8} (h : 65 ≤ c.toNat ∧ c.toNat ≤ 90) : ((c + 32).toNat : Int) = (c.toNat : Int) + 32 := by
  have : ∀ n : Fin 256, 65 ≤ n.val → n.val ≤ 90 → (UInt8.ofNat n.val + 32).toNat = n.val + 32 := by decide +kernel
  have h1 : (UInt8.ofNat c.toNat + 32).toNat = c.toNat + 32 := this ⟨c.toNat, UInt8.toNat_lt c⟩ h.1 h.2
  have e : UInt8.ofNat c.toNat = c := by simp
  rw [e] at h1
  omega
/-- a line's text in two, its first word in any mixture -/
theorem text_form {l : Ln} (h : parseC (writC l) = (l, 0)) : ∃ f b blank, f ∈ firstsL ∧ writC l = f.w ++ rest b blank ∧ (blank = false → b = []) ∧ lineC f b blank = some l ∧ (f.w ++ rest b blank).length ≤ 8192 := by
  obtain ⟨hl, f, a, b, blank, hf, ht, ha, hb, hu, hx⟩ := parse_ok h
  obtain ⟨_, hw, _⟩ := line_form hf hx hb
  exact ⟨f, b, blank, hf, hw, hb, hx, by rw [← hw]; exact hl⟩
theorem mix_parse {f : Fw} {b : List UInt8} {blank : Bool} {l : Ln} (hf : f ∈ firstsL) (hb : blank = false → b = []) (hx : lineC f b blank = some l) (hl : (f.w ++ rest b blank).length ≤ 8192) (fl : List Bool) :
    parseC (mix fl f.w ++ rest b blank) = (l, 0) := by
  obtain ⟨h1, h2⟩ := mix_letters fl f.w (firsts_all f hf).1
  rw [parse_word hf h2 h1 hb (by simp [mix_len] at hl ⊢; omega), hx]
end Go.Proofs.YtogaaomedfpdnaaDoor
