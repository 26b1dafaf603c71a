/-
  WHAT IS PROVED: plain facts on lists of numbers: sets of voters, those of them who say yes, majorities. No condition.
-/
import Derived.Test.YtmjbacmaafbdlaaBase
namespace Go.Proofs.Ytmjbacmaafbdlaa

/-! ### lists without doubles -/
theorem sub_len : ∀ (l m : List Int), l.Nodup → (∀ x ∈ l, x ∈ m) → l.length ≤ m.length
  | [], _, _, _ => by simp
  | x :: r, m, hn, hs => by
    have hx : x ∈ m := hs x (by simp)
    have hr := List.nodup_cons.1 hn
    have h := sub_len r (m.erase x) hr.2 (fun y hy => by
      have hne : y ≠ x := fun e => hr.1 (e ▸ hy)
      exact (List.mem_erase_of_ne hne).2 (hs y (by simp [hy])))
    rw [List.length_erase_of_mem hx] at h
    have := List.length_pos_of_mem hx
    simp; omega
theorem same_len {l m : List Int} (hl : l.Nodup) (hm : m.Nodup) (h : ∀ x, x ∈ l ↔ x ∈ m) : l.length = m.length :=
  Nat.le_antisymm (sub_len l m hl fun x hx => (h x).1 hx) (sub_len m l hm fun x hx => (h x).2 hx)
theorem nodup_snoc {l : List Int} {x : Int} (hl : l.Nodup) (hx : x ∉ l) : (l ++ [x]).Nodup := by
  rw [List.nodup_append]
  refine ⟨hl, by simp, fun a ha b hb => ?_⟩
  simp at hb
  subst hb
  exact fun e => hx (e ▸ ha)

/-! ### a set of voters -/
def isIdB (x : Int) : Bool := decide (1 ≤ x ∧ x ≤ 4294967296)
def Good (l : List Int) : Prop := l.Nodup ∧ ∀ x ∈ l, 1 ≤ x ∧ x ≤ 4294967296
instance (l : List Int) : Decidable (Good l) := inferInstanceAs (Decidable (_ ∧ _))
def goodB (l : List Int) : Bool := decide (Good l)
def rightB (l : List Int) : Bool := decide (l.length ≤ 16) && goodB l
theorem good_iff {l : List Int} : goodB l = true ↔ Good l := by unfold goodB; rw [decide_eq_true_eq]
theorem right_iff {l : List Int} : rightB l = true ↔ l.length ≤ 16 ∧ Good l := by unfold rightB; rw [Bool.and_eq_true, decide_eq_true_eq, good_iff]
theorem good_nil : goodB [] = true := by decide
theorem Good.prefix_ {l m : List Int} (h : Good (l ++ m)) : Good l :=
  ⟨(List.nodup_append.1 h.1).1, fun x hx => h.2 x (List.mem_append_left _ hx)⟩
theorem good_step {l : List Int} {k : Nat} {x : Int} (hx : l[k]? = some x) (hg : goodB (l.take k) = true) (h1 : 1 ≤ x) (h2 : x ≤ 4294967296) (h3 : x ∉ l.take k) : goodB (l.take (k + 1)) = true := by
  rw [good_iff] at hg ⊢
  rw [List.take_add_one, hx]
  refine ⟨nodup_snoc hg.1 h3, fun y hy => ?_⟩
  rcases List.mem_append.1 hy with hy | hy
  · exact hg.2 y hy
  · simp at hy; subst hy; exact ⟨h1, h2⟩
theorem bad_id {l : List Int} {k : Nat} {x : Int} (hx : l[k]? = some x) (h : x < 1 ∨ 4294967296 < x) : goodB l = false := by
  rw [Bool.eq_false_iff]
  intro hg
  have := (good_iff.1 hg).2 x (List.mem_of_getElem? hx)
  omega
theorem bad_twice {l : List Int} {k : Nat} {x : Int} (hx : l[k]? = some x) (h : x ∈ l.take k) : goodB l = false := by
  rw [Bool.eq_false_iff]
  intro hg
  have e : l = l.take (k + 1) ++ l.drop (k + 1) := (List.take_append_drop _ _).symm
  rw [good_iff, e] at hg
  have h2 := hg.prefix_.1
  rw [List.take_add_one, hx, List.nodup_append] at h2
  exact h2.2.2 x h x (by simp) rfl
theorem right_good {l : List Int} (h : l.length ≤ 16) : rightB l = goodB l := by unfold rightB; simp [h]
theorem right_long {l : List Int} (h : 16 < l.length) : rightB l = false := by unfold rightB; simp; omega

/-! ### those who say yes -/
def yesIn (vs ys : List Int) : List Int := vs.filter fun v => decide (v ∈ ys)
def majB (vs ys : List Int) : Bool := rightB vs && decide (vs.length < 2 * (yesIn vs ys).length)
theorem mem_yesIn {vs ys : List Int} {x : Int} : x ∈ yesIn vs ys ↔ x ∈ vs ∧ x ∈ ys := by unfold yesIn; simp
theorem yesIn_nodup {vs ys : List Int} (h : vs.Nodup) : (yesIn vs ys).Nodup := List.Nodup.sublist List.filter_sublist h
theorem yesIn_le (vs ys : List Int) : (yesIn vs ys).length ≤ vs.length := List.length_filter_le _ _
theorem two_filters (p q : Int → Bool) : ∀ l : List Int, (l.filter p).length + (l.filter q).length ≤ l.length + (l.filter fun x => p x && q x).length
  | [] => by simp
  | x :: r => by
    have ih := two_filters p q r
    cases hp : p x <;> cases hq : q x <;> simp [hp, hq] <;> omega
/-- two majorities have one in common -/
theorem maj_meet {vs a b : List Int} (ha : majB vs a = true) (hb : majB vs b = true) : ∃ x, x ∈ vs ∧ x ∈ a ∧ x ∈ b := by
  unfold majB at ha hb
  simp only [Bool.and_eq_true, decide_eq_true_eq] at ha hb
  have h := two_filters (fun v => decide (v ∈ a)) (fun v => decide (v ∈ b)) vs
  have h1 := ha.2
  have h2 := hb.2
  unfold yesIn at h1 h2
  have : 0 < (vs.filter fun x => decide (x ∈ a) && decide (x ∈ b)).length := by omega
  obtain ⟨x, hx⟩ := List.exists_mem_of_length_pos this
  simp at hx
  exact ⟨x, hx⟩
theorem yes_mono {vs a b : List Int} (h : ∀ x ∈ a, x ∈ b) : (yesIn vs a).length ≤ (yesIn vs b).length := by
  unfold yesIn
  induction vs with
  | nil => simp
  | cons v r ih =>
    by_cases h1 : v ∈ a
    · have h2 := h v h1; simp [h1, h2]; omega
    · by_cases h2 : v ∈ b <;> simp [h1, h2] <;> omega
theorem maj_mono {vs a b : List Int} (h : ∀ x ∈ a, x ∈ b) (hm : majB vs a = true) : majB vs b = true := by
  unfold majB at hm ⊢
  simp only [Bool.and_eq_true, decide_eq_true_eq] at hm ⊢
  have := yes_mono (vs := vs) h
  exact ⟨hm.1, by omega⟩
theorem yes_all (vs : List Int) : yesIn vs vs = vs := by
  unfold yesIn
  rw [List.filter_eq_self]
  intro a ha; simp [ha]
theorem maj_all (vs : List Int) : majB vs vs = (rightB vs && decide (0 < vs.length)) := by
  unfold majB
  rw [yes_all]
  congr 1
  simp only [decide_eq_decide]
  omega
theorem yes_none (vs : List Int) : yesIn vs [] = [] := by unfold yesIn; simp
theorem maj_none (vs : List Int) : majB vs [] = false := by unfold majB; rw [yes_none]; simp
theorem maj_bad {vs ys : List Int} (h : rightB vs = false) : majB vs ys = false := by unfold majB; rw [h]; rfl
theorem maj_right {vs ys : List Int} (h : rightB vs = true) : majB vs ys = decide (vs.length < 2 * (yesIn vs ys).length) := by unfold majB; rw [h]; rfl

/-! ### who has granted -/
def addG (vs gs : List Int) (x : Int) : List Int := if x ∈ vs ∧ x ∉ gs then gs ++ [x] else gs
def gAll (vs ys : List Int) : List Int := ys.foldl (addG vs) []
def okG (vs gs : List Int) (x : Int) : Bool := decide (x ∈ vs ∧ x ∉ gs)
theorem addG_yes {vs gs : List Int} {x : Int} (h : okG vs gs x = true) : addG vs gs x = gs ++ [x] := by unfold okG at h; rw [decide_eq_true_eq] at h; unfold addG; rw [if_pos h]
theorem addG_no {vs gs : List Int} {x : Int} (h : okG vs gs x = false) : addG vs gs x = gs := by unfold okG at h; rw [decide_eq_false_iff_not] at h; unfold addG; rw [if_neg h]
theorem gAll_snoc (vs ys : List Int) (x : Int) : gAll vs (ys ++ [x]) = addG vs (gAll vs ys) x := by unfold gAll; rw [List.foldl_append]; rfl
/-- a tally's granted: voters, each once -/
def Sub (vs gs : List Int) : Prop := gs.Nodup ∧ ∀ x ∈ gs, x ∈ vs
theorem Sub.nil (vs : List Int) : Sub vs [] := ⟨by simp, fun x hx => by cases hx⟩
theorem Sub.add {vs gs : List Int} (h : Sub vs gs) (x : Int) : Sub vs (addG vs gs x) := by
  unfold addG
  split
  · rename_i hc
    refine ⟨nodup_snoc h.1 hc.2, fun y hy => ?_⟩
    rcases List.mem_append.1 hy with hy | hy
    · exact h.2 y hy
    · simp at hy; subst hy; exact hc.1
  · exact h
theorem Sub.le {vs gs : List Int} (h : Sub vs gs) : gs.length ≤ vs.length := sub_len gs vs h.1 h.2
theorem foldG_sub {vs : List Int} : ∀ (ys gs : List Int), Sub vs gs → Sub vs (ys.foldl (addG vs) gs)
  | [], _, h => h
  | y :: r, _, h => foldG_sub r _ (h.add y)
theorem sub_gAll (vs ys : List Int) : Sub vs (gAll vs ys) := foldG_sub ys [] (Sub.nil vs)
theorem mem_addG {vs gs : List Int} {x y : Int} : y ∈ addG vs gs x ↔ y ∈ gs ∨ (y = x ∧ x ∈ vs) := by
  unfold addG
  split
  · rename_i h; simp [h.1]
  · rename_i h
    constructor
    · exact fun hy => .inl hy
    · rintro (hy | ⟨rfl, hy⟩)
      · exact hy
      · exact Classical.byContradiction fun hn => h ⟨hy, hn⟩
theorem mem_foldG {vs : List Int} : ∀ (ys gs : List Int) (x : Int), x ∈ ys.foldl (addG vs) gs ↔ x ∈ gs ∨ (x ∈ vs ∧ x ∈ ys)
  | [], gs, x => by simp
  | y :: r, gs, x => by
    rw [List.foldl_cons, mem_foldG r, mem_addG]
    constructor
    · rintro ((h | ⟨rfl, h⟩) | h)
      · exact .inl h
      · exact .inr ⟨h, by simp⟩
      · exact .inr ⟨h.1, by simp [h.2]⟩
    · rintro (h | ⟨h, h2⟩)
      · exact .inl (.inl h)
      · rcases List.mem_cons.1 h2 with rfl | h2
        · exact .inl (.inr ⟨rfl, h⟩)
        · exact .inr ⟨h, h2⟩
theorem mem_gAll {vs ys : List Int} {x : Int} : x ∈ gAll vs ys ↔ x ∈ vs ∧ x ∈ ys := by unfold gAll; rw [mem_foldG]; simp
theorem len_gAll {vs : List Int} (ys : List Int) (h : vs.Nodup) : (gAll vs ys).length = (yesIn vs ys).length :=
  same_len (sub_gAll vs ys).1 (yesIn_nodup h) fun _ => mem_gAll.trans mem_yesIn.symm

/-! ### the order of voters plays no part -/
def sorted (l : List Int) : List Int := l.mergeSort fun x y => decide (x ≤ y)
theorem sorted_perm (l : List Int) : (sorted l).Perm l := List.mergeSort_perm l _
theorem sorted_len (l : List Int) : (sorted l).length = l.length := (sorted_perm l).length_eq
theorem mem_sorted {l : List Int} {x : Int} : x ∈ sorted l ↔ x ∈ l := (sorted_perm l).mem_iff
theorem sorted_nodup {l : List Int} (h : l.Nodup) : (sorted l).Nodup := (sorted_perm l).symm.nodup h
theorem sorted_le (l : List Int) : (sorted l).Pairwise (· ≤ ·) := by
  have := List.pairwise_mergeSort (le := fun x y : Int => decide (x ≤ y)) (fun a b c h1 h2 => by simp at *; omega) (fun a b => by simp; omega) l
  unfold sorted
  exact this.imp fun h => by simpa using h
theorem sorted_lt {l : List Int} (h : l.Nodup) : (sorted l).Pairwise (· < ·) := by
  have h1 := sorted_le l
  have h2 := sorted_nodup h
  have := h1.and h2
  exact this.imp fun ⟨a, b⟩ => by omega
theorem good_perm {l m : List Int} (h : l.Perm m) : Good l ↔ Good m := by
  unfold Good
  rw [h.nodup_iff]
  constructor
  · exact fun ⟨a, b⟩ => ⟨a, fun x hx => b x (h.mem_iff.2 hx)⟩
  · exact fun ⟨a, b⟩ => ⟨a, fun x hx => b x (h.mem_iff.1 hx)⟩
theorem right_perm {l m : List Int} (h : l.Perm m) : rightB l = rightB m := by
  rw [Bool.eq_iff_iff, right_iff, right_iff, h.length_eq, good_perm h]
theorem yes_perm {l m a b : List Int} (h : l.Perm m) (hm : ∀ x, x ∈ a ↔ x ∈ b) : (yesIn l a).length = (yesIn m b).length := by
  have e : yesIn m b = yesIn m a := by unfold yesIn; congr 1; funext v; simp [hm v]
  rw [e]
  exact (h.filter _).length_eq
theorem maj_perm {l m a b : List Int} (h : l.Perm m) (hm : ∀ x, x ∈ a ↔ x ∈ b) : majB l a = majB m b := by
  unfold majB
  rw [right_perm h, yes_perm h hm, h.length_eq]
/-- the tally's own list of voters is the sorted one -/
theorem okG_sorted (vs gs : List Int) (x : Int) : okG (sorted vs) gs x = okG vs gs x := by unfold okG; simp [mem_sorted]
theorem addG_sorted (vs gs : List Int) (x : Int) : addG (sorted vs) gs x = addG vs gs x := by unfold addG; simp [mem_sorted]
end Go.Proofs.Ytmjbacmaafbdlaa
