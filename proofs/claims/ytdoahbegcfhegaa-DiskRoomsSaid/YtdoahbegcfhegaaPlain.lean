/-
  WHAT IS PROVED: files, disks, what each call of a disk answers and leaves, plain facts about lists. No condition.
-/
import Derived.Test.YtdoahbegcfhegaaBase
namespace Go.Proofs.Ytdoahbegcfhegaa

/-- a file -/
structure Fl where
  name : List UInt8
  b : List UInt8
  safe : Bool
/-- a disk -/
structure Ds where
  fs : List Fl
  room : Int
  left : Int
  down : Bool
/-- a file's name -/
def nameB (s : List UInt8) : Bool := decide (1 ≤ s.length) && decide (s.length ≤ 16) && s.all (fun c => decide (97 ≤ c.toNat) && decide (c.toNat ≤ 122))
def hasF (l : List Fl) (x : List UInt8) : Bool := l.any fun f => decide (f.name = x)
def delF (l : List Fl) (x : List UInt8) : List Fl := l.filter fun f => decide (f.name ≠ x)
def putF (l : List Fl) (f : Fl) : List Fl := f :: delF l f.name
/-- the file of a name, or an empty one -/
def getF : List Fl → List UInt8 → Fl
  | [], x => ⟨x, [], false⟩
  | f :: l, x => if f.name = x then f else getF l x
def sumF (l : List Fl) : Nat := (l.map fun f => f.b.length).sum
structure Good (l : List Fl) : Prop where
  nodup : (l.map (·.name)).Nodup
  small : ∀ f ∈ l, f.name.length ≤ 1000 ∧ f.b.length ≤ 100000

theorem hasF_iff {l : List Fl} {x : List UInt8} : hasF l x = true ↔ ∃ f ∈ l, f.name = x := by simp [hasF]
theorem mem_delF {l : List Fl} {x : List UInt8} {f : Fl} : f ∈ delF l x ↔ f ∈ l ∧ f.name ≠ x := by simp [delF]
theorem mem_putF {l : List Fl} {f g : Fl} : g ∈ putF l f ↔ g = f ∨ g ∈ l ∧ g.name ≠ f.name := by unfold putF; rw [List.mem_cons, mem_delF]
theorem has_delF (l : List Fl) (x y : List UInt8) : hasF (delF l x) y = (hasF l y && decide (y ≠ x)) := by
  rw [Bool.eq_iff_iff, Bool.and_eq_true, hasF_iff, hasF_iff, decide_eq_true_eq]
  constructor
  · rintro ⟨f, hf, rfl⟩; obtain ⟨h1, h2⟩ := mem_delF.1 hf; exact ⟨⟨f, h1, rfl⟩, h2⟩
  · rintro ⟨⟨f, hf, rfl⟩, h⟩; exact ⟨f, mem_delF.2 ⟨hf, h⟩, rfl⟩
theorem has_putF (l : List Fl) (f : Fl) (y : List UInt8) : hasF (putF l f) y = (decide (y = f.name) || hasF l y) := by
  rw [Bool.eq_iff_iff, Bool.or_eq_true, hasF_iff, hasF_iff, decide_eq_true_eq]
  constructor
  · rintro ⟨g, hg, rfl⟩
    rcases mem_putF.1 hg with rfl | ⟨h, _⟩
    · exact .inl rfl
    · exact .inr ⟨g, h, rfl⟩
  · rintro (rfl | ⟨g, hg, rfl⟩)
    · exact ⟨f, mem_putF.2 (.inl rfl), rfl⟩
    · by_cases e : g.name = f.name
      · exact ⟨f, mem_putF.2 (.inl rfl), e.symm⟩
      · exact ⟨g, mem_putF.2 (.inr ⟨hg, e⟩), rfl⟩
theorem getF_name : ∀ (l : List Fl) (x : List UInt8), (getF l x).name = x
  | [], x => rfl
  | f :: l, x => by
    unfold getF
    split
    · assumption
    · exact getF_name l x
theorem getF_mem : ∀ {l : List Fl} {x : List UInt8}, hasF l x = true → getF l x ∈ l
  | [], x, h => by simp [hasF] at h
  | f :: l, x, h => by
    unfold getF
    split
    · exact List.mem_cons_self
    · rename_i hne
      refine List.mem_cons_of_mem _ (getF_mem ?_)
      unfold hasF at h ⊢
      simpa [hne] using h
theorem getF_none : ∀ {l : List Fl} {x : List UInt8}, hasF l x = false → getF l x = ⟨x, [], false⟩
  | [], x, _ => rfl
  | f :: l, x, h => by
    unfold hasF at h
    simp at h
    unfold getF
    rw [if_neg h.1]
    exact getF_none (by unfold hasF; simpa using h.2)
theorem Good.eq {l : List Fl} (h : Good l) {f g : Fl} (hf : f ∈ l) (hg : g ∈ l) (e : f.name = g.name) : f = g := by
  have hn := h.nodup
  clear h
  induction l with
  | nil => cases hf
  | cons a l ih =>
    rw [List.map_cons, List.nodup_cons] at hn
    rcases List.mem_cons.1 hf with rfl | hf'
    · rcases List.mem_cons.1 hg with rfl | hg'
      · rfl
      · exact absurd (List.mem_map.2 ⟨g, hg', e.symm⟩) hn.1
    · rcases List.mem_cons.1 hg with rfl | hg'
      · exact absurd (List.mem_map.2 ⟨f, hf', e⟩) hn.1
      · exact ih hf' hg' hn.2
theorem Good.get {l : List Fl} (h : Good l) {f : Fl} (hf : f ∈ l) : getF l f.name = f :=
  h.eq (getF_mem (hasF_iff.2 ⟨f, hf, rfl⟩)) hf (getF_name _ _)
theorem good_nil : Good [] := ⟨by simp, fun f hf => by cases hf⟩
theorem Good.del {l : List Fl} (h : Good l) (x : List UInt8) : Good (delF l x) :=
  ⟨List.Pairwise.sublist (List.Sublist.map _ List.filter_sublist) h.nodup, fun f hf => h.small f (mem_delF.1 hf).1⟩
theorem Good.put {l : List Fl} (h : Good l) {f : Fl} (hn : f.name.length ≤ 1000) (hb : f.b.length ≤ 100000) : Good (putF l f) := by
  refine ⟨?_, fun g hg => ?_⟩
  · unfold putF
    rw [List.map_cons, List.nodup_cons]
    refine ⟨fun hm => ?_, (h.del _).nodup⟩
    obtain ⟨g, hg, e⟩ := List.mem_map.1 hm
    exact (mem_delF.1 hg).2 e
  · rcases mem_putF.1 hg with rfl | ⟨h1, _⟩
    · exact ⟨hn, hb⟩
    · exact h.small g h1
theorem len_delF_no {l : List Fl} {x : List UInt8} (h : hasF l x = false) : delF l x = l := by
  unfold delF
  rw [List.filter_eq_self]
  intro f hf
  simp only [decide_eq_true_eq]
  intro e
  have : hasF l x = true := hasF_iff.2 ⟨f, hf, e⟩
  rw [h] at this; cases this
theorem len_delF {l : List Fl} (h : Good l) {x : List UInt8} : (delF l x).length + (if hasF l x = true then 1 else 0) = l.length := by
  have hn := h.nodup
  clear h
  induction l with
  | nil => simp [delF, hasF]
  | cons f l ih =>
    rw [List.map_cons, List.nodup_cons] at hn
    have := ih hn.2
    by_cases e : f.name = x
    · have hl : hasF l x = false := by
        cases hh : hasF l x with
        | false => rfl
        | true => obtain ⟨g, hg, eg⟩ := hasF_iff.1 hh; exact absurd (List.mem_map.2 ⟨g, hg, eg.trans e.symm⟩) hn.1
      have h1 : hasF (f :: l) x = true := hasF_iff.2 ⟨f, List.mem_cons_self, e⟩
      have h2 : delF (f :: l) x = l := by
        have := len_delF_no hl
        unfold delF at this ⊢
        rw [List.filter_cons_of_neg (by simp [e])]
        exact this
      rw [h1, h2]; simp
    · have h1 : hasF (f :: l) x = hasF l x := by simp [hasF, e]
      have h2 : delF (f :: l) x = f :: delF l x := by unfold delF; rw [List.filter_cons_of_pos (by simp [e])]
      rw [h1, h2]; simp; omega
theorem len_putF {l : List Fl} (h : Good l) (f : Fl) : (putF l f).length = if hasF l f.name = true then l.length else l.length + 1 := by
  have := len_delF h (x := f.name)
  unfold putF
  rw [List.length_cons]
  split at this <;> rename_i hh
  · rw [if_pos hh]; omega
  · rw [if_neg hh]; omega
theorem len_putF_le {l : List Fl} (f : Fl) : (putF l f).length ≤ l.length + 1 := by
  unfold putF delF
  rw [List.length_cons]
  exact Nat.add_le_add_right (List.length_filter_le _ l) 1
theorem getF_put {l : List Fl} (f : Fl) : getF (putF l f) f.name = f := by unfold putF getF; rw [if_pos rfl]
theorem getF_del : ∀ (l : List Fl) {x y : List UInt8}, x ≠ y → getF (delF l y) x = getF l x
  | [], _, _, _ => rfl
  | f :: l, x, y, h => by
    have ih := getF_del l h
    by_cases e : f.name = y
    · have : delF (f :: l) y = delF l y := by unfold delF; rw [List.filter_cons_of_neg (by simp [e])]
      rw [this, ih]
      conv => rhs; unfold getF
      rw [if_neg (by rw [e]; exact fun e' => h e'.symm)]
    · have : delF (f :: l) y = f :: delF l y := by unfold delF; rw [List.filter_cons_of_pos (by simp [e])]
      rw [this]
      unfold getF
      rw [ih]
theorem getF_put_ne {l : List Fl} (f : Fl) {x : List UInt8} (h : x ≠ f.name) : getF (putF l f) x = getF l x := by
  unfold putF
  conv => lhs; unfold getF
  rw [if_neg (fun e => h e.symm)]
  exact getF_del l h

/-! ### what a disk does -/
def spendD (S : Ds) : Int × Ds := if S.left = 0 then (50, { S with down := true }) else if 0 < S.left then (0, { S with left := S.left - 1 }) else (0, S)
def butF (l : List Fl) (x : List UInt8) : Nat := sumF (delF l x)
def writeD (S : Ds) (x b : List UInt8) : Int × Ds :=
  if S.down = true then (50, S) else if nameB x = false then (52, S) else if S.room < (butF S.fs x : Int) + (b.length : Int) then (51, S) else spendD { S with fs := putF S.fs ⟨x, b, false⟩ }
def syncD (S : Ds) (x : List UInt8) : Int × Ds :=
  if S.down = true then (50, S) else if hasF S.fs x = false then (52, S) else if (spendD S).1 = 0 then (0, { (spendD S).2 with fs := putF S.fs { getF S.fs x with safe := true } }) else spendD S
def renameD (S : Ds) (x y : List UInt8) : Int × Ds :=
  if S.down = true then (50, S) else if hasF S.fs x = false ∨ nameB y = false then (52, S) else if (spendD S).1 = 0 then (0, { (spendD S).2 with fs := putF (delF S.fs x) { getF S.fs x with name := y } }) else spendD S
def readE (S : Ds) (x : List UInt8) : Int := if S.down = true then 50 else if hasF S.fs x = false then 52 else 0
def readB (S : Ds) (x : List UInt8) : List UInt8 := if readE S x = 0 then (getF S.fs x).b else []
/-- what a crash leaves, the names gone through one by one -/
def crashG : List (List UInt8) → List Int → List Fl → List Fl
  | [], _, l => l
  | x :: xs, keep, l =>
    if (getF l x).safe = true then crashG xs keep l
    else match keep with
      | [] => crashG xs [] (putF l ⟨x, [], true⟩)
      | k :: ks => crashG xs ks (putF l ⟨x, (getF l x).b.take k.toNat, true⟩)
theorem spend_cases (S : Ds) : (S.left = 0 ∧ spendD S = (50, { S with down := true })) ∨ (0 < S.left ∧ spendD S = (0, { S with left := S.left - 1 })) ∨ (S.left < 0 ∧ spendD S = (0, S)) := by
  unfold spendD
  by_cases h : S.left = 0
  · exact .inl ⟨h, if_pos h⟩
  · by_cases h2 : 0 < S.left
    · exact .inr (.inl ⟨h2, by rw [if_neg h, if_pos h2]⟩)
    · exact .inr (.inr ⟨by omega, by rw [if_neg h, if_neg h2]⟩)
theorem spend_fs (S : Ds) : (spendD S).2.fs = S.fs ∧ (spendD S).2.room = S.room := by
  rcases spend_cases S with ⟨_, h⟩ | ⟨_, h⟩ | ⟨_, h⟩ <;> rw [h] <;> exact ⟨rfl, rfl⟩
end Go.Proofs.Ytdoahbegcfhegaa
