/-
  WHAT IS PROVED: plain facts on lists of reports: notes, what goes, who told, the order of notes. No condition.
-/
import Derived.Test.YtcacjppdcmghjaaBase
namespace Go.Proofs.Ytcacjppdcmghjaa

/-- a report -/
structure Rp where
  a : Int
  b : Int
  t : Int

def Rp.is (r : Rp) (a b : Int) : Prop := r.a = a ∧ r.b = b
instance (r : Rp) (a b : Int) : Decidable (r.is a b) := inferInstanceAs (Decidable (_ ∧ _))
theorem Rp.ext_ {r s : Rp} (h1 : r.a = s.a) (h2 : r.b = s.b) (h3 : r.t = s.t) : r = s := by
  cases r; cases s; simp at h1 h2 h3; subst h1; subst h2; subst h3; rfl
def Uniq (L : List Rp) : Prop := L.Pairwise fun r s => ¬ (r.a = s.a ∧ r.b = s.b)
def okRp (r : Rp) : Prop := (1 ≤ r.a ∧ r.a ≤ 4294967296) ∧ (1 ≤ r.b ∧ r.b ≤ 4294967296) ∧ (0 ≤ r.t ∧ r.t ≤ 1099511627776)

theorem Uniq.nodup {L : List Rp} (h : Uniq L) : L.Nodup := h.imp fun hn e => hn (by subst e; exact ⟨rfl, rfl⟩)
theorem Uniq.eq {L : List Rp} (h : Uniq L) {r s : Rp} (hr : r ∈ L) (hs : s ∈ L) (h1 : r.a = s.a) (h2 : r.b = s.b) : r = s := by
  induction L with
  | nil => cases hr
  | cons x l ih =>
    obtain ⟨hx, hl⟩ := List.pairwise_cons.1 h
    rcases List.mem_cons.1 hr with e | hr'
    · rcases List.mem_cons.1 hs with f | hs'
      · rw [e, f]
      · subst e; exact absurd ⟨h1, h2⟩ (hx s hs')
    · rcases List.mem_cons.1 hs with f | hs'
      · subst f; exact absurd ⟨h1.symm, h2.symm⟩ (hx r hr')
      · exact ih hl hr' hs'
theorem Uniq.filter {L : List Rp} (h : Uniq L) (p : Rp → Bool) : Uniq (L.filter p) := List.Pairwise.filter p h

/-! ### two lists with the same members -/
theorem perm_of_mem {α : Type} : ∀ (l m : List α), l.Nodup → m.Nodup → (∀ x, x ∈ l ↔ x ∈ m) → l.Perm m
  | [], m, _, _, h => by
    cases m with
    | nil => exact List.Perm.refl _
    | cons y r => exact absurd ((h y).2 (by simp)) (by simp)
  | x :: l, m, hl, hm, h => by
    obtain ⟨hx, hl2⟩ := List.nodup_cons.1 hl
    obtain ⟨s, t, rfl⟩ := List.append_of_mem ((h x).1 (by simp))
    have hp : (s ++ x :: t).Perm (x :: (s ++ t)) := List.perm_middle
    have hm2 : (x :: (s ++ t)).Nodup := hp.nodup hm
    obtain ⟨hx2, hst⟩ := List.nodup_cons.1 hm2
    refine List.Perm.trans (List.Perm.cons x (perm_of_mem l (s ++ t) hl2 hst fun y => ?_)) hp.symm
    constructor
    · intro hy
      have hne : y ≠ x := fun e => hx (e ▸ hy)
      have := hp.mem_iff.1 ((h y).1 (by simp [hy]))
      rcases List.mem_cons.1 this with e | h'
      · exact absurd e hne
      · exact h'
    · intro hy
      have hne : y ≠ x := fun e => hx2 (e ▸ hy)
      have := (h y).2 (hp.mem_iff.2 (List.mem_cons_of_mem _ hy))
      rcases List.mem_cons.1 this with e | h'
      · exact absurd e hne
      · exact h'

/-! ### a note -/
def putL : List Rp → Int → Int → Int → List Rp
  | [], a, b, t => [⟨a, b, t⟩]
  | r :: l, a, b, t => if r.is a b then ⟨a, b, max r.t t⟩ :: l else r :: putL l a b t
def isIdB (x : Int) : Bool := decide (1 ≤ x ∧ x ≤ 4294967296)
def isTimeB (x : Int) : Bool := decide (0 ≤ x ∧ x ≤ 1099511627776)
def noteE (a b t : Int) : Int := if isIdB a = true ∧ isIdB b = true ∧ isTimeB t = true then (if a = b then 33 else 0) else 10
def noteL (L : List Rp) (a b t : Int) : List Rp := if noteE a b t = 0 then putL L a b t else L
theorem noteE_ok {a b t : Int} (h1 : isIdB a = true) (h2 : isIdB b = true) (h3 : isTimeB t = true) (h4 : a ≠ b) : noteE a b t = 0 := by unfold noteE; simp [h1, h2, h3, h4]
theorem noteE_self {a t : Int} (h1 : isIdB a = true) (h3 : isTimeB t = true) : noteE a a t = 33 := by unfold noteE; simp [h1, h3]
theorem noteE_form {a b t : Int} (h : isIdB a = false ∨ isIdB b = false ∨ isTimeB t = false) : noteE a b t = 10 := by
  unfold noteE
  rw [if_neg]
  rintro ⟨h1, h2, h3⟩
  rcases h with h | h | h <;> simp_all
theorem noteE_zero {a b t : Int} (h : noteE a b t = 0) : (1 ≤ a ∧ a ≤ 4294967296) ∧ (1 ≤ b ∧ b ≤ 4294967296) ∧ (0 ≤ t ∧ t ≤ 1099511627776) ∧ a ≠ b := by
  unfold noteE at h
  split at h
  · rename_i hc
    split at h
    · cases h
    · rename_i hne
      unfold isIdB isTimeB at hc
      simp only [decide_eq_true_eq] at hc
      exact ⟨hc.1, hc.2.1, hc.2.2, hne⟩
  · cases h
theorem noteE_cases (a b t : Int) : noteE a b t = 0 ∨ noteE a b t = 33 ∨ noteE a b t = 10 := by
  unfold noteE; split <;> (try split) <;> simp
theorem noteL_ok {L : List Rp} {a b t : Int} (h : noteE a b t = 0) : noteL L a b t = putL L a b t := if_pos h
theorem noteL_no {L : List Rp} {a b t : Int} (h : noteE a b t ≠ 0) : noteL L a b t = L := if_neg h

/-- where it lies -/
theorem put_hit : ∀ {L : List Rp} {a b t : Int} {k : Nat} {x : Rp}, (∀ r ∈ L.take k, ¬ r.is a b) → L[k]? = some x → x.is a b → putL L a b t = L.set k ⟨a, b, max x.t t⟩
  | [], _, _, _, _, _, _, h, _ => by simp at h
  | r :: l, a, b, t, 0, x, _, h, hx => by
    simp at h; subst h
    show (if r.is a b then _ else _) = _
    rw [if_pos hx]; rfl
  | r :: l, a, b, t, k + 1, x, hn, h, hx => by
    have h1 : ¬ r.is a b := hn r (by simp)
    show (if r.is a b then _ else _) = _
    rw [if_neg h1, put_hit (k := k) (x := x) (fun s hs => hn s (by simp [hs])) (by simpa using h) hx]
    rfl
theorem put_miss : ∀ {L : List Rp} {a b t : Int}, (∀ r ∈ L, ¬ r.is a b) → putL L a b t = L ++ [⟨a, b, t⟩]
  | [], _, _, _, _ => rfl
  | r :: l, a, b, t, hn => by
    show (if r.is a b then _ else _) = _
    rw [if_neg (hn r (by simp)), put_miss (fun s hs => hn s (by simp [hs]))]
    rfl
/-- the time that was noted, or 0 -/
def atL : List Rp → Int → Int → Int
  | [], _, _ => 0
  | r :: l, a, b => if r.is a b then r.t else atL l a b
def hasL (L : List Rp) (a b : Int) : Bool := L.any fun r => decide (r.is a b)
theorem hasL_iff {L : List Rp} {a b : Int} : hasL L a b = true ↔ ∃ r ∈ L, r.is a b := by unfold hasL; simp
theorem hasL_no {L : List Rp} {a b : Int} : hasL L a b = false ↔ ∀ r ∈ L, ¬ r.is a b := by unfold hasL; simp
theorem atL_mem : ∀ {L : List Rp}, Uniq L → ∀ {r : Rp} {a b : Int}, r ∈ L → r.is a b → atL L a b = r.t
  | [], _, _, _, _, h, _ => by cases h
  | x :: l, hu, r, a, b, h, hr => by
    obtain ⟨h1, h2⟩ := List.pairwise_cons.1 hu
    show (if x.is a b then _ else _) = _
    rcases List.mem_cons.1 h with e | h'
    · subst e; rw [if_pos hr]
    · rw [if_neg, atL_mem h2 h' hr]
      intro hx
      exact h1 r h' ⟨hx.1.trans hr.1.symm, hx.2.trans hr.2.symm⟩
theorem atL_no : ∀ {L : List Rp} {a b : Int}, (∀ r ∈ L, ¬ r.is a b) → atL L a b = 0
  | [], _, _, _ => rfl
  | x :: l, a, b, h => by
    show (if x.is a b then _ else _) = _
    rw [if_neg (h x (by simp)), atL_no fun r hr => h r (by simp [hr])]
theorem mem_put : ∀ {L : List Rp}, Uniq L → ∀ {a b t : Int} {r : Rp}, r ∈ putL L a b t ↔ (r ∈ L ∧ ¬ r.is a b) ∨ (r.is a b ∧ r.t = if hasL L a b then max (atL L a b) t else t)
  | [], _, a, b, t, r => by
    show r ∈ [(⟨a, b, t⟩ : Rp)] ↔ _
    simp [hasL]
    constructor
    · rintro rfl; exact ⟨⟨rfl, rfl⟩, rfl⟩
    · rintro ⟨⟨h1, h2⟩, h3⟩; exact Rp.ext_ h1 h2 h3
  | x :: l, hu, a, b, t, r => by
    obtain ⟨h1, h2⟩ := List.pairwise_cons.1 hu
    by_cases hx : x.is a b
    · have e1 : putL (x :: l) a b t = ⟨a, b, max x.t t⟩ :: l := if_pos hx
      have e2 : hasL (x :: l) a b = true := hasL_iff.2 ⟨x, by simp, hx⟩
      have e3 : atL (x :: l) a b = x.t := if_pos hx
      rw [e1, e2, e3]
      simp only [if_true, List.mem_cons]
      have hl : ∀ s ∈ l, ¬ s.is a b := fun s hs hh => h1 s hs ⟨hx.1.trans hh.1.symm, hx.2.trans hh.2.symm⟩
      constructor
      · rintro (rfl | h)
        · exact .inr ⟨⟨rfl, rfl⟩, rfl⟩
        · exact .inl ⟨.inr h, hl r h⟩
      · rintro (⟨rfl | h, hn⟩ | ⟨⟨h3, h4⟩, h5⟩)
        · exact absurd hx hn
        · exact .inr h
        · exact .inl (Rp.ext_ h3 h4 h5)
    · have e1 : putL (x :: l) a b t = x :: putL l a b t := if_neg hx
      have e2 : hasL (x :: l) a b = hasL l a b := by unfold hasL; simp [hx]
      have e3 : atL (x :: l) a b = atL l a b := if_neg hx
      rw [e1, e2, e3]
      simp only [List.mem_cons, mem_put h2]
      constructor
      · rintro (rfl | ⟨h, hn⟩ | h)
        · exact .inl ⟨.inl rfl, hx⟩
        · exact .inl ⟨.inr h, hn⟩
        · exact .inr h
      · rintro (⟨rfl | h, hn⟩ | h)
        · exact .inl rfl
        · exact .inr (.inl ⟨h, hn⟩)
        · exact .inr (.inr h)
theorem uniq_put : ∀ {L : List Rp}, Uniq L → ∀ (a b t : Int), Uniq (putL L a b t)
  | [], _, a, b, t => List.pairwise_singleton _ _
  | x :: l, hu, a, b, t => by
    obtain ⟨h1, h2⟩ := List.pairwise_cons.1 hu
    by_cases hx : x.is a b
    · have e1 : putL (x :: l) a b t = ⟨a, b, max x.t t⟩ :: l := if_pos hx
      rw [e1]
      exact List.pairwise_cons.2 ⟨fun s hs => by have := h1 s hs; rwa [hx.1, hx.2] at this, h2⟩
    · have e1 : putL (x :: l) a b t = x :: putL l a b t := if_neg hx
      rw [e1]
      refine List.pairwise_cons.2 ⟨fun s hs => ?_, uniq_put h2 a b t⟩
      rcases (mem_put h2).1 hs with ⟨h, _⟩ | ⟨⟨h3, h4⟩, _⟩
      · exact h1 s h
      · rw [h3, h4]; exact hx
theorem len_put : ∀ (L : List Rp) (a b t : Int), (putL L a b t).length = if hasL L a b then L.length else L.length + 1
  | [], a, b, t => rfl
  | x :: l, a, b, t => by
    by_cases hx : x.is a b
    · have e1 : putL (x :: l) a b t = ⟨a, b, max x.t t⟩ :: l := if_pos hx
      have e2 : hasL (x :: l) a b = true := hasL_iff.2 ⟨x, by simp, hx⟩
      rw [e1, e2]; simp
    · have e1 : putL (x :: l) a b t = x :: putL l a b t := if_neg hx
      have e2 : hasL (x :: l) a b = hasL l a b := by unfold hasL; simp [hx]
      rw [e1, e2, List.length_cons, len_put]
      split <;> simp
theorem len_put_le (L : List Rp) (a b t : Int) : (putL L a b t).length ≤ L.length + 1 := by rw [len_put]; split <;> omega
theorem len_note_le (L : List Rp) (a b t : Int) : (noteL L a b t).length ≤ L.length + 1 := by
  unfold noteL; split
  · exact len_put_le L a b t
  · omega
theorem uniq_note {L : List Rp} (h : Uniq L) (a b t : Int) : Uniq (noteL L a b t) := by
  unfold noteL; split
  · exact uniq_put h a b t
  · exact h
def Good (L : List Rp) : Prop := Uniq L ∧ ∀ r ∈ L, okRp r
theorem Good.nil : Good [] := ⟨List.Pairwise.nil, fun r hr => by cases hr⟩
theorem Good.filter {L : List Rp} (h : Good L) (p : Rp → Bool) : Good (L.filter p) := ⟨h.1.filter p, fun r hr => h.2 r (List.mem_filter.1 hr).1⟩
theorem Good.put {L : List Rp} (h : Good L) {a b t : Int} (he : noteE a b t = 0) : Good (putL L a b t) := by
  refine ⟨uniq_put h.1 a b t, fun r hr => ?_⟩
  obtain ⟨ha, hb, ht, _⟩ := noteE_zero he
  rcases (mem_put h.1).1 hr with ⟨h', _⟩ | ⟨⟨h1, h2⟩, h3⟩
  · exact h.2 r h'
  · refine ⟨by rw [h1]; exact ha, by rw [h2]; exact hb, ?_⟩
    rw [h3]
    split
    · rename_i hh
      obtain ⟨s, hs, hk⟩ := hasL_iff.1 hh
      rw [atL_mem h.1 hs hk]
      have := (h.2 s hs).2.2
      omega
    · exact ht
theorem Good.note {L : List Rp} (h : Good L) (a b t : Int) : Good (noteL L a b t) := by
  by_cases he : noteE a b t = 0
  · rw [noteL_ok he]; exact h.put he
  · rw [noteL_no he]; exact h

/-! ### what counts, who told -/
def countB (win now : Int) (r : Rp) : Bool := decide (now ≤ r.t + win)
def tellB (about now win : Int) (r : Rp) : Bool := decide (r.a = about) && countB win now r
def whoL (L : List Rp) (about now win : Int) : List Int := (L.filter (tellB about now win)).map (·.b)
def sorted (l : List Int) : List Int := l.mergeSort fun x y => decide (x ≤ y)
def byL (L : List Rp) (about now win : Int) : List Int := sorted (whoL L about now win)
theorem sorted_perm (l : List Int) : (sorted l).Perm l := List.mergeSort_perm l _
theorem sorted_len (l : List Int) : (sorted l).length = l.length := (sorted_perm l).length_eq
theorem sorted_le (l : List Int) : (sorted l).Pairwise (· ≤ ·) := by
  have := List.pairwise_mergeSort (le := fun x y : Int => decide (x ≤ y)) (fun a b c h1 h2 => by simp at *; omega) (fun a b => by simp; omega) l
  unfold sorted
  exact this.imp fun h => by simpa using h
theorem sorted_of {l m : List Int} (hp : l.Perm m) (hs : l.Pairwise (· ≤ ·)) : l = sorted m :=
  List.Perm.eq_of_pairwise (fun a b _ _ h1 h2 => by omega) hs (sorted_le m) (hp.trans (sorted_perm m).symm)
theorem sorted_same {l m : List Int} (hp : l.Perm m) : sorted l = sorted m := sorted_of ((sorted_perm l).trans hp) (sorted_le l)
theorem sorted_sorted (l : List Int) : sorted (sorted l) = sorted l := sorted_same (sorted_perm l)
theorem sorted_nil : sorted [] = [] := by simp [sorted]
theorem who_perm {L M : List Rp} (h : L.Perm M) (about now win : Int) : (whoL L about now win).Perm (whoL M about now win) := (h.filter _).map _
theorem by_perm {L M : List Rp} (h : L.Perm M) (about now win : Int) : byL L about now win = byL M about now win := sorted_same (who_perm h about now win)
theorem who_le (L : List Rp) (about now win : Int) : (whoL L about now win).length ≤ L.length := by unfold whoL; rw [List.length_map]; exact List.length_filter_le _ _
theorem by_le (L : List Rp) (about now win : Int) : (byL L about now win).length ≤ L.length := by unfold byL; rw [sorted_len]; exact who_le _ _ _ _
theorem mem_who {L : List Rp} {about now win x : Int} : x ∈ whoL L about now win ↔ ∃ r ∈ L, r.a = about ∧ countB win now r = true ∧ r.b = x := by
  unfold whoL tellB
  simp only [List.mem_map, List.mem_filter, Bool.and_eq_true, decide_eq_true_eq]
  constructor
  · rintro ⟨r, ⟨h1, h2, h3⟩, h4⟩; exact ⟨r, h1, h2, h3, h4⟩
  · rintro ⟨r, h1, h2, h3, h4⟩; exact ⟨r, ⟨h1, h2, h3⟩, h4⟩
theorem mem_by {L : List Rp} {about now win x : Int} : x ∈ byL L about now win ↔ ∃ r ∈ L, r.a = about ∧ countB win now r = true ∧ r.b = x := by
  unfold byL; rw [(sorted_perm _).mem_iff]; exact mem_who
theorem who_ids {L : List Rp} (h : ∀ r ∈ L, okRp r) {about now win x : Int} (hx : x ∈ whoL L about now win) : 1 ≤ x ∧ x ≤ 4294967296 := by
  obtain ⟨r, hr, _, _, rfl⟩ := mem_who.1 hx
  exact (h r hr).2.1
theorem by_ids {L : List Rp} (h : ∀ r ∈ L, okRp r) {about now win x : Int} (hx : x ∈ byL L about now win) : 1 ≤ x ∧ x ≤ 4294967296 :=
  who_ids h ((sorted_perm _).mem_iff.1 hx)
/-- one more comes to a sorted list at its place -/
theorem ins_sorted {l S : List Int} {x : Int} {k : Nat} (e : S = sorted l) (h1 : ∀ y ∈ S.take k, y < x) (h2 : ∀ y, S[k]? = some y → x ≤ y) : S.take k ++ [x] ++ S.drop k = sorted (l ++ [x]) := by
  have hs : S.Pairwise (· ≤ ·) := by rw [e]; exact sorted_le l
  have hp : S.Perm l := by rw [e]; exact sorted_perm l
  have hsplit : S = S.take k ++ S.drop k := (List.take_append_drop k S).symm
  have hs2 := hs
  rw [hsplit, List.pairwise_append] at hs2
  have hd : ∀ y ∈ S.drop k, x ≤ y := by
    intro y hy
    cases hk : S[k]? with
    | none =>
      have : S.length ≤ k := List.getElem?_eq_none_iff.1 hk
      rw [List.drop_of_length_le this] at hy; cases hy
    | some z =>
      have hz := h2 z hk
      obtain ⟨hlt, ez⟩ := List.getElem?_eq_some_iff.1 hk
      have hdk : S.drop k = z :: S.drop (k + 1) := by rw [← ez]; exact List.drop_eq_getElem_cons hlt
      rw [hdk] at hy hs2
      rcases List.mem_cons.1 hy with rfl | hy'
      · exact hz
      · have := (List.pairwise_cons.1 hs2.2.1).1 y hy'; omega
  refine sorted_of ?_ ?_
  · refine List.Perm.trans ?_ (hp.append_right [x])
    rw [List.append_assoc]
    refine (List.Perm.append_left (S.take k) (List.perm_append_comm (l₁ := [x]) (l₂ := S.drop k))).trans ?_
    rw [← List.append_assoc, List.take_append_drop]
  · rw [List.pairwise_append, List.pairwise_append]
    refine ⟨⟨hs2.1, List.pairwise_singleton _ _, fun y hy z hz => ?_⟩, hs2.2.1, fun y hy z hz => ?_⟩
    · simp at hz; subst hz; have := h1 y hy; omega
    · rcases List.mem_append.1 hy with hy' | hy'
      · exact hs2.2.2 y hy' z hz
      · simp at hy'; subst hy'; exact hd z hz
theorem take_snoc_ {α : Type} {l : List α} {k : Nat} {z : α} (h : l[k]? = some z) : l.take (k + 1) = l.take k ++ [z] := by rw [List.take_add_one, h]; rfl
theorem who_yes {L : List Rp} {k : Nat} {r : Rp} {about now win : Int} (hr : L[k]? = some r) (h : tellB about now win r = true) : whoL (L.take (k + 1)) about now win = whoL (L.take k) about now win ++ [r.b] := by
  unfold whoL; rw [take_snoc_ hr, List.filter_append, List.map_append]; simp [h]
theorem who_no {L : List Rp} {k : Nat} {r : Rp} {about now win : Int} (hr : L[k]? = some r) (h : tellB about now win r = false) : whoL (L.take (k + 1)) about now win = whoL (L.take k) about now win := by
  unfold whoL; rw [take_snoc_ hr, List.filter_append, List.map_append]; simp [h]

/-! ### what goes -/
def goesB (how a b t win : Int) (r : Rp) : Bool :=
  if how = 2 then decide (r.is a b) else if how = 3 then decide (r.a = a ∨ r.b = a) else if how = 4 then !countB win t r else false
def keepL (how a b t win : Int) (L : List Rp) : List Rp := L.filter fun r => !goesB how a b t win r
theorem keep_yes {how a b t win : Int} {L : List Rp} {k : Nat} {r : Rp} (hr : L[k]? = some r) (h : goesB how a b t win r = true) : keepL how a b t win (L.take (k + 1)) = keepL how a b t win (L.take k) := by
  unfold keepL; rw [take_snoc_ hr, List.filter_append]; simp [h]
theorem keep_no {how a b t win : Int} {L : List Rp} {k : Nat} {r : Rp} (hr : L[k]? = some r) (h : goesB how a b t win r = false) : keepL how a b t win (L.take (k + 1)) = keepL how a b t win (L.take k) ++ [r] := by
  unfold keepL; rw [take_snoc_ hr, List.filter_append]; simp [h]
theorem keep_le (how a b t win : Int) (L : List Rp) : (keepL how a b t win L).length ≤ L.length := List.length_filter_le _ _

/-! ### many notes -/
/-- a step of a play -/
structure St where
  how : Int
  a : Int
  b : Int
  t : Int
def notesL (l : List St) : List Rp := l.foldl (fun L x => noteL L x.a x.b x.t) []
theorem notes_snoc (l : List St) (x : St) : notesL (l ++ [x]) = noteL (notesL l) x.a x.b x.t := by unfold notesL; rw [List.foldl_append]; rfl
theorem notes_good (l : List St) : Good (notesL l) := by
  suffices h : ∀ (l : List St) (L : List Rp), Good L → Good (l.foldl (fun L x => noteL L x.a x.b x.t) L) from h l [] Good.nil
  intro l
  induction l with
  | nil => intro L h; exact h
  | cons x r ih => intro L h; exact ih _ (h.note _ _ _)
theorem notes_len (l : List St) : (notesL l).length ≤ l.length := by
  suffices h : ∀ (l : List St) (L : List Rp), (l.foldl (fun L x => noteL L x.a x.b x.t) L).length ≤ L.length + l.length by have := h l []; simpa [notesL] using this
  intro l
  induction l with
  | nil => intro L; simp
  | cons x r ih => intro L; have h1 := ih (noteL L x.a x.b x.t); have h2 := len_note_le L x.a x.b x.t; simp at h1 ⊢; omega

def St.ok (x : St) : Prop := noteE x.a x.b x.t = 0
/-- r is what came of the notes l: one of them, and none of the same two is later -/
def Came (l : List St) (r : Rp) : Prop := (∃ x ∈ l, x.ok ∧ r.is x.a x.b ∧ r.t = x.t) ∧ ∀ x ∈ l, x.ok → r.is x.a x.b → x.t ≤ r.t
theorem latest {a b : Int} : ∀ (l : List St), (∃ y ∈ l, y.ok ∧ (y.a = a ∧ y.b = b)) → ∃ z ∈ l, z.ok ∧ (z.a = a ∧ z.b = b) ∧ ∀ y ∈ l, y.ok → (y.a = a ∧ y.b = b) → y.t ≤ z.t
  | [], ⟨_, h, _⟩ => by cases h
  | u :: r, h => by
    by_cases hex : ∃ y ∈ r, y.ok ∧ (y.a = a ∧ y.b = b)
    · obtain ⟨z, hz, hzo, hzx, hzm⟩ := latest r hex
      by_cases hu : (u.ok ∧ (u.a = a ∧ u.b = b)) ∧ z.t < u.t
      · refine ⟨u, by simp, hu.1.1, hu.1.2, fun y hy ho hx => ?_⟩
        rcases List.mem_cons.1 hy with rfl | hy
        · exact Int.le_refl _
        · have := hzm y hy ho hx; omega
      · refine ⟨z, by simp [hz], hzo, hzx, fun y hy ho hx => ?_⟩
        rcases List.mem_cons.1 hy with rfl | hy
        · exact Int.not_lt.1 fun hlt => hu ⟨⟨ho, hx⟩, hlt⟩
        · exact hzm y hy ho hx
    · obtain ⟨y, hy, hyo, hyx⟩ := h
      rcases List.mem_cons.1 hy with e | hy'
      · subst e
        refine ⟨y, by simp, hyo, hyx, fun z hz ho hx => ?_⟩
        rcases List.mem_cons.1 hz with e | hz
        · subst e; exact Int.le_refl _
        · exact absurd ⟨z, hz, ho, hx⟩ hex
      · exact absurd ⟨y, hy', hyo, hyx⟩ hex
theorem mem_note {L : List Rp} (h : Good L) {a b t : Int} (he : noteE a b t = 0) {r : Rp} : r ∈ noteL L a b t ↔ (r ∈ L ∧ ¬ r.is a b) ∨ (r.is a b ∧ r.t = max (atL L a b) t) := by
  rw [noteL_ok he, mem_put h.1]
  have ht := (noteE_zero he).2.2.1
  cases hh : hasL L a b
  · rw [atL_no (hasL_no.1 hh)]
    simp only [Bool.false_eq_true, if_false]
    rw [show max 0 t = t by omega]
  · simp
theorem came_snoc (l : List St) (x : St) (hI : ∀ r, r ∈ notesL l ↔ Came l r) (r : Rp) : r ∈ notesL (l ++ [x]) ↔ Came (l ++ [x]) r := by
  rw [notes_snoc]
  have hg := notes_good l
  by_cases he : noteE x.a x.b x.t = 0
  · have ht := (noteE_zero he).2.2.1
    rw [mem_note hg he]
    by_cases hr : r.is x.a x.b
    · -- the two of this note
      have hmem : (r ∈ notesL l ∧ ¬ r.is x.a x.b) ∨ (r.is x.a x.b ∧ r.t = max (atL (notesL l) x.a x.b) x.t) ↔ r.t = max (atL (notesL l) x.a x.b) x.t := by
        constructor
        · rintro (⟨_, h⟩ | ⟨_, h⟩)
          · exact absurd hr h
          · exact h
        · exact fun h => .inr ⟨hr, h⟩
      rw [hmem]
      cases hh : hasL (notesL l) x.a x.b
      · -- nothing of them was there
        have hno := hasL_no.1 hh
        have hnone : ∀ y ∈ l, y.ok → ¬ (y.a = x.a ∧ y.b = x.b) := by
          intro y hy hyo hyx
          -- the latest of those is there
          obtain ⟨z, hz, hzo, hzx, hzm⟩ := latest l ⟨y, hy, hyo, hyx⟩
          have : (⟨z.a, z.b, z.t⟩ : Rp) ∈ notesL l := (hI _).2 ⟨⟨z, hz, hzo, ⟨rfl, rfl⟩, rfl⟩, fun y hy ho hx => hzm y hy ho ⟨hx.1.symm.trans hzx.1, hx.2.symm.trans hzx.2⟩⟩
          exact hno _ this ⟨hzx.1, hzx.2⟩
        rw [atL_no hno, show max 0 x.t = x.t by omega]
        constructor
        · intro h
          refine ⟨⟨x, by simp, he, hr, h⟩, fun y hy ho hy2 => ?_⟩
          rcases List.mem_append.1 hy with hy' | hy'
          · exact absurd ⟨hy2.1.symm.trans hr.1, hy2.2.symm.trans hr.2⟩ (hnone y hy' ho)
          · simp at hy'; subst hy'; omega
        · rintro ⟨⟨y, hy, ho, hy2, h⟩, _⟩
          rcases List.mem_append.1 hy with hy' | hy'
          · exact absurd ⟨hy2.1.symm.trans hr.1, hy2.2.symm.trans hr.2⟩ (hnone y hy' ho)
          · simp at hy'; subst hy'; exact h
      · obtain ⟨s, hs, hsk⟩ := hasL_iff.1 hh
        rw [atL_mem hg.1 hs hsk]
        obtain ⟨⟨y, hy, hyo, hyk, hyt⟩, hmax⟩ := (hI s).1 hs
        constructor
        · intro h
          refine ⟨?_, fun z hz ho hz2 => ?_⟩
          · by_cases hle : s.t ≤ x.t
            · exact ⟨x, by simp, he, hr, by omega⟩
            · exact ⟨y, by simp [hy], hyo, ⟨hr.1.trans (hsk.1.symm.trans hyk.1), hr.2.trans (hsk.2.symm.trans hyk.2)⟩, by omega⟩
          · rcases List.mem_append.1 hz with hz' | hz'
            · have := hmax z hz' ho ⟨hsk.1.trans (hr.1.symm.trans hz2.1), hsk.2.trans (hr.2.symm.trans hz2.2)⟩
              omega
            · simp at hz'; subst hz'; omega
        · rintro ⟨⟨z, hz, hzo, hzk, hzt⟩, hm⟩
          have h1 := hm x (by simp) he hr
          have h2 := hm y (by simp [hy]) hyo ⟨hr.1.trans (hsk.1.symm.trans hyk.1), hr.2.trans (hsk.2.symm.trans hyk.2)⟩
          rcases List.mem_append.1 hz with hz' | hz'
          · have := hmax z hz' hzo ⟨hsk.1.trans (hr.1.symm.trans hzk.1), hsk.2.trans (hr.2.symm.trans hzk.2)⟩
            omega
          · simp at hz'; subst hz'; omega
    · have hmem : (r ∈ notesL l ∧ ¬ r.is x.a x.b) ∨ (r.is x.a x.b ∧ r.t = max (atL (notesL l) x.a x.b) x.t) ↔ r ∈ notesL l := by
        constructor
        · rintro (⟨h, _⟩ | ⟨h, _⟩)
          · exact h
          · exact absurd h hr
        · exact fun h => .inl ⟨h, hr⟩
      rw [hmem, hI r]
      unfold Came
      constructor
      · rintro ⟨⟨y, hy, h⟩, hm⟩
        refine ⟨⟨y, by simp [hy], h⟩, fun z hz ho hz2 => ?_⟩
        rcases List.mem_append.1 hz with hz' | hz'
        · exact hm z hz' ho hz2
        · simp at hz'; subst hz'; exact absurd hz2 hr
      · rintro ⟨⟨y, hy, ho, hk, ht'⟩, hm⟩
        rcases List.mem_append.1 hy with hy' | hy'
        · exact ⟨⟨y, hy', ho, hk, ht'⟩, fun z hz => hm z (by simp [hz])⟩
        · simp at hy'; subst hy'; exact absurd hk hr
  · rw [noteL_no he, hI r]
    unfold Came
    constructor
    · rintro ⟨⟨y, hy, h⟩, hm⟩
      refine ⟨⟨y, by simp [hy], h⟩, fun z hz ho hz2 => ?_⟩
      rcases List.mem_append.1 hz with hz' | hz'
      · exact hm z hz' ho hz2
      · simp at hz'; subst hz'; exact absurd ho he
    · rintro ⟨⟨y, hy, ho, hk, ht'⟩, hm⟩
      rcases List.mem_append.1 hy with hy' | hy'
      · exact ⟨⟨y, hy', ho, hk, ht'⟩, fun z hz => hm z (by simp [hz])⟩
      · simp at hy'; subst hy'; exact absurd ho he
theorem mem_notes (l : List St) : ∀ r, r ∈ notesL l ↔ Came l r := by
  suffices h : ∀ n (l : List St), l.length = n → ∀ r, r ∈ notesL l ↔ Came l r from h _ l rfl
  intro n
  induction n with
  | zero =>
    intro l hl r
    obtain rfl := List.eq_nil_of_length_eq_zero hl
    constructor
    · intro h; cases h
    · rintro ⟨⟨y, hy, _⟩, _⟩; cases hy
  | succ n ih =>
    intro l hl r
    have hne : l ≠ [] := fun e => by rw [e] at hl; cases hl
    have e := List.dropLast_concat_getLast hne
    rw [← e]
    exact came_snoc _ _ (ih _ (by rw [List.length_dropLast, hl]; rfl)) r
/-- in whatever order -/
theorem notes_perm {l m : List St} (h : ∀ x, x ∈ l ↔ x ∈ m) : (notesL l).Perm (notesL m) := by
  refine perm_of_mem _ _ (notes_good l).1.nodup (notes_good m).1.nodup fun r => ?_
  rw [mem_notes, mem_notes]
  unfold Came
  constructor
  · rintro ⟨⟨y, hy, h1⟩, h2⟩; exact ⟨⟨y, (h y).1 hy, h1⟩, fun z hz => h2 z ((h z).2 hz)⟩
  · rintro ⟨⟨y, hy, h1⟩, h2⟩; exact ⟨⟨y, (h y).2 hy, h1⟩, fun z hz => h2 z ((h z).1 hz)⟩
end Go.Proofs.Ytcacjppdcmghjaa
