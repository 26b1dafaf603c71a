/-
  WHAT IS PROVED: plain facts on lists of members that rise by their ids: where one stands, put, taken away, set; on lists of bans; on who is told next. No condition.
-/
import Derived.Test.YtfchhlibjhblmaaBase
namespace Go.Proofs.Ytfchhlibjhblmaa

/-- a member -/
structure Mb where
  id : Int
  ma : Int
  co : Int
  of_ : Int
  fa : Int
deriving DecidableEq
/-- a ban -/
structure Bn where
  id : Int
  till : Int
deriving DecidableEq
def isIdB (x : Int) : Bool := decide (1 ≤ x ∧ x ≤ 4294967296)
def isTimeB (x : Int) : Bool := decide (0 ≤ x ∧ x ≤ 1099511627776)
theorem in_id {x : Int} (h : isIdB x = true) : 1 ≤ x ∧ x ≤ 4294967296 := by unfold isIdB at h; simpa using h
theorem out_id {x : Int} (h : isIdB x = false) : x < 1 ∨ 4294967296 < x := by unfold isIdB at h; simp at h; omega
theorem in_time {x : Int} (h : isTimeB x = true) : 0 ≤ x ∧ x ≤ 1099511627776 := by unfold isTimeB at h; simpa using h
theorem out_time {x : Int} (h : isTimeB x = false) : x < 0 ∨ 1099511627776 < x := by unfold isTimeB at h; simp at h; omega
theorem id_in {x : Int} (h : 1 ≤ x ∧ x ≤ 4294967296) : isIdB x = true := by unfold isIdB; simpa using h
theorem time_in {x : Int} (h : 0 ≤ x ∧ x ≤ 1099511627776) : isTimeB x = true := by unfold isTimeB; simpa using h
def inInt (z : Int) : Prop := -9223372036854775808 ≤ z ∧ z ≤ 9223372036854775807
theorem in0 : inInt 0 := by unfold inInt; omega
theorem inN : inInt (-1) := by unfold inInt; omega
def okM (p : Mb) : Prop := (1 ≤ p.id ∧ p.id ≤ 4294967296) ∧ inInt p.ma ∧ inInt p.co ∧ inInt p.of_ ∧ inInt p.fa
def Up (L : List Mb) : Prop := L.Pairwise fun p q => p.id < q.id

def hasL (L : List Mb) (x : Int) : Bool := L.any fun p => decide (p.id = x)
theorem hasL_iff {L : List Mb} {x : Int} : hasL L x = true ↔ ∃ p ∈ L, p.id = x := by unfold hasL; simp
theorem hasL_no {L : List Mb} {x : Int} : hasL L x = false ↔ ∀ p ∈ L, ¬ p.id = x := by unfold hasL; simp
def getL : List Mb → Int → Mb
  | [], _ => ⟨0, 0, 0, 0, 0⟩
  | p :: l, x => if p.id = x then p else getL l x
def delL (L : List Mb) (x : Int) : List Mb := L.filter fun p => !decide (p.id = x)
def insL : List Mb → Mb → List Mb
  | [], q => [q]
  | p :: l, q => if p.id < q.id then p :: insL l q else if p.id = q.id then q :: l else q :: p :: l
/-- how many stand ahead of an id -/
def posL : List Mb → Int → Nat
  | [], _ => 0
  | p :: l, x => if p.id < x then posL l x + 1 else 0

theorem Up.nodup {L : List Mb} (h : Up L) : L.Nodup := List.Pairwise.imp (fun {a b} hn e => by subst e; exact absurd hn (by omega)) h
theorem Up.eq {L : List Mb} (h : Up L) {p q : Mb} (hp : p ∈ L) (hq : q ∈ L) (e : p.id = q.id) : p = q := by
  induction L with
  | nil => cases hp
  | cons x l ih =>
    obtain ⟨hx, hl⟩ := List.pairwise_cons.1 h
    rcases List.mem_cons.1 hp with e1 | hp'
    · rcases List.mem_cons.1 hq with f | hq'
      · rw [e1, f]
      · subst e1; have := hx q hq'; omega
    · rcases List.mem_cons.1 hq with f | hq'
      · subst f; have := hx p hp'; omega
      · exact ih hl hp' hq'
theorem Up.filter {L : List Mb} (h : Up L) (f : Mb → Bool) : Up (L.filter f) := List.Pairwise.filter f h

/-! ### where one stands -/
theorem pos_le : ∀ (L : List Mb) (x : Int), posL L x ≤ L.length
  | [], _ => Nat.le_refl _
  | p :: l, x => by
    show (if p.id < x then _ else _) ≤ _
    have := pos_le l x
    split <;> simp <;> omega
theorem pos_lt : ∀ {L : List Mb} {x : Int} {k : Nat} {p : Mb}, L[k]? = some p → k < posL L x → p.id < x
  | [], _, _, _, h, _ => by simp at h
  | q :: l, x, 0, p, h, hk => by
    simp at h; subst h
    unfold posL at hk
    split at hk
    · assumption
    · omega
  | q :: l, x, k + 1, p, h, hk => by
    unfold posL at hk
    split at hk
    · exact pos_lt (L := l) (k := k) (by simpa using h) (by omega)
    · omega
theorem pos_at : ∀ {L : List Mb} {x : Int} {p : Mb}, L[posL L x]? = some p → x ≤ p.id
  | [], _, _, h => by simp at h
  | q :: l, x, p, h => by
    unfold posL at h
    split at h
    · exact pos_at (L := l) (by simpa using h)
    · simp at h; subst h; omega
/-- a walk past those ahead comes to the place -/
theorem pos_stop : ∀ {L : List Mb} {x : Int} {k : Nat}, k ≤ L.length → (∀ j p, j < k → L[j]? = some p → p.id < x) → (∀ p, L[k]? = some p → x ≤ p.id) → posL L x = k
  | [], _, k, h, _, _ => by simp at h; subst h; rfl
  | q :: l, x, 0, _, _, h2 => by
    have := h2 q rfl
    unfold posL
    rw [if_neg (by omega)]
  | q :: l, x, k + 1, h, h1, h2 => by
    have := h1 0 q (by omega) rfl
    unfold posL
    rw [if_pos this, pos_stop (k := k) (by simpa using h) (fun j p hj hp => h1 (j + 1) p (by omega) (by simpa using hp)) (fun p hp => h2 p (by simpa using hp))]
theorem has_at : ∀ {L : List Mb}, Up L → ∀ {x : Int}, hasL L x = true → ∃ p, L[posL L x]? = some p ∧ p.id = x
  | [], _, x, h => by simp [hasL] at h
  | q :: l, hu, x, h => by
    obtain ⟨hq, hl⟩ := List.pairwise_cons.1 hu
    unfold posL
    split
    · rename_i hlt
      have : hasL l x = true := by
        obtain ⟨p, hp, e⟩ := hasL_iff.1 h
        rcases List.mem_cons.1 hp with f | hp'
        · subst f; omega
        · exact hasL_iff.2 ⟨p, hp', e⟩
      obtain ⟨p, hp, e⟩ := has_at hl this
      exact ⟨p, by simpa using hp, e⟩
    · rename_i hge
      obtain ⟨p, hp, e⟩ := hasL_iff.1 h
      rcases List.mem_cons.1 hp with f | hp'
      · subst f; exact ⟨p, rfl, e⟩
      · have := hq p hp'; omega
theorem at_has {L : List Mb} {x : Int} {p : Mb} (h : L[posL L x]? = some p) (e : p.id = x) : hasL L x = true := hasL_iff.2 ⟨p, List.mem_of_getElem? h, e⟩
theorem pos_has {L : List Mb} (hu : Up L) {x : Int} (h : hasL L x = true) : posL L x < L.length := by
  obtain ⟨p, hp, _⟩ := has_at hu h
  exact (List.getElem?_eq_some_iff.1 hp).1
theorem not_has_at {L : List Mb} {x : Int} {p : Mb} (hn : hasL L x = false) (h : L[posL L x]? = some p) : x < p.id := by
  have h1 := pos_at h
  have h2 := hasL_no.1 hn p (List.mem_of_getElem? h)
  omega

theorem get_mem : ∀ {L : List Mb} {x : Int}, hasL L x = true → getL L x ∈ L ∧ (getL L x).id = x
  | [], _, h => by simp [hasL] at h
  | q :: l, x, h => by
    unfold getL
    split
    · rename_i e; exact ⟨by simp, e⟩
    · rename_i e
      have : hasL l x = true := by
        obtain ⟨p, hp, e2⟩ := hasL_iff.1 h
        rcases List.mem_cons.1 hp with f | hp'
        · subst f; exact absurd e2 e
        · exact hasL_iff.2 ⟨p, hp', e2⟩
      obtain ⟨h1, h2⟩ := get_mem this
      exact ⟨List.mem_cons_of_mem _ h1, h2⟩
theorem get_of {L : List Mb} (hu : Up L) {p : Mb} (hp : p ∈ L) : getL L p.id = p := by
  obtain ⟨h1, h2⟩ := get_mem (hasL_iff.2 ⟨p, hp, rfl⟩ : hasL L p.id = true)
  exact hu.eq h1 hp h2
theorem get_no : ∀ {L : List Mb} {x : Int}, hasL L x = false → getL L x = ⟨0, 0, 0, 0, 0⟩
  | [], _, _ => rfl
  | q :: l, x, h => by
    have h' := hasL_no.1 h
    unfold getL
    rw [if_neg (h' q (by simp)), get_no (hasL_no.2 fun p hp => h' p (by simp [hp]))]
theorem get_at {L : List Mb} (hu : Up L) {x : Int} {p : Mb} (h : L[posL L x]? = some p) (e : p.id = x) : getL L x = p := by
  rw [← e]; exact get_of hu (List.mem_of_getElem? h)

/-! ### one is put in -/
theorem ins_new : ∀ {L : List Mb} {q : Mb}, hasL L q.id = false → insL L q = L.take (posL L q.id) ++ q :: L.drop (posL L q.id)
  | [], _, _ => rfl
  | p :: l, q, h => by
    have h' := hasL_no.1 h
    have hne := h' p (by simp)
    unfold insL posL
    by_cases hlt : p.id < q.id
    · rw [if_pos hlt, if_pos hlt, ins_new (hasL_no.2 fun r hr => h' r (by simp [hr]))]
      rfl
    · rw [if_neg hlt, if_neg hlt, if_neg hne]
      rfl
theorem ins_old : ∀ {L : List Mb}, Up L → ∀ {q : Mb}, hasL L q.id = true → insL L q = L.set (posL L q.id) q
  | [], _, _, h => by simp [hasL] at h
  | p :: l, hu, q, h => by
    obtain ⟨hp, hl⟩ := List.pairwise_cons.1 hu
    unfold insL posL
    by_cases hlt : p.id < q.id
    · have : hasL l q.id = true := by
        obtain ⟨r, hr, e⟩ := hasL_iff.1 h
        rcases List.mem_cons.1 hr with f | hr'
        · subst f; omega
        · exact hasL_iff.2 ⟨r, hr', e⟩
      rw [if_pos hlt, if_pos hlt, ins_old hl this]
      rfl
    · have hpe : p.id = q.id := by
        obtain ⟨r, hr, e⟩ := hasL_iff.1 h
        rcases List.mem_cons.1 hr with f | hr'
        · subst f; exact e
        · have := hp r hr'; omega
      rw [if_neg hlt, if_neg hlt, if_pos hpe]
      rfl
theorem mem_ins : ∀ {L : List Mb}, Up L → ∀ {q r : Mb}, r ∈ insL L q ↔ (r ∈ L ∧ r.id ≠ q.id) ∨ r = q
  | [], _, q, r => by simp [insL]
  | p :: l, hu, q, r => by
    obtain ⟨hp, hl⟩ := List.pairwise_cons.1 hu
    unfold insL
    by_cases hlt : p.id < q.id
    · rw [if_pos hlt, List.mem_cons, mem_ins hl, List.mem_cons]
      constructor
      · rintro (rfl | ⟨h1, h2⟩ | rfl)
        · exact .inl ⟨.inl rfl, by omega⟩
        · exact .inl ⟨.inr h1, h2⟩
        · exact .inr rfl
      · rintro (⟨rfl | h1, h2⟩ | rfl)
        · exact .inl rfl
        · exact .inr (.inl ⟨h1, h2⟩)
        · exact .inr (.inr rfl)
    · by_cases he : p.id = q.id
      · rw [if_neg hlt, if_pos he, List.mem_cons, List.mem_cons]
        constructor
        · rintro (rfl | h1)
          · exact .inr rfl
          · have := hp r h1; exact .inl ⟨.inr h1, by omega⟩
        · rintro (⟨rfl | h1, h2⟩ | rfl)
          · exact absurd he h2
          · exact .inr h1
          · exact .inl rfl
      · rw [if_neg hlt, if_neg he, List.mem_cons]
        constructor
        · rintro (rfl | h1)
          · exact .inr rfl
          · refine .inl ⟨h1, ?_⟩
            rcases List.mem_cons.1 h1 with f | h'
            · subst f; exact he
            · have := hp r h'; omega
        · rintro (⟨h1, h2⟩ | rfl)
          · exact .inr h1
          · exact .inl rfl
theorem up_ins : ∀ {L : List Mb}, Up L → ∀ (q : Mb), Up (insL L q)
  | [], _, q => List.pairwise_cons.2 ⟨fun _ h => (by cases h), List.Pairwise.nil⟩
  | p :: l, hu, q => by
    obtain ⟨hp, hl⟩ := List.pairwise_cons.1 hu
    unfold insL
    by_cases hlt : p.id < q.id
    · rw [if_pos hlt]
      refine List.pairwise_cons.2 ⟨fun r hr => ?_, up_ins hl q⟩
      rcases (mem_ins hl).1 hr with ⟨h, _⟩ | rfl
      · exact hp r h
      · exact hlt
    · by_cases he : p.id = q.id
      · rw [if_neg hlt, if_pos he]
        exact List.pairwise_cons.2 ⟨fun r hr => by have := hp r hr; omega, hl⟩
      · rw [if_neg hlt, if_neg he]
        refine List.pairwise_cons.2 ⟨fun r hr => ?_, hu⟩
        rcases List.mem_cons.1 hr with f | h'
        · subst f; omega
        · have := hp r h'; omega
theorem len_ins : ∀ {L : List Mb}, Up L → ∀ {q : Mb}, (insL L q).length = if hasL L q.id then L.length else L.length + 1 := by
  intro L hu q
  cases h : hasL L q.id
  · rw [ins_new h]
    have := pos_le L q.id
    simp
    omega
  · rw [ins_old hu h]; simp
theorem has_ins {L : List Mb} (hu : Up L) {q : Mb} {x : Int} : hasL (insL L q) x = (hasL L x || decide (q.id = x)) := by
  rw [Bool.eq_iff_iff, hasL_iff, Bool.or_eq_true, hasL_iff, decide_eq_true_eq]
  constructor
  · rintro ⟨p, hp, e⟩
    rcases (mem_ins hu).1 hp with ⟨h, _⟩ | rfl
    · exact .inl ⟨p, h, e⟩
    · exact .inr e
  · rintro (⟨p, hp, e⟩ | e)
    · by_cases hq : p.id = q.id
      · exact ⟨q, (mem_ins hu).2 (.inr rfl), by omega⟩
      · exact ⟨p, (mem_ins hu).2 (.inl ⟨hp, hq⟩), e⟩
    · exact ⟨q, (mem_ins hu).2 (.inr rfl), e⟩
theorem get_ins {L : List Mb} (hu : Up L) (q : Mb) : getL (insL L q) q.id = q := get_of (up_ins hu q) ((mem_ins hu).2 (.inr rfl))

/-! ### one is taken away -/
theorem mem_del {L : List Mb} {x : Int} {r : Mb} : r ∈ delL L x ↔ r ∈ L ∧ r.id ≠ x := by unfold delL; simp
theorem del_none {L : List Mb} {x : Int} (h : hasL L x = false) : delL L x = L := by
  unfold delL
  rw [List.filter_eq_self]
  intro p hp
  simp [hasL_no.1 h p hp]
theorem del_at : ∀ {L : List Mb}, Up L → ∀ {x : Int}, hasL L x = true → delL L x = L.take (posL L x) ++ L.drop (posL L x + 1)
  | [], _, x, h => by simp [hasL] at h
  | p :: l, hu, x, h => by
    obtain ⟨hp, hl⟩ := List.pairwise_cons.1 hu
    by_cases hlt : p.id < x
    · have : hasL l x = true := by
        obtain ⟨r, hr, e⟩ := hasL_iff.1 h
        rcases List.mem_cons.1 hr with f | hr'
        · subst f; omega
        · exact hasL_iff.2 ⟨r, hr', e⟩
      have h1 : delL (p :: l) x = p :: delL l x := by unfold delL; simp [show ¬ p.id = x by omega]
      have h2 : posL (p :: l) x = posL l x + 1 := by show (if p.id < x then _ else _) = _; rw [if_pos hlt]
      rw [h1, h2, del_at hl this]
      rfl
    · have hpe : p.id = x := by
        obtain ⟨r, hr, e⟩ := hasL_iff.1 h
        rcases List.mem_cons.1 hr with f | hr'
        · subst f; exact e
        · have := hp r hr'; omega
      have h2 : posL (p :: l) x = 0 := by show (if p.id < x then _ else _) = _; rw [if_neg hlt]
      have h3 : delL l x = l := del_none (hasL_no.2 fun r hr => by have := hp r hr; omega)
      have h1 : delL (p :: l) x = delL l x := by unfold delL; simp [hpe]
      rw [h1, h2, h3]
      rfl
theorem has_del {L : List Mb} {x y : Int} : hasL (delL L x) y = (hasL L y && !decide (y = x)) := by
  rw [Bool.eq_iff_iff, hasL_iff, Bool.and_eq_true, hasL_iff]
  simp only [Bool.not_eq_true', decide_eq_false_iff_not]
  constructor
  · rintro ⟨p, hp, e⟩
    obtain ⟨h1, h2⟩ := mem_del.1 hp
    exact ⟨⟨p, h1, e⟩, by omega⟩
  · rintro ⟨⟨p, hp, e⟩, h⟩
    exact ⟨p, mem_del.2 ⟨hp, by omega⟩, e⟩
theorem len_del {L : List Mb} (hu : Up L) {x : Int} : (delL L x).length + (if hasL L x then 1 else 0) = L.length := by
  cases h : hasL L x
  · rw [del_none h]; simp
  · rw [del_at hu h]
    have := pos_has hu h
    simp
    omega


/-! ### bans -/
def banB (B : List Bn) (x t : Int) : Bool := B.any fun b => decide (b.id = x ∧ t ≤ b.till)
def hasB (B : List Bn) (x : Int) : Bool := B.any fun b => decide (b.id = x)
def unB (B : List Bn) (x : Int) : List Bn := B.filter fun b => !decide (b.id = x)
def putB (B : List Bn) (q : Bn) : List Bn := unB B q.id ++ [q]
def tillB : List Bn → Int → Int
  | [], _ => 0
  | b :: l, x => if b.id = x then b.till else tillB l x
def UpB (B : List Bn) : Prop := B.Pairwise fun p q => p.id ≠ q.id
theorem hasB_iff {B : List Bn} {x : Int} : hasB B x = true ↔ ∃ p ∈ B, p.id = x := by unfold hasB; simp
theorem hasB_no {B : List Bn} {x : Int} : hasB B x = false ↔ ∀ p ∈ B, ¬ p.id = x := by unfold hasB; simp
theorem banB_iff {B : List Bn} {x t : Int} : banB B x t = true ↔ ∃ p ∈ B, p.id = x ∧ t ≤ p.till := by unfold banB; simp
theorem banB_no {B : List Bn} {x t : Int} : banB B x t = false ↔ ∀ p ∈ B, ¬ (p.id = x ∧ t ≤ p.till) := by
  cases h : banB B x t
  · simp only [true_iff]
    intro p hp hc
    have := banB_iff.2 ⟨p, hp, hc⟩
    rw [h] at this; cases this
  · simp only [Bool.true_eq_false, false_iff]
    obtain ⟨p, hp, hc⟩ := banB_iff.1 h
    exact fun hn => hn p hp hc
theorem UpB.eq {B : List Bn} (h : UpB B) {p q : Bn} (hp : p ∈ B) (hq : q ∈ B) (e : p.id = q.id) : p = q := by
  induction B with
  | nil => cases hp
  | cons x l ih =>
    obtain ⟨hx, hl⟩ := List.pairwise_cons.1 h
    rcases List.mem_cons.1 hp with e1 | hp'
    · rcases List.mem_cons.1 hq with f | hq'
      · rw [e1, f]
      · subst e1; exact absurd e (hx q hq')
    · rcases List.mem_cons.1 hq with f | hq'
      · subst f; exact absurd e.symm (hx p hp')
      · exact ih hl hp' hq'
theorem mem_un {B : List Bn} {x : Int} {r : Bn} : r ∈ unB B x ↔ r ∈ B ∧ r.id ≠ x := by unfold unB; simp
theorem UpB.un {B : List Bn} (h : UpB B) (x : Int) : UpB (unB B x) := List.Pairwise.filter _ h
theorem mem_putB {B : List Bn} {q r : Bn} : r ∈ putB B q ↔ (r ∈ B ∧ r.id ≠ q.id) ∨ r = q := by unfold putB; rw [List.mem_append, mem_un]; simp
theorem UpB.put {B : List Bn} (h : UpB B) (q : Bn) : UpB (putB B q) := by
  unfold putB UpB
  rw [List.pairwise_append]
  refine ⟨h.un _, by simp, fun a ha b hb => ?_⟩
  simp at hb
  subst hb
  exact (mem_un.1 ha).2
theorem has_un {B : List Bn} {x y : Int} : hasB (unB B x) y = (hasB B y && !decide (y = x)) := by
  rw [Bool.eq_iff_iff, hasB_iff, Bool.and_eq_true, hasB_iff]
  simp only [Bool.not_eq_true', decide_eq_false_iff_not]
  constructor
  · rintro ⟨p, hp, e⟩
    obtain ⟨h1, h2⟩ := mem_un.1 hp
    exact ⟨⟨p, h1, e⟩, by omega⟩
  · rintro ⟨⟨p, hp, e⟩, h⟩
    exact ⟨p, mem_un.2 ⟨hp, by omega⟩, e⟩
theorem has_putB {B : List Bn} {q : Bn} {y : Int} : hasB (putB B q) y = (hasB B y || decide (q.id = y)) := by
  rw [Bool.eq_iff_iff, hasB_iff, Bool.or_eq_true, hasB_iff, decide_eq_true_eq]
  constructor
  · rintro ⟨p, hp, e⟩
    rcases mem_putB.1 hp with ⟨h, _⟩ | rfl
    · exact .inl ⟨p, h, e⟩
    · exact .inr e
  · rintro (⟨p, hp, e⟩ | e)
    · by_cases hq : p.id = q.id
      · exact ⟨q, mem_putB.2 (.inr rfl), by omega⟩
      · exact ⟨p, mem_putB.2 (.inl ⟨hp, hq⟩), e⟩
    · exact ⟨q, mem_putB.2 (.inr rfl), e⟩
theorem un_none {B : List Bn} {x : Int} (h : hasB B x = false) : unB B x = B := by
  unfold unB
  rw [List.filter_eq_self]
  intro p hp
  simp [hasB_no.1 h p hp]
theorem len_un : ∀ {B : List Bn}, UpB B → ∀ {x : Int}, (unB B x).length + (if hasB B x then 1 else 0) = B.length
  | [], _, x => rfl
  | b :: l, hu, x => by
    obtain ⟨hx, hl⟩ := List.pairwise_cons.1 hu
    have ih := len_un hl (x := x)
    by_cases e : b.id = x
    · have e2 : hasB l x = false := hasB_no.2 fun p hp f => hx p hp (by omega)
      have e1 : hasB (b :: l) x = true := hasB_iff.2 ⟨b, by simp, e⟩
      have e3 : unB (b :: l) x = unB l x := by unfold unB; simp [e]
      rw [e1, e3, un_none e2]
      simp
    · have e2 : hasB (b :: l) x = hasB l x := by unfold hasB; simp [e]
      have e3 : unB (b :: l) x = b :: unB l x := by unfold unB; simp [e]
      rw [e2, e3, List.length_cons, List.length_cons]
      omega
theorem len_putB {B : List Bn} (hu : UpB B) {q : Bn} : (putB B q).length = if hasB B q.id then B.length else B.length + 1 := by
  have := len_un hu (x := q.id)
  unfold putB
  rw [List.length_append]
  cases h : hasB B q.id <;> rw [h] at this <;> simp at this ⊢ <;> omega
theorem till_mem : ∀ {B : List Bn} {x : Int}, hasB B x = true → ∃ p ∈ B, p.id = x ∧ tillB B x = p.till
  | [], _, h => by simp [hasB] at h
  | b :: l, x, h => by
    unfold tillB
    split
    · rename_i e; exact ⟨b, by simp, e, rfl⟩
    · rename_i e
      have : hasB l x = true := by
        obtain ⟨p, hp, e2⟩ := hasB_iff.1 h
        rcases List.mem_cons.1 hp with f | hp'
        · subst f; exact absurd e2 e
        · exact hasB_iff.2 ⟨p, hp', e2⟩
      obtain ⟨p, h1, h2, h3⟩ := till_mem this
      exact ⟨p, List.mem_cons_of_mem _ h1, h2, h3⟩
theorem till_no : ∀ {B : List Bn} {x : Int}, hasB B x = false → tillB B x = 0
  | [], _, _ => rfl
  | b :: l, x, h => by
    have h' := hasB_no.1 h
    unfold tillB
    rw [if_neg (h' b (by simp)), till_no (hasB_no.2 fun p hp => h' p (by simp [hp]))]
theorem ban_eq {B : List Bn} (hu : UpB B) (x t : Int) : banB B x t = (hasB B x && decide (t ≤ tillB B x)) := by
  cases h : hasB B x
  · rw [Bool.false_and, banB_no]
    exact fun p hp hc => hasB_no.1 h p hp hc.1
  · obtain ⟨p, h1, h2, h3⟩ := till_mem h
    rw [Bool.true_and, h3, Bool.eq_iff_iff, banB_iff, decide_eq_true_eq]
    constructor
    · rintro ⟨q, hq, e, ht⟩
      rw [hu.eq h1 hq (by omega)]; exact ht
    · exact fun ht => ⟨p, h1, h2, ht⟩
theorem ban_un {B : List Bn} {x t : Int} : banB (unB B x) x t = false := banB_no.2 fun _ hp hc => (mem_un.1 hp).2 hc.1
theorem ban_put {B : List Bn} {q : Bn} {t : Int} : banB (putB B q) q.id t = decide (t ≤ q.till) := by
  rw [Bool.eq_iff_iff, banB_iff, decide_eq_true_eq]
  constructor
  · rintro ⟨p, hp, e, ht⟩
    rcases mem_putB.1 hp with ⟨_, h⟩ | rfl
    · exact absurd e h
    · exact ht
  · exact fun ht => ⟨q, mem_putB.2 (.inr rfl), rfl, ht⟩

/-! ### a roster, and its calls -/
structure Ro where
  s : Int
  L : List Mb
  B : List Bn
  c : Nat
structure Good (R : Ro) : Prop where
  up : Up R.L
  ok : ∀ p ∈ R.L, okM p
  len : R.L.length ≤ 15
  upB : UpB R.B
  okB : ∀ p ∈ R.B, (1 ≤ p.id ∧ p.id ≤ 4294967296) ∧ 0 ≤ p.till ∧ p.till ≤ 1099511687776
  fit : inInt R.s
theorem Good.nil {s : Int} (h : inInt s) : Good ⟨s, [], [], 0⟩ := ⟨List.Pairwise.nil, fun _ h => (by cases h), by simp, List.Pairwise.nil, fun _ h => (by cases h), h⟩
/-- what check answers -/
def chkE (s x t : Int) : Int := if isIdB x = true ∧ isTimeB t = true then (if x = s then 33 else 0) else 10
def addE (R : Ro) (x t : Int) : Int :=
  if chkE R.s x t = 0 then (if hasL R.L x = true then 32 else if banB R.B x t = true then 34 else if R.L.length = 15 then 31 else 0) else chkE R.s x t
def addR (R : Ro) (x t : Int) : Ro := if addE R x t = 0 then ⟨R.s, insL R.L ⟨x, 0, 0, 0, -1⟩, unB R.B x, R.c⟩ else R
def forE (R : Ro) (x t : Int) : Int := if chkE R.s x t = 0 then (if hasL R.L x = true then 0 else 30) else chkE R.s x t
def forR (R : Ro) (x t : Int) : Ro := if forE R x t = 0 then ⟨R.s, delL R.L x, putB R.B ⟨x, t + 60000⟩, R.c⟩ else R
def rightB (m : Mb) : Bool :=
  (decide (m.ma = 0) || (isIdB m.ma && !decide (m.ma = m.id))) && decide (0 ≤ m.co ∧ m.co ≤ 281474976710656) && decide (0 ≤ m.of_ ∧ m.of_ ≤ 281474976710656) && (decide (m.fa = -1) || isTimeB m.fa)
def setE (R : Ro) (m : Mb) : Int := if hasL R.L m.id = true then (if rightB m = true then 0 else 10) else 30
def setR (R : Ro) (m : Mb) : Ro := if setE R m = 0 then ⟨R.s, insL R.L m, R.B, R.c⟩ else R
/-- the ids of all but one -/
def butL (L : List Mb) (x : Int) : List Int := (L.filter fun p => !decide (p.id = x)).map Mb.id
def numN (l : List Int) (n : Int) : Nat := (min n (l.length : Int)).toNat
def pickL (l : List Int) (c k : Nat) : List Int := (List.range k).map fun i => l.getD ((c + i) % l.length) 0
def nextL (R : Ro) (n x : Int) : List Int := pickL (butL R.L x) R.c (numN (butL R.L x) n)
def nextR (R : Ro) (n x : Int) : Ro := ⟨R.s, R.L, R.B, R.c + numN (butL R.L x) n⟩

theorem chk_cases (s x t : Int) : (chkE s x t = 0 ∧ isIdB x = true ∧ isTimeB t = true ∧ x ≠ s) ∨ (chkE s x t = 10 ∧ (isIdB x = false ∨ isTimeB t = false)) ∨ (chkE s x t = 33 ∧ isIdB x = true ∧ isTimeB t = true ∧ x = s) := by
  unfold chkE
  by_cases h : isIdB x = true ∧ isTimeB t = true
  · rw [if_pos h]
    by_cases e : x = s
    · rw [if_pos e]; exact .inr (.inr ⟨rfl, h.1, h.2, e⟩)
    · rw [if_neg e]; exact .inl ⟨rfl, h.1, h.2, e⟩
  · rw [if_neg h]
    refine .inr (.inl ⟨rfl, ?_⟩)
    cases h1 : isIdB x
    · exact .inl rfl
    · exact .inr (by simpa using fun h2 => h ⟨h1, h2⟩)
theorem addE_zero {R : Ro} {x t : Int} (h : addE R x t = 0) : chkE R.s x t = 0 ∧ hasL R.L x = false ∧ banB R.B x t = false ∧ R.L.length ≠ 15 := by
  unfold addE at h
  split at h
  · rename_i hc
    split at h
    · cases h
    · split at h
      · cases h
      · split at h
        · cases h
        · rename_i h1 h2 h3
          exact ⟨hc, by simpa using h1, by simpa using h2, h3⟩
  · rename_i hc; exact absurd h hc
theorem forE_zero {R : Ro} {x t : Int} (h : forE R x t = 0) : chkE R.s x t = 0 ∧ hasL R.L x = true := by
  unfold forE at h
  split at h
  · rename_i hc
    split at h
    · rename_i h1; exact ⟨hc, h1⟩
    · cases h
  · rename_i hc; exact absurd h hc
theorem chk_zero {s x t : Int} (h : chkE s x t = 0) : isIdB x = true ∧ isTimeB t = true ∧ x ≠ s := by
  rcases chk_cases s x t with ⟨_, h1⟩ | ⟨h1, _⟩ | ⟨h1, _⟩
  · exact h1
  · rw [h1] at h; cases h
  · rw [h1] at h; cases h
theorem setE_zero {R : Ro} {m : Mb} (h : setE R m = 0) : hasL R.L m.id = true ∧ rightB m = true := by
  unfold setE at h
  split at h
  · rename_i h1
    split at h
    · rename_i h2; exact ⟨h1, h2⟩
    · cases h
  · cases h
theorem Good.add {R : Ro} (h : Good R) (x t : Int) : Good (addR R x t) := by
  unfold addR
  split
  · rename_i he
    obtain ⟨h1, h2, h3, h4⟩ := addE_zero he
    obtain ⟨i1, i2, i3⟩ := chk_zero h1
    have hx := in_id i1
    refine ⟨up_ins h.up _, fun p hp => ?_, ?_, h.upB.un _, fun p hp => h.okB p (mem_un.1 hp).1, h.fit⟩
    · rcases (mem_ins h.up).1 hp with ⟨hp', _⟩ | rfl
      · exact h.ok p hp'
      · exact ⟨hx, in0, in0, in0, inN⟩
    · show (insL R.L _).length ≤ 15
      rw [len_ins h.up]
      have := h.len
      show (if hasL R.L x = true then _ else _) ≤ 15
      rw [h2]
      simp
      omega
  · exact h
theorem Good.forget {R : Ro} (h : Good R) (x t : Int) : Good (forR R x t) := by
  unfold forR
  split
  · rename_i he
    obtain ⟨h1, h2⟩ := forE_zero he
    obtain ⟨i1, i2, i3⟩ := chk_zero h1
    have hx := in_id i1
    have ht := in_time i2
    refine ⟨h.up.filter _, fun p hp => h.ok p (mem_del.1 hp).1, ?_, h.upB.put _, fun p hp => ?_, h.fit⟩
    · have := len_del h.up (x := x)
      have := h.len
      show (delL R.L x).length ≤ 15
      omega
    · rcases mem_putB.1 hp with ⟨hp', _⟩ | rfl
      · exact h.okB p hp'
      · exact ⟨hx, by simp only; omega, by simp only; omega⟩
  · exact h
theorem right_in {m : Mb} (h : rightB m = true) : inInt m.ma ∧ inInt m.co ∧ inInt m.of_ ∧ inInt m.fa := by
  unfold rightB at h
  simp only [Bool.and_eq_true, Bool.or_eq_true, decide_eq_true_eq] at h
  obtain ⟨⟨⟨h1, h2⟩, h3⟩, h4⟩ := h
  refine ⟨?_, by unfold inInt; omega, by unfold inInt; omega, ?_⟩
  · rcases h1 with h1 | ⟨h1, _⟩
    · unfold inInt; omega
    · have := in_id h1; unfold inInt; omega
  · rcases h4 with h4 | h4
    · unfold inInt; omega
    · have := in_time h4; unfold inInt; omega
theorem Good.set {R : Ro} (h : Good R) (m : Mb) : Good (setR R m) := by
  unfold setR
  split
  · rename_i he
    obtain ⟨h1, h2⟩ := setE_zero he
    obtain ⟨i1, i2, i3, i4⟩ := right_in h2
    refine ⟨up_ins h.up _, fun p hp => ?_, ?_, h.upB, h.okB, h.fit⟩
    · rcases (mem_ins h.up).1 hp with ⟨hp', _⟩ | rfl
      · exact h.ok p hp'
      · obtain ⟨q, hq, e⟩ := hasL_iff.1 h1
        have := h.ok q hq
        exact ⟨by rw [← e]; exact this.1, i1, i2, i3, i4⟩
    · show (insL R.L m).length ≤ 15
      rw [len_ins h.up, h1]
      simpa using h.len
  · exact h
theorem Good.next {R : Ro} (h : Good R) (n x : Int) : Good (nextR R n x) := ⟨h.up, h.ok, h.len, h.upB, h.okB, h.fit⟩
theorem num_le (l : List Int) (n : Int) : numN l n ≤ l.length := by unfold numN; omega
theorem but_len (L : List Mb) (x : Int) : (butL L x).length ≤ L.length := by unfold butL; rw [List.length_map]; exact List.length_filter_le _ _
theorem pick_len (l : List Int) (c k : Nat) : (pickL l c k).length = k := by unfold pickL; simp
theorem pick_succ (l : List Int) (c k : Nat) : pickL l c (k + 1) = pickL l c k ++ [l.getD ((c + k) % l.length) 0] := by unfold pickL; rw [List.range_succ, List.map_append]; rfl
theorem pick_zero (l : List Int) (c : Nat) : pickL l c 0 = [] := rfl
theorem but_mem {L : List Mb} {x y : Int} : y ∈ butL L x ↔ hasL L y = true ∧ y ≠ x := by
  unfold butL
  rw [List.mem_map, hasL_iff]
  simp only [List.mem_filter, Bool.not_eq_true', decide_eq_false_iff_not]
  constructor
  · rintro ⟨p, ⟨h1, h2⟩, rfl⟩; exact ⟨⟨p, h1, rfl⟩, h2⟩
  · rintro ⟨⟨p, h1, rfl⟩, h2⟩; exact ⟨p, ⟨h1, h2⟩, rfl⟩
theorem pick_mem {l : List Int} {c k : Nat} {y : Int} (hl : 0 < l.length) (h : y ∈ pickL l c k) : y ∈ l := by
  unfold pickL at h
  obtain ⟨i, _, rfl⟩ := List.mem_map.1 h
  have hlt : (c + i) % l.length < l.length := Nat.mod_lt _ hl
  rw [List.getD_eq_getElem?_getD, List.getElem?_eq_getElem hlt]
  exact List.getElem_mem hlt
theorem but_in {L : List Mb} (h : ∀ p ∈ L, okM p) {x y : Int} (hy : y ∈ butL L x) : 1 ≤ y ∧ y ≤ 4294967296 := by
  obtain ⟨p, hp, e⟩ := hasL_iff.1 (but_mem.1 hy).1
  have := (h p hp).1
  rw [← e]; exact this
end Go.Proofs.Ytfchhlibjhblmaa
