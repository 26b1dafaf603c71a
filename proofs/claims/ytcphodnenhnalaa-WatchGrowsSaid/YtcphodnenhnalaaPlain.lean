/-
  WHAT IS PROVED: plain facts on lists of peers that rise by their ids: where one stands, put, taken away, pinged, heard; who is such. No condition.
-/
import Derived.Test.YtcphodnenhnalaaBase
namespace Go.Proofs.Ytcphodnenhnalaa

/-- a peer -/
structure Pr where
  id : Int
  last : Int
  waits : Bool
  since : Int

theorem Pr.ext_ {p q : Pr} (h1 : p.id = q.id) (h2 : p.last = q.last) (h3 : p.waits = q.waits) (h4 : p.since = q.since) : p = q := by
  cases p; cases q; simp at h1 h2 h3 h4; subst h1; subst h2; subst h3; subst h4; rfl
def isIdB (x : Int) : Bool := decide (1 ≤ x ∧ x ≤ 4294967296)
def isTimeB (x : Int) : Bool := decide (0 ≤ x ∧ x ≤ 1099511627776)
theorem in_id {x : Int} (h : isIdB x = true) : 1 ≤ x ∧ x ≤ 4294967296 := by unfold isIdB at h; simpa using h
theorem out_id {x : Int} (h : isIdB x = false) : x < 1 ∨ 4294967296 < x := by unfold isIdB at h; simp at h; omega
theorem in_time {x : Int} (h : isTimeB x = true) : 0 ≤ x ∧ x ≤ 1099511627776 := by unfold isTimeB at h; simpa using h
theorem out_time {x : Int} (h : isTimeB x = false) : x < 0 ∨ 1099511627776 < x := by unfold isTimeB at h; simp at h; omega
theorem id_in {x : Int} (h : 1 ≤ x ∧ x ≤ 4294967296) : isIdB x = true := by unfold isIdB; simpa using h
theorem time_in {x : Int} (h : 0 ≤ x ∧ x ≤ 1099511627776) : isTimeB x = true := by unfold isTimeB; simpa using h
def okPr (p : Pr) : Prop := (1 ≤ p.id ∧ p.id ≤ 4294967296) ∧ (0 ≤ p.last ∧ p.last ≤ 1099511627776) ∧ (0 ≤ p.since ∧ p.since ≤ 1099511627776) ∧ (p.waits = false → p.since = 0)
def Up (L : List Pr) : Prop := L.Pairwise fun p q => p.id < q.id
structure Good (L : List Pr) : Prop where
  up : Up L
  ok : ∀ p ∈ L, okPr p
  len : L.length ≤ 16
theorem Good.nil : Good [] := ⟨List.Pairwise.nil, fun _ h => (by cases h), by simp⟩

def hasL (L : List Pr) (x : Int) : Bool := L.any fun p => decide (p.id = x)
theorem hasL_iff {L : List Pr} {x : Int} : hasL L x = true ↔ ∃ p ∈ L, p.id = x := by unfold hasL; simp
theorem hasL_no {L : List Pr} {x : Int} : hasL L x = false ↔ ∀ p ∈ L, ¬ p.id = x := by unfold hasL; simp
def getL : List Pr → Int → Pr
  | [], x => ⟨x, 0, false, 0⟩
  | p :: l, x => if p.id = x then p else getL l x
def delL (L : List Pr) (x : Int) : List Pr := L.filter fun p => !decide (p.id = x)
def insL : List Pr → Pr → List Pr
  | [], q => [q]
  | p :: l, q => if p.id < q.id then p :: insL l q else if p.id = q.id then q :: l else q :: p :: l
/-- how many stand ahead of an id -/
def posL : List Pr → Int → Nat
  | [], _ => 0
  | p :: l, x => if p.id < x then posL l x + 1 else 0

theorem Up.nodup {L : List Pr} (h : Up L) : L.Nodup := List.Pairwise.imp (fun {a b} hn e => by subst e; exact absurd hn (by omega)) h
theorem Up.eq {L : List Pr} (h : Up L) {p q : Pr} (hp : p ∈ L) (hq : q ∈ L) (e : p.id = q.id) : p = q := by
  induction L with
  | nil => cases hp
  | cons x l ih =>
    obtain ⟨hx, hl⟩ := List.pairwise_cons.1 h
    rcases List.mem_cons.1 hp with e1 | hp'
    · rcases List.mem_cons.1 hq with f | hq'
      · rw [e1, f]
      · subst e1; have := hx q hq'; omega
    · rcases List.mem_cons.1 hq with f | hq'
      · subst f; have := hx p hp'; omega
      · exact ih hl hp' hq'
theorem Up.filter {L : List Pr} (h : Up L) (f : Pr → Bool) : Up (L.filter f) := List.Pairwise.filter f h

/-! ### where one stands -/
theorem pos_le : ∀ (L : List Pr) (x : Int), posL L x ≤ L.length
  | [], _ => Nat.le_refl _
  | p :: l, x => by
    show (if p.id < x then _ else _) ≤ _
    have := pos_le l x
    split <;> simp <;> omega
theorem pos_lt : ∀ {L : List Pr} {x : Int} {k : Nat} {p : Pr}, L[k]? = some p → k < posL L x → p.id < x
  | [], _, _, _, h, _ => by simp at h
  | q :: l, x, 0, p, h, hk => by
    simp at h; subst h
    unfold posL at hk
    split at hk
    · assumption
    · omega
  | q :: l, x, k + 1, p, h, hk => by
    unfold posL at hk
    split at hk
    · exact pos_lt (L := l) (k := k) (by simpa using h) (by omega)
    · omega
theorem pos_at : ∀ {L : List Pr} {x : Int} {p : Pr}, L[posL L x]? = some p → x ≤ p.id
  | [], _, _, h => by simp at h
  | q :: l, x, p, h => by
    unfold posL at h
    split at h
    · exact pos_at (L := l) (by simpa using h)
    · simp at h; subst h; omega
/-- a walk past those ahead comes to the place -/
theorem pos_stop : ∀ {L : List Pr} {x : Int} {k : Nat}, k ≤ L.length → (∀ j p, j < k → L[j]? = some p → p.id < x) → (∀ p, L[k]? = some p → x ≤ p.id) → posL L x = k
  | [], _, k, h, _, _ => by simp at h; subst h; rfl
  | q :: l, x, 0, _, _, h2 => by
    have := h2 q rfl
    unfold posL
    rw [if_neg (by omega)]
  | q :: l, x, k + 1, h, h1, h2 => by
    have := h1 0 q (by omega) rfl
    unfold posL
    rw [if_pos this, pos_stop (k := k) (by simpa using h) (fun j p hj hp => h1 (j + 1) p (by omega) (by simpa using hp)) (fun p hp => h2 p (by simpa using hp))]
theorem has_at : ∀ {L : List Pr}, Up L → ∀ {x : Int}, hasL L x = true → ∃ p, L[posL L x]? = some p ∧ p.id = x
  | [], _, x, h => by simp [hasL] at h
  | q :: l, hu, x, h => by
    obtain ⟨hq, hl⟩ := List.pairwise_cons.1 hu
    unfold posL
    split
    · rename_i hlt
      have : hasL l x = true := by
        obtain ⟨p, hp, e⟩ := hasL_iff.1 h
        rcases List.mem_cons.1 hp with f | hp'
        · subst f; omega
        · exact hasL_iff.2 ⟨p, hp', e⟩
      obtain ⟨p, hp, e⟩ := has_at hl this
      exact ⟨p, by simpa using hp, e⟩
    · rename_i hge
      obtain ⟨p, hp, e⟩ := hasL_iff.1 h
      rcases List.mem_cons.1 hp with f | hp'
      · subst f; exact ⟨p, rfl, e⟩
      · have := hq p hp'; omega
theorem at_has {L : List Pr} {x : Int} {p : Pr} (h : L[posL L x]? = some p) (e : p.id = x) : hasL L x = true := hasL_iff.2 ⟨p, List.mem_of_getElem? h, e⟩
theorem pos_has {L : List Pr} (hu : Up L) {x : Int} (h : hasL L x = true) : posL L x < L.length := by
  obtain ⟨p, hp, _⟩ := has_at hu h
  exact (List.getElem?_eq_some_iff.1 hp).1
theorem not_has_at {L : List Pr} {x : Int} {p : Pr} (hn : hasL L x = false) (h : L[posL L x]? = some p) : x < p.id := by
  have h1 := pos_at h
  have h2 := hasL_no.1 hn p (List.mem_of_getElem? h)
  omega

theorem get_mem : ∀ {L : List Pr} {x : Int}, hasL L x = true → getL L x ∈ L ∧ (getL L x).id = x
  | [], _, h => by simp [hasL] at h
  | q :: l, x, h => by
    unfold getL
    split
    · rename_i e; exact ⟨by simp, e⟩
    · rename_i e
      have : hasL l x = true := by
        obtain ⟨p, hp, e2⟩ := hasL_iff.1 h
        rcases List.mem_cons.1 hp with f | hp'
        · subst f; exact absurd e2 e
        · exact hasL_iff.2 ⟨p, hp', e2⟩
      obtain ⟨h1, h2⟩ := get_mem this
      exact ⟨List.mem_cons_of_mem _ h1, h2⟩
theorem get_of {L : List Pr} (hu : Up L) {p : Pr} (hp : p ∈ L) : getL L p.id = p := by
  obtain ⟨h1, h2⟩ := get_mem (hasL_iff.2 ⟨p, hp, rfl⟩ : hasL L p.id = true)
  exact hu.eq h1 hp h2
theorem get_no : ∀ {L : List Pr} {x : Int}, hasL L x = false → getL L x = ⟨x, 0, false, 0⟩
  | [], _, _ => rfl
  | q :: l, x, h => by
    have h' := hasL_no.1 h
    unfold getL
    rw [if_neg (h' q (by simp)), get_no (hasL_no.2 fun p hp => h' p (by simp [hp]))]
theorem get_at {L : List Pr} (hu : Up L) {x : Int} {p : Pr} (h : L[posL L x]? = some p) (e : p.id = x) : getL L x = p := by
  rw [← e]; exact get_of hu (List.mem_of_getElem? h)

/-! ### one is put in -/
theorem ins_new : ∀ {L : List Pr} {q : Pr}, hasL L q.id = false → insL L q = L.take (posL L q.id) ++ q :: L.drop (posL L q.id)
  | [], _, _ => rfl
  | p :: l, q, h => by
    have h' := hasL_no.1 h
    have hne := h' p (by simp)
    unfold insL posL
    by_cases hlt : p.id < q.id
    · rw [if_pos hlt, if_pos hlt, ins_new (hasL_no.2 fun r hr => h' r (by simp [hr]))]
      rfl
    · rw [if_neg hlt, if_neg hlt, if_neg hne]
      rfl
theorem ins_old : ∀ {L : List Pr}, Up L → ∀ {q : Pr}, hasL L q.id = true → insL L q = L.set (posL L q.id) q
  | [], _, _, h => by simp [hasL] at h
  | p :: l, hu, q, h => by
    obtain ⟨hp, hl⟩ := List.pairwise_cons.1 hu
    unfold insL posL
    by_cases hlt : p.id < q.id
    · have : hasL l q.id = true := by
        obtain ⟨r, hr, e⟩ := hasL_iff.1 h
        rcases List.mem_cons.1 hr with f | hr'
        · subst f; omega
        · exact hasL_iff.2 ⟨r, hr', e⟩
      rw [if_pos hlt, if_pos hlt, ins_old hl this]
      rfl
    · have hpe : p.id = q.id := by
        obtain ⟨r, hr, e⟩ := hasL_iff.1 h
        rcases List.mem_cons.1 hr with f | hr'
        · subst f; exact e
        · have := hp r hr'; omega
      rw [if_neg hlt, if_neg hlt, if_pos hpe]
      rfl
theorem mem_ins : ∀ {L : List Pr}, Up L → ∀ {q r : Pr}, r ∈ insL L q ↔ (r ∈ L ∧ r.id ≠ q.id) ∨ r = q
  | [], _, q, r => by simp [insL]
  | p :: l, hu, q, r => by
    obtain ⟨hp, hl⟩ := List.pairwise_cons.1 hu
    unfold insL
    by_cases hlt : p.id < q.id
    · rw [if_pos hlt, List.mem_cons, mem_ins hl, List.mem_cons]
      constructor
      · rintro (rfl | ⟨h1, h2⟩ | rfl)
        · exact .inl ⟨.inl rfl, by omega⟩
        · exact .inl ⟨.inr h1, h2⟩
        · exact .inr rfl
      · rintro (⟨rfl | h1, h2⟩ | rfl)
        · exact .inl rfl
        · exact .inr (.inl ⟨h1, h2⟩)
        · exact .inr (.inr rfl)
    · by_cases he : p.id = q.id
      · rw [if_neg hlt, if_pos he, List.mem_cons, List.mem_cons]
        constructor
        · rintro (rfl | h1)
          · exact .inr rfl
          · have := hp r h1; exact .inl ⟨.inr h1, by omega⟩
        · rintro (⟨rfl | h1, h2⟩ | rfl)
          · exact absurd he h2
          · exact .inr h1
          · exact .inl rfl
      · rw [if_neg hlt, if_neg he, List.mem_cons]
        constructor
        · rintro (rfl | h1)
          · exact .inr rfl
          · refine .inl ⟨h1, ?_⟩
            rcases List.mem_cons.1 h1 with f | h'
            · subst f; exact he
            · have := hp r h'; omega
        · rintro (⟨h1, h2⟩ | rfl)
          · exact .inr h1
          · exact .inl rfl
theorem up_ins : ∀ {L : List Pr}, Up L → ∀ (q : Pr), Up (insL L q)
  | [], _, q => List.pairwise_cons.2 ⟨fun _ h => (by cases h), List.Pairwise.nil⟩
  | p :: l, hu, q => by
    obtain ⟨hp, hl⟩ := List.pairwise_cons.1 hu
    unfold insL
    by_cases hlt : p.id < q.id
    · rw [if_pos hlt]
      refine List.pairwise_cons.2 ⟨fun r hr => ?_, up_ins hl q⟩
      rcases (mem_ins hl).1 hr with ⟨h, _⟩ | rfl
      · exact hp r h
      · exact hlt
    · by_cases he : p.id = q.id
      · rw [if_neg hlt, if_pos he]
        exact List.pairwise_cons.2 ⟨fun r hr => by have := hp r hr; omega, hl⟩
      · rw [if_neg hlt, if_neg he]
        refine List.pairwise_cons.2 ⟨fun r hr => ?_, hu⟩
        rcases List.mem_cons.1 hr with f | h'
        · subst f; omega
        · have := hp r h'; omega
theorem len_ins : ∀ {L : List Pr}, Up L → ∀ {q : Pr}, (insL L q).length = if hasL L q.id then L.length else L.length + 1 := by
  intro L hu q
  cases h : hasL L q.id
  · rw [ins_new h]
    have := pos_le L q.id
    simp
    omega
  · rw [ins_old hu h]; simp
theorem has_ins {L : List Pr} (hu : Up L) {q : Pr} {x : Int} : hasL (insL L q) x = (hasL L x || decide (q.id = x)) := by
  rw [Bool.eq_iff_iff, hasL_iff, Bool.or_eq_true, hasL_iff, decide_eq_true_eq]
  constructor
  · rintro ⟨p, hp, e⟩
    rcases (mem_ins hu).1 hp with ⟨h, _⟩ | rfl
    · exact .inl ⟨p, h, e⟩
    · exact .inr e
  · rintro (⟨p, hp, e⟩ | e)
    · by_cases hq : p.id = q.id
      · exact ⟨q, (mem_ins hu).2 (.inr rfl), by omega⟩
      · exact ⟨p, (mem_ins hu).2 (.inl ⟨hp, hq⟩), e⟩
    · exact ⟨q, (mem_ins hu).2 (.inr rfl), e⟩
theorem get_ins {L : List Pr} (hu : Up L) (q : Pr) : getL (insL L q) q.id = q := get_of (up_ins hu q) ((mem_ins hu).2 (.inr rfl))

/-! ### one is taken away -/
theorem mem_del {L : List Pr} {x : Int} {r : Pr} : r ∈ delL L x ↔ r ∈ L ∧ r.id ≠ x := by unfold delL; simp
theorem del_none {L : List Pr} {x : Int} (h : hasL L x = false) : delL L x = L := by
  unfold delL
  rw [List.filter_eq_self]
  intro p hp
  simp [hasL_no.1 h p hp]
theorem del_at : ∀ {L : List Pr}, Up L → ∀ {x : Int}, hasL L x = true → delL L x = L.take (posL L x) ++ L.drop (posL L x + 1)
  | [], _, x, h => by simp [hasL] at h
  | p :: l, hu, x, h => by
    obtain ⟨hp, hl⟩ := List.pairwise_cons.1 hu
    by_cases hlt : p.id < x
    · have : hasL l x = true := by
        obtain ⟨r, hr, e⟩ := hasL_iff.1 h
        rcases List.mem_cons.1 hr with f | hr'
        · subst f; omega
        · exact hasL_iff.2 ⟨r, hr', e⟩
      have h1 : delL (p :: l) x = p :: delL l x := by unfold delL; simp [show ¬ p.id = x by omega]
      have h2 : posL (p :: l) x = posL l x + 1 := by show (if p.id < x then _ else _) = _; rw [if_pos hlt]
      rw [h1, h2, del_at hl this]
      rfl
    · have hpe : p.id = x := by
        obtain ⟨r, hr, e⟩ := hasL_iff.1 h
        rcases List.mem_cons.1 hr with f | hr'
        · subst f; exact e
        · have := hp r hr'; omega
      have h2 : posL (p :: l) x = 0 := by show (if p.id < x then _ else _) = _; rw [if_neg hlt]
      have h3 : delL l x = l := del_none (hasL_no.2 fun r hr => by have := hp r hr; omega)
      have h1 : delL (p :: l) x = delL l x := by unfold delL; simp [hpe]
      rw [h1, h2, h3]
      rfl
theorem has_del {L : List Pr} {x y : Int} : hasL (delL L x) y = (hasL L y && !decide (y = x)) := by
  rw [Bool.eq_iff_iff, hasL_iff, Bool.and_eq_true, hasL_iff]
  simp only [Bool.not_eq_true', decide_eq_false_iff_not]
  constructor
  · rintro ⟨p, hp, e⟩
    obtain ⟨h1, h2⟩ := mem_del.1 hp
    exact ⟨⟨p, h1, e⟩, by omega⟩
  · rintro ⟨⟨p, hp, e⟩, h⟩
    exact ⟨p, mem_del.2 ⟨hp, by omega⟩, e⟩
theorem len_del {L : List Pr} (hu : Up L) {x : Int} : (delL L x).length + (if hasL L x then 1 else 0) = L.length := by
  cases h : hasL L x
  · rw [del_none h]; simp
  · rw [del_at hu h]
    have := pos_has hu h
    simp
    omega

/-! ### the calls -/
def addE (L : List Pr) (x t : Int) : Int := if isIdB x = true ∧ isTimeB t = true then (if hasL L x = true then 32 else if L.length = 16 then 31 else 0) else 10
def addL (L : List Pr) (x t : Int) : List Pr := if addE L x t = 0 then insL L ⟨x, t, false, 0⟩ else L
def metE (L : List Pr) (x t : Int) : Int := if isIdB x = true ∧ isTimeB t = true then (if hasL L x = true then 0 else 30) else 10
def pingP (p : Pr) (t : Int) : Pr := ⟨p.id, max p.last t, true, if p.waits = true then p.since else t⟩
def pongP (p : Pr) (t : Int) : Pr := ⟨p.id, max p.last t, false, 0⟩
def pingL (L : List Pr) (x t : Int) : List Pr := if metE L x t = 0 then insL L (pingP (getL L x) t) else L
def pongL (L : List Pr) (x t : Int) : List Pr := if metE L x t = 0 then insL L (pongP (getL L x) t) else L

theorem addE_form {L : List Pr} {x t : Int} (h : isIdB x = false ∨ isTimeB t = false) : addE L x t = 10 := by
  unfold addE; rw [if_neg]; rintro ⟨h1, h2⟩; rcases h with h | h <;> simp_all
theorem metE_form {L : List Pr} {x t : Int} (h : isIdB x = false ∨ isTimeB t = false) : metE L x t = 10 := by
  unfold metE; rw [if_neg]; rintro ⟨h1, h2⟩; rcases h with h | h <;> simp_all
theorem addE_known {L : List Pr} {x t : Int} (h1 : isIdB x = true) (h2 : isTimeB t = true) (h : hasL L x = true) : addE L x t = 32 := by unfold addE; simp [h1, h2, h]
theorem addE_full {L : List Pr} {x t : Int} (h1 : isIdB x = true) (h2 : isTimeB t = true) (h : hasL L x = false) (hl : L.length = 16) : addE L x t = 31 := by unfold addE; simp [h1, h2, h, hl]
theorem addE_ok {L : List Pr} {x t : Int} (h1 : isIdB x = true) (h2 : isTimeB t = true) (h : hasL L x = false) (hl : L.length ≠ 16) : addE L x t = 0 := by unfold addE; simp [h1, h2, h, hl]
theorem metE_ok {L : List Pr} {x t : Int} (h1 : isIdB x = true) (h2 : isTimeB t = true) (h : hasL L x = true) : metE L x t = 0 := by unfold metE; simp [h1, h2, h]
theorem metE_none {L : List Pr} {x t : Int} (h1 : isIdB x = true) (h2 : isTimeB t = true) (h : hasL L x = false) : metE L x t = 30 := by unfold metE; simp [h1, h2, h]
theorem addE_zero {L : List Pr} {x t : Int} (h : addE L x t = 0) : isIdB x = true ∧ isTimeB t = true ∧ hasL L x = false ∧ L.length ≠ 16 := by
  unfold addE at h
  split at h
  · rename_i hc
    split at h
    · cases h
    · split at h
      · cases h
      · rename_i h1 h2
        exact ⟨hc.1, hc.2, by simpa using h1, h2⟩
  · cases h
theorem metE_zero {L : List Pr} {x t : Int} (h : metE L x t = 0) : isIdB x = true ∧ isTimeB t = true ∧ hasL L x = true := by
  unfold metE at h
  split at h
  · rename_i hc
    split at h
    · rename_i h1; exact ⟨hc.1, hc.2, h1⟩
    · cases h
  · cases h
theorem addL_ok {L : List Pr} {x t : Int} (h : addE L x t = 0) : addL L x t = insL L ⟨x, t, false, 0⟩ := if_pos h
theorem addL_no {L : List Pr} {x t : Int} (h : addE L x t ≠ 0) : addL L x t = L := if_neg h
theorem pingL_ok {L : List Pr} {x t : Int} (h : metE L x t = 0) : pingL L x t = insL L (pingP (getL L x) t) := if_pos h
theorem pingL_no {L : List Pr} {x t : Int} (h : metE L x t ≠ 0) : pingL L x t = L := if_neg h
theorem pongL_ok {L : List Pr} {x t : Int} (h : metE L x t = 0) : pongL L x t = insL L (pongP (getL L x) t) := if_pos h
theorem pongL_no {L : List Pr} {x t : Int} (h : metE L x t ≠ 0) : pongL L x t = L := if_neg h
theorem ok_ping {p : Pr} {t : Int} (h : okPr p) (ht : isTimeB t = true) : okPr (pingP p t) := by
  have := in_time ht
  obtain ⟨h1, h2, h3, h4⟩ := h
  refine ⟨h1, ?_, ?_, ?_⟩
  · show 0 ≤ max p.last t ∧ max p.last t ≤ _; omega
  · show 0 ≤ (if p.waits = true then p.since else t) ∧ (if p.waits = true then p.since else t) ≤ _
    split <;> omega
  · intro h; cases h
theorem ok_pong {p : Pr} {t : Int} (h : okPr p) (ht : isTimeB t = true) : okPr (pongP p t) := by
  have := in_time ht
  obtain ⟨h1, h2, h3, h4⟩ := h
  refine ⟨h1, ?_, ?_, fun _ => rfl⟩
  · show 0 ≤ max p.last t ∧ max p.last t ≤ _; omega
  · show (0 : Int) ≤ 0 ∧ (0 : Int) ≤ _; omega
theorem Good.ins {L : List Pr} (h : Good L) {q : Pr} (hq : okPr q) (hl : hasL L q.id = true ∨ L.length ≠ 16) : Good (insL L q) := by
  refine ⟨up_ins h.up q, fun r hr => ?_, ?_⟩
  · rcases (mem_ins h.up).1 hr with ⟨h1, _⟩ | rfl
    · exact h.ok r h1
    · exact hq
  · rw [len_ins h.up]
    have := h.len
    rcases hl with hl | hl
    · rw [hl]; simpa using this
    · split <;> omega
theorem Good.del {L : List Pr} (h : Good L) (x : Int) : Good (delL L x) :=
  ⟨h.up.filter _, fun p hp => h.ok p (mem_del.1 hp).1, Nat.le_trans (List.length_filter_le _ _) h.len⟩
theorem Good.get {L : List Pr} (h : Good L) {x : Int} (hx : hasL L x = true) : okPr (getL L x) := h.ok _ (get_mem hx).1
theorem Good.add {L : List Pr} (h : Good L) {x t : Int} (he : addE L x t = 0) : Good (insL L ⟨x, t, false, 0⟩) := by
  obtain ⟨h1, h2, h3, h4⟩ := addE_zero he
  exact h.ins ⟨in_id h1, in_time h2, by show (0 : Int) ≤ 0 ∧ (0 : Int) ≤ _; omega, fun _ => rfl⟩ (.inr h4)
theorem Good.ping {L : List Pr} (h : Good L) {x t : Int} (he : metE L x t = 0) : Good (insL L (pingP (getL L x) t)) := by
  obtain ⟨h1, h2, h3⟩ := metE_zero he
  exact h.ins (ok_ping (h.get h3) h2) (.inl (by show hasL L (getL L x).id = true; rw [(get_mem h3).2]; exact h3))
theorem Good.pong {L : List Pr} (h : Good L) {x t : Int} (he : metE L x t = 0) : Good (insL L (pongP (getL L x) t)) := by
  obtain ⟨h1, h2, h3⟩ := metE_zero he
  exact h.ins (ok_pong (h.get h3) h2) (.inl (by show hasL L (getL L x).id = true; rw [(get_mem h3).2]; exact h3))

/-! ### who is such -/
def whoL (L : List Pr) (f : Pr → Bool) : List Int := (L.filter f).map Pr.id
def dueB (T now : Int) (p : Pr) : Bool := decide (p.last + T / 2 ≤ now)
def lateB (T now : Int) (p : Pr) : Bool := p.waits && decide (p.since + T < now)
def allB (_ : Pr) : Bool := true
theorem who_all (L : List Pr) : whoL L allB = L.map Pr.id := by
  unfold whoL
  rw [show L.filter allB = L from List.filter_eq_self.2 fun p _ => rfl]
theorem who_le (L : List Pr) (f : Pr → Bool) : (whoL L f).length ≤ L.length := by unfold whoL; rw [List.length_map]; exact List.length_filter_le _ _
theorem who_len_all (L : List Pr) : (whoL L allB).length = L.length := by rw [who_all, List.length_map]
theorem who_perm {L M : List Pr} (h : L.Perm M) (f : Pr → Bool) : (whoL L f).Perm (whoL M f) := (h.filter f).map _
theorem who_up {L : List Pr} (hu : Up L) (f : Pr → Bool) : (whoL L f).Pairwise (· ≤ ·) := by
  unfold whoL
  rw [List.pairwise_map]
  exact List.Pairwise.imp (fun {a b} h => by show a.id ≤ b.id; omega) (hu.filter f)
theorem who_snoc_yes {L : List Pr} {p : Pr} {f : Pr → Bool} (h : f p = true) : whoL (L ++ [p]) f = whoL L f ++ [p.id] := by
  unfold whoL; rw [List.filter_append, List.map_append]; simp [h]
theorem who_snoc_no {L : List Pr} {p : Pr} {f : Pr → Bool} (h : f p = false) : whoL (L ++ [p]) f = whoL L f := by
  unfold whoL; rw [List.filter_append, List.map_append]; simp [h]

/-! ### sorted lists -/
def sorted (l : List Int) : List Int := l.mergeSort fun x y => decide (x ≤ y)
theorem eq_of_sorted {l m : List Int} (hp : l.Perm m) (h1 : l.Pairwise (· ≤ ·)) (h2 : m.Pairwise (· ≤ ·)) : l = m :=
  List.Perm.eq_of_pairwise (fun _ _ _ _ h1 h2 => by omega) h1 h2 hp
theorem sorted_perm (l : List Int) : (sorted l).Perm l := List.mergeSort_perm l _
theorem sorted_len (l : List Int) : (sorted l).length = l.length := (sorted_perm l).length_eq
theorem sorted_le (l : List Int) : (sorted l).Pairwise (· ≤ ·) := by
  have := List.pairwise_mergeSort (le := fun x y : Int => decide (x ≤ y)) (fun a b c h1 h2 => by simp at h1 h2 ⊢; omega) (fun a b => by simp; omega) l
  exact this.imp fun h => by simpa using h
theorem sorted_is {l m : List Int} (hp : l.Perm m) (hm : m.Pairwise (· ≤ ·)) : sorted l = m := eq_of_sorted ((sorted_perm l).trans hp) (sorted_le l) hm

/-! ### two lists with the same members -/
theorem perm_of_mem {α : Type} : ∀ (l m : List α), l.Nodup → m.Nodup → (∀ x, x ∈ l ↔ x ∈ m) → l.Perm m
  | [], m, _, _, h => by
    cases m with
    | nil => exact List.Perm.refl _
    | cons y r => exact absurd ((h y).2 (by simp)) (by simp)
  | x :: l, m, hl, hm, h => by
    obtain ⟨hx, hl2⟩ := List.nodup_cons.1 hl
    obtain ⟨s, t, rfl⟩ := List.append_of_mem ((h x).1 (by simp))
    have hp : (s ++ x :: t).Perm (x :: (s ++ t)) := List.perm_middle
    have hm2 : (x :: (s ++ t)).Nodup := hp.nodup hm
    obtain ⟨hx2, hst⟩ := List.nodup_cons.1 hm2
    refine List.Perm.trans (List.Perm.cons x (perm_of_mem l (s ++ t) hl2 hst fun y => ?_)) hp.symm
    constructor
    · intro hy
      have hne : y ≠ x := fun e => hx (e ▸ hy)
      have := hp.mem_iff.1 ((h y).1 (by simp [hy]))
      rcases List.mem_cons.1 this with e | h'
      · exact absurd e hne
      · exact h'
    · intro hy
      have hne : y ≠ x := fun e => hx2 (e ▸ hy)
      have := (h y).2 (hp.mem_iff.2 (List.mem_cons_of_mem _ hy))
      rcases List.mem_cons.1 this with e | h'
      · exact absurd e hne
      · exact h'

theorem take_snoc_ {α : Type} {l : List α} {k : Nat} {x : α} (h : l[k]? = some x) : l.take (k + 1) = l.take k ++ [x] := by
  rw [List.take_add_one, h]; rfl

/-- a step of a play -/
structure St where
  how : Int
  id : Int
  t : Int
end Go.Proofs.Ytcphodnenhnalaa
