/-
  WHAT IS PROVED: layer 9's contracts: a watch. Conditions: each states its own.
-/
import Derived.Test.YteoodompphhkbaaGreatDoorRows
import Derived.Test.YteoodompphhkbaaGreatDoorZShelf
import Derived.WalkKit
import Derived.Deep.AppendLies
import Derived.Deep.Draws
import Derived.Deep.OwnRows
import Derived.Lib.Hide
import Derived.ProofKit
import Derived.OpenShut
import Derived.JoinedCond
import Derived.OpenVars
import Derived.Maps.RangeWalk
import Derived.Maps.OwnOps
import Derived.Maps.AppendAt
import Derived.OwnWalk
import Derived.Deep.Strs
import Derived.Lib.SmallJoins
import Derived.Deep.QuietTactic
import Derived.BigQuiet
import Derived.Deep.RegionHeld3
import Derived.Laws.ResultCell
import Derived.Laws.Rows
import Derived.Sort.OwnSortedInts
/- Base -/
namespace Go.Proofs.YteoodompphhkbaaGreatDoor.Wat
set_option maxRecDepth 100000
open Go.RowKit

theorem block_of_add (a : Addr) (n : Nat) : (a.add n).block = a.block := by unfold Addr.add; split <;> rfl
theorem add_of_add (a : Addr) (i j : Nat) : (a.add i).add j = a.add (i + j) := by
  unfold Addr.add
  by_cases hi : i = 0 <;> by_cases hj : j = 0 <;> simp [hi, hj, Nat.add_assoc]

/-- the slice value '.slice A n c' holds the cells xs, in a block that is there and isn't block g -/
def Reads (w : World) (g : Nat) (A : Option Addr) (n : Nat) (xs : List Value) : Prop :=
  xs.length = n ∧ (0 < n → ∃ ad, A = some ad ∧ ad.block < w.heap.size ∧ ad.block ≠ g ∧ ∀ j u, xs[j]? = some u → w.cell? (ad.add j) = some u)

section
variable {w w' a b c : World} {g g' n : Nat} {A : Option Addr} {xs : List Value}
theorem Reads.at_ {k : Nat} (h : Reads w g A n xs) (hk : k < n) : ∃ ad u, A = some ad ∧ xs[k]? = some u ∧ w.cell? (ad.add k) = some u := by
  obtain ⟨ad, e, _, _, hc⟩ := h.2 (by omega)
  have hl : k < xs.length := by have := h.1; omega
  exact ⟨ad, xs[k], e, List.getElem?_eq_getElem hl, hc k _ (List.getElem?_eq_getElem hl)⟩
theorem Reads.only (h : Reads w g A n xs) (hb : w.grownBy w' (some g)) : Reads w' g A n xs :=
  ⟨h.1, fun hn => by
    obtain ⟨ad, e, hlt, hne, hc⟩ := h.2 hn
    refine ⟨ad, e, Nat.lt_of_lt_of_le hlt hb.size, hne, fun j u hu => ?_⟩
    exact (World.cell?_of_block (hb.block (ad.add j).block (by rw [block_of_add]; exact hlt) (fun e => hne (by rw [block_of_add] at e; injection e)))).trans (hc j u hu)⟩
theorem Reads.below (h : Reads w g A n xs) (hb : Below w.heap.size w w') : Reads w' g A n xs :=
  ⟨h.1, fun hn => by
    obtain ⟨ad, e, hlt, hne, hc⟩ := h.2 hn
    exact ⟨ad, e, Nat.lt_of_lt_of_le hlt hb.size, hne, fun j u hu => (hb.cell (by rw [block_of_add]; exact hlt)).trans (hc j u hu)⟩⟩
theorem Reads.take (h : Reads w g A n xs) {k : Nat} (hk : k ≤ n) : Reads w g A k (xs.take k) := by
  refine ⟨by rw [List.length_take, h.1]; omega, fun hn => ?_⟩
  obtain ⟨ad, e, hlt, hb, hcell⟩ := h.2 (by omega)
  exact ⟨ad, e, hlt, hb, fun j u hu => hcell j u (by rw [List.getElem?_take] at hu; split at hu <;> simp_all)⟩
end

/-- block g is just the cells cs of element type t, none frozen -/
def Blk (w : World) (g : Nat) (t : TypeId) (cs : Array Value) : Prop := w.heap[g]? = some (.cells cs t (0, 0))

section
variable {w w' : World} {g : Nat} {t : TypeId} {cs : Array Value}
theorem Blk.lt (h : Blk w g t cs) : g < w.heap.size := by
  rcases Nat.lt_or_ge g w.heap.size with hlt | hge
  · exact hlt
  · unfold Blk at h; rw [Array.getElem?_eq_none hge] at h; cases h
theorem Blk.cell (h : Blk w g t cs) (i : Nat) : w.cell? ⟨g, i, none⟩ = cs[i]? := cell_of_row w g i cs t (0, 0) h
theorem Blk.frozen (h : Blk w g t cs) (i : Nat) : w.frozen? ⟨g, i, none⟩ = false := by
  unfold Blk at h
  simp [World.frozen?, h]
theorem Blk.new (w : World) (t : TypeId) (cs : Array Value) : Blk (w.alloc (.cells cs t)) w.heap.size t cs := heap_alloc_new w _
theorem Blk.drew (h : Blk w g t cs) : Blk w.drew g t cs := h
theorem Blk.alloc (h : Blk w g t cs) (o : Obj) : Blk (w.alloc o) g t cs := (Below.heap_alloc w o g h.lt).trans h
theorem Blk.set_ (h : Blk w g t cs) (i : Nat) (u : Value) : Blk (w.setCell ⟨g, i, none⟩ u) g t (cs.setIfInBounds i u) := by
  unfold Blk at h ⊢
  simp [World.setCell, Array.getElem?_modify, h]
theorem Blk.below {B : Nat} (h : Blk w g t cs) (hb : Below B w w') (hg : g < B) : Blk w' g t cs := (hb.block g hg).trans h
theorem Blk.grown {row : Option Nat} (h : Blk w g t cs) (hb : w.grownBy w' row) (hg : some g ≠ row) : Blk w' g t cs := (hb.block g h.lt hg).trans h
end

theorem only_of_below {a w : World} (h : Below a.heap.size a w) (row : Option Nat) : a.grownBy w row := ⟨h.os, h.tape, h.output, h.size, fun i hi _ => h.block i hi⟩
/-- a Go bool is handed back; nothing that was there has turned -/
def Says (r : Bool) (w : World) (e : Ending) (w' : World) : Prop := e = .returned (.bool r) ∧ Below w.heap.size w w'
end Go.Proofs.YteoodompphhkbaaGreatDoor.Wat

/- Plain -/
namespace Go.Proofs.YteoodompphhkbaaGreatDoor.Wat
set_option maxRecDepth 100000

/-- a peer -/
structure Pr where
  id : Int
  last : Int
  waits : Bool
  since : Int

def isIdB (x : Int) : Bool := decide (1 ≤ x ∧ x ≤ 4294967296)
def isTimeB (x : Int) : Bool := decide (0 ≤ x ∧ x ≤ 1099511627776)
theorem in_id {x : Int} (h : isIdB x = true) : 1 ≤ x ∧ x ≤ 4294967296 := by unfold isIdB at h; simpa using h
theorem in_time {x : Int} (h : isTimeB x = true) : 0 ≤ x ∧ x ≤ 1099511627776 := by unfold isTimeB at h; simpa using h
def okPr (p : Pr) : Prop := (1 ≤ p.id ∧ p.id ≤ 4294967296) ∧ (0 ≤ p.last ∧ p.last ≤ 1099511627776) ∧ (0 ≤ p.since ∧ p.since ≤ 1099511627776) ∧ (p.waits = false → p.since = 0)
def Up (L : List Pr) : Prop := L.Pairwise fun p q => p.id < q.id
structure Good (L : List Pr) : Prop where
  up : Up L
  ok : ∀ p ∈ L, okPr p
  len : L.length ≤ 16
theorem Good.nil : Good [] := ⟨List.Pairwise.nil, fun _ h => (by cases h), by simp⟩

def hasL (L : List Pr) (x : Int) : Bool := L.any fun p => decide (p.id = x)
theorem hasL_iff {L : List Pr} {x : Int} : hasL L x = true ↔ ∃ p ∈ L, p.id = x := by unfold hasL; simp
theorem hasL_no {L : List Pr} {x : Int} : hasL L x = false ↔ ∀ p ∈ L, ¬ p.id = x := by unfold hasL; simp
def getL : List Pr → Int → Pr
  | [], x => ⟨x, 0, false, 0⟩
  | p :: l, x => if p.id = x then p else getL l x
def delL (L : List Pr) (x : Int) : List Pr := L.filter fun p => !decide (p.id = x)
def insL : List Pr → Pr → List Pr
  | [], q => [q]
  | p :: l, q => if p.id < q.id then p :: insL l q else if p.id = q.id then q :: l else q :: p :: l
/-- how many stand ahead of an id -/
def posL : List Pr → Int → Nat
  | [], _ => 0
  | p :: l, x => if p.id < x then posL l x + 1 else 0

theorem Up.nodup {L : List Pr} (h : Up L) : L.Nodup := List.Pairwise.imp (fun {a b} hn e => by subst e; exact absurd hn (by omega)) h
theorem Up.eq {L : List Pr} (h : Up L) {p q : Pr} (hp : p ∈ L) (hq : q ∈ L) (e : p.id = q.id) : p = q := by
  induction L with
  | nil => cases hp
  | cons x l ih =>
    obtain ⟨hx, hl⟩ := List.pairwise_cons.1 h
    rcases List.mem_cons.1 hp with e1 | hp'
    · rcases List.mem_cons.1 hq with f | hq'
      · rw [e1, f]
      · subst e1; have := hx q hq'; omega
    · rcases List.mem_cons.1 hq with f | hq'
      · subst f; have := hx p hp'; omega
      · exact ih hl hp' hq'
theorem Up.filter {L : List Pr} (h : Up L) (f : Pr → Bool) : Up (L.filter f) := List.Pairwise.filter f h

/-! ### where one stands -/
theorem pos_le : ∀ (L : List Pr) (x : Int), posL L x ≤ L.length
  | [], _ => Nat.le_refl _
  | p :: l, x => by
    show (if p.id < x then _ else _) ≤ _
    have := pos_le l x
    split <;> simp <;> omega
theorem has_at : ∀ {L : List Pr}, Up L → ∀ {x : Int}, hasL L x = true → ∃ p, L[posL L x]? = some p ∧ p.id = x
  | [], _, x, h => by simp [hasL] at h
  | q :: l, hu, x, h => by
    obtain ⟨hq, hl⟩ := List.pairwise_cons.1 hu
    unfold posL
    split
    · rename_i hlt
      have : hasL l x = true := by
        obtain ⟨p, hp, e⟩ := hasL_iff.1 h
        rcases List.mem_cons.1 hp with f | hp'
        · subst f; omega
        · exact hasL_iff.2 ⟨p, hp', e⟩
      obtain ⟨p, hp, e⟩ := has_at hl this
      exact ⟨p, by simpa using hp, e⟩
    · rename_i hge
      obtain ⟨p, hp, e⟩ := hasL_iff.1 h
      rcases List.mem_cons.1 hp with f | hp'
      · subst f; exact ⟨p, rfl, e⟩
      · have := hq p hp'; omega
theorem pos_has {L : List Pr} (hu : Up L) {x : Int} (h : hasL L x = true) : posL L x < L.length := by
  obtain ⟨p, hp, _⟩ := has_at hu h
  exact (List.getElem?_eq_some_iff.1 hp).1
theorem get_mem : ∀ {L : List Pr} {x : Int}, hasL L x = true → getL L x ∈ L ∧ (getL L x).id = x
  | [], _, h => by simp [hasL] at h
  | q :: l, x, h => by
    unfold getL
    split
    · rename_i e; exact ⟨by simp, e⟩
    · rename_i e
      have : hasL l x = true := by
        obtain ⟨p, hp, e2⟩ := hasL_iff.1 h
        rcases List.mem_cons.1 hp with f | hp'
        · subst f; exact absurd e2 e
        · exact hasL_iff.2 ⟨p, hp', e2⟩
      obtain ⟨h1, h2⟩ := get_mem this
      exact ⟨List.mem_cons_of_mem _ h1, h2⟩
theorem get_no : ∀ {L : List Pr} {x : Int}, hasL L x = false → getL L x = ⟨x, 0, false, 0⟩
  | [], _, _ => rfl
  | q :: l, x, h => by
    have h' := hasL_no.1 h
    unfold getL
    rw [if_neg (h' q (by simp)), get_no (hasL_no.2 fun p hp => h' p (by simp [hp]))]
/-! ### one is put in -/
theorem ins_new : ∀ {L : List Pr} {q : Pr}, hasL L q.id = false → insL L q = L.take (posL L q.id) ++ q :: L.drop (posL L q.id)
  | [], _, _ => rfl
  | p :: l, q, h => by
    have h' := hasL_no.1 h
    have hne := h' p (by simp)
    unfold insL posL
    by_cases hlt : p.id < q.id
    · rw [if_pos hlt, if_pos hlt, ins_new (hasL_no.2 fun r hr => h' r (by simp [hr]))]
      rfl
    · rw [if_neg hlt, if_neg hlt, if_neg hne]
      rfl
theorem ins_old : ∀ {L : List Pr}, Up L → ∀ {q : Pr}, hasL L q.id = true → insL L q = L.set (posL L q.id) q
  | [], _, _, h => by simp [hasL] at h
  | p :: l, hu, q, h => by
    obtain ⟨hp, hl⟩ := List.pairwise_cons.1 hu
    unfold insL posL
    by_cases hlt : p.id < q.id
    · have : hasL l q.id = true := by
        obtain ⟨r, hr, e⟩ := hasL_iff.1 h
        rcases List.mem_cons.1 hr with f | hr'
        · subst f; omega
        · exact hasL_iff.2 ⟨r, hr', e⟩
      rw [if_pos hlt, if_pos hlt, ins_old hl this]
      rfl
    · have hpe : p.id = q.id := by
        obtain ⟨r, hr, e⟩ := hasL_iff.1 h
        rcases List.mem_cons.1 hr with f | hr'
        · subst f; exact e
        · have := hp r hr'; omega
      rw [if_neg hlt, if_neg hlt, if_pos hpe]
      rfl
theorem mem_ins : ∀ {L : List Pr}, Up L → ∀ {q r : Pr}, r ∈ insL L q ↔ (r ∈ L ∧ r.id ≠ q.id) ∨ r = q
  | [], _, q, r => by simp [insL]
  | p :: l, hu, q, r => by
    obtain ⟨hp, hl⟩ := List.pairwise_cons.1 hu
    unfold insL
    by_cases hlt : p.id < q.id
    · rw [if_pos hlt, List.mem_cons, mem_ins hl, List.mem_cons]
      constructor
      · rintro (rfl | ⟨h1, h2⟩ | rfl)
        · exact .inl ⟨.inl rfl, by omega⟩
        · exact .inl ⟨.inr h1, h2⟩
        · exact .inr rfl
      · rintro (⟨rfl | h1, h2⟩ | rfl)
        · exact .inl rfl
        · exact .inr (.inl ⟨h1, h2⟩)
        · exact .inr (.inr rfl)
    · by_cases he : p.id = q.id
      · rw [if_neg hlt, if_pos he, List.mem_cons, List.mem_cons]
        constructor
        · rintro (rfl | h1)
          · exact .inr rfl
          · have := hp r h1; exact .inl ⟨.inr h1, by omega⟩
        · rintro (⟨rfl | h1, h2⟩ | rfl)
          · exact absurd he h2
          · exact .inr h1
          · exact .inl rfl
      · rw [if_neg hlt, if_neg he, List.mem_cons]
        constructor
        · rintro (rfl | h1)
          · exact .inr rfl
          · refine .inl ⟨h1, ?_⟩
            rcases List.mem_cons.1 h1 with f | h'
            · subst f; exact he
            · have := hp r h'; omega
        · rintro (⟨h1, h2⟩ | rfl)
          · exact .inr h1
          · exact .inl rfl
theorem up_ins : ∀ {L : List Pr}, Up L → ∀ (q : Pr), Up (insL L q)
  | [], _, q => List.pairwise_cons.2 ⟨fun _ h => (by cases h), List.Pairwise.nil⟩
  | p :: l, hu, q => by
    obtain ⟨hp, hl⟩ := List.pairwise_cons.1 hu
    unfold insL
    by_cases hlt : p.id < q.id
    · rw [if_pos hlt]
      refine List.pairwise_cons.2 ⟨fun r hr => ?_, up_ins hl q⟩
      rcases (mem_ins hl).1 hr with ⟨h, _⟩ | rfl
      · exact hp r h
      · exact hlt
    · by_cases he : p.id = q.id
      · rw [if_neg hlt, if_pos he]
        exact List.pairwise_cons.2 ⟨fun r hr => by have := hp r hr; omega, hl⟩
      · rw [if_neg hlt, if_neg he]
        refine List.pairwise_cons.2 ⟨fun r hr => ?_, hu⟩
        rcases List.mem_cons.1 hr with f | h'
        · subst f; omega
        · have := hp r h'; omega
theorem len_ins : ∀ {L : List Pr}, Up L → ∀ {q : Pr}, (insL L q).length = if hasL L q.id then L.length else L.length + 1 := by
  intro L hu q
  cases h : hasL L q.id
  · rw [ins_new h]
    have := pos_le L q.id
    simp
    omega
  · rw [ins_old hu h]; simp
theorem has_ins {L : List Pr} (hu : Up L) {q : Pr} {x : Int} : hasL (insL L q) x = (hasL L x || decide (q.id = x)) := by
  rw [Bool.eq_iff_iff, hasL_iff, Bool.or_eq_true, hasL_iff, decide_eq_true_eq]
  constructor
  · rintro ⟨p, hp, e⟩
    rcases (mem_ins hu).1 hp with ⟨h, _⟩ | rfl
    · exact .inl ⟨p, h, e⟩
    · exact .inr e
  · rintro (⟨p, hp, e⟩ | e)
    · by_cases hq : p.id = q.id
      · exact ⟨q, (mem_ins hu).2 (.inr rfl), by omega⟩
      · exact ⟨p, (mem_ins hu).2 (.inl ⟨hp, hq⟩), e⟩
    · exact ⟨q, (mem_ins hu).2 (.inr rfl), e⟩
/-! ### one is taken away -/
theorem mem_del {L : List Pr} {x : Int} {r : Pr} : r ∈ delL L x ↔ r ∈ L ∧ r.id ≠ x := by unfold delL; simp
theorem del_none {L : List Pr} {x : Int} (h : hasL L x = false) : delL L x = L := by
  unfold delL
  rw [List.filter_eq_self]
  intro p hp
  simp [hasL_no.1 h p hp]
theorem del_at : ∀ {L : List Pr}, Up L → ∀ {x : Int}, hasL L x = true → delL L x = L.take (posL L x) ++ L.drop (posL L x + 1)
  | [], _, x, h => by simp [hasL] at h
  | p :: l, hu, x, h => by
    obtain ⟨hp, hl⟩ := List.pairwise_cons.1 hu
    by_cases hlt : p.id < x
    · have : hasL l x = true := by
        obtain ⟨r, hr, e⟩ := hasL_iff.1 h
        rcases List.mem_cons.1 hr with f | hr'
        · subst f; omega
        · exact hasL_iff.2 ⟨r, hr', e⟩
      have h1 : delL (p :: l) x = p :: delL l x := by unfold delL; simp [show ¬ p.id = x by omega]
      have h2 : posL (p :: l) x = posL l x + 1 := by show (if p.id < x then _ else _) = _; rw [if_pos hlt]
      rw [h1, h2, del_at hl this]
      rfl
    · have hpe : p.id = x := by
        obtain ⟨r, hr, e⟩ := hasL_iff.1 h
        rcases List.mem_cons.1 hr with f | hr'
        · subst f; exact e
        · have := hp r hr'; omega
      have h2 : posL (p :: l) x = 0 := by show (if p.id < x then _ else _) = _; rw [if_neg hlt]
      have h3 : delL l x = l := del_none (hasL_no.2 fun r hr => by have := hp r hr; omega)
      have h1 : delL (p :: l) x = delL l x := by unfold delL; simp [hpe]
      rw [h1, h2, h3]
      rfl
theorem has_del {L : List Pr} {x y : Int} : hasL (delL L x) y = (hasL L y && !decide (y = x)) := by
  rw [Bool.eq_iff_iff, hasL_iff, Bool.and_eq_true, hasL_iff]
  simp only [Bool.not_eq_true', decide_eq_false_iff_not]
  constructor
  · rintro ⟨p, hp, e⟩
    obtain ⟨h1, h2⟩ := mem_del.1 hp
    exact ⟨⟨p, h1, e⟩, by omega⟩
  · rintro ⟨⟨p, hp, e⟩, h⟩
    exact ⟨p, mem_del.2 ⟨hp, by omega⟩, e⟩
theorem len_del {L : List Pr} (hu : Up L) {x : Int} : (delL L x).length + (if hasL L x then 1 else 0) = L.length := by
  cases h : hasL L x
  · rw [del_none h]; simp
  · rw [del_at hu h]
    have := pos_has hu h
    simp
    omega

/-! ### the calls -/
def addE (L : List Pr) (x t : Int) : Int := if isIdB x = true ∧ isTimeB t = true then (if hasL L x = true then 32 else if L.length = 16 then 31 else 0) else 10
def addL (L : List Pr) (x t : Int) : List Pr := if addE L x t = 0 then insL L ⟨x, t, false, 0⟩ else L
def metE (L : List Pr) (x t : Int) : Int := if isIdB x = true ∧ isTimeB t = true then (if hasL L x = true then 0 else 30) else 10
def pongP (p : Pr) (t : Int) : Pr := ⟨p.id, max p.last t, false, 0⟩
def pongL (L : List Pr) (x t : Int) : List Pr := if metE L x t = 0 then insL L (pongP (getL L x) t) else L

theorem addE_form {L : List Pr} {x t : Int} (h : isIdB x = false ∨ isTimeB t = false) : addE L x t = 10 := by
  unfold addE; rw [if_neg]; rintro ⟨h1, h2⟩; rcases h with h | h <;> simp_all
theorem addE_known {L : List Pr} {x t : Int} (h1 : isIdB x = true) (h2 : isTimeB t = true) (h : hasL L x = true) : addE L x t = 32 := by unfold addE; simp [h1, h2, h]
theorem addE_full {L : List Pr} {x t : Int} (h1 : isIdB x = true) (h2 : isTimeB t = true) (h : hasL L x = false) (hl : L.length = 16) : addE L x t = 31 := by unfold addE; simp [h1, h2, h, hl]
theorem addE_ok {L : List Pr} {x t : Int} (h1 : isIdB x = true) (h2 : isTimeB t = true) (h : hasL L x = false) (hl : L.length ≠ 16) : addE L x t = 0 := by unfold addE; simp [h1, h2, h, hl]
theorem addE_zero {L : List Pr} {x t : Int} (h : addE L x t = 0) : isIdB x = true ∧ isTimeB t = true ∧ hasL L x = false ∧ L.length ≠ 16 := by
  unfold addE at h
  split at h
  · rename_i hc
    split at h
    · cases h
    · split at h
      · cases h
      · rename_i h1 h2
        exact ⟨hc.1, hc.2, by simpa using h1, h2⟩
  · cases h
theorem addL_ok {L : List Pr} {x t : Int} (h : addE L x t = 0) : addL L x t = insL L ⟨x, t, false, 0⟩ := if_pos h
theorem addL_no {L : List Pr} {x t : Int} (h : addE L x t ≠ 0) : addL L x t = L := if_neg h
theorem Good.ins {L : List Pr} (h : Good L) {q : Pr} (hq : okPr q) (hl : hasL L q.id = true ∨ L.length ≠ 16) : Good (insL L q) := by
  refine ⟨up_ins h.up q, fun r hr => ?_, ?_⟩
  · rcases (mem_ins h.up).1 hr with ⟨h1, _⟩ | rfl
    · exact h.ok r h1
    · exact hq
  · rw [len_ins h.up]
    have := h.len
    rcases hl with hl | hl
    · rw [hl]; simpa using this
    · split <;> omega
theorem Good.del {L : List Pr} (h : Good L) (x : Int) : Good (delL L x) :=
  ⟨h.up.filter _, fun p hp => h.ok p (mem_del.1 hp).1, Nat.le_trans (List.length_filter_le _ _) h.len⟩
theorem Good.add {L : List Pr} (h : Good L) {x t : Int} (he : addE L x t = 0) : Good (insL L ⟨x, t, false, 0⟩) := by
  obtain ⟨h1, h2, h3, h4⟩ := addE_zero he
  exact h.ins ⟨in_id h1, in_time h2, by show (0 : Int) ≤ 0 ∧ (0 : Int) ≤ _; omega, fun _ => rfl⟩ (.inr h4)
/-! ### who is such -/
def whoL (L : List Pr) (f : Pr → Bool) : List Int := (L.filter f).map Pr.id
def lateB (T now : Int) (p : Pr) : Bool := p.waits && decide (p.since + T < now)
/-! ### sorted lists -/
/-! ### two lists with the same members -/
/-- a step of a play -/
structure St where
  how : Int
  id : Int
  t : Int
end Go.Proofs.YteoodompphhkbaaGreatDoor.Wat

/- Law -/
namespace Go.Proofs.YteoodompphhkbaaGreatDoor.Wat
set_option maxRecDepth 100000
open Go.RowKit Go.ChangeShapes Go.WideShapes Go.ChangeAt Go.WideElems

section
variable {H : Type} {enc : TypeId × Value → H} {P : Program}
end
end Go.Proofs.YteoodompphhkbaaGreatDoor.Wat

/- Ints -/
namespace Go.Proofs.YteoodompphhkbaaGreatDoor.Wat
set_option maxRecDepth 100000
open Go.RowKit Go.ChangeShapes Go.WideShapes Go.ChangeAt Go.WideElems

def zints (l : List Int) : List Value := l.map fun z => Value.int .i64 z
theorem wf_i64 {z : Int} (h : (Lit.int .i64 z).wf = true) : -9223372036854775808 ≤ z ∧ z ≤ 9223372036854775807 := by
  have e1 : IntKind.i64.min = -9223372036854775808 := by decide
  simp [Lit.wf] at h
  rw [e1] at h
  exact h

section
variable {H : Type} {enc : TypeId × Value → H} {P : Program}
end
end Go.Proofs.YteoodompphhkbaaGreatDoor.Wat

/- Map -/
namespace Go.Proofs.YteoodompphhkbaaGreatDoor.Wat
set_option maxRecDepth 100000
open Go.RowKit Go.Lib Go.Maps

def inInt (z : Int) : Prop := -9223372036854775808 ≤ z ∧ z ≤ 9223372036854775807
abbrev Dm := DataW Unit
theorem keyed : Keyed Tryz.prog 3 := int_keyed Tryz.underlying3
theorem wf_of {x : Int} (h : inInt x) : (Lit.int .i64 x).wf = true := WalkArith.wf_i64 h
/-- what an id reads as, as a key -/
def kl (x : Int) : Lit := .int .i64 x
theorem keyOf_int {x : Int} (h : inInt x) : keyOf Tryz.prog 3 (.int .i64 x) = some (kl x) := keyOf_int_mk Tryz.underlying3 (wf_of h)
theorem kl_inj {x y : Int} (h : kl x = kl y) : x = y := by unfold kl at h; injection h
theorem kl_key (x : Int) : WideAt.IsKeyLit (kl x) := by simp [kl, WideAt.IsKeyLit]

/-- a peer as the program's map holds it -/
abbrev vPr (p : Pr) : Value := .agg #[.int .i64 p.last, .bool p.waits, .int .i64 p.since]
def datP (p : Pr) : Dm := .agg [.lit (.int .i64 p.last), .lit (.bool p.waits), .lit (.int .i64 p.since)]
/-- how it reads -/
def prElem (v : Value) : Option (Dm × List MemPlace) :=
  match v with
  | .agg ⟨[.int .i64 l, .bool b, .int .i64 s]⟩ => some (.agg [.lit (.int .i64 l), .lit (.bool b), .lit (.int .i64 s)], [])
  | _ => none
theorem prElem_mk (p : Pr) : prElem (vPr p) = some (datP p, []) := rfl
theorem prElem_inv {v : Value} {z : Dm × List MemPlace} (h : prElem v = some z) : ∃ l b s, v = .agg #[.int .i64 l, .bool b, .int .i64 s] ∧ z = (.agg [.lit (.int .i64 l), .lit (.bool b), .lit (.int .i64 s)], []) := by
  unfold prElem at h
  split at h
  · rename_i l b s
    cases h
    exact ⟨l, b, s, rfl, rfl⟩
  · cases h
theorem prElem_of {v : Value} {p : Pr} {ps : List MemPlace} (h : prElem v = some (datP p, ps)) : v = vPr p := by
  obtain ⟨l, b, s, rfl, hz⟩ := prElem_inv h
  unfold datP at hz
  simp at hz
  obtain ⟨⟨h1, h2, h3⟩, _⟩ := hz
  rw [← h1, ← h2, ← h3]
theorem zero_pr (w : World) : (zeroValue 193).run Tryz.prog w = .ok (.agg #[.int .i64 0, .bool false, .int .i64 0]) w := by kernel_rfl
theorem zero_read : prElem (.agg #[.int .i64 0, .bool false, .int .i64 0]) = some (datP ⟨0, 0, false, 0⟩, []) := rfl

/-! ### a datum and the list of its peers -/
structure Agr (D : Dm) (L : List Pr) : Prop where
  at_ : ∀ p ∈ L, ∀ z, D.atKey (kl p.id) z = datP p
  has_ : ∀ x, inInt x → Maps.has D (kl x) = hasL L x
  size : Maps.size D = L.length
theorem agr_nil : Agr (.map []) [] := ⟨fun r hr => (by cases hr), fun a _ => rfl, rfl⟩
theorem Agr.look {D : Dm} {L : List Pr} (h : Agr D L) {x : Int} (hx : inInt x) : D.atKey (kl x) (datP ⟨0, 0, false, 0⟩) = datP (getL L x) := by
  cases hh : hasL L x
  · rw [atKey_of_not_has (by rw [h.has_ x hx, hh]), get_no hh]; rfl
  · obtain ⟨h1, h2⟩ := get_mem hh
    have := h.at_ _ h1 (datP ⟨0, 0, false, 0⟩)
    rwa [h2] at this
theorem Agr.put {D : Dm} {L : List Pr} (h : Agr D L) (hT : Tidy D) (hu : Up L) {q : Pr} (hq : inInt q.id) : Agr (D.put (kl q.id) (datP q)) (insL L q) := by
  refine ⟨fun r hr z => ?_, fun x hx => ?_, ?_⟩
  · rcases (mem_ins hu).1 hr with ⟨h1, h2⟩ | rfl
    · rw [atKey_put_other (fun e => h2 (kl_inj e))]
      exact h.at_ r h1 z
    · exact atKey_put_same hT.isMap (kl_key _) _ _
  · rw [has_ins hu]
    by_cases e : q.id = x
    · subst e
      rw [has_put_same hT.isMap (kl_key _)]
      simp
    · rw [has_put_other (fun e' => e (kl_inj e').symm), h.has_ x hx]
      simp [e]
  · rw [size_put hT, h.has_ _ hq, h.size, len_ins hu]
theorem Agr.del {D : Dm} {L : List Pr} (h : Agr D L) (hT : Tidy D) (hu : Up L) {x : Int} (hx : inInt x) : Agr (D.del (kl x)) (delL L x) := by
  refine ⟨fun r hr z => ?_, fun y hy => ?_, ?_⟩
  · obtain ⟨h1, h2⟩ := mem_del.1 hr
    rw [atKey_del_other (fun e => h2 (kl_inj e))]
    exact h.at_ r h1 z
  · rw [has_del]
    by_cases e : y = x
    · subst e
      rw [has_del_same]
      simp
    · rw [has_del_other (fun e' => e (kl_inj e')), h.has_ y hy]
      simp [e]
  · have h1 := size_del (k := kl x) hT
    rw [h.has_ x hx, h.size] at h1
    have h2 := len_del hu (x := x)
    omega

/-- a map of peers in a block -/
def MapAt (w : World) (b : Nat) (L : List Pr) : Prop := ∃ D : Dm, w.ownsMap Tryz.prog 3 prElem b L.length D ∧ Agr D L
theorem own_tight {w : World} {b n : Nat} {D : Dm} {R : Value → Option (Dm × List MemPlace)} (h : w.ownsMap Tryz.prog 3 R b n D) : w.ownsMap Tryz.prog 3 R b (Maps.size D) D := by
  obtain ⟨es, clock, hb, F, hs, rfl⟩ := h
  exact ⟨es, clock, hb, F, by simp [Maps.size, length_sorted], rfl⟩
theorem map_new (w : World) : MapAt (w.alloc (.map #[] 0)) w.heap.size [] := ⟨.map [], World.ownsMap_made _ _ _ _, agr_nil⟩
section
variable {w w' : World} {b : Nat} {L : List Pr}
theorem MapAt.lt (h : MapAt w b L) : b < w.heap.size := by obtain ⟨D, h, _⟩ := h; exact h.lt
theorem MapAt.kept {row : Option Nat} (h : MapAt w b L) (hg : w.grownBy w' row) (hne : some b ≠ row) : MapAt w' b L := by
  obtain ⟨D, h, r⟩ := h; exact ⟨D, h.kept hg hne, r⟩
theorem MapAt.look_ok (h : MapAt w b L) {x : Int} (hx : inInt x) :
    (Instr.lookup 165 (.map (some b)) (.int .i64 x) true).run Tryz.prog w = .ok (.tuple #[vPr (getL L x), .bool (hasL L x)]) w := by
  obtain ⟨D, h, r⟩ := h
  obtain ⟨v, ps, hrun, hv⟩ := h.look_ok keyed Tryz.underlying165 (zero_pr _) zero_read (keyOf_int hx)
  rw [r.look hx] at hv
  rw [hrun, prElem_of hv, r.has_ x hx]
theorem MapAt.look (h : MapAt w b L) {x : Int} (hx : inInt x) :
    (Instr.lookup 165 (.map (some b)) (.int .i64 x) false).run Tryz.prog w = .ok (vPr (getL L x)) w := by
  obtain ⟨D, h, r⟩ := h
  obtain ⟨v, ps, hrun, hv⟩ := h.lookup keyed Tryz.underlying165 (zero_pr _) zero_read (keyOf_int hx)
  rw [r.look hx] at hv
  rw [hrun, prElem_of hv]
theorem MapAt.store (h : MapAt w b L) (hu : Up L) (hlen : L.length < 1000) {q : Pr} (hq : inInt q.id) :
    ∃ w', (Instr.mapUpdate 165 (.map (some b)) (.int .i64 q.id) (vPr q)).run Tryz.prog w = .ok () w' ∧ MapAt w' b (insL L q) ∧ w.grownBy w' (some b) := by
  obtain ⟨D, h, r⟩ := h
  obtain ⟨w', hrun, hown, hg⟩ := h.update keyed Tryz.underlying165 (by unfold maxLen; omega) (keyOf_int hq) (prElem_mk q)
  have hagr := r.put (h.tidy keyed) hu hq
  refine ⟨w', hrun, ⟨_, ?_, hagr⟩, hg⟩
  rw [← hagr.size]
  exact own_tight hown
theorem MapAt.del (h : MapAt w b L) (hu : Up L) {x : Int} (hx : inInt x) (ty : TypeId) :
    ∃ w', (Builtin.delete_ #[165, 3] ty #[.map (some b), .int .i64 x]).run Tryz.prog w = .ok (.tuple #[]) w' ∧ MapAt w' b (delL L x) ∧ w.grownBy w' (some b) := by
  obtain ⟨D, h, r⟩ := h
  obtain ⟨w', hrun, hown, hg⟩ := h.drop keyed Tryz.underlying165 (keyOf_int hx) ty
  have hagr := r.del (h.tidy keyed) hu hx
  refine ⟨w', hrun, ⟨_, ?_, hagr⟩, hg.grown⟩
  rw [← hagr.size]
  exact own_tight hown
end
/-- a map lies in no block that holds cells -/
theorem Blk.map_ne {w : World} {g b : Nat} {t : TypeId} {cs : Array Value} {L : List Pr} (h : Blk w g t cs) (hs : MapAt w b L) : g ≠ b := by
  intro e
  obtain ⟨D, ⟨es, clock, hh, _⟩, _⟩ := hs
  unfold Blk at h
  rw [e, hh] at h
  cases h
theorem cell_map_ne {w : World} {a : Addr} {v : Value} {b : Nat} {L : List Pr} (h : w.cell? a = some v) (hs : MapAt w b L) : a.block ≠ b := by
  intro e
  obtain ⟨D, ⟨es, clock, hh, _⟩, _⟩ := hs
  unfold World.cell? at h
  rw [e, hh] at h
  simp at h
end Go.Proofs.YteoodompphhkbaaGreatDoor.Wat

/- Mem -/
namespace Go.Proofs.YteoodompphhkbaaGreatDoor.Wat
set_option maxRecDepth 100000
open Go.RowKit Go.ChangeShapes Go.WideShapes Go.ChangeAt Go.WideElems

theorem add_succ (x : Addr) (j : Nat) : x.add (j + 1) = ⟨x.block, x.off + (j + 1), none⟩ := by unfold Addr.add; rw [if_neg (by omega)]

/-- the slice value '.slice A n c' holds the steps l, in a block that is there -/
def ActsAt (w : World) (A : Option Addr) (n : Nat) (l : List St) : Prop :=
  l.length = n ∧ (0 < n → ∃ ad, A = some ad ∧ ad.block < w.heap.size ∧ ∀ i s, l[i]? = some s → w.cell? (ad.add (i * 3)) = some (.int .i64 s.how) ∧ w.cell? (ad.add (i * 3 + 1)) = some (.int .i64 s.id) ∧ w.cell? (ad.add (i * 3 + 2)) = some (.int .i64 s.t))
theorem ActsAt.below {w w' : World} {A : Option Addr} {n : Nat} {l : List St} (h : ActsAt w A n l) (hb : Below w.heap.size w w') : ActsAt w' A n l :=
  ⟨h.1, fun hn => by
    obtain ⟨ad, e, hlt, hc⟩ := h.2 hn
    refine ⟨ad, e, Nat.lt_of_lt_of_le hlt hb.size, fun i s hs => ?_⟩
    obtain ⟨c0, c1, c2⟩ := hc i s hs
    exact ⟨(hb.cell (by rw [block_of_add]; exact hlt)).trans c0, (hb.cell (by rw [block_of_add]; exact hlt)).trans c1, (hb.cell (by rw [block_of_add]; exact hlt)).trans c2⟩⟩
theorem ActsAt.at_ {w : World} {A : Option Addr} {n k : Nat} {l : List St} (h : ActsAt w A n l) (hk : k < n) :
    ∃ ad s, A = some ad ∧ l[k]? = some s ∧ ad.block < w.heap.size ∧ w.cell? (ad.add (k * 3)) = some (.int .i64 s.how) ∧ w.cell? ⟨(ad.add (k * 3)).block, (ad.add (k * 3)).off + 1, none⟩ = some (.int .i64 s.id) ∧ w.cell? ⟨(ad.add (k * 3)).block, (ad.add (k * 3)).off + 2, none⟩ = some (.int .i64 s.t) := by
  obtain ⟨ad, e, hlt, hc⟩ := h.2 (by omega)
  have hl : k < l.length := by have := h.1; omega
  obtain ⟨c0, c1, c2⟩ := hc k _ (List.getElem?_eq_getElem hl)
  rw [← add_of_add, add_succ] at c1 c2
  exact ⟨ad, l[k], e, List.getElem?_eq_getElem hl, hlt, c0, c1, c2⟩
section
variable {H : Type} {enc : TypeId × Value → H}
end

/-! ### slices of peers -/
def encP (r : Pr) : List Value := [.int .i64 r.id, .int .i64 r.since, .int .i64 r.last, .bool r.waits]
def flatP (l : List Pr) : List Value := l.flatMap encP
theorem flat_at : ∀ {l : List Pr} {j : Nat} {u : Value}, (flatP l)[j]? = some u → ∃ i r, l[i]? = some r ∧ ((j = i * 4 ∧ u = .int .i64 r.id) ∨ (j = i * 4 + 1 ∧ u = .int .i64 r.since) ∨ (j = i * 4 + 2 ∧ u = .int .i64 r.last) ∨ (j = i * 4 + 3 ∧ u = .bool r.waits))
  | [], j, u, h => by simp [flatP] at h
  | x :: l, 0, u, h => by simp [flatP, encP] at h; exact ⟨0, x, rfl, .inl ⟨rfl, h.symm⟩⟩
  | x :: l, 1, u, h => by simp [flatP, encP] at h; exact ⟨0, x, rfl, .inr (.inl ⟨rfl, h.symm⟩)⟩
  | x :: l, 2, u, h => by simp [flatP, encP] at h; exact ⟨0, x, rfl, .inr (.inr (.inl ⟨rfl, h.symm⟩))⟩
  | x :: l, 3, u, h => by simp [flatP, encP] at h; exact ⟨0, x, rfl, .inr (.inr (.inr ⟨rfl, h.symm⟩))⟩
  | x :: l, j + 4, u, h => by
    obtain ⟨i, r, hi, h⟩ := flat_at (l := l) (j := j) (u := u) h
    refine ⟨i + 1, r, by simpa using hi, ?_⟩
    rcases h with ⟨e, h⟩ | ⟨e, h⟩ | ⟨e, h⟩ | ⟨e, h⟩
    · exact .inl ⟨by omega, h⟩
    · exact .inr (.inl ⟨by omega, h⟩)
    · exact .inr (.inr (.inl ⟨by omega, h⟩))
    · exact .inr (.inr (.inr ⟨by omega, h⟩))

/-- the slice value '.slice A n c' holds the peers l, in a block that is there -/
def PrsAt (w : World) (A : Option Addr) (n : Nat) (l : List Pr) : Prop :=
  l.length = n ∧ (0 < n → ∃ ad, A = some ad ∧ ad.block < w.heap.size ∧ ∀ i s, l[i]? = some s → w.cell? (ad.add (i * 4)) = some (.int .i64 s.id) ∧ w.cell? (ad.add (i * 4 + 1)) = some (.int .i64 s.since) ∧ w.cell? (ad.add (i * 4 + 2)) = some (.int .i64 s.last) ∧ w.cell? (ad.add (i * 4 + 3)) = some (.bool s.waits))

section
variable {w w' : World} {A : Option Addr} {ad : Addr} {n k : Nat} {l : List Pr}
theorem PrsAt.below (h : PrsAt w A n l) (hb : Below w.heap.size w w') : PrsAt w' A n l :=
  ⟨h.1, fun hn => by
    obtain ⟨ad, e, hlt, hc⟩ := h.2 hn
    refine ⟨ad, e, Nat.lt_of_lt_of_le hlt hb.size, fun i s hs => ?_⟩
    obtain ⟨c0, c1, c2, c3⟩ := hc i s hs
    exact ⟨(hb.cell (by rw [block_of_add]; exact hlt)).trans c0, (hb.cell (by rw [block_of_add]; exact hlt)).trans c1, (hb.cell (by rw [block_of_add]; exact hlt)).trans c2, (hb.cell (by rw [block_of_add]; exact hlt)).trans c3⟩⟩
theorem PrsAt.at_ (h : PrsAt w A n l) (hk : k < n) :
    ∃ ad s, A = some ad ∧ l[k]? = some s ∧ ad.block < w.heap.size ∧ w.cell? (ad.add (k * 4)) = some (.int .i64 s.id) ∧ w.cell? ⟨(ad.add (k * 4)).block, (ad.add (k * 4)).off + 1, none⟩ = some (.int .i64 s.since) ∧ w.cell? ⟨(ad.add (k * 4)).block, (ad.add (k * 4)).off + 2, none⟩ = some (.int .i64 s.last) ∧ w.cell? ⟨(ad.add (k * 4)).block, (ad.add (k * 4)).off + 3, none⟩ = some (.bool s.waits) := by
  obtain ⟨ad, e, hlt, hc⟩ := h.2 (by omega)
  have hl : k < l.length := by have := h.1; omega
  obtain ⟨c0, c1, c2, c3⟩ := hc k _ (List.getElem?_eq_getElem hl)
  rw [← add_of_add, add_succ] at c1 c2 c3
  exact ⟨ad, l[k], e, List.getElem?_eq_getElem hl, hlt, c0, c1, c2, c3⟩
theorem PrsAt.cells (h : PrsAt w (some ad) n l) : ∀ j u, (flatP l)[j]? = some u → w.cell? (ad.add j) = some u := fun j u hu => by
  obtain ⟨i, r, hi, hr⟩ := flat_at hu
  have hn : 0 < n := by have := h.1; have := (List.getElem?_eq_some_iff.1 hi).1; omega
  obtain ⟨ad', e, _, hc⟩ := h.2 hn
  cases e
  obtain ⟨c0, c1, c2, c3⟩ := hc i r hi
  rcases hr with ⟨rfl, rfl⟩ | ⟨rfl, rfl⟩ | ⟨rfl, rfl⟩ | ⟨rfl, rfl⟩
  · exact c0
  · exact c1
  · exact c2
  · exact c3
end

section
variable {P : Program} (w : World)
end
theorem PrsAt.take {w : World} {A : Option Addr} {n k : Nat} {l : List Pr} (h : PrsAt w A n l) (hk : k ≤ n) : PrsAt w A k (l.take k) :=
  ⟨by rw [List.length_take, h.1]; omega, fun hn => by
    obtain ⟨ad, e, hlt, hc⟩ := h.2 (by omega)
    refine ⟨ad, e, hlt, fun i s hs => hc i s ?_⟩
    rw [List.getElem?_take] at hs
    split at hs <;> simp_all⟩
theorem PrsAt.drop {w : World} {A : Option Addr} {n k c : Nat} {l : List Pr} (h : PrsAt w A n l) (hk : k ≤ n) (hc : n ≤ c) : PrsAt w (if c = k then A else A.map (·.add (k * 4))) (n - k) (l.drop k) := by
  refine ⟨by rw [List.length_drop, h.1], fun hn => ?_⟩
  obtain ⟨ad, rfl, hlt, hcell⟩ := h.2 (by omega)
  rw [if_neg (by omega)]
  refine ⟨ad.add (k * 4), rfl, by rw [block_of_add]; exact hlt, fun i s hs => ?_⟩
  rw [List.getElem?_drop] at hs
  obtain ⟨c0, c1, c2, c3⟩ := hcell _ s hs
  rw [add_of_add, add_of_add, add_of_add, add_of_add, show k * 4 + i * 4 = (k + i) * 4 by omega, show k * 4 + (i * 4 + 1) = (k + i) * 4 + 1 by omega, show k * 4 + (i * 4 + 2) = (k + i) * 4 + 2 by omega, show k * 4 + (i * 4 + 3) = (k + i) * 4 + 3 by omega]
  exact ⟨c0, c1, c2, c3⟩
/-- a slice of peers stays where a map is written -/
theorem PrsAt.kept {w w' : World} {A : Option Addr} {n b : Nat} {l L : List Pr} (h : PrsAt w A n l) (hm : MapAt w b L) (hg : w.grownBy w' (some b)) : PrsAt w' A n l :=
  ⟨h.1, fun hn => by
    obtain ⟨ad, e, hlt, hc⟩ := h.2 hn
    have hl : 0 < l.length := by rw [h.1]; exact hn
    have hne : ad.block ≠ b := by
      have := cell_map_ne (hc 0 l[0] (List.getElem?_eq_getElem hl)).1 hm
      rwa [block_of_add] at this
    have hk : ∀ j u, w.cell? (ad.add j) = some u → w'.cell? (ad.add j) = some u := fun j u hu =>
      (World.cell?_of_block (hg.block (ad.add j).block (by rw [block_of_add]; exact hlt) (fun e => hne (by rw [block_of_add] at e; injection e)))).trans hu
    refine ⟨ad, e, Nat.lt_of_lt_of_le hlt hg.size, fun i s hs => ?_⟩
    obtain ⟨c0, c1, c2, c3⟩ := hc i s hs
    exact ⟨hk _ _ c0, hk _ _ c1, hk _ _ c2, hk _ _ c3⟩⟩

/-! ### one of an own row's peers is written -/
section
variable {P : Program} (w : World)
end
end Go.Proofs.YteoodompphhkbaaGreatDoor.Wat

/- Watch -/
namespace Go.Proofs.YteoodompphhkbaaGreatDoor.Wat
set_option maxRecDepth 100000
open Go.RowKit Go.Lib Go.Maps

/-- block g is a watch of that timeout, whose peers lie in the map of block b -/
structure Wt (w : World) (g b : Nat) (T : Int) (L : List Pr) : Prop where
  row : Blk w g 167 #[.int .i64 T, .map (some b)]
  map : MapAt w b L
  good : Good L
  to : 2 ≤ T ∧ T ≤ 1073741824
section
variable {w w' : World} {g b : Nat} {T : Int} {L : List Pr}
theorem Wt.lt (h : Wt w g b T L) : g < w.heap.size := h.row.lt
theorem Wt.ltb (h : Wt w g b T L) : b < w.heap.size := h.map.lt
theorem Wt.ne (h : Wt w g b T L) : g ≠ b := h.row.map_ne h.map
theorem Wt.ne' (h : Wt w g b T L) : some g ≠ some b := by have := h.ne; simpa using this
theorem Wt.below (h : Wt w g b T L) (hb : Below w.heap.size w w') : Wt w' g b T L :=
  ⟨h.row.below hb h.lt, h.map.kept (only_of_below hb none) (by simp), h.good, h.to⟩
theorem Wt.kept {row : Option Nat} (h : Wt w g b T L) (hg : w.grownBy w' row) (h1 : some g ≠ row) (h2 : some b ≠ row) : Wt w' g b T L :=
  ⟨h.row.grown hg h1, h.map.kept hg h2, h.good, h.to⟩
theorem Wt.c0 (h : Wt w g b T L) : w.cell? ⟨g, 0, none⟩ = some (.int .i64 T) := by have := h.row.cell 0; simpa using this
theorem Wt.c1 (h : Wt w g b T L) : w.cell? ⟨g, 1, none⟩ = some (.map (some b)) := by have := h.row.cell 1; simpa using this
theorem Wt.len (h : Wt w g b T L) : L.length < 1000 := by have := h.good.len; omega
end
/-! ### the map's operations in a walk -/
section
variable (w : World) {ops : Array Oper} {rest : List Oper} {o : Oper} {a : Act} {Q : Exit → Act → World → Prop}
theorem wpList_look_ok (hg : o.guard = none) (m x : Operand) (hop : o.op = Op.lookup 165 m x true) (b : Nat) (L : List Pr) (id : Int) (p : Pr) (q : Bool)
    (hm : a.eval m = .map (some b)) (hx : a.eval x = .int .i64 id) (h : MapAt w b L) (hi : inInt id) (hp : getL L id = p) (hq : hasL L id = q)
    (hK : wpList Tryz.prog ops Q rest (a.put o.dst (.tuple #[vPr p, .bool q])) w) : wpList Tryz.prog ops Q (o :: rest) a w := by
  refine wpList_plain hg fun K' hK' => ?_
  have hrun := h.look_ok hi
  rw [hp, hq] at hrun
  unfold Oper.wp
  simp [execOp, hop, hm, hx, hrun, Result.andThen]
  exact hK' _ _ hK
theorem wpList_len_map (hg : o.guard = none) (m : Operand) (hop : o.op = Op.call { callee := Callee.builtin Builtin.len, args := #[m], argTypes := #[165] }) (b : Nat) (L : List Pr)
    (hm : a.eval m = .map (some b)) (h : MapAt w b L) (hK : wpList Tryz.prog ops Q rest (a.put o.dst (.int .i64 (L.length : Int))) w) : wpList Tryz.prog ops Q (o :: rest) a w := by
  obtain ⟨D, hown, hag⟩ := h
  refine wpList_len_own w hg m _ hop 3 193 Tryz.underlying165 prElem b L.length D hm hown ?_
  rw [hag.size]
  exact hK
theorem wpList_update_map (hg : o.guard = none) (m x v : Operand) (hop : o.op = Op.mapUpdate 165 m x v) (b : Nat) (L : List Pr) (q : Pr)
    (hm : a.eval m = .map (some b)) (hx : a.eval x = .int .i64 q.id) (hv : a.eval v = vPr q) (h : MapAt w b L) (hu : Up L) (hlen : L.length < 1000) (hi : inInt q.id)
    (hK : ∀ w', MapAt w' b (insL L q) → w.grownBy w' (some b) → wpList Tryz.prog ops Q rest (a.put o.dst undef) w') : wpList Tryz.prog ops Q (o :: rest) a w := by
  refine wpList_plain hg fun K' hK' => ?_
  obtain ⟨w', hrun, r1, r2⟩ := h.store hu hlen hi
  unfold Oper.wp
  simp [execOp, hop, hm, hx, hv, hrun, Result.andThen]
  exact hK' _ _ (hK w' r1 r2)
end

theorem isid_any (x : Int) (w : World) :
    Calls Tryz.prog 169 #[.int .i64 x] w fun e w' => e = .returned (.bool (isIdB x)) ∧ w = w' := by
  by_cases h1 : 1 ≤ x
  · by_cases h2 : x ≤ 4294967296
    · have HX : Hid (isIdB x = true) := by show _ = _; unfold isIdB; simp [h1, h2]
      go_enter Tryz.func169, Tryz.ntmps169
      go_wp2
      go_ret
      exact ⟨by rw [HX.out]; rfl, rfl⟩
    · have HX : Hid (isIdB x = false) := by show _ = _; unfold isIdB; simp [h2]
      have h3 : decide (x ≤ 4294967296) = false := by simp; omega
      clear h2
      go_enter Tryz.func169, Tryz.ntmps169
      go_wp2
      go_ret
      exact ⟨by rw [HX.out]; rfl, rfl⟩
  · have HX : Hid (isIdB x = false) := by show _ = _; unfold isIdB; simp [h1]
    have h3 : x < 1 := by omega
    clear h1
    go_enter Tryz.func169, Tryz.ntmps169
    go_wp2
    go_ret
    exact ⟨by rw [HX.out]; rfl, rfl⟩
theorem istime_any (x : Int) (w : World) :
    Calls Tryz.prog 170 #[.int .i64 x] w fun e w' => e = .returned (.bool (isTimeB x)) ∧ w = w' := by
  by_cases h1 : 0 ≤ x
  · by_cases h2 : x ≤ 1099511627776
    · have HX : Hid (isTimeB x = true) := by show _ = _; unfold isTimeB; simp [h1, h2]
      go_enter Tryz.func170, Tryz.ntmps170
      go_wp2
      go_ret
      exact ⟨by rw [HX.out]; rfl, rfl⟩
    · have HX : Hid (isTimeB x = false) := by show _ = _; unfold isTimeB; simp [h2]
      have h3 : decide (x ≤ 1099511627776) = false := by simp; omega
      clear h2
      go_enter Tryz.func170, Tryz.ntmps170
      go_wp2
      go_ret
      exact ⟨by rw [HX.out]; rfl, rfl⟩
  · have HX : Hid (isTimeB x = false) := by show _ = _; unfold isTimeB; simp [h1]
    have h3 : x < 0 := by omega
    clear h1
    go_enter Tryz.func170, Tryz.ntmps170
    go_wp2
    go_ret
    exact ⟨by rw [HX.out]; rfl, rfl⟩

/-- a new watch -/
def Made (T : Int) (w : World) (e : Ending) (w' : World) : Prop :=
  ∃ g b, e = .returned (.tuple #[.pointer (some ⟨g, 0, none⟩), .int .i64 0]) ∧ Wt w' g b T [] ∧ Below w.heap.size w w' ∧ w.heap.size ≤ g ∧ w.heap.size ≤ b
theorem new_yes (T : Int) (w : World) (h1 : 2 ≤ T) (h2 : T ≤ 1073741824) : Calls Tryz.prog 43 #[.int .i64 T] w (Made T w) := by
  have hmm := @run_makeMap Tryz.prog
  go_enter Tryz.func43, Tryz.ntmps43
  go_wp2
  go_ret2
  have hblk : Blk ((w.alloc (.map #[] 0)).alloc (.cells #[.int .i64 T, .map (some w.heap.size)] 167)) (w.heap.size + 1) 167 #[.int .i64 T, .map (some w.heap.size)] := by
    have := Blk.new (w.alloc (.map #[] 0)) 167 #[.int .i64 T, .map (some w.heap.size)]
    simpa using this
  exact ⟨w.heap.size + 1, w.heap.size, rfl, ⟨hblk, (map_new w).kept (World.grownBy_alloc _ _ none) (by simp), Good.nil, h1, h2⟩,
    ((Below.refl _ _).alloc (Nat.le_refl _) _).alloc (by simp) _, by omega, Nat.le_refl _⟩
theorem has_any (g b : Nat) (T : Int) (L : List Pr) (x : Int) (w : World) (h : Wt w g b T L) (hx : inInt x) :
    Calls Tryz.prog 171 #[.pointer (some ⟨g, 0, none⟩), .int .i64 x] w (Says (hasL L x) w) := by
  obtain ⟨p, HP⟩ : ∃ p, Hid (getL L x = p) := ⟨_, Lib.hid rfl⟩
  obtain ⟨q, HQ⟩ : ∃ q, Hid (hasL L x = q) := ⟨_, Lib.hid rfl⟩
  have HH := Lib.hid h
  have HX := Lib.hid hx
  have c1 := h.c1
  clear h hx
  go_enter Tryz.func171, Tryz.ntmps171
  go_wp2_with (at_lookup; refine wpList_look_ok _ rfl _ _ rfl b L x p q rfl rfl HH.out.map HX.out HP.out HQ.out ?_)
  go_ret
  exact ⟨by rw [HQ.out]; rfl, (Below.refl _ _).alloc (Nat.le_refl _) _⟩

/-- what a call of a watch does: it tells n, and the peers are then L' -/
def Did (g b : Nat) (T : Int) (n : Int) (L' : List Pr) (w : World) (e : Ending) (w' : World) : Prop := e = .returned (.int .i64 n) ∧ Wt w' g b T L' ∧ w.grownBy w' (some b)

end Go.Proofs.YteoodompphhkbaaGreatDoor.Wat

/- Add -/
namespace Go.Proofs.YteoodompphhkbaaGreatDoor.Wat
set_option maxRecDepth 100000
open Go.RowKit Go.Lib Go.Maps

set_option maxHeartbeats 1000000 in
theorem add_form (g b : Nat) (T : Int) (L : List Pr) (x t : Int) (w : World) (h : Wt w g b T L) (h0 : isIdB x = false ∨ isTimeB t = false) :
    Calls Tryz.prog 96 #[.pointer (some ⟨g, 0, none⟩), .int .i64 x, .int .i64 t] w (Did g b T 10 L w) := by
  obtain ⟨b1, B1⟩ : ∃ b, Hid (isIdB x = b) := ⟨_, Lib.hid rfl⟩
  obtain ⟨b2, B2⟩ : ∃ b, Hid (isTimeB t = b) := ⟨_, Lib.hid rfl⟩
  have H0 : Hid (b1 = false ∨ b2 = false) := Lib.hid (by rw [← B1.out, ← B2.out]; exact h0)
  have HH := Lib.hid h
  clear h h0
  go_enter Tryz.func96, Tryz.ntmps96
  go_wp2_with (fail)
  refine (isid_any x _).mono ?_
  rintro e w1 ⟨rfl, rfl⟩
  rw [B1.out]
  cases b1
  · go_wp2
    go_ret
    exact ⟨rfl, HH.out, World.grownBy.refl _ _⟩
  · go_wp2_with (fail)
    refine (istime_any t _).mono ?_
    rintro e w1 ⟨rfl, rfl⟩
    rw [B2.out]
    cases b2
    · go_wp2
      go_ret
      exact ⟨rfl, HH.out, World.grownBy.refl _ _⟩
    · exact absurd H0.out (by decide)
set_option maxHeartbeats 1000000 in
theorem add_right (g b : Nat) (T : Int) (L : List Pr) (x t : Int) (w : World) (h : Wt w g b T L) (h1 : isIdB x = true) (h2 : isTimeB t = true) :
    Calls Tryz.prog 96 #[.pointer (some ⟨g, 0, none⟩), .int .i64 x, .int .i64 t] w (Did g b T (addE L x t) (addL L x t) w) := by
  have hix : inInt x := by have := in_id h1; unfold inInt; omega
  have HIX := Lib.hid hix
  have B1 := Lib.hid h1
  have B2 := Lib.hid h2
  obtain ⟨q, HQ⟩ : ∃ q, Hid (hasL L x = q) := ⟨_, Lib.hid rfl⟩
  have HH := Lib.hid h
  clear h h1 h2 hix
  cases q
  · by_cases hl : L.length = 16
    · have HE := Lib.hid (addE_full B1.out B2.out HQ.out hl)
      have HL : Hid (addL L x t = L) := Lib.hid (addL_no (by rw [HE.out]; decide))
      rw [HE.out, HL.out]
      have hl2 : ((L.length : Int) == 16) = true := by simp; omega
      clear hl
      go_enter Tryz.func96, Tryz.ntmps96
      go_wp2_with (fail)
      refine (isid_any x _).mono ?_
      rintro e w1 ⟨rfl, rfl⟩
      rw [B1.out]
      go_wp2_with (fail)
      refine (istime_any t _).mono ?_
      rintro e w1 ⟨rfl, rfl⟩
      rw [B2.out]
      go_wp2_with (fail)
      refine (has_any g b T L x _ HH.out HIX.out).mono ?_
      rintro e w1 ⟨rfl, hb1⟩
      rw [HQ.out]
      have K1 := Lib.hid (HH.out.below hb1)
      have HB1 := Lib.hid hb1
      have c1 := K1.out.c1
      clear hb1
      go_wp2_with (at_len; refine wpList_len_map _ rfl _ rfl b L rfl K1.out.map ?_)
      go_ret
      exact ⟨rfl, K1.out, only_of_below HB1.out _⟩
    · have HE := Lib.hid (addE_ok B1.out B2.out HQ.out hl)
      have HL := Lib.hid (addL_ok HE.out)
      have HG := Lib.hid (HH.out.good.add HE.out)
      rw [HE.out, HL.out]
      have hl2 : ((L.length : Int) == 16) = false := by simp; omega
      clear hl
      go_enter Tryz.func96, Tryz.ntmps96
      go_wp2_with (fail)
      refine (isid_any x _).mono ?_
      rintro e w1 ⟨rfl, rfl⟩
      rw [B1.out]
      go_wp2_with (fail)
      refine (istime_any t _).mono ?_
      rintro e w1 ⟨rfl, rfl⟩
      rw [B2.out]
      go_wp2_with (fail)
      refine (has_any g b T L x _ HH.out HIX.out).mono ?_
      rintro e w1 ⟨rfl, hb1⟩
      rw [HQ.out]
      have K1 := Lib.hid (HH.out.below hb1)
      have HB1 := Lib.hid hb1
      have c1 := K1.out.c1
      clear hb1
      go_wp2_with (first
        | (at_len; refine wpList_len_map _ rfl _ rfl b L rfl K1.out.map ?_)
        | (at_mapUpdate; refine wpList_update_map _ rfl _ _ _ rfl b L ⟨x, t, false, 0⟩ rfl rfl rfl K1.out.map K1.out.good.up K1.out.len HIX.out ?_; intro w2 hm2 hg2; have HM2 := Lib.hid hm2; have HG2 := Lib.hid hg2; clear hm2 hg2))
      go_ret
      exact ⟨rfl, ⟨K1.out.row.grown HG2.out K1.out.ne', HM2.out, HG.out, K1.out.to⟩, (only_of_below HB1.out _).trans HG2.out⟩
  · have HE := Lib.hid (addE_known B1.out B2.out HQ.out)
    have HL : Hid (addL L x t = L) := Lib.hid (addL_no (by rw [HE.out]; decide))
    rw [HE.out, HL.out]
    go_enter Tryz.func96, Tryz.ntmps96
    go_wp2_with (fail)
    refine (isid_any x _).mono ?_
    rintro e w1 ⟨rfl, rfl⟩
    rw [B1.out]
    go_wp2_with (fail)
    refine (istime_any t _).mono ?_
    rintro e w1 ⟨rfl, rfl⟩
    rw [B2.out]
    go_wp2_with (fail)
    refine (has_any g b T L x _ HH.out HIX.out).mono ?_
    rintro e w1 ⟨rfl, hb1⟩
    rw [HQ.out]
    have K1 := Lib.hid (HH.out.below hb1)
    have HB1 := Lib.hid hb1
    clear hb1
    go_wp2
    go_ret
    exact ⟨rfl, K1.out, only_of_below HB1.out _⟩
theorem add_any (g b : Nat) (T : Int) (L : List Pr) (x t : Int) (w : World) (h : Wt w g b T L) :
    Calls Tryz.prog 96 #[.pointer (some ⟨g, 0, none⟩), .int .i64 x, .int .i64 t] w (Did g b T (addE L x t) (addL L x t) w) := by
  by_cases hc : isIdB x = true ∧ isTimeB t = true
  · exact add_right g b T L x t w h hc.1 hc.2
  · have h0 : isIdB x = false ∨ isTimeB t = false := by
      by_cases h1 : isIdB x = true
      · exact .inr (by simpa using fun h2 => hc ⟨h1, h2⟩)
      · exact .inl (by simpa using h1)
    have he := addE_form (L := L) h0
    rw [he, addL_no (by rw [he]; decide)]
    exact add_form g b T L x t w h h0

end Go.Proofs.YteoodompphhkbaaGreatDoor.Wat

/- Met -/
namespace Go.Proofs.YteoodompphhkbaaGreatDoor.Wat
set_option maxRecDepth 100000
open Go.RowKit Go.Lib Go.Maps

/-- a variable of the program's peer type, that may be written -/
def Bx (w : World) (b : Nat) (p : Pr) : Prop := Blk w b 193 #[.int .i64 p.last, .bool p.waits, .int .i64 p.since]
section
variable {w w' : World} {b : Nat} {p : Pr}
theorem Bx.new (w : World) (p : Pr) {b : Nat} (hb : b = w.heap.size) : Bx (w.alloc (.cells #[.int .i64 p.last, .bool p.waits, .int .i64 p.since] 193)) b p := by subst hb; exact Blk.new _ _ _
theorem Bx.lt (h : Bx w b p) : b < w.heap.size := Blk.lt h
theorem Bx.alloc (h : Bx w b p) (o : Obj) : Bx (w.alloc o) b p := Blk.alloc h o
theorem Bx.kept {row : Option Nat} (h : Bx w b p) (hg : w.grownBy w' row) (hne : some b ≠ row) : Bx w' b p := Blk.grown h hg hne
theorem Bx.c0 (h : Bx w b p) : w.cell? ⟨b, 0, none⟩ = some (.int .i64 p.last) := Blk.cell h 0
theorem Bx.c1 (h : Bx w b p) : w.cell? ⟨b, 1, none⟩ = some (.bool p.waits) := Blk.cell h 1
theorem Bx.c2 (h : Bx w b p) : w.cell? ⟨b, 2, none⟩ = some (.int .i64 p.since) := Blk.cell h 2
theorem Bx.fz (h : Bx w b p) (i : Nat) : w.frozen? ⟨b, i, none⟩ = false := Blk.frozen h i
theorem Bx.store (h : Bx w b p) (s : Pr) : Bx (((w.setCell ⟨b, 0, none⟩ (.int .i64 s.last)).setCell ⟨b, 1, none⟩ (.bool s.waits)).setCell ⟨b, 2, none⟩ (.int .i64 s.since)) b s := by
  have h3 := ((Blk.set_ h 0 (.int .i64 s.last)).set_ 1 (.bool s.waits)).set_ 2 (.int .i64 s.since)
  exact h3
end
end Go.Proofs.YteoodompphhkbaaGreatDoor.Wat

/- Ping -/
namespace Go.Proofs.YteoodompphhkbaaGreatDoor.Wat
set_option maxRecDepth 100000
open Go.RowKit Go.Lib Go.Maps

end Go.Proofs.YteoodompphhkbaaGreatDoor.Wat

/- Append -/
namespace Go.Proofs.YteoodompphhkbaaGreatDoor.Wat
set_option maxRecDepth 100000
open Go.RowKit

section
variable {P : Program} (w : World)
end

end Go.Proofs.YteoodompphhkbaaGreatDoor.Wat

/- Those -/
namespace Go.Proofs.YteoodompphhkbaaGreatDoor.Wat
set_option maxRecDepth 100000
open Go.RowKit Go.Lib Go.Maps

/-- a list of numbers is handed back, in memory of its own -/
def Lists (l : List Int) (w : World) (e : Ending) (w' : World) : Prop :=
  Below w.heap.size w w' ∧ ∃ v, e = .returned v ∧ w'.ownsRow w.heap.size 3 1 v l.length (zints l)

/-! ### a range over a map of peers -/
section
variable (w : World) {ops : Array Oper} {rest : List Oper} {o : Oper} {a : Act} {Q : Exit → Act → World → Prop}
end
/-! ### those who have come -/
/-! ### who is such, at the program's closures -/
end Go.Proofs.YteoodompphhkbaaGreatDoor.Wat

/- Due -/
namespace Go.Proofs.YteoodompphhkbaaGreatDoor.Wat
set_option maxRecDepth 100000
open Go.RowKit Go.Lib Go.Maps

theorem own_base {w : World} {base base' n : Nat} {e : TypeId} {v : Value} {xs : List Value} (h : w.ownsRow base e 1 v n xs) (hb : base' ≤ base) : w.ownsRow base' e 1 v n xs := by
  refine ⟨h.1, ?_⟩
  rcases h.2 with h2 | ⟨b, cap, cur, h0, h1, r⟩
  · exact .inl h2
  · exact .inr ⟨b, cap, cur, h0, Nat.le_trans hb h1, r⟩
theorem Lists.from {l : List Int} {w w2 w3 : World} (hb : Below w.heap.size w w2) (h3 : Below w2.heap.size w2 w3) {v : Value} (h : w3.ownsRow w2.heap.size 3 1 v l.length (zints l)) : Below w.heap.size w w3 ∧ w3.ownsRow w.heap.size 3 1 v l.length (zints l) :=
  ⟨hb.trans (h3.mono hb.size), own_base h hb.size⟩

end Go.Proofs.YteoodompphhkbaaGreatDoor.Wat
