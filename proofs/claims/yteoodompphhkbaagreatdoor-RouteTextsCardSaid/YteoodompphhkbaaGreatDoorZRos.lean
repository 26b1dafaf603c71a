/-
  WHAT IS PROVED: layer 10's contracts: a roster. Conditions: each states its own.
-/
import Derived.Test.YteoodompphhkbaaGreatDoorRows
import Derived.WalkKit
import Derived.Deep.AppendLies
import Derived.Deep.Draws
import Derived.Deep.OwnRows
import Derived.Lib.Hide
import Derived.ProofKit
import Derived.OpenShut
import Derived.JoinedCond
import Derived.OpenVars
import Derived.Maps.RangeWalk
import Derived.Maps.OwnOps
import Derived.Maps.AppendAt
import Derived.OwnWalk
import Derived.Deep.Strs
import Derived.Lib.SmallJoins
import Derived.Lib.Overlaps
import Derived.Lib.AppendZerosOnto
import Derived.Laws.NewBlocks
import Derived.Laws.CopyRow
import Derived.Laws.Externs
import Derived.Deep.QuietTactic
import Derived.BigQuiet
import Derived.Deep.RegionHeld3
import Derived.Deep.RegionLaw
import Derived.Laws.ResultCell
import Derived.Laws.Rows
import Derived.Shelf.RegionOpenPlain
import Derived.Lib.SliceRun
import Derived.Laws.MakeOwn
import Derived.StillTailTactics
/- Base -/
namespace Go.Proofs.YteoodompphhkbaaGreatDoor.Ros
set_option maxRecDepth 100000
open Go.RowKit

theorem block_of_add (a : Addr) (n : Nat) : (a.add n).block = a.block := by unfold Addr.add; split <;> rfl
theorem add_of_add (a : Addr) (i j : Nat) : (a.add i).add j = a.add (i + j) := by
  unfold Addr.add
  by_cases hi : i = 0 <;> by_cases hj : j = 0 <;> simp [hi, hj, Nat.add_assoc]

/-- the slice value '.slice A n c' holds the cells xs, in a block that is there and isn't block g -/
def Reads (w : World) (g : Nat) (A : Option Addr) (n : Nat) (xs : List Value) : Prop :=
  xs.length = n ∧ (0 < n → ∃ ad, A = some ad ∧ ad.block < w.heap.size ∧ ad.block ≠ g ∧ ∀ j u, xs[j]? = some u → w.cell? (ad.add j) = some u)

section
variable {w w' a b c : World} {g g' n : Nat} {A : Option Addr} {xs : List Value}
theorem Reads.at_ {k : Nat} (h : Reads w g A n xs) (hk : k < n) : ∃ ad u, A = some ad ∧ xs[k]? = some u ∧ w.cell? (ad.add k) = some u := by
  obtain ⟨ad, e, _, _, hc⟩ := h.2 (by omega)
  have hl : k < xs.length := by have := h.1; omega
  exact ⟨ad, xs[k], e, List.getElem?_eq_getElem hl, hc k _ (List.getElem?_eq_getElem hl)⟩
theorem Reads.only (h : Reads w g A n xs) (hb : w.grownBy w' (some g)) : Reads w' g A n xs :=
  ⟨h.1, fun hn => by
    obtain ⟨ad, e, hlt, hne, hc⟩ := h.2 hn
    refine ⟨ad, e, Nat.lt_of_lt_of_le hlt hb.size, hne, fun j u hu => ?_⟩
    exact (World.cell?_of_block (hb.block (ad.add j).block (by rw [block_of_add]; exact hlt) (fun e => hne (by rw [block_of_add] at e; injection e)))).trans (hc j u hu)⟩
theorem Reads.below (h : Reads w g A n xs) (hb : Below w.heap.size w w') : Reads w' g A n xs :=
  ⟨h.1, fun hn => by
    obtain ⟨ad, e, hlt, hne, hc⟩ := h.2 hn
    exact ⟨ad, e, Nat.lt_of_lt_of_le hlt hb.size, hne, fun j u hu => (hb.cell (by rw [block_of_add]; exact hlt)).trans (hc j u hu)⟩⟩
theorem Reads.take (h : Reads w g A n xs) {k : Nat} (hk : k ≤ n) : Reads w g A k (xs.take k) := by
  refine ⟨by rw [List.length_take, h.1]; omega, fun hn => ?_⟩
  obtain ⟨ad, e, hlt, hb, hcell⟩ := h.2 (by omega)
  exact ⟨ad, e, hlt, hb, fun j u hu => hcell j u (by rw [List.getElem?_take] at hu; split at hu <;> simp_all)⟩
end

/-- block g is just the cells cs of element type t, none frozen -/
def Blk (w : World) (g : Nat) (t : TypeId) (cs : Array Value) : Prop := w.heap[g]? = some (.cells cs t (0, 0))

section
variable {w w' : World} {g : Nat} {t : TypeId} {cs : Array Value}
theorem Blk.lt (h : Blk w g t cs) : g < w.heap.size := by
  rcases Nat.lt_or_ge g w.heap.size with hlt | hge
  · exact hlt
  · unfold Blk at h; rw [Array.getElem?_eq_none hge] at h; cases h
theorem Blk.cell (h : Blk w g t cs) (i : Nat) : w.cell? ⟨g, i, none⟩ = cs[i]? := cell_of_row w g i cs t (0, 0) h
theorem Blk.frozen (h : Blk w g t cs) (i : Nat) : w.frozen? ⟨g, i, none⟩ = false := by
  unfold Blk at h
  simp [World.frozen?, h]
theorem Blk.new (w : World) (t : TypeId) (cs : Array Value) : Blk (w.alloc (.cells cs t)) w.heap.size t cs := heap_alloc_new w _
theorem Blk.drew (h : Blk w g t cs) : Blk w.drew g t cs := h
theorem Blk.alloc (h : Blk w g t cs) (o : Obj) : Blk (w.alloc o) g t cs := (Below.heap_alloc w o g h.lt).trans h
theorem Blk.set_ (h : Blk w g t cs) (i : Nat) (u : Value) : Blk (w.setCell ⟨g, i, none⟩ u) g t (cs.setIfInBounds i u) := by
  unfold Blk at h ⊢
  simp [World.setCell, Array.getElem?_modify, h]
theorem Blk.below {B : Nat} (h : Blk w g t cs) (hb : Below B w w') (hg : g < B) : Blk w' g t cs := (hb.block g hg).trans h
theorem Blk.grown {row : Option Nat} (h : Blk w g t cs) (hb : w.grownBy w' row) (hg : some g ≠ row) : Blk w' g t cs := (hb.block g h.lt hg).trans h
end

theorem only_of_below {a w : World} (h : Below a.heap.size a w) (row : Option Nat) : a.grownBy w row := ⟨h.os, h.tape, h.output, h.size, fun i hi _ => h.block i hi⟩
theorem below_of_only {a w : World} {g B : Nat} (h : a.grownBy w (some g)) (hB : B ≤ a.heap.size) (hg : B ≤ g) : Below B a w :=
  ⟨h.os, h.tape, h.output, h.size, fun i hi => h.block i (by omega) (fun e => by injection e; omega)⟩
theorem below_drewN {B : Nat} {a w : World} (h : Below B a w) (n : Nat) : Below B a (w.drewN n) := ⟨h.os, h.tape, h.output, h.size, h.block⟩
/-- a Go bool is handed back; nothing that was there has turned -/
def Says (r : Bool) (w : World) (e : Ending) (w' : World) : Prop := e = .returned (.bool r) ∧ Below w.heap.size w w'
end Go.Proofs.YteoodompphhkbaaGreatDoor.Ros

/- Plain -/
namespace Go.Proofs.YteoodompphhkbaaGreatDoor.Ros
set_option maxRecDepth 100000

/-- a member -/
structure Mb where
  id : Int
  ma : Int
  co : Int
  of_ : Int
  fa : Int
deriving DecidableEq
/-- a ban -/
structure Bn where
  id : Int
  till : Int
deriving DecidableEq
def isIdB (x : Int) : Bool := decide (1 ≤ x ∧ x ≤ 4294967296)
def isTimeB (x : Int) : Bool := decide (0 ≤ x ∧ x ≤ 1099511627776)
theorem in_id {x : Int} (h : isIdB x = true) : 1 ≤ x ∧ x ≤ 4294967296 := by unfold isIdB at h; simpa using h
theorem in_time {x : Int} (h : isTimeB x = true) : 0 ≤ x ∧ x ≤ 1099511627776 := by unfold isTimeB at h; simpa using h
def inInt (z : Int) : Prop := -9223372036854775808 ≤ z ∧ z ≤ 9223372036854775807
theorem in0 : inInt 0 := by unfold inInt; omega
theorem inN : inInt (-1) := by unfold inInt; omega
def okM (p : Mb) : Prop := (1 ≤ p.id ∧ p.id ≤ 4294967296) ∧ inInt p.ma ∧ inInt p.co ∧ inInt p.of_ ∧ inInt p.fa
def Up (L : List Mb) : Prop := L.Pairwise fun p q => p.id < q.id

def hasL (L : List Mb) (x : Int) : Bool := L.any fun p => decide (p.id = x)
theorem hasL_iff {L : List Mb} {x : Int} : hasL L x = true ↔ ∃ p ∈ L, p.id = x := by unfold hasL; simp
theorem hasL_no {L : List Mb} {x : Int} : hasL L x = false ↔ ∀ p ∈ L, ¬ p.id = x := by unfold hasL; simp
def getL : List Mb → Int → Mb
  | [], _ => ⟨0, 0, 0, 0, 0⟩
  | p :: l, x => if p.id = x then p else getL l x
def delL (L : List Mb) (x : Int) : List Mb := L.filter fun p => !decide (p.id = x)
def insL : List Mb → Mb → List Mb
  | [], q => [q]
  | p :: l, q => if p.id < q.id then p :: insL l q else if p.id = q.id then q :: l else q :: p :: l
/-- how many stand ahead of an id -/
def posL : List Mb → Int → Nat
  | [], _ => 0
  | p :: l, x => if p.id < x then posL l x + 1 else 0

theorem Up.eq {L : List Mb} (h : Up L) {p q : Mb} (hp : p ∈ L) (hq : q ∈ L) (e : p.id = q.id) : p = q := by
  induction L with
  | nil => cases hp
  | cons x l ih =>
    obtain ⟨hx, hl⟩ := List.pairwise_cons.1 h
    rcases List.mem_cons.1 hp with e1 | hp'
    · rcases List.mem_cons.1 hq with f | hq'
      · rw [e1, f]
      · subst e1; have := hx q hq'; omega
    · rcases List.mem_cons.1 hq with f | hq'
      · subst f; have := hx p hp'; omega
      · exact ih hl hp' hq'
theorem Up.filter {L : List Mb} (h : Up L) (f : Mb → Bool) : Up (L.filter f) := List.Pairwise.filter f h

/-! ### where one stands -/
theorem pos_le : ∀ (L : List Mb) (x : Int), posL L x ≤ L.length
  | [], _ => Nat.le_refl _
  | p :: l, x => by
    show (if p.id < x then _ else _) ≤ _
    have := pos_le l x
    split <;> simp <;> omega
/-- a walk past those ahead comes to the place -/
theorem pos_stop : ∀ {L : List Mb} {x : Int} {k : Nat}, k ≤ L.length → (∀ j p, j < k → L[j]? = some p → p.id < x) → (∀ p, L[k]? = some p → x ≤ p.id) → posL L x = k
  | [], _, k, h, _, _ => by simp at h; subst h; rfl
  | q :: l, x, 0, _, _, h2 => by
    have := h2 q rfl
    unfold posL
    rw [if_neg (by omega)]
  | q :: l, x, k + 1, h, h1, h2 => by
    have := h1 0 q (by omega) rfl
    unfold posL
    rw [if_pos this, pos_stop (k := k) (by simpa using h) (fun j p hj hp => h1 (j + 1) p (by omega) (by simpa using hp)) (fun p hp => h2 p (by simpa using hp))]
theorem has_at : ∀ {L : List Mb}, Up L → ∀ {x : Int}, hasL L x = true → ∃ p, L[posL L x]? = some p ∧ p.id = x
  | [], _, x, h => by simp [hasL] at h
  | q :: l, hu, x, h => by
    obtain ⟨hq, hl⟩ := List.pairwise_cons.1 hu
    unfold posL
    split
    · rename_i hlt
      have : hasL l x = true := by
        obtain ⟨p, hp, e⟩ := hasL_iff.1 h
        rcases List.mem_cons.1 hp with f | hp'
        · subst f; omega
        · exact hasL_iff.2 ⟨p, hp', e⟩
      obtain ⟨p, hp, e⟩ := has_at hl this
      exact ⟨p, by simpa using hp, e⟩
    · rename_i hge
      obtain ⟨p, hp, e⟩ := hasL_iff.1 h
      rcases List.mem_cons.1 hp with f | hp'
      · subst f; exact ⟨p, rfl, e⟩
      · have := hq p hp'; omega
theorem at_has {L : List Mb} {x : Int} {p : Mb} (h : L[posL L x]? = some p) (e : p.id = x) : hasL L x = true := hasL_iff.2 ⟨p, List.mem_of_getElem? h, e⟩
theorem pos_has {L : List Mb} (hu : Up L) {x : Int} (h : hasL L x = true) : posL L x < L.length := by
  obtain ⟨p, hp, _⟩ := has_at hu h
  exact (List.getElem?_eq_some_iff.1 hp).1
/-! ### one is put in -/
theorem ins_new : ∀ {L : List Mb} {q : Mb}, hasL L q.id = false → insL L q = L.take (posL L q.id) ++ q :: L.drop (posL L q.id)
  | [], _, _ => rfl
  | p :: l, q, h => by
    have h' := hasL_no.1 h
    have hne := h' p (by simp)
    unfold insL posL
    by_cases hlt : p.id < q.id
    · rw [if_pos hlt, if_pos hlt, ins_new (hasL_no.2 fun r hr => h' r (by simp [hr]))]
      rfl
    · rw [if_neg hlt, if_neg hlt, if_neg hne]
      rfl
theorem ins_old : ∀ {L : List Mb}, Up L → ∀ {q : Mb}, hasL L q.id = true → insL L q = L.set (posL L q.id) q
  | [], _, _, h => by simp [hasL] at h
  | p :: l, hu, q, h => by
    obtain ⟨hp, hl⟩ := List.pairwise_cons.1 hu
    unfold insL posL
    by_cases hlt : p.id < q.id
    · have : hasL l q.id = true := by
        obtain ⟨r, hr, e⟩ := hasL_iff.1 h
        rcases List.mem_cons.1 hr with f | hr'
        · subst f; omega
        · exact hasL_iff.2 ⟨r, hr', e⟩
      rw [if_pos hlt, if_pos hlt, ins_old hl this]
      rfl
    · have hpe : p.id = q.id := by
        obtain ⟨r, hr, e⟩ := hasL_iff.1 h
        rcases List.mem_cons.1 hr with f | hr'
        · subst f; exact e
        · have := hp r hr'; omega
      rw [if_neg hlt, if_neg hlt, if_pos hpe]
      rfl
theorem mem_ins : ∀ {L : List Mb}, Up L → ∀ {q r : Mb}, r ∈ insL L q ↔ (r ∈ L ∧ r.id ≠ q.id) ∨ r = q
  | [], _, q, r => by simp [insL]
  | p :: l, hu, q, r => by
    obtain ⟨hp, hl⟩ := List.pairwise_cons.1 hu
    unfold insL
    by_cases hlt : p.id < q.id
    · rw [if_pos hlt, List.mem_cons, mem_ins hl, List.mem_cons]
      constructor
      · rintro (rfl | ⟨h1, h2⟩ | rfl)
        · exact .inl ⟨.inl rfl, by omega⟩
        · exact .inl ⟨.inr h1, h2⟩
        · exact .inr rfl
      · rintro (⟨rfl | h1, h2⟩ | rfl)
        · exact .inl rfl
        · exact .inr (.inl ⟨h1, h2⟩)
        · exact .inr (.inr rfl)
    · by_cases he : p.id = q.id
      · rw [if_neg hlt, if_pos he, List.mem_cons, List.mem_cons]
        constructor
        · rintro (rfl | h1)
          · exact .inr rfl
          · have := hp r h1; exact .inl ⟨.inr h1, by omega⟩
        · rintro (⟨rfl | h1, h2⟩ | rfl)
          · exact absurd he h2
          · exact .inr h1
          · exact .inl rfl
      · rw [if_neg hlt, if_neg he, List.mem_cons]
        constructor
        · rintro (rfl | h1)
          · exact .inr rfl
          · refine .inl ⟨h1, ?_⟩
            rcases List.mem_cons.1 h1 with f | h'
            · subst f; exact he
            · have := hp r h'; omega
        · rintro (⟨h1, h2⟩ | rfl)
          · exact .inr h1
          · exact .inl rfl
theorem up_ins : ∀ {L : List Mb}, Up L → ∀ (q : Mb), Up (insL L q)
  | [], _, q => List.pairwise_cons.2 ⟨fun _ h => (by cases h), List.Pairwise.nil⟩
  | p :: l, hu, q => by
    obtain ⟨hp, hl⟩ := List.pairwise_cons.1 hu
    unfold insL
    by_cases hlt : p.id < q.id
    · rw [if_pos hlt]
      refine List.pairwise_cons.2 ⟨fun r hr => ?_, up_ins hl q⟩
      rcases (mem_ins hl).1 hr with ⟨h, _⟩ | rfl
      · exact hp r h
      · exact hlt
    · by_cases he : p.id = q.id
      · rw [if_neg hlt, if_pos he]
        exact List.pairwise_cons.2 ⟨fun r hr => by have := hp r hr; omega, hl⟩
      · rw [if_neg hlt, if_neg he]
        refine List.pairwise_cons.2 ⟨fun r hr => ?_, hu⟩
        rcases List.mem_cons.1 hr with f | h'
        · subst f; omega
        · have := hp r h'; omega
theorem len_ins : ∀ {L : List Mb}, Up L → ∀ {q : Mb}, (insL L q).length = if hasL L q.id then L.length else L.length + 1 := by
  intro L hu q
  cases h : hasL L q.id
  · rw [ins_new h]
    have := pos_le L q.id
    simp
    omega
  · rw [ins_old hu h]; simp
/-! ### one is taken away -/
theorem mem_del {L : List Mb} {x : Int} {r : Mb} : r ∈ delL L x ↔ r ∈ L ∧ r.id ≠ x := by unfold delL; simp
theorem del_none {L : List Mb} {x : Int} (h : hasL L x = false) : delL L x = L := by
  unfold delL
  rw [List.filter_eq_self]
  intro p hp
  simp [hasL_no.1 h p hp]
theorem del_at : ∀ {L : List Mb}, Up L → ∀ {x : Int}, hasL L x = true → delL L x = L.take (posL L x) ++ L.drop (posL L x + 1)
  | [], _, x, h => by simp [hasL] at h
  | p :: l, hu, x, h => by
    obtain ⟨hp, hl⟩ := List.pairwise_cons.1 hu
    by_cases hlt : p.id < x
    · have : hasL l x = true := by
        obtain ⟨r, hr, e⟩ := hasL_iff.1 h
        rcases List.mem_cons.1 hr with f | hr'
        · subst f; omega
        · exact hasL_iff.2 ⟨r, hr', e⟩
      have h1 : delL (p :: l) x = p :: delL l x := by unfold delL; simp [show ¬ p.id = x by omega]
      have h2 : posL (p :: l) x = posL l x + 1 := by show (if p.id < x then _ else _) = _; rw [if_pos hlt]
      rw [h1, h2, del_at hl this]
      rfl
    · have hpe : p.id = x := by
        obtain ⟨r, hr, e⟩ := hasL_iff.1 h
        rcases List.mem_cons.1 hr with f | hr'
        · subst f; exact e
        · have := hp r hr'; omega
      have h2 : posL (p :: l) x = 0 := by show (if p.id < x then _ else _) = _; rw [if_neg hlt]
      have h3 : delL l x = l := del_none (hasL_no.2 fun r hr => by have := hp r hr; omega)
      have h1 : delL (p :: l) x = delL l x := by unfold delL; simp [hpe]
      rw [h1, h2, h3]
      rfl
theorem len_del {L : List Mb} (hu : Up L) {x : Int} : (delL L x).length + (if hasL L x then 1 else 0) = L.length := by
  cases h : hasL L x
  · rw [del_none h]; simp
  · rw [del_at hu h]
    have := pos_has hu h
    simp
    omega

/-! ### bans -/
def banB (B : List Bn) (x t : Int) : Bool := B.any fun b => decide (b.id = x ∧ t ≤ b.till)
def hasB (B : List Bn) (x : Int) : Bool := B.any fun b => decide (b.id = x)
def unB (B : List Bn) (x : Int) : List Bn := B.filter fun b => !decide (b.id = x)
def putB (B : List Bn) (q : Bn) : List Bn := unB B q.id ++ [q]
def tillB : List Bn → Int → Int
  | [], _ => 0
  | b :: l, x => if b.id = x then b.till else tillB l x
def UpB (B : List Bn) : Prop := B.Pairwise fun p q => p.id ≠ q.id
theorem hasB_iff {B : List Bn} {x : Int} : hasB B x = true ↔ ∃ p ∈ B, p.id = x := by unfold hasB; simp
theorem hasB_no {B : List Bn} {x : Int} : hasB B x = false ↔ ∀ p ∈ B, ¬ p.id = x := by unfold hasB; simp
theorem banB_iff {B : List Bn} {x t : Int} : banB B x t = true ↔ ∃ p ∈ B, p.id = x ∧ t ≤ p.till := by unfold banB; simp
theorem banB_no {B : List Bn} {x t : Int} : banB B x t = false ↔ ∀ p ∈ B, ¬ (p.id = x ∧ t ≤ p.till) := by
  cases h : banB B x t
  · simp only [true_iff]
    intro p hp hc
    have := banB_iff.2 ⟨p, hp, hc⟩
    rw [h] at this; cases this
  · simp only [Bool.true_eq_false, false_iff]
    obtain ⟨p, hp, hc⟩ := banB_iff.1 h
    exact fun hn => hn p hp hc
theorem UpB.eq {B : List Bn} (h : UpB B) {p q : Bn} (hp : p ∈ B) (hq : q ∈ B) (e : p.id = q.id) : p = q := by
  induction B with
  | nil => cases hp
  | cons x l ih =>
    obtain ⟨hx, hl⟩ := List.pairwise_cons.1 h
    rcases List.mem_cons.1 hp with e1 | hp'
    · rcases List.mem_cons.1 hq with f | hq'
      · rw [e1, f]
      · subst e1; exact absurd e (hx q hq')
    · rcases List.mem_cons.1 hq with f | hq'
      · subst f; exact absurd e.symm (hx p hp')
      · exact ih hl hp' hq'
theorem mem_un {B : List Bn} {x : Int} {r : Bn} : r ∈ unB B x ↔ r ∈ B ∧ r.id ≠ x := by unfold unB; simp
theorem UpB.un {B : List Bn} (h : UpB B) (x : Int) : UpB (unB B x) := List.Pairwise.filter _ h
theorem mem_putB {B : List Bn} {q r : Bn} : r ∈ putB B q ↔ (r ∈ B ∧ r.id ≠ q.id) ∨ r = q := by unfold putB; rw [List.mem_append, mem_un]; simp
theorem UpB.put {B : List Bn} (h : UpB B) (q : Bn) : UpB (putB B q) := by
  unfold putB UpB
  rw [List.pairwise_append]
  refine ⟨h.un _, by simp, fun a ha b hb => ?_⟩
  simp at hb
  subst hb
  exact (mem_un.1 ha).2
theorem has_un {B : List Bn} {x y : Int} : hasB (unB B x) y = (hasB B y && !decide (y = x)) := by
  rw [Bool.eq_iff_iff, hasB_iff, Bool.and_eq_true, hasB_iff]
  simp only [Bool.not_eq_true', decide_eq_false_iff_not]
  constructor
  · rintro ⟨p, hp, e⟩
    obtain ⟨h1, h2⟩ := mem_un.1 hp
    exact ⟨⟨p, h1, e⟩, by omega⟩
  · rintro ⟨⟨p, hp, e⟩, h⟩
    exact ⟨p, mem_un.2 ⟨hp, by omega⟩, e⟩
theorem has_putB {B : List Bn} {q : Bn} {y : Int} : hasB (putB B q) y = (hasB B y || decide (q.id = y)) := by
  rw [Bool.eq_iff_iff, hasB_iff, Bool.or_eq_true, hasB_iff, decide_eq_true_eq]
  constructor
  · rintro ⟨p, hp, e⟩
    rcases mem_putB.1 hp with ⟨h, _⟩ | rfl
    · exact .inl ⟨p, h, e⟩
    · exact .inr e
  · rintro (⟨p, hp, e⟩ | e)
    · by_cases hq : p.id = q.id
      · exact ⟨q, mem_putB.2 (.inr rfl), by omega⟩
      · exact ⟨p, mem_putB.2 (.inl ⟨hp, hq⟩), e⟩
    · exact ⟨q, mem_putB.2 (.inr rfl), e⟩
theorem un_none {B : List Bn} {x : Int} (h : hasB B x = false) : unB B x = B := by
  unfold unB
  rw [List.filter_eq_self]
  intro p hp
  simp [hasB_no.1 h p hp]
theorem len_un : ∀ {B : List Bn}, UpB B → ∀ {x : Int}, (unB B x).length + (if hasB B x then 1 else 0) = B.length
  | [], _, x => rfl
  | b :: l, hu, x => by
    obtain ⟨hx, hl⟩ := List.pairwise_cons.1 hu
    have ih := len_un hl (x := x)
    by_cases e : b.id = x
    · have e2 : hasB l x = false := hasB_no.2 fun p hp f => hx p hp (by omega)
      have e1 : hasB (b :: l) x = true := hasB_iff.2 ⟨b, by simp, e⟩
      have e3 : unB (b :: l) x = unB l x := by unfold unB; simp [e]
      rw [e1, e3, un_none e2]
      simp
    · have e2 : hasB (b :: l) x = hasB l x := by unfold hasB; simp [e]
      have e3 : unB (b :: l) x = b :: unB l x := by unfold unB; simp [e]
      rw [e2, e3, List.length_cons, List.length_cons]
      omega
theorem len_putB {B : List Bn} (hu : UpB B) {q : Bn} : (putB B q).length = if hasB B q.id then B.length else B.length + 1 := by
  have := len_un hu (x := q.id)
  unfold putB
  rw [List.length_append]
  cases h : hasB B q.id <;> rw [h] at this <;> simp at this ⊢ <;> omega
theorem till_mem : ∀ {B : List Bn} {x : Int}, hasB B x = true → ∃ p ∈ B, p.id = x ∧ tillB B x = p.till
  | [], _, h => by simp [hasB] at h
  | b :: l, x, h => by
    unfold tillB
    split
    · rename_i e; exact ⟨b, by simp, e, rfl⟩
    · rename_i e
      have : hasB l x = true := by
        obtain ⟨p, hp, e2⟩ := hasB_iff.1 h
        rcases List.mem_cons.1 hp with f | hp'
        · subst f; exact absurd e2 e
        · exact hasB_iff.2 ⟨p, hp', e2⟩
      obtain ⟨p, h1, h2, h3⟩ := till_mem this
      exact ⟨p, List.mem_cons_of_mem _ h1, h2, h3⟩
theorem till_no : ∀ {B : List Bn} {x : Int}, hasB B x = false → tillB B x = 0
  | [], _, _ => rfl
  | b :: l, x, h => by
    have h' := hasB_no.1 h
    unfold tillB
    rw [if_neg (h' b (by simp)), till_no (hasB_no.2 fun p hp => h' p (by simp [hp]))]
theorem ban_eq {B : List Bn} (hu : UpB B) (x t : Int) : banB B x t = (hasB B x && decide (t ≤ tillB B x)) := by
  cases h : hasB B x
  · rw [Bool.false_and, banB_no]
    exact fun p hp hc => hasB_no.1 h p hp hc.1
  · obtain ⟨p, h1, h2, h3⟩ := till_mem h
    rw [Bool.true_and, h3, Bool.eq_iff_iff, banB_iff, decide_eq_true_eq]
    constructor
    · rintro ⟨q, hq, e, ht⟩
      rw [hu.eq h1 hq (by omega)]; exact ht
    · exact fun ht => ⟨p, h1, h2, ht⟩
/-! ### a roster, and its calls -/
structure Ro where
  s : Int
  L : List Mb
  B : List Bn
  c : Nat
structure Good (R : Ro) : Prop where
  up : Up R.L
  ok : ∀ p ∈ R.L, okM p
  len : R.L.length ≤ 15
  upB : UpB R.B
  okB : ∀ p ∈ R.B, (1 ≤ p.id ∧ p.id ≤ 4294967296) ∧ 0 ≤ p.till ∧ p.till ≤ 1099511687776
  fit : inInt R.s
theorem Good.nil {s : Int} (h : inInt s) : Good ⟨s, [], [], 0⟩ := ⟨List.Pairwise.nil, fun _ h => (by cases h), by simp, List.Pairwise.nil, fun _ h => (by cases h), h⟩
/-- what check answers -/
def chkE (s x t : Int) : Int := if isIdB x = true ∧ isTimeB t = true then (if x = s then 33 else 0) else 10
def addE (R : Ro) (x t : Int) : Int :=
  if chkE R.s x t = 0 then (if hasL R.L x = true then 32 else if banB R.B x t = true then 34 else if R.L.length = 15 then 31 else 0) else chkE R.s x t
def addR (R : Ro) (x t : Int) : Ro := if addE R x t = 0 then ⟨R.s, insL R.L ⟨x, 0, 0, 0, -1⟩, unB R.B x, R.c⟩ else R
def forE (R : Ro) (x t : Int) : Int := if chkE R.s x t = 0 then (if hasL R.L x = true then 0 else 30) else chkE R.s x t
def forR (R : Ro) (x t : Int) : Ro := if forE R x t = 0 then ⟨R.s, delL R.L x, putB R.B ⟨x, t + 60000⟩, R.c⟩ else R
def rightB (m : Mb) : Bool :=
  (decide (m.ma = 0) || (isIdB m.ma && !decide (m.ma = m.id))) && decide (0 ≤ m.co ∧ m.co ≤ 281474976710656) && decide (0 ≤ m.of_ ∧ m.of_ ≤ 281474976710656) && (decide (m.fa = -1) || isTimeB m.fa)
def setE (R : Ro) (m : Mb) : Int := if hasL R.L m.id = true then (if rightB m = true then 0 else 10) else 30
def setR (R : Ro) (m : Mb) : Ro := if setE R m = 0 then ⟨R.s, insL R.L m, R.B, R.c⟩ else R
/-- the ids of all but one -/
def butL (L : List Mb) (x : Int) : List Int := (L.filter fun p => !decide (p.id = x)).map Mb.id
def numN (l : List Int) (n : Int) : Nat := (min n (l.length : Int)).toNat
def pickL (l : List Int) (c k : Nat) : List Int := (List.range k).map fun i => l.getD ((c + i) % l.length) 0
def nextL (R : Ro) (n x : Int) : List Int := pickL (butL R.L x) R.c (numN (butL R.L x) n)
def nextR (R : Ro) (n x : Int) : Ro := ⟨R.s, R.L, R.B, R.c + numN (butL R.L x) n⟩

theorem chk_cases (s x t : Int) : (chkE s x t = 0 ∧ isIdB x = true ∧ isTimeB t = true ∧ x ≠ s) ∨ (chkE s x t = 10 ∧ (isIdB x = false ∨ isTimeB t = false)) ∨ (chkE s x t = 33 ∧ isIdB x = true ∧ isTimeB t = true ∧ x = s) := by
  unfold chkE
  by_cases h : isIdB x = true ∧ isTimeB t = true
  · rw [if_pos h]
    by_cases e : x = s
    · rw [if_pos e]; exact .inr (.inr ⟨rfl, h.1, h.2, e⟩)
    · rw [if_neg e]; exact .inl ⟨rfl, h.1, h.2, e⟩
  · rw [if_neg h]
    refine .inr (.inl ⟨rfl, ?_⟩)
    cases h1 : isIdB x
    · exact .inl rfl
    · exact .inr (by simpa using fun h2 => h ⟨h1, h2⟩)
theorem addE_zero {R : Ro} {x t : Int} (h : addE R x t = 0) : chkE R.s x t = 0 ∧ hasL R.L x = false ∧ banB R.B x t = false ∧ R.L.length ≠ 15 := by
  unfold addE at h
  split at h
  · rename_i hc
    split at h
    · cases h
    · split at h
      · cases h
      · split at h
        · cases h
        · rename_i h1 h2 h3
          exact ⟨hc, by simpa using h1, by simpa using h2, h3⟩
  · rename_i hc; exact absurd h hc
theorem forE_zero {R : Ro} {x t : Int} (h : forE R x t = 0) : chkE R.s x t = 0 ∧ hasL R.L x = true := by
  unfold forE at h
  split at h
  · rename_i hc
    split at h
    · rename_i h1; exact ⟨hc, h1⟩
    · cases h
  · rename_i hc; exact absurd h hc
theorem chk_zero {s x t : Int} (h : chkE s x t = 0) : isIdB x = true ∧ isTimeB t = true ∧ x ≠ s := by
  rcases chk_cases s x t with ⟨_, h1⟩ | ⟨h1, _⟩ | ⟨h1, _⟩
  · exact h1
  · rw [h1] at h; cases h
  · rw [h1] at h; cases h
theorem setE_zero {R : Ro} {m : Mb} (h : setE R m = 0) : hasL R.L m.id = true ∧ rightB m = true := by
  unfold setE at h
  split at h
  · rename_i h1
    split at h
    · rename_i h2; exact ⟨h1, h2⟩
    · cases h
  · cases h
theorem Good.add {R : Ro} (h : Good R) (x t : Int) : Good (addR R x t) := by
  unfold addR
  split
  · rename_i he
    obtain ⟨h1, h2, h3, h4⟩ := addE_zero he
    obtain ⟨i1, i2, i3⟩ := chk_zero h1
    have hx := in_id i1
    refine ⟨up_ins h.up _, fun p hp => ?_, ?_, h.upB.un _, fun p hp => h.okB p (mem_un.1 hp).1, h.fit⟩
    · rcases (mem_ins h.up).1 hp with ⟨hp', _⟩ | rfl
      · exact h.ok p hp'
      · exact ⟨hx, in0, in0, in0, inN⟩
    · show (insL R.L _).length ≤ 15
      rw [len_ins h.up]
      have := h.len
      show (if hasL R.L x = true then _ else _) ≤ 15
      rw [h2]
      simp
      omega
  · exact h
theorem Good.forget {R : Ro} (h : Good R) (x t : Int) : Good (forR R x t) := by
  unfold forR
  split
  · rename_i he
    obtain ⟨h1, h2⟩ := forE_zero he
    obtain ⟨i1, i2, i3⟩ := chk_zero h1
    have hx := in_id i1
    have ht := in_time i2
    refine ⟨h.up.filter _, fun p hp => h.ok p (mem_del.1 hp).1, ?_, h.upB.put _, fun p hp => ?_, h.fit⟩
    · have := len_del h.up (x := x)
      have := h.len
      show (delL R.L x).length ≤ 15
      omega
    · rcases mem_putB.1 hp with ⟨hp', _⟩ | rfl
      · exact h.okB p hp'
      · exact ⟨hx, by simp only; omega, by simp only; omega⟩
  · exact h
theorem right_in {m : Mb} (h : rightB m = true) : inInt m.ma ∧ inInt m.co ∧ inInt m.of_ ∧ inInt m.fa := by
  unfold rightB at h
  simp only [Bool.and_eq_true, Bool.or_eq_true, decide_eq_true_eq] at h
  obtain ⟨⟨⟨h1, h2⟩, h3⟩, h4⟩ := h
  refine ⟨?_, by unfold inInt; omega, by unfold inInt; omega, ?_⟩
  · rcases h1 with h1 | ⟨h1, _⟩
    · unfold inInt; omega
    · have := in_id h1; unfold inInt; omega
  · rcases h4 with h4 | h4
    · unfold inInt; omega
    · have := in_time h4; unfold inInt; omega
theorem Good.set {R : Ro} (h : Good R) (m : Mb) : Good (setR R m) := by
  unfold setR
  split
  · rename_i he
    obtain ⟨h1, h2⟩ := setE_zero he
    obtain ⟨i1, i2, i3, i4⟩ := right_in h2
    refine ⟨up_ins h.up _, fun p hp => ?_, ?_, h.upB, h.okB, h.fit⟩
    · rcases (mem_ins h.up).1 hp with ⟨hp', _⟩ | rfl
      · exact h.ok p hp'
      · obtain ⟨q, hq, e⟩ := hasL_iff.1 h1
        have := h.ok q hq
        exact ⟨by rw [← e]; exact this.1, i1, i2, i3, i4⟩
    · show (insL R.L m).length ≤ 15
      rw [len_ins h.up, h1]
      simpa using h.len
  · exact h
end Go.Proofs.YteoodompphhkbaaGreatDoor.Ros

/- Law -/
namespace Go.Proofs.YteoodompphhkbaaGreatDoor.Ros
set_option maxRecDepth 100000
open Go.RowKit Go.ChangeShapes Go.WideShapes Go.ChangeAt Go.WideElems

section
variable {H : Type} {enc : TypeId × Value → H} {P : Program}
end
end Go.Proofs.YteoodompphhkbaaGreatDoor.Ros

/- Ints -/
namespace Go.Proofs.YteoodompphhkbaaGreatDoor.Ros
set_option maxRecDepth 100000
open Go.RowKit Go.ChangeShapes Go.WideShapes Go.ChangeAt Go.WideElems

def zints (l : List Int) : List Value := l.map fun z => Value.int .i64 z
theorem wf_i64 {z : Int} (h : (Lit.int .i64 z).wf = true) : -9223372036854775808 ≤ z ∧ z ≤ 9223372036854775807 := by
  have e1 : IntKind.i64.min = -9223372036854775808 := by decide
  simp [Lit.wf] at h
  rw [e1] at h
  exact h

section
variable {H : Type} {enc : TypeId × Value → H} {P : Program}
end
end Go.Proofs.YteoodompphhkbaaGreatDoor.Ros

/- Map -/
namespace Go.Proofs.YteoodompphhkbaaGreatDoor.Ros
set_option maxRecDepth 100000
open Go.RowKit Go.Lib Go.Maps

abbrev Dm := DataW Unit
theorem keyed : Keyed Tryz.prog 3 := int_keyed Tryz.underlying3
theorem wf_of {x : Int} (h : inInt x) : (Lit.int .i64 x).wf = true := WalkArith.wf_i64 h
/-- what an id reads as, as a key -/
def kl (x : Int) : Lit := .int .i64 x
theorem keyOf_int {x : Int} (h : inInt x) : keyOf Tryz.prog 3 (.int .i64 x) = some (kl x) := keyOf_int_mk Tryz.underlying3 (wf_of h)
theorem kl_inj {x y : Int} (h : kl x = kl y) : x = y := by unfold kl at h; injection h
theorem kl_key (x : Int) : WideAt.IsKeyLit (kl x) := by simp [kl, WideAt.IsKeyLit]
/-- how a time reads -/
def tiElem (v : Value) : Option (Dm × List MemPlace) :=
  match v with
  | .int .i64 l => some (.lit (.int .i64 l), [])
  | _ => none
theorem tiElem_mk (t : Int) : tiElem (.int .i64 t) = some (.lit (.int .i64 t), []) := rfl
theorem tiElem_of {v : Value} {t : Int} {ps : List MemPlace} (h : tiElem v = some (.lit (.int .i64 t), ps)) : v = .int .i64 t := by
  unfold tiElem at h
  split at h
  · simp at h; rw [h.1]
  · cases h
theorem zero_int (w : World) : (zeroValue 3).run Tryz.prog w = .ok (.int .i64 0) w := by kernel_rfl

/-! ### a datum and the list of its bans -/
structure Agr (D : Dm) (B : List Bn) : Prop where
  at_ : ∀ p ∈ B, ∀ z, D.atKey (kl p.id) z = .lit (.int .i64 p.till)
  has_ : ∀ x, inInt x → Maps.has D (kl x) = hasB B x
  size : Maps.size D = B.length
theorem agr_nil : Agr (.map []) [] := ⟨fun r hr => (by cases hr), fun a _ => rfl, rfl⟩
theorem Agr.look {D : Dm} {B : List Bn} (h : Agr D B) {x : Int} (hx : inInt x) : D.atKey (kl x) (.lit (.int .i64 0)) = .lit (.int .i64 (tillB B x)) := by
  cases hh : hasB B x
  · rw [atKey_of_not_has (by rw [h.has_ x hx, hh]), till_no hh]
  · obtain ⟨p, h1, h2, h3⟩ := till_mem hh
    have := h.at_ _ h1 (.lit (.int .i64 0))
    rw [h2] at this
    rw [this, h3]
theorem Agr.put {D : Dm} {B : List Bn} (h : Agr D B) (hT : Tidy D) (hu : UpB B) {q : Bn} (hq : inInt q.id) : Agr (D.put (kl q.id) (.lit (.int .i64 q.till))) (putB B q) := by
  refine ⟨fun r hr z => ?_, fun x hx => ?_, ?_⟩
  · rcases mem_putB.1 hr with ⟨h1, h2⟩ | rfl
    · rw [atKey_put_other (fun e => h2 (kl_inj e))]
      exact h.at_ r h1 z
    · exact atKey_put_same hT.isMap (kl_key _) _ _
  · rw [has_putB]
    by_cases e : q.id = x
    · subst e
      rw [has_put_same hT.isMap (kl_key _)]
      simp
    · rw [has_put_other (fun e' => e (kl_inj e').symm), h.has_ x hx]
      simp [e]
  · rw [size_put hT, h.has_ _ hq, h.size, len_putB hu]
theorem Agr.del {D : Dm} {B : List Bn} (h : Agr D B) (hT : Tidy D) (hu : UpB B) {x : Int} (hx : inInt x) : Agr (D.del (kl x)) (unB B x) := by
  refine ⟨fun r hr z => ?_, fun y hy => ?_, ?_⟩
  · obtain ⟨h1, h2⟩ := mem_un.1 hr
    rw [atKey_del_other (fun e => h2 (kl_inj e))]
    exact h.at_ r h1 z
  · rw [has_un]
    by_cases e : y = x
    · subst e
      rw [has_del_same]
      simp
    · rw [has_del_other (fun e' => e (kl_inj e')), h.has_ y hy]
      simp [e]
  · have h1 := size_del (k := kl x) hT
    rw [h.has_ x hx, h.size] at h1
    have h2 := len_un hu (x := x)
    omega

/-- a map of bans in a block -/
def MapAt (w : World) (b : Nat) (B : List Bn) : Prop := ∃ D : Dm, w.ownsMap Tryz.prog 3 tiElem b B.length D ∧ Agr D B
theorem own_tight {w : World} {b n : Nat} {D : Dm} {R : Value → Option (Dm × List MemPlace)} (h : w.ownsMap Tryz.prog 3 R b n D) : w.ownsMap Tryz.prog 3 R b (Maps.size D) D := by
  obtain ⟨es, clock, hb, F, hs, rfl⟩ := h
  exact ⟨es, clock, hb, F, by simp [Maps.size, length_sorted], rfl⟩
theorem map_new (w : World) : MapAt (w.alloc (.map #[] 0)) w.heap.size [] := ⟨.map [], World.ownsMap_made _ _ _ _, agr_nil⟩
section
variable {w w' : World} {b : Nat} {B : List Bn}
theorem MapAt.lt (h : MapAt w b B) : b < w.heap.size := by obtain ⟨D, h, _⟩ := h; exact h.lt
theorem MapAt.kept {row : Option Nat} (h : MapAt w b B) (hg : w.grownBy w' row) (hne : some b ≠ row) : MapAt w' b B := by
  obtain ⟨D, h, r⟩ := h; exact ⟨D, h.kept hg hne, r⟩
theorem MapAt.look_ok (h : MapAt w b B) {x : Int} (hx : inInt x) :
    (Instr.lookup 162 (.map (some b)) (.int .i64 x) true).run Tryz.prog w = .ok (.tuple #[.int .i64 (tillB B x), .bool (hasB B x)]) w := by
  obtain ⟨D, h, r⟩ := h
  obtain ⟨v, ps, hrun, hv⟩ := h.look_ok keyed Tryz.underlying162 (zero_int _) (tiElem_mk 0) (keyOf_int hx)
  rw [r.look hx] at hv
  rw [hrun, tiElem_of hv, r.has_ x hx]
theorem MapAt.store (h : MapAt w b B) (hu : UpB B) (hlen : B.length < 1000000) {q : Bn} (hq : inInt q.id) :
    ∃ w', (Instr.mapUpdate 162 (.map (some b)) (.int .i64 q.id) (.int .i64 q.till)).run Tryz.prog w = .ok () w' ∧ MapAt w' b (putB B q) ∧ w.grownBy w' (some b) := by
  obtain ⟨D, h, r⟩ := h
  obtain ⟨w', hrun, hown, hg⟩ := h.update keyed Tryz.underlying162 (by unfold maxLen; omega) (keyOf_int hq) (tiElem_mk q.till)
  have hagr := r.put (h.tidy keyed) hu hq
  refine ⟨w', hrun, ⟨_, ?_, hagr⟩, hg⟩
  rw [← hagr.size]
  exact own_tight hown
theorem MapAt.del (h : MapAt w b B) (hu : UpB B) {x : Int} (hx : inInt x) (ty : TypeId) :
    ∃ w', (Builtin.delete_ #[162, 3] ty #[.map (some b), .int .i64 x]).run Tryz.prog w = .ok (.tuple #[]) w' ∧ MapAt w' b (unB B x) ∧ w.grownBy w' (some b) := by
  obtain ⟨D, h, r⟩ := h
  obtain ⟨w', hrun, hown, hg⟩ := h.drop keyed Tryz.underlying162 (keyOf_int hx) ty
  have hagr := r.del (h.tidy keyed) hu hx
  refine ⟨w', hrun, ⟨_, ?_, hagr⟩, hg.grown⟩
  rw [← hagr.size]
  exact own_tight hown
end
/-- a map lies in no block that holds cells -/
theorem Blk.map_ne {w : World} {g b : Nat} {t : TypeId} {cs : Array Value} {B : List Bn} (h : Blk w g t cs) (hs : MapAt w b B) : g ≠ b := by
  intro e
  obtain ⟨D, ⟨es, clock, hh, _⟩, _⟩ := hs
  unfold Blk at h
  rw [e, hh] at h
  cases h
section
variable (w : World) {ops : Array Oper} {rest : List Oper} {o : Oper} {a : Act} {Q : Exit → Act → World → Prop}
theorem wpList_look_ok (hg : o.guard = none) (m x : Operand) (hop : o.op = Op.lookup 162 m x true) (b : Nat) (B : List Bn) (id p : Int) (q : Bool)
    (hm : a.eval m = .map (some b)) (hx : a.eval x = .int .i64 id) (h : MapAt w b B) (hi : inInt id) (hp : tillB B id = p) (hq : hasB B id = q)
    (hK : wpList Tryz.prog ops Q rest (a.put o.dst (.tuple #[.int .i64 p, .bool q])) w) : wpList Tryz.prog ops Q (o :: rest) a w := by
  refine wpList_plain hg fun K' hK' => ?_
  have hrun := h.look_ok hi
  rw [hp, hq] at hrun
  unfold Oper.wp
  simp [execOp, hop, hm, hx, hrun, Result.andThen]
  exact hK' _ _ hK
theorem wpList_delete_map (hg : o.guard = none) (m x : Operand) (hop : o.op = Op.call { callee := Callee.builtin Builtin.delete, args := #[m, x], argTypes := #[162, 3] }) (b : Nat) (B : List Bn) (id : Int)
    (hm : a.eval m = .map (some b)) (hx : a.eval x = .int .i64 id) (h : MapAt w b B) (hu : UpB B) (hi : inInt id)
    (hK : ∀ w', MapAt w' b (unB B id) → w.grownBy w' (some b) → wpList Tryz.prog ops Q rest (a.put o.dst (.tuple #[])) w') : wpList Tryz.prog ops Q (o :: rest) a w := by
  refine wpList_plain hg fun K' hK' => ?_
  obtain ⟨w', hrun, r1, r2⟩ := h.del hu hi o.type
  unfold Oper.wp
  simp [execOp, hop, resolve, invoke, builtin, hm, hx, hrun, Result.andThen]
  exact hK' _ _ (hK w' r1 r2)
end
end Go.Proofs.YteoodompphhkbaaGreatDoor.Ros

/- Mem -/
namespace Go.Proofs.YteoodompphhkbaaGreatDoor.Ros
set_option maxRecDepth 100000
open Go.RowKit

/-- what lies outside of the blocks F stays as it is -/
structure Turn (w w' : World) (F : Nat → Prop) : Prop where
  os : w'.os = w.os
  tape : w'.tape = w.tape
  output : w'.output = w.output
  size : w.heap.size ≤ w'.heap.size
  block : ∀ i, i < w.heap.size → ¬ F i → w'.heap[i]? = w.heap[i]?
/-- of the blocks that were there F' has no more than F -/
def Sub (w : World) (F F' : Nat → Prop) : Prop := ∀ i, i < w.heap.size → F' i → F i
section
variable {a b c w w' : World} {F G F' : Nat → Prop} {C : Nat}
theorem Turn.refl (w : World) (F : Nat → Prop) : Turn w w F := ⟨rfl, rfl, rfl, Nat.le_refl _, fun _ _ _ => rfl⟩
theorem Turn.trans (h : Turn a b F) (k : Turn b c G) (hG : Sub a F G) : Turn a c F :=
  ⟨k.os.trans h.os, k.tape.trans h.tape, k.output.trans h.output, Nat.le_trans h.size k.size, fun i hi hn =>
    (k.block i (Nat.lt_of_lt_of_le hi h.size) (fun g => hn (hG i hi g))).trans (h.block i hi hn)⟩
theorem Turn.of_below (h : Below w.heap.size w w') (F : Nat → Prop) : Turn w w' F := ⟨h.os, h.tape, h.output, h.size, fun i hi _ => h.block i hi⟩
theorem Turn.of_grown {row : Option Nat} (h : w.grownBy w' row) (hr : ∀ k, row = some k → F k) : Turn w w' F :=
  ⟨h.os, h.tape, h.output, h.size, fun i hi hn => h.block i hi (fun e => hn (hr i e.symm))⟩
theorem Turn.below (h : Turn w w' F) (hF : ∀ i, F i → C ≤ i) (hC : C ≤ w.heap.size) : Below C w w' :=
  ⟨h.os, h.tape, h.output, h.size, fun i hi => h.block i (by omega) (fun f => by have := hF i f; omega)⟩
theorem Turn.then_ (h : Turn a b F) (k : Below b.heap.size b c) : Turn a c F := h.trans (Turn.of_below k (fun _ => False)) (fun _ _ f => f.elim)
theorem Turn.cell (h : Turn w w' F) {p : Addr} (hp : p.block < w.heap.size) (hn : ¬ F p.block) : w'.cell? p = w.cell? p := World.cell?_of_block (h.block _ hp hn)
theorem Sub.refl (w : World) (F : Nat → Prop) : Sub w F F := fun _ _ h => h
theorem Sub.trans (h : Sub a F G) (k : Sub b G F') (hs : a.heap.size ≤ b.heap.size) : Sub a F F' := fun i hi f => h i hi (k i (Nat.lt_of_lt_of_le hi hs) f)
theorem Blk.turn {g : Nat} {t : TypeId} {cs : Array Value} (h : Blk w g t cs) (k : Turn w w' F) (hn : ¬ F g) : Blk w' g t cs := (k.block g h.lt hn).trans h
end

/-- the slice value '.slice A n c' of elements of s cells holds the cells xs, in a block that is there and outside of F -/
def Rd (w : World) (F : Nat → Prop) (s : Nat) (A : Option Addr) (n : Nat) (xs : List Value) : Prop :=
  xs.length = n * s ∧ (0 < n → ∃ ad, A = some ad ∧ ad.block < w.heap.size ∧ ¬ F ad.block ∧ ∀ j u, xs[j]? = some u → w.cell? (ad.add j) = some u)
def no : Nat → Prop := fun _ => False
section
variable {w w' : World} {F F' : Nat → Prop} {s n k cap : Nat} {A : Option Addr} {xs : List Value}
theorem Rd.turn (h : Rd w F s A n xs) (hb : Turn w w' F) (hs : Sub w F F') : Rd w' F' s A n xs :=
  ⟨h.1, fun hn => by
    obtain ⟨ad, e, hlt, hf, hc⟩ := h.2 hn
    exact ⟨ad, e, Nat.lt_of_lt_of_le hlt hb.size, fun f => hf (hs _ hlt f), fun j u hu => (hb.cell (by rw [block_of_add]; exact hlt) (by rw [block_of_add]; exact hf)).trans (hc j u hu)⟩⟩
theorem Rd.below (h : Rd w F s A n xs) (hb : Below w.heap.size w w') : Rd w' F s A n xs := h.turn (Turn.of_below hb F) (Sub.refl w F)
theorem Rd.take (h : Rd w F s A n xs) (hk : k ≤ n) : Rd w F s A k (xs.take (k * s)) := by
  have hks : k * s ≤ n * s := Nat.mul_le_mul_right _ hk
  refine ⟨by rw [List.length_take, h.1]; omega, fun hn => ?_⟩
  obtain ⟨ad, e, hlt, hf, hc⟩ := h.2 (by omega)
  exact ⟨ad, e, hlt, hf, fun j u hu => hc j u (by rw [List.getElem?_take] at hu; split at hu <;> simp_all)⟩
theorem Rd.drop (h : Rd w F s A n xs) (hk : k ≤ n) (hc : n ≤ cap) : Rd w F s (if cap = k then A else A.map (·.add (k * s))) (n - k) (xs.drop (k * s)) := by
  refine ⟨by rw [List.length_drop, h.1, Nat.sub_mul], fun hn => ?_⟩
  obtain ⟨ad, rfl, hlt, hf, hcell⟩ := h.2 (by omega)
  rw [if_neg (by omega)]
  refine ⟨ad.add (k * s), rfl, by rw [block_of_add]; exact hlt, by rw [block_of_add]; exact hf, fun j u hu => ?_⟩
  rw [add_of_add]
  exact hcell _ u (by rw [← hu, List.getElem?_drop])
theorem Rd.of_own {base : Nat} {e : TypeId} {v : Value} {c : Nat} (h : w.ownsRow base e s v n xs) (hv : v = .slice A n c) (hF : ∀ k, v.ownBlock = some k → ¬ F k) : Rd w F s A n xs := by
  refine ⟨h.1, fun hn => ?_⟩
  rcases h.2 with ⟨_, h0⟩ | ⟨g, cap, cur, e1, hb, hh, hnc, hcm, hcs, ht⟩
  · omega
  · rw [hv] at e1
    injection e1 with e1 e2 e3
    subst e1; subst e3
    subst hv
    refine ⟨⟨g, 0, none⟩, rfl, (Array.getElem?_eq_some_iff.1 hh).1, hF g rfl, h.cells rfl⟩
end
theorem Rd.new (w : World) (F : Nat → Prop) (hF : ∀ i, F i → i < w.heap.size) (s n : Nat) (cs : Array Value) (t : TypeId) (hl : cs.size = n * s) : Rd (w.alloc (.cells cs t)) F s (some ⟨w.heap.size, 0, none⟩) n cs.toList :=
  ⟨by simpa using hl, fun _ => ⟨_, rfl, by simp, fun f => by have := hF _ f; simp at this, fun j u hu => by
    rw [Go.WideShapes.add_plain, Nat.zero_add, (Blk.new w t _).cell j]
    simpa using hu⟩⟩
theorem own_form {w : World} {base s n : Nat} {e : TypeId} {v : Value} {xs : List Value} (h : w.ownsRow base e s v n xs) :
    ∃ A cap, v = .slice A n cap ∧ n ≤ cap ∧ cap ≤ 9223372036854775807 := by
  rcases h.2 with ⟨rfl, rfl⟩ | ⟨b, cap, cur, rfl, hb, hh, hnc, hcm, _⟩
  · exact ⟨none, 0, rfl, Nat.le_refl _, by omega⟩
  · exact ⟨some ⟨b, 0, none⟩, cap, rfl, hnc, by unfold maxLen at hcm; omega⟩
theorem own_turn {w w' : World} {F : Nat → Prop} {base s n : Nat} {e : TypeId} {v : Value} {xs : List Value} (h : w.ownsRow base e s v n xs) (hb : Turn w w' F) (hF : ∀ k, v.ownBlock = some k → ¬ F k) : w'.ownsRow base e s v n xs := by
  refine ⟨h.1, ?_⟩
  rcases h.2 with hn | ⟨g, cap, cur, rfl, hbg, hh, rest⟩
  · exact .inl hn
  · exact .inr ⟨g, cap, cur, rfl, hbg, (hb.block g (Array.getElem?_eq_some_iff.1 hh).1 (hF g rfl)).trans hh, rest⟩
theorem own_below {w w' : World} {base s n : Nat} {e : TypeId} {v : Value} {xs : List Value} (h : w.ownsRow base e s v n xs) (hb : Below w.heap.size w w') : w'.ownsRow base e s v n xs :=
  own_turn h (Turn.of_below hb no) (fun _ _ f => f.elim)
theorem own_base {w : World} {base base' s n : Nat} {e : TypeId} {v : Value} {xs : List Value} (h : w.ownsRow base e s v n xs) (hb : base' ≤ base) : w.ownsRow base' e s v n xs := by
  refine ⟨h.1, ?_⟩
  rcases h.2 with hn | ⟨g, cap, cur, rfl, hbg, rest⟩
  · exact .inl hn
  · exact .inr ⟨g, cap, cur, rfl, by omega, rest⟩

/-! ### members, bans, numbers as cells -/
def encM (r : Mb) : List Value := [.int .i64 r.id, .int .i64 r.ma, .int .i64 r.co, .int .i64 r.of_, .int .i64 r.fa]
def flatM (l : List Mb) : List Value := l.flatMap encM
abbrev vM (r : Mb) : Value := .agg #[.int .i64 r.id, .int .i64 r.ma, .int .i64 r.co, .int .i64 r.of_, .int .i64 r.fa]
theorem flatM_len : ∀ l : List Mb, (flatM l).length = l.length * 5
  | [] => rfl
  | r :: l => by have := flatM_len l; simp [flatM, encM] at this ⊢; omega
theorem flatM_append (l m : List Mb) : flatM (l ++ m) = flatM l ++ flatM m := by unfold flatM; rw [List.flatMap_append]
theorem flatM_one (l : List Mb) : ∀ u ∈ flatM l, u.oneCell' = true := by
  intro u hu
  obtain ⟨r, _, hr⟩ := List.mem_flatMap.1 hu
  simp [encM] at hr
  rcases hr with rfl | rfl | rfl | rfl | rfl <;> rfl
theorem flatM_get : ∀ {l : List Mb} {i : Nat} {r : Mb}, l[i]? = some r → (flatM l)[i * 5]? = some (.int .i64 r.id) ∧ (flatM l)[i * 5 + 1]? = some (.int .i64 r.ma) ∧ (flatM l)[i * 5 + 2]? = some (.int .i64 r.co) ∧ (flatM l)[i * 5 + 3]? = some (.int .i64 r.of_) ∧ (flatM l)[i * 5 + 4]? = some (.int .i64 r.fa)
  | x :: l, 0, r, h => by simp at h; subst h; exact ⟨rfl, rfl, rfl, rfl, rfl⟩
  | x :: l, i + 1, r, h => by
    have := flatM_get (l := l) (i := i) (r := r) (by simpa using h)
    rw [show (i + 1) * 5 = i * 5 + 5 by omega, show i * 5 + 5 + 1 = i * 5 + 1 + 5 by omega, show i * 5 + 5 + 2 = i * 5 + 2 + 5 by omega, show i * 5 + 5 + 3 = i * 5 + 3 + 5 by omega, show i * 5 + 5 + 4 = i * 5 + 4 + 5 by omega]
    exact this
theorem zints_len (l : List Int) : (zints l).length = l.length := by unfold zints; simp
theorem add_succ (x : Addr) (j : Nat) : x.add (j + 1) = ⟨x.block, x.off + (j + 1), none⟩ := by unfold Addr.add; rw [if_neg (by omega)]
section
variable {w : World} {F : Nat → Prop} {n k : Nat} {A : Option Addr}
theorem Rd.lenM {l : List Mb} (h : Rd w F 5 A n (flatM l)) : l.length = n := by have := h.1; rw [flatM_len] at this; omega
theorem Rd.lenZ {l : List Int} (h : Rd w F 1 A n (zints l)) : l.length = n := by have := h.1; rw [zints_len] at this; omega
/-- a member of a slice, as the walk asks for it -/
theorem Rd.atM {l : List Mb} (h : Rd w F 5 A n (flatM l)) (hk : k < n) : ∃ ad p, A = some ad ∧ l[k]? = some p ∧ ad.block < w.heap.size ∧ ¬ F ad.block ∧
    w.cell? (ad.add (k * 5)) = some (.int .i64 p.id) ∧ w.cell? ⟨(ad.add (k * 5)).block, (ad.add (k * 5)).off + 1, none⟩ = some (.int .i64 p.ma) ∧ w.cell? ⟨(ad.add (k * 5)).block, (ad.add (k * 5)).off + 2, none⟩ = some (.int .i64 p.co) ∧
    w.cell? ⟨(ad.add (k * 5)).block, (ad.add (k * 5)).off + 3, none⟩ = some (.int .i64 p.of_) ∧ w.cell? ⟨(ad.add (k * 5)).block, (ad.add (k * 5)).off + 4, none⟩ = some (.int .i64 p.fa) := by
  obtain ⟨ad, e, hlt, hf, hc⟩ := h.2 (by omega)
  have hl : k < l.length := by rw [h.lenM]; exact hk
  obtain ⟨f0, f1, f2, f3, f4⟩ := flatM_get (List.getElem?_eq_getElem hl)
  have c1 := hc _ _ f1
  have c2 := hc _ _ f2
  have c3 := hc _ _ f3
  have c4 := hc _ _ f4
  rw [← add_of_add, add_succ] at c1 c2 c3 c4
  exact ⟨ad, l[k], e, List.getElem?_eq_getElem hl, hlt, hf, hc _ _ f0, c1, c2, c3, c4⟩
theorem Rd.atZ {l : List Int} (h : Rd w F 1 A n (zints l)) (hk : k < n) : ∃ ad z, A = some ad ∧ l[k]? = some z ∧ ad.block < w.heap.size ∧ ¬ F ad.block ∧ w.cell? (ad.add k) = some (.int .i64 z) := by
  obtain ⟨ad, e, hlt, hf, hc⟩ := h.2 (by omega)
  have hl : k < l.length := by rw [h.lenZ]; exact hk
  refine ⟨ad, l[k], e, List.getElem?_eq_getElem hl, hlt, hf, hc _ _ ?_⟩
  unfold zints
  rw [List.getElem?_map, List.getElem?_eq_getElem hl]
  rfl
end
/-! ### append onto an own row, of a slice that may be nil -/
section
variable {P : Program} (w : World)
theorem run_append_rd (base : Nat) (t ty e : TypeId) (i : TypeInfo) (z : Value) (s bytes : Nat) (ht : P.underlying t = some (.slice e)) (hi : P.info? e = some i) (hz : i.zero = some z)
    (hsize : i.size = s) (hby : i.bytes = bytes) (hzs : z.cells.size = s) (hs0 : 0 < s)
    (v : Value) (n : Nat) (xs : List Value) (hown : w.ownsRow base e s v n xs)
    (F : Nat → Prop) (A : Option Addr) (m c : Nat) (news : List Value) (hr : Rd w F s A m news) (h1 : ∀ u ∈ news, u.oneCell' = true)
    (h63 : n + m ≤ maxLen) (hbytes : (n + m) * bytes ≤ 140737488355328) (hbase : base ≤ w.heap.size) :
    ∃ v' w', (Builtin.append_ #[t, t] ty #[v, .slice A m c]).run P w = .ok v' w' ∧ w'.ownsRow base e s v' (n + m) (xs ++ news) ∧ w.grownBy w' v.ownBlock ∧
      (v'.ownBlock = v.ownBlock ∨ v'.ownBlock = some w.heap.size) := by
  have hnil : m = 0 → ∃ v' w', (Builtin.append_ #[t, t] ty #[v, .slice none 0 c]).run P w = .ok v' w' ∧ w'.ownsRow base e s v' (n + m) (xs ++ news) ∧ w.grownBy w' v.ownBlock ∧
      (v'.ownBlock = v.ownBlock ∨ v'.ownBlock = some w.heap.size) := fun hm => by
    subst hm
    have hn : news = [] := List.eq_nil_of_length_eq_zero (by simpa using hr.1)
    subst hn
    refine ⟨v, w, ?_, by simpa using hown, World.grownBy.refl w _, .inl rfl⟩
    rcases hown.2 with ⟨rfl, rfl⟩ | ⟨b, cap, cur, rfl, _, _, hnc, _⟩
    · simp [Builtin.append_, run_underlying ht, sizeOf, typeInfo, hi, Builtin.lenOf, Builtin.firstCells]
    · simp [Builtin.append_, run_underlying ht, sizeOf, typeInfo, hi, Builtin.lenOf, Builtin.firstCells, hnc, storeCells]
  cases A with
  | none =>
    have hm : m = 0 := by
      rcases Nat.eq_zero_or_pos m with h0 | h0
      · exact h0
      · obtain ⟨ad, h, _⟩ := hr.2 h0
        cases h
    have := hnil hm
    rwa [hm] at this ⊢
  | some ad =>
    have hcells : ∀ j u, news[j]? = some u → w.cell? (ad.add j) = some u := by
      intro j u hu
      rcases Nat.eq_zero_or_pos m with h0 | h0
      · have hn : news = [] := List.eq_nil_of_length_eq_zero (by rw [hr.1, h0, Nat.zero_mul])
        subst hn
        simp at hu
      · obtain ⟨ad', h, _, _, hc⟩ := hr.2 h0
        injection h with h
        subst h
        exact hc j u hu
    obtain ⟨v', w', hrun, h2, h3, _, h5⟩ := run_append_own_at (P := P) w base t ty e i z s bytes ht hi hz hsize hby hzs hs0 v n xs hown ad m c news hr.1 hcells h1 h63 hbytes hbase
    exact ⟨v', w', hrun, h2, h3, h5⟩
theorem wpList_append_rd {ops : Array Oper} {rest : List Oper} {o : Oper} {a : Act} {Q : Exit → Act → World → Prop} (hgd : o.guard = none) (x y : Operand) (t : TypeId)
    (ho : o.op = .call { callee := .builtin .append, args := #[x, y], argTypes := #[t, t] })
    (base : Nat) (e : TypeId) (i : TypeInfo) (z : Value) (s bytes : Nat) (ht : P.underlying t = some (.slice e)) (hi : P.info? e = some i) (hz : i.zero = some z)
    (hsize : i.size = s) (hby : i.bytes = bytes) (hzs : z.cells.size = s) (hs0 : 0 < s)
    (v : Value) (n : Nat) (xs : List Value) (hx : a.eval x = v) (hown : w.ownsRow base e s v n xs)
    (F : Nat → Prop) (A : Option Addr) (m c : Nat) (news : List Value) (hy : a.eval y = .slice A m c) (hr : Rd w F s A m news) (h1 : ∀ u ∈ news, u.oneCell' = true)
    (h63 : n + m ≤ maxLen) (hbytes : (n + m) * bytes ≤ 140737488355328) (hbase : base ≤ w.heap.size)
    (h : ∀ v' w', w'.ownsRow base e s v' (n + m) (xs ++ news) → w.grownBy w' v.ownBlock → (v'.ownBlock = v.ownBlock ∨ v'.ownBlock = some w.heap.size) → wpList P ops Q rest (a.put o.dst v') w') : wpList P ops Q (o :: rest) a w :=
  wpList_plain hgd fun K hK => by
    obtain ⟨v', w', hrun, h2, h3, h4⟩ := run_append_rd (P := P) w base t o.type e i z s bytes ht hi hz hsize hby hzs hs0 v n xs hown F A m c news hr h1 h63 hbytes hbase
    unfold Oper.wp execOp
    simp only [ho, resolve, invoke, builtin, Sem.run_bind, Sem.run_pure, Result.andThen_ok, List.map_toArray, List.map_cons, List.map_nil, hx, hy, hrun]
    exact hK _ _ (h v' w' h2 h3 h4)
end
theorem mem_info : (Tryz.prog.info? 115).map (fun i => (i.zero, i.size, i.bytes)) = some (some (.agg #[.int .i64 0, .int .i64 0, .int .i64 0, .int .i64 0, .int .i64 0]), 5, 40) := by kernel_rfl
theorem info_parts {P : Program} {t : TypeId} {z : Option Value} {s b : Nat} (h : (P.info? t).map (fun i => (i.zero, i.size, i.bytes)) = some (z, s, b)) : ∃ i, P.info? t = some i ∧ i.zero = z ∧ i.size = s ∧ i.bytes = b := by
  cases hi : P.info? t with
  | none => rw [hi] at h; cases h
  | some i => rw [hi] at h; simp at h; exact ⟨i, rfl, h.1, h.2.1, h.2.2⟩
end Go.Proofs.YteoodompphhkbaaGreatDoor.Ros

/- Run -/
namespace Go.Proofs.YteoodompphhkbaaGreatDoor.Ros
set_option maxRecDepth 100000
open Go.RowKit Go.Lib

section
variable {P : Program} (w : World)
theorem run_copy_row (dT sT ty e : TypeId) (size g o dLen dCap k : Nat) (cur : Array Value) (a : Addr) (sLen sCap : Nat) (cs : List Value)
    (hu : P.underlying dT = some (.slice e)) (hs : (P.info? e).map (·.size) = some size) (hg : w.heap[g]? = some (.cells cur e (0, 0))) (hk : k = Nat.min sLen dLen) (hn : cs.length = k * size)
    (hsrc : ∀ j v, cs[j]? = some v → w.cell? (a.add j) = some v) (hfit : o + cs.length ≤ cur.size) (h1 : ∀ v ∈ cs, v.oneCell' = true) :
    (Builtin.copy_ #[dT, sT] ty #[.slice (some ⟨g, o, none⟩) dLen dCap, .slice (some a) sLen sCap]).run P w = .ok (goInt k) (w.setRow g (cur.toList.take o ++ cs ++ cur.toList.drop (o + cs.length)).toArray) := by
  cases hq : P.info? e with
  | none => simp [hq] at hs
  | some i =>
    have hi : i.size = size := by simpa [hq] using hs
    have hl := run_loadCells_list (P := P) w a cs hsrc
    have hst := run_storeCells_at P g o e cs 0 cur w hg (by simpa using hfit) h1
    simp only [Nat.add_zero] at hst
    rw [hn] at hl
    simp [Builtin.copy_, run_underlying hu, Builtin.lenOf, Builtin.firstCells, sizeOf, typeInfo, hq, hi, ← hk, hl, hst]
end

/-! ### operations whose run is known -/
section
variable {P : Program} (w : World)
theorem step_copy_run {ops : Array Oper} {o : Oper} {a : Act} {K : Act → World → Prop} {Q : Exit → Act → World → Prop} {E : Prop}
    (hg : o.guard = none) (d x : Operand) (dT sT : TypeId) (hop : o.op = Op.call { callee := Callee.builtin Builtin.copy, args := #[d, x], argTypes := #[dT, sT] })
    (v u : Value) (hd : a.eval d = v) (hx : a.eval x = u) {v' : Value} {w' : World} (hr : (Builtin.copy_ #[dT, sT] o.type #[v, u]).run P w = .ok v' w') (hK : K (a.put o.dst v') w') :
    if Region.wanted o (yielded ops a.tmps) = true then Oper.wp P o a w K Q else E := by
  have hw : Region.wanted o (yielded ops a.tmps) = true := by simp [Region.wanted, hg]
  rw [if_pos hw]
  unfold Oper.wp
  simp [execOp, hop, resolve, invoke, builtin, hd, hx, hr, Result.andThen]
  exact hK
theorem wpList_append_run {ops : Array Oper} {rest : List Oper} {o : Oper} {a : Act} {Q : Exit → Act → World → Prop} (hgd : o.guard = none) (d s : Operand) (t t' : TypeId)
    (ho : o.op = .call { callee := .builtin .append, args := #[d, s], argTypes := #[t, t'] }) (v u : Value) (hd : a.eval d = v) (hs : a.eval s = u) {v' : Value} {w' : World}
    (hr : (Builtin.append_ #[t, t'] o.type #[v, u]).run P w = .ok v' w') (h : wpList P ops Q rest (a.put o.dst v') w') : wpList P ops Q (o :: rest) a w :=
  wpList_plain hgd fun _ hK => by
    unfold Oper.wp execOp
    simp only [ho, resolve, invoke, builtin, Sem.run_bind, Sem.run_pure, Result.andThen_ok, List.map_toArray, List.map_cons, List.map_nil, hd, hs, hr]
    exact hK _ _ h
end

theorem grown_setRow (w : World) (g : Nat) (cs : Array Value) : w.grownBy (w.setRow g cs) (some g) :=
  ⟨rfl, rfl, rfl, by simp, fun k _ hn => setRow_other w g k cs (fun e => hn (by rw [e]))⟩
theorem grown_drew {w w' : World} {row : Option Nat} (h : w.drew.grownBy w' row) : w.grownBy w' row := ⟨h.os, h.tape, h.output, h.size, h.block⟩
/-- what an own row is, seen as its block -/
theorem own_of_row {w : World} {g n cap s : Nat} {e : TypeId} {xs : List Value} {cur : Array Value} (hh : w.heap[g]? = some (.cells cur e (0, 0))) (hnc : n ≤ cap) (hcm : cap ≤ maxLen) (hcs : cur.size = cap * s) (rest : List Value) (hc : cur.toList = xs ++ rest) (hl : xs.length = n * s) :
    w.ownsRow 0 e s (.slice (some ⟨g, 0, none⟩) n cap) n xs :=
  ⟨hl, .inr ⟨g, cap, cur, rfl, Nat.zero_le _, hh, hnc, hcm, hcs, by rw [hc, ← hl]; exact List.take_left⟩⟩
theorem own_to_row {w : World} {g n cap s : Nat} {e : TypeId} {xs : List Value} (h : w.ownsRow 0 e s (.slice (some ⟨g, 0, none⟩) n cap) n xs) :
    ∃ cur rest, w.heap[g]? = some (.cells cur e (0, 0)) ∧ n ≤ cap ∧ cap ≤ maxLen ∧ cur.size = cap * s ∧ cur.toList = xs ++ rest ∧ xs.length = n * s ∧ rest.length = (cap - n) * s := by
  rcases h.2 with ⟨h0, _⟩ | ⟨g', cap', cur, h0, _, hh, hnc, hcm, hcs, ht⟩
  · cases h0
  · injection h0 with h1 h2 h3
    injection h1 with h1
    injection h1 with h1
    subst h1; subst h3
    refine ⟨cur, cur.toList.drop (n * s), hh, hnc, hcm, hcs, by rw [← ht]; exact (List.take_append_drop _ _).symm, h.1, ?_⟩
    rw [List.length_drop, Array.length_toList, hcs, Nat.sub_mul]
/-- a list with a piece of it laid anew -/
theorem relay {a b c vs : List Value} {cur : Array Value} {o : Nat} (hc : cur.toList = a ++ (b ++ c)) (ho : a.length = o) (hb : b.length = vs.length) :
    (cur.toList.take o ++ vs ++ cur.toList.drop (o + vs.length)).toArray.toList = a ++ (vs ++ c) := by
  subst ho
  rw [hc, ← hb]
  simp [List.drop_append]
theorem relay_size {vs : List Value} {cur : Array Value} {o : Nat} (h : o + vs.length ≤ cur.size) : (cur.toList.take o ++ vs ++ cur.toList.drop (o + vs.length)).toArray.size = cur.size := by
  simp only [List.size_toArray, List.length_append, List.length_take, List.length_drop, Array.length_toList]
  omega
end Go.Proofs.YteoodompphhkbaaGreatDoor.Ros

/- Fns -/
namespace Go.Proofs.YteoodompphhkbaaGreatDoor.Ros
set_option maxRecDepth 100000
open Go.RowKit Go.Lib Go.Maps

theorem isid_any (x : Int) (w : World) :
    Calls Tryz.prog 94 #[.int .i64 x] w fun e w' => e = .returned (.bool (isIdB x)) ∧ w = w' := by
  by_cases h1 : 1 ≤ x
  · by_cases h2 : x ≤ 4294967296
    · have HX : Hid (isIdB x = true) := by show _ = _; unfold isIdB; simp [h1, h2]
      go_enter Tryz.func94, Tryz.ntmps94
      go_wp2
      go_ret
      exact ⟨by rw [HX.out]; rfl, rfl⟩
    · have HX : Hid (isIdB x = false) := by show _ = _; unfold isIdB; simp [h2]
      have h3 : decide (x ≤ 4294967296) = false := by simp; omega
      clear h2
      go_enter Tryz.func94, Tryz.ntmps94
      go_wp2
      go_ret
      exact ⟨by rw [HX.out]; rfl, rfl⟩
  · have HX : Hid (isIdB x = false) := by show _ = _; unfold isIdB; simp [h1]
    have h3 : x < 1 := by omega
    clear h1
    go_enter Tryz.func94, Tryz.ntmps94
    go_wp2
    go_ret
    exact ⟨by rw [HX.out]; rfl, rfl⟩
theorem istime_any (x : Int) (w : World) :
    Calls Tryz.prog 175 #[.int .i64 x] w fun e w' => e = .returned (.bool (isTimeB x)) ∧ w = w' := by
  by_cases h1 : 0 ≤ x
  · by_cases h2 : x ≤ 1099511627776
    · have HX : Hid (isTimeB x = true) := by show _ = _; unfold isTimeB; simp [h1, h2]
      go_enter Tryz.func175, Tryz.ntmps175
      go_wp2
      go_ret
      exact ⟨by rw [HX.out]; rfl, rfl⟩
    · have HX : Hid (isTimeB x = false) := by show _ = _; unfold isTimeB; simp [h2]
      have h3 : decide (x ≤ 1099511627776) = false := by simp; omega
      clear h2
      go_enter Tryz.func175, Tryz.ntmps175
      go_wp2
      go_ret
      exact ⟨by rw [HX.out]; rfl, rfl⟩
  · have HX : Hid (isTimeB x = false) := by show _ = _; unfold isTimeB; simp [h1]
    have h3 : x < 0 := by omega
    clear h1
    go_enter Tryz.func175, Tryz.ntmps175
    go_wp2
    go_ret
    exact ⟨by rw [HX.out]; rfl, rfl⟩
theorem nan_any (x : Int) (w : World) : Calls Tryz.prog 241 #[.int .i64 x] w fun e w' => e = .returned (.bool false) ∧ w = w' := by
  go_enter Tryz.func241, Tryz.ntmps241
  go_wp2
  go_ret
  exact ⟨rfl, rfl⟩
def cmpI (x y : Int) : Int := if x < y then -1 else if y < x then 1 else 0
theorem cmp_any (x y : Int) (w : World) : Calls Tryz.prog 174 #[.int .i64 x, .int .i64 y] w fun e w' => e = .returned (.int .i64 (cmpI x y)) ∧ w = w' := by
  rcases (by omega : x < y ∨ y < x ∨ x = y) with h | h | h
  · have HX : Hid (cmpI x y = -1) := by show _ = _; unfold cmpI; rw [if_pos h]
    rw [HX.out]
    go_enter Tryz.func174, Tryz.ntmps174
    go_wp2_with (fail)
    refine (nan_any x _).mono ?_
    rintro e w1 ⟨rfl, rfl⟩
    go_wp2_with (fail)
    refine (nan_any y _).mono ?_
    rintro e w1 ⟨rfl, rfl⟩
    go_wp2
    go_ret
    exact ⟨rfl, rfl⟩
  · have HX : Hid (cmpI x y = 1) := by show _ = _; unfold cmpI; rw [if_neg (by omega), if_pos h]
    rw [HX.out]
    have t1 : decide (x < y) = false := by simp; omega
    go_enter Tryz.func174, Tryz.ntmps174
    go_wp2_with (fail)
    refine (nan_any x _).mono ?_
    rintro e w1 ⟨rfl, rfl⟩
    go_wp2_with (fail)
    refine (nan_any y _).mono ?_
    rintro e w1 ⟨rfl, rfl⟩
    go_wp2
    go_ret
    exact ⟨rfl, rfl⟩
  · subst h
    have HX : Hid (cmpI x x = 0) := by show _ = _; unfold cmpI; rw [if_neg (by omega), if_neg (by omega)]
    rw [HX.out]
    go_enter Tryz.func174, Tryz.ntmps174
    go_wp2_with (fail)
    refine (nan_any x _).mono ?_
    rintro e w1 ⟨rfl, rfl⟩
    go_wp2_with (fail)
    refine (nan_any x _).mono ?_
    rintro e w1 ⟨rfl, rfl⟩
    go_wp2
    go_ret
    exact ⟨rfl, rfl⟩
theorem by_any (p : Mb) (x : Int) (w : World) : Calls Tryz.prog 173 #[vM p, .int .i64 x] w fun e w' => e = .returned (.int .i64 (cmpI p.id x)) ∧ Below w.heap.size w w' := by
  obtain ⟨q, HQ⟩ : ∃ q, Hid (cmpI p.id x = q) := ⟨_, Lib.hid rfl⟩
  go_enter Tryz.func173, Tryz.ntmps173
  go_wp2_with (fail)
  refine (cmp_any p.id x _).mono ?_
  rintro e w1 ⟨rfl, rfl⟩
  rw [HQ.out]
  go_wp2
  go_ret
  exact ⟨by rw [HQ.out]; rfl, (Below.refl _ _).alloc (Nat.le_refl _) _⟩
/-! ### the binary search -/
theorem cmp_lt {a x : Int} (h : a < x) : cmpI a x = -1 := by unfold cmpI; rw [if_pos h]
theorem cmp_ge {a x : Int} (h : x ≤ a) : 0 ≤ cmpI a x := by unfold cmpI; rw [if_neg (by omega)]; split <;> omega
theorem cmp_eq {a x : Int} : (cmpI a x == 0) = decide (a = x) := by
  unfold cmpI
  rw [Bool.eq_iff_iff]
  simp only [beq_iff_eq, decide_eq_true_eq]
  split
  · omega
  · split <;> omega
theorem has_pos {L : List Mb} (hu : Up L) {x : Int} {p : Mb} (h : L[posL L x]? = some p) : hasL L x = decide (p.id = x) := by
  rw [Bool.eq_iff_iff, decide_eq_true_eq]
  constructor
  · intro hh
    obtain ⟨q, hq, e⟩ := has_at hu hh
    rw [h] at hq
    injection hq with hq
    rw [hq]; exact e
  · exact fun e => at_has h e
theorem has_past {L : List Mb} (hu : Up L) {x : Int} (h : posL L x = L.length) : hasL L x = false := by
  cases hh : hasL L x
  · rfl
  · have := pos_has hu hh; omega
theorem up_get {L : List Mb} (hu : Up L) {i j : Nat} {p q : Mb} (hp : L[i]? = some p) (hq : L[j]? = some q) (h : i < j) : p.id < q.id := by
  obtain ⟨h1, e1⟩ := List.getElem?_eq_some_iff.1 hp
  obtain ⟨h2, e2⟩ := List.getElem?_eq_some_iff.1 hq
  have := List.pairwise_iff_getElem.1 hu i j h1 h2 h
  rw [e1, e2] at this
  exact this
theorem up_le {L : List Mb} (hu : Up L) {i j : Nat} {p q : Mb} (hp : L[i]? = some p) (hq : L[j]? = some q) (h : i ≤ j) : p.id ≤ q.id := by
  by_cases e : i = j
  · subst e; rw [hp] at hq; injection hq with hq; rw [hq]; exact Int.le_refl _
  · have := up_get hu hp hq (by omega); omega
theorem up_ahead {L : List Mb} (hu : Up L) {x : Int} {m : Nat} {p : Mb} (hp : L[m]? = some p) (h : p.id < x) : ∀ j q, j < m + 1 → L[j]? = some q → q.id < x := fun j q hj hq => by
  have := up_le hu hq hp (by omega); omega
theorem up_behind {L : List Mb} (hu : Up L) {x : Int} {m : Nat} {p : Mb} (hp : L[m]? = some p) (h : x ≤ p.id) : ∀ j q, m ≤ j → L[j]? = some q → x ≤ q.id := fun j q hj hq => by
  have := up_le hu hp hq hj; omega

set_option maxHeartbeats 2000000 in
theorem search_any (A : Option Addr) (n c : Nat) (L : List Mb) (x : Int) (F : Nat → Prop) (w : World) (hn : n ≤ 1000) (hr : Rd w F 5 A n (flatM L)) (hu : Up L) :
    Calls Tryz.prog 172 #[.slice A n c, .int .i64 x, .func (.func 173) #[] #[]] w fun e w' => e = .returned (.tuple #[.int .i64 ((posL L x : Nat) : Int), .bool (hasL L x)]) ∧ Below w.heap.size w w' := by
  have HR := Lib.hid hr
  have HL := Lib.hid hr.lenM
  have HU := Lib.hid hu
  have d0 : (n : Int) ≤ 1000 := by omega
  clear hr hu
  go_enter Tryz.func172, Tryz.ntmps172
  go_wp2
  go_loopw [9, 10] (fun s9 s10 wr => ∃ lo hi : Nat, s9 = .int .i64 lo ∧ s10 = .int .i64 hi ∧ lo ≤ hi ∧ hi ≤ n ∧ (∀ j q, j < lo → L[j]? = some q → q.id < x) ∧ (∀ j q, hi ≤ j → L[j]? = some q → x ≤ q.id) ∧ Below w.heap.size w wr) (fun s t _ => (intOf t - intOf s).toNat)
  case atStart => exact ⟨0, n, rfl, rfl, by omega, by omega, fun j q hj => absurd hj (by omega), fun j q hj hq => absurd (List.getElem?_eq_some_iff.1 hq).1 (by have := HL.out; omega), Below.refl _ _⟩
  case round =>
    obtain ⟨lo, hi, rfl, rfl, hlh, hin, h1, h2, hb⟩ := hrel
    have H1 := Lib.hid h1
    have H2 := Lib.hid h2
    have HB := Lib.hid hb
    have HRR := Lib.hid (HR.out.below hb)
    clear h1 h2 hb
    by_cases hlt : lo < hi
    · obtain ⟨ad, p, rfl, hp, hbl, hfl, c0, c1, c2, c3, c4⟩ := HRR.out.atM (k := (lo + hi) / 2) (by omega)
      have HP := Lib.hid hp
      clear hp hfl
      by_cases hx : p.id < x
      · have HN := Lib.hid (up_ahead HU.out HP.out hx)
        have HC := Lib.hid (cmp_lt hx)
        clear hx
        go_wp2_with (fail)
        refine (by_any p x _).mono ?_
        rintro e w1 ⟨rfl, hb1⟩
        rw [HC.out]
        have HB1 := Lib.hid (HB.out.trans (hb1.mono HB.out.size))
        clear hb1
        go_wp2
        go_roundw
        case rel => exact ⟨(lo + hi) / 2 + 1, hi, by go_num, rfl, by omega, hin, HN.out, H2.out, HB1.out⟩
        case measure => simp [intOf]; omega
      · have HN := Lib.hid (up_behind HU.out HP.out (x := x) (by omega))
        have hq0 : 0 ≤ cmpI p.id x := cmp_ge (by omega)
        obtain ⟨q, HQ⟩ : ∃ q, Hid (cmpI p.id x = q) := ⟨_, Lib.hid rfl⟩
        have hq : 0 ≤ q := by rw [← HQ.out]; exact hq0
        have hq2 : decide (q < 0) = false := by simp; omega
        clear hx hq0
        go_wp2_with (fail)
        refine (by_any p x _).mono ?_
        rintro e w1 ⟨rfl, hb1⟩
        rw [HQ.out]
        have HB1 := Lib.hid (HB.out.trans (hb1.mono HB.out.size))
        clear hb1
        go_wp2
        go_roundw
        case rel => exact ⟨lo, (lo + hi) / 2, rfl, by go_num, by omega, by omega, H1.out, HN.out, HB1.out⟩
        case measure => simp [intOf]; omega
    · obtain rfl : hi = lo := by omega
      have HPS : Hid (posL L x = hi) := Lib.hid (pos_stop (by rw [HL.out]; omega) H1.out (fun q hq => H2.out hi q (Nat.le_refl _) hq))
      by_cases hn2 : hi < n
      · obtain ⟨ad, p, rfl, hp, hbl, hfl, c0, c1, c2, c3, c4⟩ := HRR.out.atM (k := hi) hn2
        have HH : Hid (hasL L x = (cmpI p.id x == 0)) := Lib.hid (by rw [cmp_eq]; exact has_pos HU.out (by rw [HPS.out]; exact hp))
        obtain ⟨q, HQ⟩ : ∃ q, Hid (cmpI p.id x = q) := ⟨_, Lib.hid rfl⟩
        clear hp hfl
        go_wp2_with (fail)
        refine (by_any p x _).mono ?_
        rintro e w1 ⟨rfl, hb1⟩
        rw [HQ.out]
        have HB1 := Lib.hid (HB.out.trans (hb1.mono HB.out.size))
        clear hb1
        go_wp2
        go_ret2
        exact ⟨by rw [HPS.out, HH.out, HQ.out]; rfl, HB1.out⟩
      · obtain rfl : hi = n := by omega
        have HH : Hid (hasL L x = false) := Lib.hid (has_past HU.out (by rw [HPS.out, HL.out]))
        go_wp2
        go_ret2
        exact ⟨by rw [HPS.out, HH.out]; rfl, HB.out⟩
end Go.Proofs.YteoodompphhkbaaGreatDoor.Ros

/- Insert -/
namespace Go.Proofs.YteoodompphhkbaaGreatDoor.Ros
set_option maxRecDepth 100000
open Go.RowKit Go.Lib

/-- members are handed back, in the row that was handed in or in a new one; nothing else turns -/
def Ins (v : Value) (l' : List Mb) (w : World) (e : Ending) (w' : World) : Prop :=
  ∃ v', e = .returned v' ∧ w'.ownsRow 0 115 5 v' l'.length (flatM l') ∧ w.grownBy w' v.ownBlock ∧ (v'.ownBlock = v.ownBlock ∨ ∃ k, v'.ownBlock = some k ∧ w.heap.size ≤ k)
abbrev rowM (x : Mb) : Array Value := #[.int .i64 x.id, .int .i64 x.ma, .int .i64 x.co, .int .i64 x.of_, .int .i64 x.fa]
theorem rd_blk {w : World} {vb : Nat} {x : Mb} {t : TypeId} {F : Nat → Prop} (h : Blk w vb t (rowM x)) (hF : ¬ F vb) : Rd w F 5 (some ⟨vb, 0, none⟩) 1 (flatM [x]) :=
  ⟨rfl, fun _ => ⟨_, rfl, h.lt, hF, fun j u hu => by
    rw [Go.WideShapes.add_plain, Nat.zero_add, h.cell j]
    simpa [flatM, encM] using hu⟩⟩

set_option maxHeartbeats 2000000 in
theorem insert_end (v : Value) (l : List Mb) (x : Mb) (vb : Nat) (w : World) (hown : w.ownsRow 0 115 5 v l.length (flatM l)) (hlen : l.length ≤ 1000) (hx : Blk w vb 115 (rowM x)) :
    Calls Tryz.prog 168 #[v, .int .i64 (l.length : Int), .slice (some ⟨vb, 0, none⟩) 1 1] w (Ins v (l ++ [x]) w) := by
  obtain ⟨i0, hi0, hz0, hz1, hz2⟩ := info_parts mem_info
  obtain ⟨A, c, rfl, hnc, hcm⟩ := own_form hown
  obtain ⟨n, hn⟩ : ∃ n, l.length = n := ⟨_, rfl⟩
  rw [hn] at hown hnc hlen ⊢
  have HN := Lib.hid hn
  have HO := Lib.hid hown
  have HX := Lib.hid (rd_blk (F := no) hx (fun f => f.elim))
  clear hown hx hn
  go_enter Tryz.func168, Tryz.ntmps168
  go_wp2_with (at_builtin; refine wpList_append_rd _ rfl _ _ 134 rfl 0 115 i0 _ 5 40 Tryz.underlying134 hi0 hz0 hz1 hz2 rfl (by omega) (.slice A n c) n (flatM l) rfl HO.out no (some ⟨vb, 0, none⟩) 1 1 (flatM [x]) rfl HX.out (flatM_one _) (by unfold maxLen; omega) (by omega) (Nat.zero_le _) ?_; intro v2 w2 hown2 hg2 hat2; have H2 := Lib.hid hown2; have G2 := Lib.hid hg2; have T2 := Lib.hid hat2; clear hown2 hg2 hat2)
  all_goals
    go_ret
    refine ⟨v2, rfl, ?_, ?_, ?_⟩
    · rw [List.length_append, HN.out, flatM_append]; exact H2.out
    · first | exact G2.out | (rename_i h; subst h; exact G2.out)
    · rcases T2.out with h | h
      · exact .inl (h.trans (by cases A <;> rfl))
      · exact .inr ⟨_, h, Nat.le_refl _⟩

theorem apart_run (w : World) (vb g o lb cb : Nat) (x : Mb) (cur : Array Value) (hx : Blk w vb 115 (rowM x)) (hg : w.heap[g]? = some (.cells cur 115 (0, 0))) (hc : cur.size ≠ 0) (hne : vb ≠ g) :
    (callFunc 239 #[.slice (some ⟨vb, 0, none⟩) 1 1, .slice (some ⟨g, o, none⟩) lb cb]).run Tryz.prog w = .ok (.value (.bool false)) w := by
  obtain ⟨i0, hi0, hz0, hz1, hz2⟩ := info_parts mem_info
  rw [run_callFunc_extern Tryz.func239 (by kernel_rfl) (by kernel_rfl) (by kernel_rfl) (e := Extern.SlicesOverlaps.overlaps #[134, 134] #[4]) (by kernel_rfl),
    Lib.run_overlaps_apart w 134 4 115 Tryz.underlying134 5 (fun w => by simp [sizeOf, typeInfo, hi0, hz1]) ⟨vb, 0, none⟩ ⟨g, o, none⟩ 1 1 lb cb hne 115 115 5 cur.size
      (by unfold Blk at hx; simp [World.shape?, hx]) (by simp [World.shape?, hg]) hc (hx.frozen 0) (hx.frozen 5)]
  rfl
/-- a row's cells, in three pieces -/
theorem pieces (cs : List Value) (p q : Nat) (h : p + q ≤ cs.length) : ∃ a b c, cs = a ++ (b ++ c) ∧ a.length = p ∧ b.length = q := by
  refine ⟨cs.take p, (cs.drop p).take q, (cs.drop p).drop q, by rw [List.take_append_drop, List.take_append_drop], by rw [List.length_take]; omega, by rw [List.length_take, List.length_drop]; omega⟩
/-- there is room: what lies from i on is moved, and the new one stored -/
theorem room_run (w : World) (g n c i vb : Nat) (l : List Mb) (x : Mb) (hown : w.ownsRow 0 115 5 (.slice (some ⟨g, 0, none⟩) n c) n (flatM l)) (hi : i < n) (hroom : n + 1 ≤ c) (hx : Blk w vb 115 (rowM x)) (hne : vb ≠ g) :
    ∃ w1 w2, (∀ ty dc sc, (Builtin.copy_ #[134, 134] ty #[.slice (some ⟨g, (i + 1) * 5, none⟩) (n + 1 - (i + 1)) dc, .slice (some ⟨g, i * 5, none⟩) (n + 1 - i) sc]).run Tryz.prog w.drew = .ok (.int .i64 ((n - i : Nat) : Int)) w1) ∧
      (∀ ty dc, (Builtin.copy_ #[134, 134] ty #[.slice (some ⟨g, i * 5, none⟩) (n + 1 - i) dc, .slice (some ⟨vb, 0, none⟩) 1 1]).run Tryz.prog w1 = .ok (.int .i64 1) w2) ∧
      w2.ownsRow 0 115 5 (.slice (some ⟨g, 0, none⟩) (n + 1) c) (n + 1) (flatM (l.take i ++ x :: l.drop i)) ∧ w.grownBy w2 (some g) := by
  obtain ⟨i0, hi0, hz0, hz1, hz2⟩ := info_parts mem_info
  have hs5 : (Tryz.prog.info? 115).map (·.size) = some 5 := by rw [hi0]; simp [hz1]
  obtain ⟨cur, rest, hh, hnc, hcm, hcs, hcl, hxl, hrl⟩ := own_to_row hown
  have hll : l.length = n := by rw [flatM_len] at hxl; omega
  have hsp : flatM l = flatM (l.take i) ++ flatM (l.drop i) := by rw [← flatM_append, List.take_append_drop]
  have hta : (flatM (l.take i)).length = i * 5 := by rw [flatM_len, List.length_take]; omega
  have hda : (flatM (l.drop i)).length = (n - i) * 5 := by rw [flatM_len, List.length_drop, hll]
  obtain ⟨q, b, d, hq, hql, hbl⟩ := pieces (flatM (l.drop i) ++ rest) 5 ((n - i) * 5) (by rw [List.length_append, hda, hrl]; omega)
  have hc0 : cur.toList = flatM (l.take i) ++ (q ++ (b ++ d)) := by rw [hcl, hsp, List.append_assoc, hq]
  have hf1 : (i + 1) * 5 + (flatM (l.drop i)).length ≤ cur.size := by rw [hda, hcs]; omega
  have r1 := relay (cur := cur) (o := (i + 1) * 5) (a := flatM (l.take i) ++ q) (b := b) (c := d) (vs := flatM (l.drop i)) (by rw [hc0, List.append_assoc]) (by rw [List.length_append, hta, hql]; omega) (by rw [hbl, hda])
  have s1 := relay_size hf1
  obtain ⟨X1, hX1⟩ : ∃ X, X = (cur.toList.take ((i + 1) * 5) ++ flatM (l.drop i) ++ cur.toList.drop ((i + 1) * 5 + (flatM (l.drop i)).length)).toArray := ⟨_, rfl⟩
  rw [← hX1] at r1 s1
  have hh1 : (w.drew.setRow g X1).heap[g]? = some (.cells X1 115 (0, 0)) := setRow_heap w.drew g cur X1 _ (0, 0) hh
  have hf2 : i * 5 + (flatM [x]).length ≤ X1.size := by rw [s1, hcs]; simp [flatM, encM]; omega
  have r2 := relay (cur := X1) (o := i * 5) (a := flatM (l.take i)) (b := q) (c := flatM (l.drop i) ++ d) (vs := flatM [x]) (by rw [r1, List.append_assoc]) hta (by rw [hql]; rfl)
  have s2 := relay_size hf2
  obtain ⟨X2, hX2⟩ : ∃ X, X = (X1.toList.take (i * 5) ++ flatM [x] ++ X1.toList.drop (i * 5 + (flatM [x]).length)).toArray := ⟨_, rfl⟩
  rw [← hX2] at r2 s2
  refine ⟨w.drew.setRow g X1, (w.drew.setRow g X1).setRow g X2, fun ty dc sc => ?_, fun ty dc => ?_, ?_, ?_⟩
  · have := run_copy_row (P := Tryz.prog) w.drew 134 134 ty 115 5 g ((i + 1) * 5) (n + 1 - (i + 1)) dc (n - i) cur ⟨g, i * 5, none⟩ (n + 1 - i) sc (flatM (l.drop i)) Tryz.underlying134 hs5 hh (by simp only [Nat.min_def]; split <;> omega) hda
      (fun j u hu => by
        rw [Go.WideShapes.add_plain]
        refine (cell_of_row w.drew g _ cur _ (0, 0) hh).trans ?_
        rw [← Array.getElem?_toList, hc0, ← hq, List.getElem?_append_right (by rw [hta]; omega), hta, show i * 5 + j - i * 5 = j by omega, List.getElem?_append_left (List.getElem?_eq_some_iff.1 hu).1]
        exact hu) hf1 (flatM_one _)
    rw [← hX1] at this
    exact this
  · have := run_copy_row (P := Tryz.prog) (w.drew.setRow g X1) 134 134 ty 115 5 g (i * 5) (n + 1 - i) dc 1 X1 ⟨vb, 0, none⟩ 1 1 (flatM [x]) Tryz.underlying134 hs5 hh1 (by simp only [Nat.min_def]; split <;> omega) rfl
      (fun j u hu => by
        rw [Go.WideShapes.add_plain, cell_setRow_other _ _ _ _ hne, Nat.zero_add]
        refine (hx.drew.cell j).trans ?_
        simpa [flatM, encM] using hu) hf2 (flatM_one _)
    rw [← hX2] at this
    exact this
  · have hh2 := setRow_heap (w.drew.setRow g X1) g X1 X2 _ (0, 0) hh1
    refine own_of_row hh2 (by omega) hcm (by rw [s2, s1, hcs]) d ?_ ?_
    · rw [r2, flatM_append, show x :: l.drop i = [x] ++ l.drop i from rfl, flatM_append, List.append_assoc, List.append_assoc]
    · rw [flatM_len, List.length_append, List.length_cons, List.length_take, List.length_drop]; omega
  · exact (grown_drew (grown_setRow w.drew g X1)).trans (grown_setRow _ g X2)

set_option maxHeartbeats 4000000 in
theorem insert_room (l : List Mb) (x : Mb) (g n c i vb : Nat) (w : World) (hown : w.ownsRow 0 115 5 (.slice (some ⟨g, 0, none⟩) n c) n (flatM l)) (hlen : n ≤ 1000) (hi : i < n) (hroom : n + 1 ≤ c) (hx : Blk w vb 115 (rowM x)) (hne : vb ≠ g) :
    Calls Tryz.prog 168 #[.slice (some ⟨g, 0, none⟩) n c, .int .i64 (i : Int), .slice (some ⟨vb, 0, none⟩) 1 1] w (Ins (.slice (some ⟨g, 0, none⟩) n c) (l.take i ++ x :: l.drop i) w) := by
  obtain ⟨cur, rest, hh, hnc, hcm', hcs, hcl, hxl, hrl⟩ := own_to_row hown
  have hll : l.length = n := by rw [flatM_len] at hxl; omega
  have HLL : Hid ((l.take i ++ x :: l.drop i).length = n + 1) := Lib.hid (by rw [List.length_append, List.length_cons, List.length_take, List.length_drop]; omega)
  have hov : ∀ o lb cb, (callFunc 239 #[.slice (some ⟨vb, 0, none⟩) 1 1, .slice (some ⟨g, o, none⟩) lb cb]).run Tryz.prog w = .ok (.value (.bool false)) w :=
    fun o lb cb => apart_run w vb g o lb cb x cur hx hh (by rw [hcs]; omega) hne
  obtain ⟨w1, w2, h1, h2, h3, h4⟩ := room_run w g n c i vb l x hown hi hroom hx hne
  have H1 := Lib.hid h1
  have H2 := Lib.hid h2
  have H3 := Lib.hid h3
  have H4 := Lib.hid h4
  have t1 : ((i : Int) == (n : Int)) = false := by simp; omega
  have t2 : decide ((c : Int) < (n : Int) + 1) = false := by simp; omega
  have t3 : ¬ c = i := by omega
  have t4 : ¬ c = i + 1 := by omega
  have t5 : (i : Int) ≤ (n : Int) := by omega
  have t6 : (i : Int) ≤ (n : Int) + 1 := by omega
  have t7 : (n : Int) + 1 ≤ (c : Int) := by omega
  have t8 : IntKind.i64.wrap ((i : Int) + 1) = (i : Int) + 1 := by rw [IntKind.wrap_i64]; omega
  have t9 : (0 : Int) ≤ (i : Int) + 1 := by omega
  have t10 : ((i : Int) + 1).toNat = i + 1 := by omega
  have t11 : i ≤ n := by omega
  clear h1 h2 h3 h4 hown hh hcl hrl hcs hxl hx
  go_enter Tryz.func168, Tryz.ntmps168
  go_wp2_with (simp only [hov])
  go_region_law (refine step_copy_run _ rfl _ _ 134 134 rfl (.slice (some ⟨g, (i + 1) * 5, none⟩) (n + 1 - (i + 1)) (c - (i + 1))) (.slice (some ⟨g, i * 5, none⟩) (n + 1 - i) (c - i)) (by simp [Act.eval, Act.put]) (by simp [Act.eval, Act.put]) (H1.out _ _ _) ?_)
  have h2 := H2.out
  go_wp2
  go_ret
  exact ⟨_, rfl, by rw [HLL.out]; exact H3.out, H4.out, .inl rfl⟩

/-- there is no room: a new row is made -/
theorem grow_run (w : World) (g n c i vb : Nat) (l : List Mb) (x : Mb) (hown : w.ownsRow 0 115 5 (.slice (some ⟨g, 0, none⟩) n c) n (flatM l)) (hlen : n ≤ 1000) (hi : i < n) (hroom : c < n + 1) (hx : Blk w vb 115 (rowM x)) :
    ∃ G w1 w2 w3, n + 1 ≤ G ∧ G ≤ 9223372036854775807 ∧
      (∀ ty, (Builtin.append_ #[134, 3] ty #[.slice (some ⟨g, 0, none⟩) i c, .int .i64 ((n : Int) + 1 - (i : Int))]).run Tryz.prog w = .ok (.slice (some ⟨w.heap.size, 0, none⟩) (n + 1) G) w1) ∧
      (∀ ty dc, (Builtin.copy_ #[134, 134] ty #[.slice (some ⟨w.heap.size, i * 5, none⟩) (n + 1 - i) dc, .slice (some ⟨vb, 0, none⟩) 1 1]).run Tryz.prog w1 = .ok (.int .i64 1) w2) ∧
      (∀ ty dc sc, (Builtin.copy_ #[134, 134] ty #[.slice (some ⟨w.heap.size, (i + 1) * 5, none⟩) (n + 1 - (i + 1)) dc, .slice (some ⟨g, i * 5, none⟩) (n - i) sc]).run Tryz.prog w2.drew = .ok (.int .i64 ((n - i : Nat) : Int)) w3) ∧
      w3.ownsRow 0 115 5 (.slice (some ⟨w.heap.size, 0, none⟩) (n + 1) G) (n + 1) (flatM (l.take i ++ x :: l.drop i)) ∧ w.grownBy w3 (some g) := by
  obtain ⟨i0, hi0, hz0, hz1, hz2⟩ := info_parts mem_info
  have hs5 : (Tryz.prog.info? 115).map (·.size) = some 5 := by rw [hi0]; simp [hz1]
  obtain ⟨cur, rest, hh, hnc, hcm, hcs, hcl, hxl, hrl⟩ := own_to_row hown
  have hll : l.length = n := by rw [flatM_len] at hxl; omega
  have hgl : g < w.heap.size := (Array.getElem?_eq_some_iff.1 hh).1
  have hsp : flatM l = flatM (l.take i) ++ flatM (l.drop i) := by rw [← flatM_append, List.take_append_drop]
  have hta : (flatM (l.take i)).length = i * 5 := by rw [flatM_len, List.length_take]; omega
  have hda : (flatM (l.drop i)).length = (n - i) * 5 := by rw [flatM_len, List.length_drop, hll]
  have hc0 : cur.toList = flatM (l.take i) ++ (flatM (l.drop i) ++ rest) := by rw [hcl, hsp, List.append_assoc]
  have hcell : ∀ j u, cur.toList[j]? = some u → w.cell? ⟨g, j, none⟩ = some u := fun j u hu => (cell_of_row w g j cur _ (0, 0) hh).trans (by rw [← hu, Array.getElem?_toList])
  have hold : (Builtin.firstCells i0.size i (.slice (some ⟨g, 0, none⟩) i c)).run Tryz.prog w.drew = .ok (flatM (l.take i)).toArray w.drew := by
    rw [hz1]
    exact run_firstCells_some w.drew 5 i ⟨g, 0, none⟩ i c _ hta (fun j u hu => by
      rw [Go.WideShapes.add_plain, Nat.zero_add]
      exact hcell j u (by rw [hc0, List.getElem?_append_left (List.getElem?_eq_some_iff.1 hu).1]; exact hu))
  have hik : i + (n + 1 - i) = n + 1 := by omega
  have hkk : (n : Int) + 1 - (i : Int) = ((n + 1 - i : Nat) : Int) := by omega
  have hgz := fun ty => Lib.run_append_grow_zeros w 134 3 ty 115 i0 _ .i64 .i64 Tryz.underlying134 Tryz.underlying3 hi0 hz0 (some ⟨g, 0, none⟩) i c (flatM (l.take i)) hold (n + 1 - i) (by omega) (by omega) (by omega) (by omega) (by rw [hz2]; omega) (by rw [hz2, hik]; exact growslice_fits hroom (by omega))
  obtain ⟨G, hG⟩ : ∃ G, G = grownCap w (n + 1) c 115 := ⟨_, rfl⟩
  have hGn : n + 1 ≤ G := by rw [hG]; exact grownCap_ge w _ _ _
  have hGm : G ≤ maxLen := by rw [hG]; exact grownCap_le_maxLen w (n + 1) c _ (by unfold maxLen; omega)
  rw [hik, ← hG, ← hkk] at hgz
  obtain ⟨Z, hZ⟩ : ∃ Z : Array Value, Z = Builtin.zeroCells (Value.agg #[.int .i64 0, .int .i64 0, .int .i64 0, .int .i64 0, .int .i64 0]).cells (n + 1 - i) ++ Builtin.zeroCells (Value.agg #[.int .i64 0, .int .i64 0, .int .i64 0, .int .i64 0, .int .i64 0]).cells (G - (n + 1)) := ⟨_, rfl⟩
  have hZl : Z.toList.length = (G - i) * 5 := by
    rw [Array.length_toList, hZ, Array.size_append, size_zeroCells, size_zeroCells]
    show (n + 1 - i) * 5 + (G - (n + 1)) * 5 = _
    omega
  rw [Array.append_assoc, ← hZ] at hgz
  obtain ⟨q, b, d, hq, hql, hbl⟩ := pieces Z.toList 5 ((n - i) * 5) (by rw [hZl]; omega)
  obtain ⟨X0, hX0⟩ : ∃ X : Array Value, X = (flatM (l.take i)).toArray ++ Z := ⟨_, rfl⟩
  rw [← hX0] at hgz
  have r0 : X0.toList = flatM (l.take i) ++ (q ++ (b ++ d)) := by rw [hX0, Array.toList_append, hq]
  have s0 : X0.size = G * 5 := by rw [← Array.length_toList, hX0, Array.toList_append, List.length_append, hZl]; simp only [hta]; omega
  have hh0 : (w.drew.alloc (.cells X0 115)).heap[w.heap.size]? = some (.cells X0 115 (0, 0)) := heap_alloc_new w.drew _
  have hf1 : i * 5 + (flatM [x]).length ≤ X0.size := by rw [s0]; simp [flatM, encM]; omega
  have r1 := relay (cur := X0) (o := i * 5) (a := flatM (l.take i)) (b := q) (c := b ++ d) (vs := flatM [x]) r0 hta (by rw [hql]; rfl)
  have s1 := relay_size hf1
  obtain ⟨X1, hX1⟩ : ∃ X, X = (X0.toList.take (i * 5) ++ flatM [x] ++ X0.toList.drop (i * 5 + (flatM [x]).length)).toArray := ⟨_, rfl⟩
  rw [← hX1] at r1 s1
  have hh1 := setRow_heap (w.drew.alloc (.cells X0 115)) w.heap.size X0 X1 _ (0, 0) hh0
  have hf2 : (i + 1) * 5 + (flatM (l.drop i)).length ≤ X1.size := by rw [s1, s0, hda]; omega
  have r2 := relay (cur := X1) (o := (i + 1) * 5) (a := flatM (l.take i) ++ flatM [x]) (b := b) (c := d) (vs := flatM (l.drop i)) (by rw [r1, List.append_assoc]) (by rw [List.length_append, hta]; simp [flatM, encM]; omega) (by rw [hbl, hda])
  have s2 := relay_size hf2
  obtain ⟨X2, hX2⟩ : ∃ X, X = (X1.toList.take ((i + 1) * 5) ++ flatM (l.drop i) ++ X1.toList.drop ((i + 1) * 5 + (flatM (l.drop i)).length)).toArray := ⟨_, rfl⟩
  rw [← hX2] at r2 s2
  have hbel : Below w.heap.size w (w.drew.alloc (.cells X0 115)) := ⟨rfl, rfl, rfl, by simp, fun k hk => Below.heap_alloc w.drew _ k hk⟩
  refine ⟨G, w.drew.alloc (.cells X0 115), (w.drew.alloc (.cells X0 115)).setRow w.heap.size X1, ((w.drew.alloc (.cells X0 115)).setRow w.heap.size X1).drew.setRow w.heap.size X2, hGn, by unfold maxLen at hGm; omega, hgz, fun ty dc => ?_, fun ty dc sc => ?_, ?_, ?_⟩
  · have := run_copy_row (P := Tryz.prog) (w.drew.alloc (.cells X0 115)) 134 134 ty 115 5 w.heap.size (i * 5) (n + 1 - i) dc 1 X0 ⟨vb, 0, none⟩ 1 1 (flatM [x]) Tryz.underlying134 hs5 hh0 (by simp only [Nat.min_def]; split <;> omega) rfl
      (fun j u hu => by
        rw [Go.WideShapes.add_plain, Nat.zero_add]
        refine ((hx.below hbel hx.lt).cell j).trans ?_
        simpa [flatM, encM] using hu) hf1 (flatM_one _)
    rw [← hX1] at this
    exact this
  · have := run_copy_row (P := Tryz.prog) ((w.drew.alloc (.cells X0 115)).setRow w.heap.size X1).drew 134 134 ty 115 5 w.heap.size ((i + 1) * 5) (n + 1 - (i + 1)) dc (n - i) X1 ⟨g, i * 5, none⟩ (n - i) sc (flatM (l.drop i)) Tryz.underlying134 hs5 hh1 (by simp only [Nat.min_def]; split <;> omega) hda
      (fun j u hu => by
        rw [Go.WideShapes.add_plain]
        refine (cell_setRow_other (w.drew.alloc (.cells X0 115)) w.heap.size X1 ⟨g, i * 5 + j, none⟩ (by show g ≠ w.heap.size; omega)).trans ((hbel.cell hgl).trans (hcell _ u ?_))
        rw [hc0, List.getElem?_append_right (by rw [hta]; omega), hta, show i * 5 + j - i * 5 = j by omega, List.getElem?_append_left (List.getElem?_eq_some_iff.1 hu).1]
        exact hu) hf2 (flatM_one _)
    rw [← hX2] at this
    exact this
  · have hh2 := setRow_heap ((w.drew.alloc (.cells X0 115)).setRow w.heap.size X1).drew w.heap.size X1 X2 _ (0, 0) hh1
    refine own_of_row hh2 hGn hGm (by rw [s2, s1, s0]) d ?_ ?_
    · rw [r2, flatM_append, show x :: l.drop i = [x] ++ l.drop i from rfl, flatM_append, List.append_assoc, List.append_assoc, List.append_assoc]
    · rw [flatM_len, List.length_append, List.length_cons, List.length_take, List.length_drop]; omega
  · have hb2 : Below w.heap.size w (((w.drew.alloc (.cells X0 115)).setRow w.heap.size X1).drew.setRow w.heap.size X2) :=
      below_of_only (g := w.heap.size) (((only_of_below hbel _).trans (grown_setRow _ _ X1)).trans (grown_drew (grown_setRow _ _ X2))) (Nat.le_refl _) (Nat.le_refl _)
    exact only_of_below hb2 _

set_option maxHeartbeats 4000000 in
theorem insert_grow (l : List Mb) (x : Mb) (g n c i vb : Nat) (w : World) (hown : w.ownsRow 0 115 5 (.slice (some ⟨g, 0, none⟩) n c) n (flatM l)) (hlen : n ≤ 1000) (hnc : n ≤ c) (hi : i < n) (hroom : c < n + 1) (hx : Blk w vb 115 (rowM x)) :
    Calls Tryz.prog 168 #[.slice (some ⟨g, 0, none⟩) n c, .int .i64 (i : Int), .slice (some ⟨vb, 0, none⟩) 1 1] w (Ins (.slice (some ⟨g, 0, none⟩) n c) (l.take i ++ x :: l.drop i) w) := by
  obtain ⟨cur, rest, hh, _, hcm', hcs, hcl, hxl, hrl⟩ := own_to_row hown
  have hll : l.length = n := by rw [flatM_len] at hxl; omega
  have HLL : Hid ((l.take i ++ x :: l.drop i).length = n + 1) := Lib.hid (by rw [List.length_append, List.length_cons, List.length_take, List.length_drop]; omega)
  obtain ⟨G, w1, w2, w3, hG1, hG2, h1, h2, h3, h4, h5⟩ := grow_run w g n c i vb l x hown hlen hi hroom hx
  have H3 := Lib.hid h3
  have H4 := Lib.hid h4
  have H5 := Lib.hid h5
  have t1 : ((i : Int) == (n : Int)) = false := by simp; omega
  have t2 : decide ((c : Int) < (n : Int) + 1) = true := by simp; omega
  have t3 : ¬ c = i := by omega
  have t4 : ¬ G = i := by omega
  have t4b : ¬ G = i + 1 := by omega
  have t5 : (i : Int) ≤ (n : Int) := by omega
  have t6 : (i : Int) ≤ (n : Int) + 1 := by omega
  have t7 : (i : Int) ≤ (c : Int) := by omega
  have t8 : IntKind.i64.wrap ((i : Int) + 1) = (i : Int) + 1 := by rw [IntKind.wrap_i64]; omega
  have t9 : (0 : Int) ≤ (i : Int) + 1 := by omega
  have t10 : ((i : Int) + 1).toNat = i + 1 := by omega
  have t11 : i ≤ n := by omega
  clear h3 h4 h5 hown hh hcl hrl hcs hxl hx hroom
  go_enter Tryz.func168, Tryz.ntmps168
  go_wp2_with (at_builtin; refine Lib.wpList_append_run _ rfl _ _ _ _ rfl _ _ rfl rfl _ _ (h1 _) ?_)
  go_region_law (refine step_copy_run _ rfl _ _ 134 134 rfl (.slice (some ⟨w.heap.size, (i + 1) * 5, none⟩) (n + 1 - (i + 1)) (G - (i + 1))) (.slice (some ⟨g, i * 5, none⟩) (n - i) (c - i)) (by simp [Act.eval, Act.put]) (by simp [Act.eval, Act.put]) (H3.out _ _ _) ?_)
  go_wp2
  go_ret
  exact ⟨_, rfl, by rw [HLL.out]; exact H4.out, H5.out, .inr ⟨_, rfl, Nat.le_refl _⟩⟩

theorem insert_any (v : Value) (l : List Mb) (x : Mb) (i vb : Nat) (w : World) (hown : w.ownsRow 0 115 5 v l.length (flatM l)) (hlen : l.length ≤ 1000) (hi : i ≤ l.length) (hx : Blk w vb 115 (rowM x)) (hne : v.ownBlock ≠ some vb) :
    Calls Tryz.prog 168 #[v, .int .i64 (i : Int), .slice (some ⟨vb, 0, none⟩) 1 1] w (Ins v (l.take i ++ x :: l.drop i) w) := by
  by_cases he : i = l.length
  · subst he
    rw [List.take_length, List.drop_length]
    exact insert_end v l x vb w hown hlen hx
  · rcases hown.2 with ⟨_, h0⟩ | ⟨g, c, cur, rfl, _, hh, hnc, hcm, _⟩
    · omega
    · by_cases hr : l.length + 1 ≤ c
      · exact insert_room l x g l.length c i vb w hown hlen (by omega) hr hx (fun e => hne (by rw [e]; rfl))
      · exact insert_grow l x g l.length c i vb w hown hlen hnc (by omega) (by omega) hx
end Go.Proofs.YteoodompphhkbaaGreatDoor.Ros

/- Delete -/
namespace Go.Proofs.YteoodompphhkbaaGreatDoor.Ros
set_option maxRecDepth 100000
open Go.RowKit Go.Lib

/-! ### Clone -/
/-- a list of members is handed back, in memory of its own -/
def ListsM (l : List Mb) (w : World) (e : Ending) (w' : World) : Prop :=
  Below w.heap.size w w' ∧ ∃ v, e = .returned v ∧ w'.ownsRow w.heap.size 115 5 v l.length (flatM l)
set_option maxHeartbeats 1000000 in
theorem clone_any (A : Option Addr) (n c : Nat) (l : List Mb) (F : Nat → Prop) (w : World) (hn : n ≤ 1000) (hr : Rd w F 5 A n (flatM l)) :
    Calls Tryz.prog 150 #[.slice A n c] w (ListsM l w) := by
  obtain ⟨i0, hi0, hz0, hz1, hz2⟩ := info_parts mem_info
  have HL := Lib.hid hr.lenM
  have q : ∀ (w : World) (a : Option Addr) (n c n' c' : Nat), (binOp .eql 134 (.slice a n c) (.slice none n' c')).run Tryz.prog w = .ok (.bool a.isNone) w := fun w a n c n' c' => Lib.run_eql_slice_nil w _ _ a n c n' c' Tryz.underlying134
  cases A with
  | none =>
    have h0 : n = 0 := by
      rcases Nat.eq_zero_or_pos n with h0 | h0
      · exact h0
      · obtain ⟨ad, h, _⟩ := hr.2 h0; cases h
    subst h0
    clear hr hn
    go_enter Tryz.func150, Tryz.ntmps150
    go_wp2
    go_ret
    refine ⟨Below.refl _ _, _, rfl, ?_⟩
    rw [List.eq_nil_of_length_eq_zero HL.out]
    exact World.ownsRow_nil _ _ _ _
  | some ad =>
    have HR := Lib.hid (hr.below ((Below.refl _ w).alloc (Nat.le_refl _) (.cells #[] 115)))
    clear hr
    go_enter Tryz.func150, Tryz.ntmps150
    go_wp2_with (at_builtin; refine wpList_append_rd _ rfl _ _ 134 rfl w.heap.size 115 i0 _ 5 40 Tryz.underlying134 hi0 hz0 hz1 hz2 rfl (by omega) (.slice (some ⟨w.heap.size, 0, none⟩) 0 0) 0 [] rfl (World.ownsRow_made w #[] 0 (Nat.le_refl _) (Nat.zero_le _) rfl) F (some ad) n c (flatM l) rfl HR.out (flatM_one _) (by unfold maxLen; omega) (by omega) (by simp) ?_; intro v2 w2 hown2 hg2 hat2; have H2 := Lib.hid hown2; have G2 := Lib.hid hg2; clear hown2 hg2 hat2)
    go_ret
    refine ⟨?_, v2, rfl, ?_⟩
    · exact ((Below.refl _ w).alloc (Nat.le_refl _) (.cells #[] 115)).grown G2.out (by simp) (by intro k hk; simp [Value.ownBlock] at hk; subst hk; exact Nat.le_refl _)
    · rw [HL.out]
      have := H2.out
      rwa [Nat.zero_add, List.nil_append] at this
end Go.Proofs.YteoodompphhkbaaGreatDoor.Ros

/- Ro -/
namespace Go.Proofs.YteoodompphhkbaaGreatDoor.Ros
set_option maxRecDepth 100000
open Go.RowKit Go.Lib Go.Maps

/-- block g is a roster R, whose own blocks are among F, all of them from C on -/
structure Rs (w : World) (C g : Nat) (F : Nat → Prop) (R : Ro) : Prop where
  ex : ∃ b v, Blk w g 164 #[.int .i64 R.s, v, .map (some b), .int .i64 (R.c : Int)] ∧ MapAt w b R.B ∧ w.ownsRow 0 115 5 v R.L.length (flatM R.L) ∧ F b ∧ ∀ k, v.ownBlock = some k → F k
  fg : F g
  good : Good R
  lt : ∀ i, F i → i < w.heap.size
  lo : ∀ i, F i → C ≤ i
  cb : R.c ≤ 1000000
theorem row_ne {w : World} {g n s : Nat} {e t : TypeId} {v : Value} {xs : List Value} {cs : Array Value} (h : w.ownsRow 0 e s v n xs) (hb : Blk w g t cs) (hne : e ≠ t) : ∀ k, v.ownBlock = some k → k ≠ g := by
  intro k hk e
  rcases h.2 with ⟨rfl, _⟩ | ⟨g', cap, cur, rfl, _, hh, _⟩
  · simp [Value.ownBlock] at hk
  · simp [Value.ownBlock] at hk
    unfold Blk at hb
    rw [hk, e, hb] at hh
    injection hh with hh
    injection hh with _ h2 _
    exact hne h2.symm
theorem row_ne_map {w : World} {b n s : Nat} {e : TypeId} {v : Value} {xs : List Value} {B : List Bn} (h : w.ownsRow 0 e s v n xs) (hb : MapAt w b B) : ∀ k, v.ownBlock = some k → k ≠ b := by
  intro k hk he
  rcases h.2 with ⟨rfl, _⟩ | ⟨g', cap, cur, rfl, _, hh, _⟩
  · simp [Value.ownBlock] at hk
  · simp [Value.ownBlock] at hk
    exact Blk.map_ne (show Blk w g' e cur from hh) hb (by omega)
theorem MapAt.turn {w w' : World} {F : Nat → Prop} {b : Nat} {B : List Bn} (h : MapAt w b B) (k : Turn w w' F) (hF : ¬ F b) : MapAt w' b B := by
  have hlt := h.lt
  obtain ⟨D, ⟨es, clock, hh, rest⟩, r⟩ := h
  exact ⟨D, ⟨es, clock, (k.block b hlt hF).trans hh, rest⟩, r⟩
section
variable {w w' : World} {C g : Nat} {F G : Nat → Prop} {R : Ro}
theorem Rs.turn (h : Rs w C g F R) (k : Turn w w' G) (hd : ∀ i, F i → ¬ G i) : Rs w' C g F R := by
  obtain ⟨b, v, h1, h2, h3, h4, h5⟩ := h.ex
  exact ⟨⟨b, v, h1.turn k (hd _ h.fg), h2.turn k (hd _ h4), own_turn h3 k (fun i hi => hd _ (h5 i hi)), h4, h5⟩, h.fg, h.good, fun i hi => Nat.lt_of_lt_of_le (h.lt i hi) k.size, h.lo, h.cb⟩
theorem Rs.below (h : Rs w C g F R) (k : Below w.heap.size w w') : Rs w' C g F R := h.turn (Turn.of_below k no) (fun _ _ f => f.elim)
theorem Rs.alloc (h : Rs w C g F R) (o : Obj) : Rs (w.alloc o) C g F R := h.below ((Below.refl _ _).alloc (Nat.le_refl _) _)
theorem Rs.cle (h : Rs w C g F R) : C ≤ w.heap.size := Nat.le_trans (h.lo _ h.fg) (Nat.le_of_lt (h.lt _ h.fg))
theorem Rs.glt (h : Rs w C g F R) : g < w.heap.size := h.lt _ h.fg
/-- what a walk looks at -/
theorem Rs.open_ (h : Rs w C g F R) : ∃ b A n c, Blk w g 164 #[.int .i64 R.s, .slice A n c, .map (some b), .int .i64 (R.c : Int)] ∧ MapAt w b R.B ∧ w.ownsRow 0 115 5 (.slice A n c) n (flatM R.L) ∧
    R.L.length = n ∧ n ≤ c ∧ c ≤ 9223372036854775807 ∧ n ≤ 15 ∧ F b ∧ (∀ k, (Value.slice A n c).ownBlock = some k → F k ∧ k ≠ g ∧ k ≠ b) ∧ g ≠ b ∧ Rd w no 5 A n (flatM R.L) := by
  obtain ⟨b, v, h1, h2, h3, h4, h5⟩ := h.ex
  obtain ⟨A, c, rfl, hnc, hcm⟩ := own_form h3
  have hne : ((115 : TypeId) = 164) → False := by decide
  exact ⟨b, A, R.L.length, c, h1, h2, h3, rfl, hnc, hcm, h.good.len, h4, fun k hk => ⟨h5 k hk, row_ne h3 h1 hne k hk, row_ne_map h3 h2 k hk⟩, h1.map_ne h2, Rd.of_own h3 rfl (fun _ _ f => f.elim)⟩
end

def Made (s : Int) (w : World) (e : Ending) (w' : World) : Prop :=
  ∃ g F, e = .returned (.tuple #[.pointer (some ⟨g, 0, none⟩), .int .i64 0]) ∧ Rs w' w.heap.size g F ⟨s, [], [], 0⟩ ∧ Below w.heap.size w w'
theorem new_yes (s : Int) (w : World) (hs : isIdB s = true) : Calls Tryz.prog 42 #[.int .i64 s] w (Made s w) := by
  have hmm := @run_makeMap Tryz.prog
  have HS := Lib.hid hs
  have hi := in_id hs
  go_enter Tryz.func42, Tryz.ntmps42
  go_wp2_with (fail)
  refine (isid_any s _).mono ?_
  rintro e w1 ⟨rfl, rfl⟩
  rw [HS.out]
  go_wp2
  go_ret2
  have hblk : Blk ((w.alloc (.map #[] 0)).alloc (.cells #[.int .i64 s, .slice none 0 0, .map (some w.heap.size), .int .i64 0] 164)) (w.heap.size + 1) 164 #[.int .i64 s, .slice none 0 0, .map (some w.heap.size), .int .i64 0] := by
    have := Blk.new (w.alloc (.map #[] 0)) 164 #[.int .i64 s, .slice none 0 0, .map (some w.heap.size), .int .i64 0]
    simpa using this
  refine ⟨w.heap.size + 1, fun i => i = w.heap.size ∨ i = w.heap.size + 1, rfl, ⟨⟨w.heap.size, .slice none 0 0, hblk, (map_new w).kept (World.grownBy_alloc _ _ none) (by simp), World.ownsRow_nil _ _ _ _, .inl rfl, fun k hk => by simp [Value.ownBlock] at hk⟩, .inr rfl, Good.nil (by unfold inInt; omega), ?_, ?_, by simp⟩,
    ((Below.refl _ _).alloc (Nat.le_refl _) _).alloc (by simp) _⟩
  · rintro i (rfl | rfl) <;> simp <;> omega
  · rintro i (rfl | rfl) <;> omega
section
variable (C g : Nat) (F : Nat → Prop) (R : Ro) (w : World) (h : Rs w C g F R)
include h
theorem check_any (x t : Int) : Calls Tryz.prog 166 #[.pointer (some ⟨g, 0, none⟩), .int .i64 x, .int .i64 t] w fun e w' => e = .returned (.int .i64 (chkE R.s x t)) ∧ w = w' := by
  obtain ⟨b, A, n, c, hb, _⟩ := h.open_
  have c0 := hb.cell 0
  simp at c0
  clear hb
  rcases chk_cases R.s x t with ⟨he, h1, h2, h3⟩ | ⟨he, h1⟩ | ⟨he, h1, h2, h3⟩
  · have HE := Lib.hid he
    have H1 := Lib.hid h1
    have H2 := Lib.hid h2
    have t1 : (x == R.s) = false := by simpa using h3
    clear he h1 h2 h3
    go_enter Tryz.func166, Tryz.ntmps166
    go_wp2_with (fail)
    refine (isid_any x _).mono ?_
    rintro e w1 ⟨rfl, rfl⟩
    rw [H1.out]
    go_wp2_with (fail)
    refine (istime_any t _).mono ?_
    rintro e w1 ⟨rfl, rfl⟩
    rw [H2.out]
    go_wp2
    go_ret
    exact ⟨by rw [HE.out]; rfl, rfl⟩
  · have HE := Lib.hid he
    obtain ⟨b1, B1⟩ : ∃ b, Hid (isIdB x = b) := ⟨_, Lib.hid rfl⟩
    obtain ⟨b2, B2⟩ : ∃ b, Hid (isTimeB t = b) := ⟨_, Lib.hid rfl⟩
    have H0 : Hid (b1 = false ∨ b2 = false) := Lib.hid (by rw [← B1.out, ← B2.out]; exact h1)
    clear he h1
    go_enter Tryz.func166, Tryz.ntmps166
    go_wp2_with (fail)
    refine (isid_any x _).mono ?_
    rintro e w1 ⟨rfl, rfl⟩
    rw [B1.out]
    cases b1
    · go_wp2
      go_ret
      exact ⟨by rw [HE.out]; rfl, rfl⟩
    · go_wp2_with (fail)
      refine (istime_any t _).mono ?_
      rintro e w1 ⟨rfl, rfl⟩
      rw [B2.out]
      cases b2
      · go_wp2
        go_ret
        exact ⟨by rw [HE.out]; rfl, rfl⟩
      · exact absurd H0.out (by decide)
  · have HE := Lib.hid he
    have H1 := Lib.hid h1
    have H2 := Lib.hid h2
    have t1 : (x == R.s) = true := by simpa using h3
    clear he h1 h2 h3
    go_enter Tryz.func166, Tryz.ntmps166
    go_wp2_with (fail)
    refine (isid_any x _).mono ?_
    rintro e w1 ⟨rfl, rfl⟩
    rw [H1.out]
    go_wp2_with (fail)
    refine (istime_any t _).mono ?_
    rintro e w1 ⟨rfl, rfl⟩
    rw [H2.out]
    go_wp2
    go_ret
    exact ⟨by rw [HE.out]; rfl, rfl⟩
theorem place_any (x : Int) : Calls Tryz.prog 97 #[.pointer (some ⟨g, 0, none⟩), .int .i64 x] w fun e w' => e = .returned (.tuple #[.int .i64 ((posL R.L x : Nat) : Int), .bool (hasL R.L x)]) ∧ Below w.heap.size w w' := by
  obtain ⟨b, A, n, c, hb, hm, ho, hn, hnc, hcm, h15, _, _, _, hr⟩ := h.open_
  have HU := Lib.hid h.good.up
  have HR := Lib.hid hr
  have c1 := hb.cell 1
  simp at c1
  obtain ⟨p, HP⟩ : ∃ p, Hid (posL R.L x = p) := ⟨_, Lib.hid rfl⟩
  obtain ⟨q, HQ⟩ : ∃ q, Hid (hasL R.L x = q) := ⟨_, Lib.hid rfl⟩
  clear hb hm ho hr hn
  go_enter Tryz.func97, Tryz.ntmps97
  go_wp2_with (fail)
  refine (search_any A n c R.L x no _ (by omega) HR.out HU.out).mono ?_
  rintro e w1 ⟨rfl, hb1⟩
  rw [HP.out, HQ.out]
  have HB := Lib.hid hb1
  clear hb1
  go_wp2
  go_ret2
  exact ⟨by rw [HP.out, HQ.out]; rfl, HB.out⟩
theorem banned_any (x t : Int) (hx : inInt x) : Calls Tryz.prog 167 #[.pointer (some ⟨g, 0, none⟩), .int .i64 x, .int .i64 t] w fun e w' => e = .returned (.bool (banB R.B x t)) ∧ w = w' := by
  obtain ⟨b, A, n, c, hb, hm, _⟩ := h.open_
  have c2 := hb.cell 2
  simp at c2
  have HM := Lib.hid hm
  have HX := Lib.hid hx
  have HE := Lib.hid (ban_eq h.good.upB x t)
  obtain ⟨p, HP⟩ : ∃ p, Hid (tillB R.B x = p) := ⟨_, Lib.hid rfl⟩
  obtain ⟨q, HQ⟩ : ∃ q, Hid (hasB R.B x = q) := ⟨_, Lib.hid rfl⟩
  clear hb hm hx
  cases q
  · go_enter Tryz.func167, Tryz.ntmps167
    go_wp2_with (at_lookup; refine wpList_look_ok _ rfl _ _ rfl b R.B x p false rfl rfl HM.out HX.out HP.out HQ.out ?_)
    go_ret
    exact ⟨by rw [HE.out, HQ.out, HP.out]; rfl, rfl⟩
  · go_enter Tryz.func167, Tryz.ntmps167
    go_wp2_with (at_lookup; refine wpList_look_ok _ rfl _ _ rfl b R.B x p true rfl rfl HM.out HX.out HP.out HQ.out ?_)
    go_ret
    exact ⟨by rw [HE.out, HQ.out, HP.out]; rfl, rfl⟩
theorem list_any : Calls Tryz.prog 80 #[.pointer (some ⟨g, 0, none⟩)] w (ListsM R.L w) := by
  obtain ⟨b, A, n, c, hb, hm, ho, hn, hnc, hcm, h15, _, _, _, hr⟩ := h.open_
  have HR := Lib.hid hr
  have c1 := hb.cell 1
  simp at c1
  clear hb hm ho hr hn
  go_enter Tryz.func80, Tryz.ntmps80
  go_wp2_with (fail)
  refine (clone_any A n c R.L no _ (by omega) HR.out).mono ?_
  rintro e w1 ⟨hb1, v, rfl, hv⟩
  have HB := Lib.hid hb1
  have HV := Lib.hid hv
  clear hb1 hv
  go_wp2
  go_ret
  exact ⟨HB.out, v, rfl, HV.out⟩
end
end Go.Proofs.YteoodompphhkbaaGreatDoor.Ros

/- Get -/
namespace Go.Proofs.YteoodompphhkbaaGreatDoor.Ros
set_option maxRecDepth 100000
open Go.RowKit Go.Lib Go.Maps

/-- a variable of type Member -/
def Bx (w : World) (b : Nat) (r : Mb) : Prop := Blk w b 115 (rowM r)
section
variable {w w' : World} {b : Nat} {r : Mb}
theorem Bx.new (w : World) (r : Mb) {b : Nat} (hb : b = w.heap.size) : Bx (w.alloc (.cells #[.int .i64 r.id, .int .i64 r.ma, .int .i64 r.co, .int .i64 r.of_, .int .i64 r.fa] 115)) b r := by subst hb; exact Blk.new _ _ _
theorem Bx.lt (h : Bx w b r) : b < w.heap.size := Blk.lt h
theorem Bx.later (h : Bx w b r) (hb : Below w.heap.size w w') : Bx w' b r := Blk.below h hb h.lt
theorem Bx.turn {F : Nat → Prop} (h : Bx w b r) (hb : Turn w w' F) (hF : ¬ F b) : Bx w' b r := Blk.turn h hb hF
theorem Bx.cells (h : Bx w b r) : w.cell? ⟨b, 0, none⟩ = some (.int .i64 r.id) ∧ w.cell? ⟨b, 1, none⟩ = some (.int .i64 r.ma) ∧ w.cell? ⟨b, 2, none⟩ = some (.int .i64 r.co) ∧ w.cell? ⟨b, 3, none⟩ = some (.int .i64 r.of_) ∧ w.cell? ⟨b, 4, none⟩ = some (.int .i64 r.fa) :=
  ⟨Blk.cell h 0, Blk.cell h 1, Blk.cell h 2, Blk.cell h 3, Blk.cell h 4⟩
theorem Bx.fz (h : Bx w b r) (i : Nat) : w.frozen? ⟨b, i, none⟩ = false := Blk.frozen h i
theorem Bx.store (h : Bx w b r) (s : Mb) : Bx (((((w.setCell ⟨b, 0, none⟩ (.int .i64 s.id)).setCell ⟨b, 1, none⟩ (.int .i64 s.ma)).setCell ⟨b, 2, none⟩ (.int .i64 s.co)).setCell ⟨b, 3, none⟩ (.int .i64 s.of_)).setCell ⟨b, 4, none⟩ (.int .i64 s.fa)) b s := by
  have h3 := ((((Blk.set_ h 0 (.int .i64 s.id)).set_ 1 (.int .i64 s.ma)).set_ 2 (.int .i64 s.co)).set_ 3 (.int .i64 s.of_)).set_ 4 (.int .i64 s.fa)
  exact h3
end
/-! ### idsBut -/
/-! ### Next -/
theorem turn_set (w : World) (p : Addr) (u : Value) : Turn w (w.setCell p u) (fun i => i = p.block) := ⟨rfl, rfl, rfl, by simp [World.setCell], fun i _ hn => Below.heap_setCell w p u i hn⟩
end Go.Proofs.YteoodompphhkbaaGreatDoor.Ros

/- Right -/
namespace Go.Proofs.YteoodompphhkbaaGreatDoor.Ros
set_option maxRecDepth 100000
open Go.RowKit Go.Lib Go.Maps

theorem right_parts (m : Mb) : rightB m = ((decide (m.ma = 0) || (isIdB m.ma && !decide (m.ma = m.id))) && (decide (0 ≤ m.co ∧ m.co ≤ 281474976710656) && (decide (0 ≤ m.of_ ∧ m.of_ ≤ 281474976710656) && (decide (m.fa = -1) || isTimeB m.fa)))) := by
  unfold rightB
  rw [Bool.and_assoc, Bool.and_assoc]

set_option maxHeartbeats 4000000 in
theorem right_any (p : Mb) (w : World) : Calls Tryz.prog 98 #[vM p] w (Says (rightB p) w) := by
  obtain ⟨i, m, c, o, f⟩ := p
  obtain ⟨r, HE⟩ : ∃ r, Hid (rightB ⟨i, m, c, o, f⟩ = r) := ⟨_, Lib.hid rfl⟩
  obtain ⟨q, HI⟩ : ∃ q, Hid (isIdB m = q) := ⟨_, Lib.hid rfl⟩
  obtain ⟨t, HT⟩ : ∃ t, Hid (isTimeB f = t) := ⟨_, Lib.hid rfl⟩
  have hv := HE.out
  rw [right_parts] at hv
  simp only [HI.out, HT.out] at hv

  rcases (by omega : m = 0 ∨ (m ≠ 0 ∧ m = i) ∨ (m ≠ 0 ∧ m ≠ i)) with h0 | ⟨h0, h1⟩ | ⟨h0, h1⟩
  · subst h0
    rw [show decide ((0 : Int) = 0) = true by simp, Bool.true_or, Bool.true_and] at hv
    rcases (by omega : c < 0 ∨ 281474976710656 < c ∨ (0 ≤ c ∧ c ≤ 281474976710656)) with h2 | h2 | ⟨h2, h3⟩
    · obtain rfl : r = false := by rw [← hv, show decide (0 ≤ c ∧ c ≤ 281474976710656) = false by simp; omega]; simp
      have t2 : decide (0 ≤ c) = false := by simp; omega
      clear hv h2
      go_enter Tryz.func98, Tryz.ntmps98
      go_wp2
      go_ret
      exact ⟨by rw [HE.out]; rfl, (Below.refl _ _).alloc (Nat.le_refl _) _⟩
    · obtain rfl : r = false := by rw [← hv, show decide (0 ≤ c ∧ c ≤ 281474976710656) = false by simp; omega]; simp
      have t2 : (0 : Int) ≤ c := by omega
      have t3 : decide (c ≤ 281474976710656) = false := by simp; omega
      clear hv h2
      go_enter Tryz.func98, Tryz.ntmps98
      go_wp2
      go_ret
      exact ⟨by rw [HE.out]; rfl, (Below.refl _ _).alloc (Nat.le_refl _) _⟩
    · rw [show decide (0 ≤ c ∧ c ≤ 281474976710656) = true by simp; omega] at hv
      rcases (by omega : o < 0 ∨ 281474976710656 < o ∨ (0 ≤ o ∧ o ≤ 281474976710656)) with h4 | h4 | ⟨h4, h5⟩
      · obtain rfl : r = false := by rw [← hv, show decide (0 ≤ o ∧ o ≤ 281474976710656) = false by simp; omega]; simp
        have t4 : decide (0 ≤ o) = false := by simp; omega
        clear hv h4
        go_enter Tryz.func98, Tryz.ntmps98
        go_wp2
        go_ret
        exact ⟨by rw [HE.out]; rfl, (Below.refl _ _).alloc (Nat.le_refl _) _⟩
      · obtain rfl : r = false := by rw [← hv, show decide (0 ≤ o ∧ o ≤ 281474976710656) = false by simp; omega]; simp
        have t4 : (0 : Int) ≤ o := by omega
        have t5 : decide (o ≤ 281474976710656) = false := by simp; omega
        clear hv h4
        go_enter Tryz.func98, Tryz.ntmps98
        go_wp2
        go_ret
        exact ⟨by rw [HE.out]; rfl, (Below.refl _ _).alloc (Nat.le_refl _) _⟩
      · rw [show decide (0 ≤ o ∧ o ≤ 281474976710656) = true by simp; omega] at hv
        by_cases h6 : f = -1
        · subst h6
          obtain rfl : r = true := by rw [← hv]; simp
          clear hv
          go_enter Tryz.func98, Tryz.ntmps98
          go_wp2
          go_ret
          exact ⟨by rw [HE.out]; rfl, (Below.refl _ _).alloc (Nat.le_refl _) _⟩
        · obtain rfl : r = t := by rw [← hv]; simp [h6]
          have t6 : (f == -1) = false := by simpa using h6
          clear hv h6
          go_enter Tryz.func98, Tryz.ntmps98
          go_wp2_with (fail)
          refine (istime_any f _).mono ?_
          rintro e w1 ⟨rfl, rfl⟩
          rw [HT.out]
          go_wp2
          go_ret
          exact ⟨by rw [HE.out]; rfl, (Below.refl _ _).alloc (Nat.le_refl _) _⟩
  · subst h1
    have t0 : (m == 0) = false := by simpa using h0
    obtain rfl : r = false := by rw [← hv]; simp [h0]
    clear hv h0
    cases q
    · go_enter Tryz.func98, Tryz.ntmps98
      go_wp2_with (fail)
      refine (isid_any m _).mono ?_
      rintro e w1 ⟨rfl, rfl⟩
      rw [HI.out]
      go_wp2
      go_ret
      exact ⟨by rw [HE.out]; rfl, (Below.refl _ _).alloc (Nat.le_refl _) _⟩
    · go_enter Tryz.func98, Tryz.ntmps98
      go_wp2_with (fail)
      refine (isid_any m _).mono ?_
      rintro e w1 ⟨rfl, rfl⟩
      rw [HI.out]
      go_wp2
      go_ret
      exact ⟨by rw [HE.out]; rfl, (Below.refl _ _).alloc (Nat.le_refl _) _⟩
  · have t0 : (m == 0) = false := by simpa using h0
    have t1 : (m != i) = true := by simpa using h1
    cases q
    · obtain rfl : r = false := by rw [← hv]; simp [h0]
      clear hv h0 h1
      go_enter Tryz.func98, Tryz.ntmps98
      go_wp2_with (fail)
      refine (isid_any m _).mono ?_
      rintro e w1 ⟨rfl, rfl⟩
      rw [HI.out]
      go_wp2
      go_ret
      exact ⟨by rw [HE.out]; rfl, (Below.refl _ _).alloc (Nat.le_refl _) _⟩
    · rw [show decide (m = 0) = false by simpa using h0, show decide (m = i) = false by simpa using h1] at hv
      simp only [Bool.false_or, Bool.not_false, Bool.and_self, Bool.true_and] at hv
      clear h0 h1
      rcases (by omega : c < 0 ∨ 281474976710656 < c ∨ (0 ≤ c ∧ c ≤ 281474976710656)) with h2 | h2 | ⟨h2, h3⟩
      · obtain rfl : r = false := by rw [← hv, show decide (0 ≤ c ∧ c ≤ 281474976710656) = false by simp; omega]; simp
        have t2 : decide (0 ≤ c) = false := by simp; omega
        clear hv h2
        go_enter Tryz.func98, Tryz.ntmps98
        go_wp2_with (fail)
        refine (isid_any m _).mono ?_
        rintro e w1 ⟨rfl, rfl⟩
        rw [HI.out]
        go_wp2
        go_ret
        exact ⟨by rw [HE.out]; rfl, (Below.refl _ _).alloc (Nat.le_refl _) _⟩
      · obtain rfl : r = false := by rw [← hv, show decide (0 ≤ c ∧ c ≤ 281474976710656) = false by simp; omega]; simp
        have t2 : (0 : Int) ≤ c := by omega
        have t3 : decide (c ≤ 281474976710656) = false := by simp; omega
        clear hv h2
        go_enter Tryz.func98, Tryz.ntmps98
        go_wp2_with (fail)
        refine (isid_any m _).mono ?_
        rintro e w1 ⟨rfl, rfl⟩
        rw [HI.out]
        go_wp2
        go_ret
        exact ⟨by rw [HE.out]; rfl, (Below.refl _ _).alloc (Nat.le_refl _) _⟩
      · rw [show decide (0 ≤ c ∧ c ≤ 281474976710656) = true by simp; omega] at hv
        rcases (by omega : o < 0 ∨ 281474976710656 < o ∨ (0 ≤ o ∧ o ≤ 281474976710656)) with h4 | h4 | ⟨h4, h5⟩
        · obtain rfl : r = false := by rw [← hv, show decide (0 ≤ o ∧ o ≤ 281474976710656) = false by simp; omega]; simp
          have t4 : decide (0 ≤ o) = false := by simp; omega
          clear hv h4
          go_enter Tryz.func98, Tryz.ntmps98
          go_wp2_with (fail)
          refine (isid_any m _).mono ?_
          rintro e w1 ⟨rfl, rfl⟩
          rw [HI.out]
          go_wp2
          go_ret
          exact ⟨by rw [HE.out]; rfl, (Below.refl _ _).alloc (Nat.le_refl _) _⟩
        · obtain rfl : r = false := by rw [← hv, show decide (0 ≤ o ∧ o ≤ 281474976710656) = false by simp; omega]; simp
          have t4 : (0 : Int) ≤ o := by omega
          have t5 : decide (o ≤ 281474976710656) = false := by simp; omega
          clear hv h4
          go_enter Tryz.func98, Tryz.ntmps98
          go_wp2_with (fail)
          refine (isid_any m _).mono ?_
          rintro e w1 ⟨rfl, rfl⟩
          rw [HI.out]
          go_wp2
          go_ret
          exact ⟨by rw [HE.out]; rfl, (Below.refl _ _).alloc (Nat.le_refl _) _⟩
        · rw [show decide (0 ≤ o ∧ o ≤ 281474976710656) = true by simp; omega] at hv
          by_cases h6 : f = -1
          · subst h6
            obtain rfl : r = true := by rw [← hv]; simp
            clear hv
            go_enter Tryz.func98, Tryz.ntmps98
            go_wp2_with (fail)
            refine (isid_any m _).mono ?_
            rintro e w1 ⟨rfl, rfl⟩
            rw [HI.out]
            go_wp2
            go_ret
            exact ⟨by rw [HE.out]; rfl, (Below.refl _ _).alloc (Nat.le_refl _) _⟩
          · obtain rfl : r = t := by rw [← hv]; simp [h6]
            have t6 : (f == -1) = false := by simpa using h6
            clear hv h6
            go_enter Tryz.func98, Tryz.ntmps98
            go_wp2_with (fail)
            refine (isid_any m _).mono ?_
            rintro e w1 ⟨rfl, rfl⟩
            rw [HI.out]
            go_wp2_with (fail)
            refine (istime_any f _).mono ?_
            rintro e w1 ⟨rfl, rfl⟩
            rw [HT.out]
            go_wp2
            go_ret
            exact ⟨by rw [HE.out]; rfl, (Below.refl _ _).alloc (Nat.le_refl _) _⟩
end Go.Proofs.YteoodompphhkbaaGreatDoor.Ros

/- Set -/
namespace Go.Proofs.YteoodompphhkbaaGreatDoor.Ros
set_option maxRecDepth 100000
open Go.RowKit Go.Lib Go.Maps

/-! ### one of an own row's members is written -/
theorem flat_set : ∀ {l : List Mb} {k : Nat} {p p' : Mb} {j : Nat} {u : Value}, l[k]? = some p → j < 5 → encM p' = (encM p).set j u → flatM (l.set k p') = (flatM l).set (k * 5 + j) u
  | [], _, _, _, _, _, h, _, _ => by simp at h
  | x :: l, 0, p, p', j, u, h, hj, he => by
    simp at h; subst h
    show encM p' ++ flatM l = (encM x ++ flatM l).set (0 * 5 + j) u
    rw [Nat.zero_mul, Nat.zero_add, he, List.set_append_left _ _ (by simpa [encM] using hj)]
  | x :: l, k + 1, p, p', j, u, h, hj, he => by
    show encM x ++ flatM (l.set k p') = (encM x ++ flatM l).set ((k + 1) * 5 + j) u
    rw [flat_set (k := k) (by simpa using h) hj he, List.set_append_right _ _ (by simp [encM]; omega)]
    congr 2
    simp [encM]
    omega
theorem own_put {w : World} {base n k c g : Nat} {e : TypeId} {l : List Mb} {p p' : Mb} {j : Nat} {u : Value} (h : w.ownsRow base e 5 (.slice (some ⟨g, 0, none⟩) n c) n (flatM l)) (hr : l[k]? = some p) (hj : j < 5) (he : encM p' = (encM p).set j u) :
    (w.setCell ⟨g, k * 5 + j, none⟩ u).ownsRow base e 5 (.slice (some ⟨g, 0, none⟩) n c) n (flatM (l.set k p')) := by
  rcases h.2 with ⟨h0, _⟩ | ⟨g', cap, cur, h0, hg, hh, hnc, hcm, hcs, ht⟩
  · cases h0
  · injection h0 with h1 h2 h3
    injection h1 with h1
    injection h1 with h1
    subst h1; subst h3
    have hB2 := (show Blk w g e cur from hh).set_ (k * 5 + j) u
    refine ⟨by rw [flatM_len, List.length_set, ← flatM_len]; exact h.1, .inr ⟨g, c, _, rfl, hg, hB2, hnc, hcm, by simpa using hcs, ?_⟩⟩
    rw [flat_set hr hj he, ← ht]
    simp [List.take_set]
theorem own_whole {w : World} {base n k c g : Nat} {e : TypeId} {l : List Mb} {p : Mb} (h : w.ownsRow base e 5 (.slice (some ⟨g, 0, none⟩) n c) n (flatM l)) (hr : l[k]? = some p) (q : Mb) :
    (((((w.setCell ⟨g, k * 5, none⟩ (.int .i64 q.id)).setCell ⟨g, k * 5 + 1, none⟩ (.int .i64 q.ma)).setCell ⟨g, k * 5 + 2, none⟩ (.int .i64 q.co)).setCell ⟨g, k * 5 + 3, none⟩ (.int .i64 q.of_)).setCell ⟨g, k * 5 + 4, none⟩ (.int .i64 q.fa)).ownsRow base e 5 (.slice (some ⟨g, 0, none⟩) n c) n (flatM (l.set k q)) := by
  have hk : k < l.length := (List.getElem?_eq_some_iff.1 hr).1
  have h1 := own_put (p' := ⟨q.id, p.ma, p.co, p.of_, p.fa⟩) (u := .int .i64 q.id) h hr (j := 0) (by omega) rfl
  have h2 := own_put (p := ⟨q.id, p.ma, p.co, p.of_, p.fa⟩) (p' := ⟨q.id, q.ma, p.co, p.of_, p.fa⟩) (u := .int .i64 q.ma) h1 (List.getElem?_set_self hk) (j := 1) (by omega) rfl
  rw [List.set_set] at h2
  have h3 := own_put (p := ⟨q.id, q.ma, p.co, p.of_, p.fa⟩) (p' := ⟨q.id, q.ma, q.co, p.of_, p.fa⟩) (u := .int .i64 q.co) h2 (List.getElem?_set_self hk) (j := 2) (by omega) rfl
  rw [List.set_set] at h3
  have h4 := own_put (p := ⟨q.id, q.ma, q.co, p.of_, p.fa⟩) (p' := ⟨q.id, q.ma, q.co, q.of_, p.fa⟩) (u := .int .i64 q.of_) h3 (List.getElem?_set_self hk) (j := 3) (by omega) rfl
  rw [List.set_set] at h4
  have h5 := own_put (p := ⟨q.id, q.ma, q.co, q.of_, p.fa⟩) (p' := q) (u := .int .i64 q.fa) h4 (List.getElem?_set_self hk) (j := 4) (by omega) rfl
  rw [List.set_set] at h5
  exact h5
theorem own_cells {w : World} {base n k c g : Nat} {e : TypeId} {l : List Mb} {p : Mb} (h : w.ownsRow base e 5 (.slice (some ⟨g, 0, none⟩) n c) n (flatM l)) (hr : l[k]? = some p) :
    (w.cell? ⟨g, k * 5, none⟩ = some (.int .i64 p.id) ∧ w.cell? ⟨g, k * 5 + 1, none⟩ = some (.int .i64 p.ma) ∧ w.cell? ⟨g, k * 5 + 2, none⟩ = some (.int .i64 p.co) ∧ w.cell? ⟨g, k * 5 + 3, none⟩ = some (.int .i64 p.of_) ∧ w.cell? ⟨g, k * 5 + 4, none⟩ = some (.int .i64 p.fa)) ∧ ∀ j, w.frozen? ⟨g, j, none⟩ = false := by
  have hc := h.cells (g := g) rfl
  obtain ⟨f0, f1, f2, f3, f4⟩ := flatM_get hr
  have hz : ∀ j, (⟨g, 0, none⟩ : Addr).add j = ⟨g, j, none⟩ := fun j => by rw [Go.WideShapes.add_plain, Nat.zero_add]
  refine ⟨⟨by rw [← hz]; exact hc _ _ f0, by rw [← hz]; exact hc _ _ f1, by rw [← hz]; exact hc _ _ f2, by rw [← hz]; exact hc _ _ f3, by rw [← hz]; exact hc _ _ f4⟩, fun j => ?_⟩
  rcases h.2 with ⟨h0, _⟩ | ⟨g', cap, cur, h0, hg, hh, _⟩
  · cases h0
  · injection h0 with h1 h2 h3
    injection h1 with h1
    injection h1 with h1
    subst h1
    exact (show Blk w g e cur from hh).frozen _
theorem turn5 (w : World) (b i j k l m : Nat) (x y z u v : Value) : Turn w (((((w.setCell ⟨b, i, none⟩ x).setCell ⟨b, j, none⟩ y).setCell ⟨b, k, none⟩ z).setCell ⟨b, l, none⟩ u).setCell ⟨b, m, none⟩ v) (fun a => a = b) :=
  (((((turn_set w ⟨b, i, none⟩ x).trans (turn_set _ ⟨b, j, none⟩ y) (Sub.refl _ _)).trans (turn_set _ ⟨b, k, none⟩ z) (Sub.refl _ _)).trans (turn_set _ ⟨b, l, none⟩ u) (Sub.refl _ _)).trans (turn_set _ ⟨b, m, none⟩ v) (Sub.refl _ _))
theorem drew_turn {w w' : World} {F : Nat → Prop} (h : Turn w w' F) : Turn w w'.drew F := ⟨h.os, h.tape, h.output, h.size, h.block⟩
theorem own_drew {w : World} {base s n : Nat} {e : TypeId} {v : Value} {xs : List Value} (h : w.ownsRow base e s v n xs) : w.drew.ownsRow base e s v n xs := h
/-- what a call of a roster does: it tells n, and the roster is R' then -/
def Did (C g : Nat) (F : Nat → Prop) (n : Int) (R' : Ro) (w : World) (e : Ending) (w' : World) : Prop :=
  e = .returned (.int .i64 n) ∧ ∃ F', Rs w' C g F' R' ∧ Turn w w' F ∧ Sub w F F'
theorem Did.same {C g : Nat} {F : Nat → Prop} {n : Int} {R : Ro} {w w' : World} (h : Rs w C g F R) (hb : Below w.heap.size w w') : Did C g F n R w (.returned (.int .i64 n)) w' :=
  ⟨rfl, F, h.below hb, Turn.of_below hb F, Sub.refl _ _⟩

set_option maxHeartbeats 1000000 in
theorem set_any (C g : Nat) (F : Nat → Prop) (R : Ro) (w : World) (h : Rs w C g F R) (m : Mb) :
    Calls Tryz.prog 47 #[.pointer (some ⟨g, 0, none⟩), vM m] w (Did C g F (setE R m) (setR R m) w) := by
  have HA := Lib.hid (h.alloc (.cells #[.int .i64 m.id, .int .i64 m.ma, .int .i64 m.co, .int .i64 m.of_, .int .i64 m.fa] 115))
  have HBA : Hid (Below w.heap.size w (w.alloc (.cells #[.int .i64 m.id, .int .i64 m.ma, .int .i64 m.co, .int .i64 m.of_, .int .i64 m.fa] 115))) := Lib.hid ((Below.refl _ _).alloc (Nat.le_refl _) _)
  have HX : Hid (Bx (w.alloc (.cells #[.int .i64 m.id, .int .i64 m.ma, .int .i64 m.co, .int .i64 m.of_, .int .i64 m.fa] 115)) w.heap.size m) := Lib.hid (Bx.new w m rfl)
  have HH := Lib.hid h
  have x0 := HX.out.cells.1
  obtain ⟨q, HQ⟩ : ∃ q, Hid (hasL R.L m.id = q) := ⟨_, Lib.hid rfl⟩
  cases q
  · have HE : Hid (setE R m = 30) := Lib.hid (by unfold setE; rw [HQ.out]; rfl)
    have HR : Hid (setR R m = R) := Lib.hid (by unfold setR; rw [HE.out]; rfl)
    rw [HE.out, HR.out]
    clear h
    go_enter Tryz.func47, Tryz.ntmps47
    go_wp2_with (fail)
    refine (place_any C g F R _ HA.out m.id).mono ?_
    rintro e w1 ⟨rfl, hb1⟩
    rw [HQ.out]
    have HB := Lib.hid (HBA.out.trans (hb1.mono HBA.out.size))
    clear hb1
    go_wp2
    go_ret
    exact Did.same HH.out HB.out
  · obtain ⟨r, HRI⟩ : ∃ r, Hid (rightB m = r) := ⟨_, Lib.hid rfl⟩
    cases r
    · have HE : Hid (setE R m = 10) := Lib.hid (by unfold setE; rw [HQ.out, HRI.out]; rfl)
      have HR : Hid (setR R m = R) := Lib.hid (by unfold setR; rw [HE.out]; rfl)
      rw [HE.out, HR.out]
      clear h
      go_enter Tryz.func47, Tryz.ntmps47
      go_wp2_with (fail)
      refine (place_any C g F R _ HA.out m.id).mono ?_
      rintro e w1 ⟨rfl, hb1⟩
      rw [HQ.out]
      obtain ⟨a0, a1, a2, a3, a4⟩ := (HX.out.later hb1).cells
      have HB := Lib.hid (HBA.out.trans (hb1.mono HBA.out.size))
      clear hb1
      go_wp2_with (fail)
      refine (right_any m _).mono ?_
      rintro e w2 ⟨rfl, hb2⟩
      rw [HRI.out]
      have HB2 := Lib.hid (HB.out.trans (hb2.mono HB.out.size))
      clear hb2
      go_wp2
      go_ret
      exact Did.same HH.out HB2.out
    · have HE : Hid (setE R m = 0) := Lib.hid (by unfold setE; rw [HQ.out, HRI.out]; rfl)
      have HR : Hid (setR R m = ⟨R.s, R.L.set (posL R.L m.id) m, R.B, R.c⟩) := Lib.hid (by unfold setR; rw [HE.out, ins_old h.good.up HQ.out]; rfl)
      have HG := Lib.hid (h.good.set m)
      rw [HE.out, HR.out]
      rw [HR.out] at HG
      obtain ⟨p, hp, _⟩ := has_at h.good.up HQ.out
      obtain ⟨k, hk⟩ : ∃ k, posL R.L m.id = k := ⟨_, rfl⟩
      rw [hk] at hp HG ⊢
      have HK := Lib.hid hk
      have HP := Lib.hid hp
      clear h hp hk
      go_enter Tryz.func47, Tryz.ntmps47
      go_wp2_with (fail)
      refine (place_any C g F R _ HA.out m.id).mono ?_
      rintro e w1 ⟨rfl, hb1⟩
      rw [HQ.out, HK.out]
      have HX1 := Lib.hid (HX.out.later hb1)
      obtain ⟨a0, a1, a2, a3, a4⟩ := HX1.out.cells
      have HB := Lib.hid (HBA.out.trans (hb1.mono HBA.out.size))
      clear hb1
      go_wp2_with (fail)
      refine (right_any m _).mono ?_
      rintro e w2 ⟨rfl, hb2⟩
      rw [HRI.out]
      have HB2 := Lib.hid (HB.out.trans (hb2.mono HB.out.size))
      clear a0 a1 a2 a3 a4
      have HX2 := Lib.hid (HX1.out.later hb2)
      obtain ⟨a0, a1, a2, a3, a4⟩ := HX2.out.cells
      have K2 := Lib.hid (HH.out.below HB2.out)
      obtain ⟨b, A, n, c, hblk, hmap, hown, hn, hnc, hcm, h15, hFb, hsep, hgb, _⟩ := K2.out.open_
      have hkn : k < n := by rw [← hn]; exact (List.getElem?_eq_some_iff.1 HP.out).1
      obtain ⟨gr, rfl⟩ : ∃ gr, A = some ⟨gr, 0, none⟩ := by
        rcases hown.2 with ⟨_, h0⟩ | ⟨gr, _, _, e, _⟩
        · omega
        · injection e with e _ _; exact ⟨gr, e⟩
      have c1 := hblk.cell 1
      simp at c1
      obtain ⟨⟨d0, d1, d2, d3, d4⟩, hfz⟩ := own_cells hown HP.out
      have f0 := hfz (k * 5)
      have f1 := hfz (k * 5 + 1)
      have f2 := hfz (k * 5 + 2)
      have f3 := hfz (k * 5 + 3)
      have f4 := hfz (k * 5 + 4)
      have HW := Lib.hid (own_drew (own_whole hown HP.out m))
      have HT := Lib.hid (drew_turn (turn5 w2 gr (k * 5) (k * 5 + 1) (k * 5 + 2) (k * 5 + 3) (k * 5 + 4) (.int .i64 m.id) (.int .i64 m.ma) (.int .i64 m.co) (.int .i64 m.of_) (.int .i64 m.fa)))
      have HBK := Lib.hid hblk
      have HMP := Lib.hid hmap
      have HSP := Lib.hid (hsep gr rfl)
      have HN := Lib.hid hn
      have HFB := Lib.hid hFb
      clear hb2 hblk hmap hown hn hsep hfz
      go_wp2
      go_still_tail 7, (by kernel_rfl)
      change wpList _ _ _ _ _ w2.drew
      go_wp2
      go_ret
      obtain ⟨s1, s2, s3⟩ := HSP.out
      refine ⟨rfl, F, ⟨⟨b, _, HBK.out.turn HT.out (fun e => s2 e.symm), HMP.out.turn HT.out (fun e => s3 e.symm), ?_, HFB.out, fun i hi => ?_⟩, K2.out.fg, HG.out, fun i hi => Nat.lt_of_lt_of_le (K2.out.lt i hi) HT.out.size, K2.out.lo, K2.out.cb⟩, (Turn.of_below HB2.out F).trans HT.out (fun i _ e => by rw [e]; exact s1), Sub.refl _ _⟩
      · rw [List.length_set, HN.out]
        exact HW.out
      · simp [Value.ownBlock] at hi; rw [← hi]; exact s1
end Go.Proofs.YteoodompphhkbaaGreatDoor.Ros

/- Add -/
namespace Go.Proofs.YteoodompphhkbaaGreatDoor.Ros
set_option maxRecDepth 100000
open Go.RowKit Go.Lib Go.Maps

theorem addE_chk {R : Ro} {x t : Int} (h : chkE R.s x t ≠ 0) : addE R x t = chkE R.s x t := if_neg h
theorem addE_known {R : Ro} {x t : Int} (h : chkE R.s x t = 0) (h1 : hasL R.L x = true) : addE R x t = 32 := by unfold addE; rw [if_pos h, if_pos h1]
theorem addE_ban {R : Ro} {x t : Int} (h : chkE R.s x t = 0) (h1 : hasL R.L x = false) (h2 : banB R.B x t = true) : addE R x t = 34 := by unfold addE; rw [if_pos h, if_neg (by rw [h1]; decide), if_pos h2]
theorem addE_full {R : Ro} {x t : Int} (h : chkE R.s x t = 0) (h1 : hasL R.L x = false) (h2 : banB R.B x t = false) (h3 : R.L.length = 15) : addE R x t = 31 := by unfold addE; rw [if_pos h, if_neg (by rw [h1]; decide), if_neg (by rw [h2]; decide), if_pos h3]
theorem addE_ok {R : Ro} {x t : Int} (h : chkE R.s x t = 0) (h1 : hasL R.L x = false) (h2 : banB R.B x t = false) (h3 : R.L.length ≠ 15) : addE R x t = 0 := by unfold addE; rw [if_pos h, if_neg (by rw [h1]; decide), if_neg (by rw [h2]; decide), if_neg h3]
theorem addR_no {R : Ro} {x t : Int} (h : addE R x t ≠ 0) : addR R x t = R := if_neg h
theorem addR_ok {R : Ro} {x t : Int} (h : addE R x t = 0) : addR R x t = ⟨R.s, insL R.L ⟨x, 0, 0, 0, -1⟩, unB R.B x, R.c⟩ := if_pos h
theorem id_int {x : Int} (h : isIdB x = true) : inInt x := by have := in_id h; unfold inInt; omega

section
variable (C g : Nat) (F : Nat → Prop) (R : Ro) (w : World) (h : Rs w C g F R) (x t : Int)
include h
theorem add_chk (n : Int) (he : chkE R.s x t = n) (hn : (n != 0) = true) :
    Calls Tryz.prog 95 #[.pointer (some ⟨g, 0, none⟩), .int .i64 x, .int .i64 t] w (Did C g F n R w) := by
  have HH := Lib.hid h
  have HE := Lib.hid he
  clear h he
  go_enter Tryz.func95, Tryz.ntmps95
  go_wp2_with (fail)
  refine (check_any C g F R _ HH.out x t).mono ?_
  rintro e w1 ⟨rfl, rfl⟩
  rw [HE.out]
  go_wp2
  go_ret
  exact Did.same HH.out (Below.refl _ _)
set_option maxHeartbeats 2000000 in
theorem add_stop (he : chkE R.s x t = 0) (hst : addE R x t ≠ 0) :
    Calls Tryz.prog 95 #[.pointer (some ⟨g, 0, none⟩), .int .i64 x, .int .i64 t] w (Did C g F (addE R x t) R w) := by
  have HH := Lib.hid h
  have HE := Lib.hid he
  have HX := Lib.hid (id_int (chk_zero he).1)
  obtain ⟨q, HQ⟩ : ∃ q, Hid (hasL R.L x = q) := ⟨_, Lib.hid rfl⟩
  obtain ⟨u, HU⟩ : ∃ u, Hid (banB R.B x t = u) := ⟨_, Lib.hid rfl⟩
  cases q
  · cases u
    · by_cases h15 : R.L.length = 15
      · have HA := Lib.hid (addE_full he HQ.out HU.out h15)
        rw [HA.out]
        have H15 := Lib.hid h15
        clear h he hst h15
        go_enter Tryz.func95, Tryz.ntmps95
        go_wp2_with (fail)
        refine (check_any C g F R _ HH.out x t).mono ?_
        rintro e w1 ⟨rfl, rfl⟩
        rw [HE.out]
        go_wp2_with (fail)
        refine (place_any C g F R _ HH.out x).mono ?_
        rintro e w1 ⟨rfl, hb1⟩
        rw [HQ.out]
        obtain ⟨k, hk⟩ : ∃ k, posL R.L x = k := ⟨_, rfl⟩
        rw [hk]
        have K1 := Lib.hid (HH.out.below hb1)
        have HB := Lib.hid hb1
        clear hb1 hk
        go_wp2_with (fail)
        refine (banned_any C g F R _ K1.out x t HX.out).mono ?_
        rintro e w2 ⟨rfl, rfl⟩
        rw [HU.out]
        obtain ⟨b, A, n, c, hblk, _, _, hn, hnc, hcm, _⟩ := K1.out.open_
        have c1 := hblk.cell 1
        simp at c1
        obtain rfl : n = 15 := by rw [← hn, H15.out]
        clear hblk hn
        go_wp2
        go_ret
        exact Did.same HH.out HB.out
      · exact absurd (addE_ok he HQ.out HU.out h15) hst
    · have HA := Lib.hid (addE_ban he HQ.out HU.out)
      rw [HA.out]
      clear h he hst
      go_enter Tryz.func95, Tryz.ntmps95
      go_wp2_with (fail)
      refine (check_any C g F R _ HH.out x t).mono ?_
      rintro e w1 ⟨rfl, rfl⟩
      rw [HE.out]
      go_wp2_with (fail)
      refine (place_any C g F R _ HH.out x).mono ?_
      rintro e w1 ⟨rfl, hb1⟩
      rw [HQ.out]
      obtain ⟨k, hk⟩ : ∃ k, posL R.L x = k := ⟨_, rfl⟩
      rw [hk]
      have K1 := Lib.hid (HH.out.below hb1)
      have HB := Lib.hid hb1
      clear hb1 hk
      go_wp2_with (fail)
      refine (banned_any C g F R _ K1.out x t HX.out).mono ?_
      rintro e w2 ⟨rfl, rfl⟩
      rw [HU.out]
      go_wp2
      go_ret
      exact Did.same HH.out HB.out
  · have HA := Lib.hid (addE_known he HQ.out)
    rw [HA.out]
    clear h he hst
    go_enter Tryz.func95, Tryz.ntmps95
    go_wp2_with (fail)
    refine (check_any C g F R _ HH.out x t).mono ?_
    rintro e w1 ⟨rfl, rfl⟩
    rw [HE.out]
    go_wp2_with (fail)
    refine (place_any C g F R _ HH.out x).mono ?_
    rintro e w1 ⟨rfl, hb1⟩
    rw [HQ.out]
    have HB := Lib.hid hb1
    clear hb1
    go_wp2
    go_ret
    exact Did.same HH.out HB.out

end

/-- the new row is stored, the map is written: what comes of it -/
theorem Rs.made {w w1 w3 w5 : World} {C g b : Nat} {F : Nat → Prop} {R : Ro} {v v' : Value} {L' : List Mb} {B' : List Bn}
    (K : Rs w C g F R) (hbw : Below w.heap.size w w1) (hb : Blk w1 g 164 #[.int .i64 R.s, v, .map (some b), .int .i64 (R.c : Int)]) (hm : MapAt w1 b R.B) (hv : w1.ownsRow 0 115 5 v R.L.length (flatM R.L)) (hF : ∀ k, v.ownBlock = some k → F k) (hFb : F b)
    (ho : w3.ownsRow 0 115 5 v' L'.length (flatM L')) (hg : w1.grownBy w3 v.ownBlock) (hat : v'.ownBlock = v.ownBlock ∨ ∃ k, v'.ownBlock = some k ∧ w1.heap.size ≤ k)
    (hm5 : MapAt w5 b B') (hg5 : (w3.setCell ⟨g, 1, none⟩ v').grownBy w5 (some b)) (hgood : Good ⟨R.s, L', B', R.c⟩) :
    Rs w5 C g (fun i => F i ∨ v'.ownBlock = some i) ⟨R.s, L', B', R.c⟩ ∧ Turn w w5 F ∧ Sub w F (fun i => F i ∨ v'.ownBlock = some i) := by
  have hne : ((115 : TypeId) = 164) → False := by decide
  have t3 : Turn w1 w3 F := Turn.of_grown hg hF
  have hb3 := hb.grown hg (fun e => row_ne hv hb hne g e.symm rfl)
  have hvg := row_ne ho hb3 hne
  have hm3 : MapAt w3 b R.B := hm.kept hg (fun e => row_ne_map hv hm b e.symm rfl)
  have hvb := row_ne_map ho hm3
  have hgb := hb.map_ne hm
  have t4 := turn_set w3 ⟨g, 1, none⟩ v'
  have hb4 := hb3.set_ 1 v'
  have ho4 := own_turn ho t4 (fun k hk e => hvg k hk e)
  have t5 : Turn (w3.setCell ⟨g, 1, none⟩ v') w5 (fun i => i = b) := Turn.of_grown hg5 (fun k e => by injection e with e; exact e.symm)
  have hb5 := hb4.turn t5 hgb
  have ho5 := own_turn ho4 t5 (fun k hk e => hvb k hk e)
  have t35 : Turn w3 w5 (fun i => i = g ∨ i = b) := (show Turn w3 (w3.setCell ⟨g, 1, none⟩ v') (fun i => i = g ∨ i = b) from ⟨t4.os, t4.tape, t4.output, t4.size, fun i hi hn => t4.block i hi (fun e => hn (.inl e))⟩).trans t5 (fun i _ e => .inr e)
  have tt : Turn w w5 F := ((Turn.of_below hbw F).trans t3 (Sub.refl _ _)).trans t35 (fun i _ e => by rcases e with e | e <;> rw [e]; exact K.fg; exact hFb)
  have hs35 := t35.size
  have hs13 := t3.size
  have hsw := hbw.size
  refine ⟨⟨⟨b, v', hb5, hm5, ho5, .inl hFb, fun k hk => .inr hk⟩, .inl K.fg, hgood, ?_, ?_, K.cb⟩, tt, ?_⟩
  · rintro i (hi | hi)
    · exact Nat.lt_of_lt_of_le (K.lt i hi) tt.size
    · exact (ho5.lt i hi).2
  · rintro i (hi | hi)
    · exact K.lo i hi
    · rcases hat with e | ⟨k, e, hk⟩
      · exact K.lo i (hF i (by rw [← e]; exact hi))
      · rw [hi] at e; injection e with e
        have := K.cle
        omega
  · rintro i hi (h1 | h1)
    · exact h1
    · rcases hat with e | ⟨k, e, hk⟩
      · exact hF i (by rw [← e]; exact h1)
      · rw [h1] at e; injection e with e
        omega

set_option maxHeartbeats 4000000 in
theorem add_yes (C g : Nat) (F : Nat → Prop) (R : Ro) (w : World) (h : Rs w C g F R) (x t : Int) (he : addE R x t = 0) :
    Calls Tryz.prog 95 #[.pointer (some ⟨g, 0, none⟩), .int .i64 x, .int .i64 t] w (Did C g F 0 (addR R x t) w) := by
  have HH := Lib.hid h
  obtain ⟨h1, h2, h3, h4⟩ := addE_zero he
  have HE := Lib.hid h1
  have HX := Lib.hid (id_int (chk_zero h1).1)
  have HQ := Lib.hid h2
  have HU := Lib.hid h3
  have H15 := Lib.hid h4
  have HGD := Lib.hid (h.good.add x t)
  have HL : Hid (insL R.L ⟨x, 0, 0, 0, -1⟩ = R.L.take (posL R.L x) ++ ⟨x, 0, 0, 0, -1⟩ :: R.L.drop (posL R.L x)) := Lib.hid (ins_new h2)
  rw [addR_ok he] at HGD ⊢
  have HPL := Lib.hid (pos_le R.L x)
  obtain ⟨k, hk⟩ : ∃ k, posL R.L x = k := ⟨_, rfl⟩
  rw [hk] at HL HPL
  have HK := Lib.hid hk
  clear h he h1 h2 h3 h4 hk
  go_enter Tryz.func95, Tryz.ntmps95
  go_wp2_with (fail)
  refine (check_any C g F R _ HH.out x t).mono ?_
  rintro e w1 ⟨rfl, rfl⟩
  rw [HE.out]
  go_wp2_with (fail)
  refine (place_any C g F R _ HH.out x).mono ?_
  rintro e w1 ⟨rfl, hb1⟩
  rw [HQ.out, HK.out]
  have K1 := Lib.hid (HH.out.below hb1)
  have HB := Lib.hid hb1
  clear hb1
  go_wp2_with (fail)
  refine (banned_any C g F R _ K1.out x t HX.out).mono ?_
  rintro e w2 ⟨rfl, rfl⟩
  rw [HU.out]
  obtain ⟨b, A, n, c, hblk, hmap, hown, hn, hnc, hcm, h15, hFb, hsep, hgb, _⟩ := K1.out.open_
  have c1 := hblk.cell 1
  simp at c1
  have HN := Lib.hid hn
  have t1 : ((n : Int) == 15) = false := by have := H15.out; simp; omega
  obtain ⟨W2, HW2⟩ : ∃ W2, Hid (w1.alloc (.cells (rowM ⟨x, 0, 0, 0, -1⟩) 115) = W2) := ⟨_, Lib.hid rfl⟩
  have HBL2 : Hid (Below w1.heap.size w1 (w1.alloc (.cells (rowM ⟨x, 0, 0, 0, -1⟩) 115))) := Lib.hid ((Below.refl _ _).alloc (Nat.le_refl _) _)
  have HO2 : Hid ((w1.alloc (.cells (rowM ⟨x, 0, 0, 0, -1⟩) 115)).ownsRow 0 115 5 (.slice A n c) R.L.length (flatM R.L)) := Lib.hid (by rw [hn]; exact own_below hown HBL2.out)
  have HBK := Lib.hid (hblk.below HBL2.out hblk.lt)
  have HMP := Lib.hid (hmap.turn (Turn.of_below HBL2.out no) (fun f => f))
  have HF := Lib.hid (fun k hk => (hsep k hk).1)
  have HSG := Lib.hid hsep
  have HFB := Lib.hid hFb
  have HGB := Lib.hid hgb
  have HVB : Hid ((Value.slice A n c).ownBlock ≠ some w1.heap.size) := Lib.hid (fun e => by
    have := (hown.lt _ e).2
    omega)
  clear hblk hmap hown hn hsep hFb hgb
  go_wp2_with (fail)
  refine (insert_any (.slice A n c) R.L ⟨x, 0, 0, 0, -1⟩ k w1.heap.size _ HO2.out (by rw [HN.out]; omega) HPL.out (Blk.new _ _ _) HVB.out).mono ?_
  rintro e w3 ⟨v', rfl, ho3, hg3, hat3⟩
  obtain ⟨A3, n3, c3, rfl⟩ : ∃ A3 n3 c3, v' = .slice A3 n3 c3 := by obtain ⟨A3, c3, e, _, _⟩ := own_form ho3; exact ⟨_, _, _, e⟩
  have HO3 := Lib.hid ho3
  have HG3 := Lib.hid hg3
  have HAT := Lib.hid hat3
  have HMP3 := Lib.hid (HMP.out.kept hg3 (fun e => (HSG.out b e.symm).2.2 rfl))
  have hb3 := HBK.out.grown hg3 (fun e => (HSG.out g e.symm).2.1 rfl)
  have e1 := hb3.cell 1
  have e2 := hb3.cell 2
  have g1 := hb3.frozen 1
  simp at e1 e2
  have HMP4 := Lib.hid (HMP3.out.turn (turn_set w3 ⟨g, 1, none⟩ (.slice A3 n3 c3)) (fun e => HGB.out e.symm))
  clear ho3 hg3 hat3 hb3
  go_wp2_with (at_delete; refine wpList_delete_map _ rfl _ _ rfl b R.B x rfl rfl HMP4.out HH.out.good.upB HX.out ?_; intro w5 hm5 hg5; have HM5 := Lib.hid hm5; have HG5 := Lib.hid hg5; clear hm5 hg5)
  go_ret
  have hres := Rs.made HH.out (HB.out.trans (HBL2.out.mono HB.out.size)) HBK.out HMP.out HO2.out HF.out HFB.out HO3.out HG3.out HAT.out HM5.out HG5.out (by rw [← HL.out]; exact HGD.out)
  rw [← HL.out] at hres
  exact ⟨rfl, _, hres⟩
theorem add_any (C g : Nat) (F : Nat → Prop) (R : Ro) (w : World) (h : Rs w C g F R) (x t : Int) :
    Calls Tryz.prog 95 #[.pointer (some ⟨g, 0, none⟩), .int .i64 x, .int .i64 t] w (Did C g F (addE R x t) (addR R x t) w) := by
  by_cases he : addE R x t = 0
  · rw [he]; exact add_yes C g F R w h x t he
  · rw [addR_no he]
    by_cases hc : chkE R.s x t = 0
    · exact add_stop C g F R w h x t hc he
    · rw [addE_chk hc]
      exact add_chk C g F R w h x t _ rfl (by simpa using hc)

end Go.Proofs.YteoodompphhkbaaGreatDoor.Ros
