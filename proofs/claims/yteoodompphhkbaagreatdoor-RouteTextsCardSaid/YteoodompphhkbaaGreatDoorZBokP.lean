/-
  WHAT IS PROVED: layer 8's contracts: a book of reports, but By. Conditions: each states its own.
-/
import Derived.Test.YteoodompphhkbaaGreatDoorRows
import Derived.WalkKit
import Derived.Deep.AppendLies
import Derived.Deep.Draws
import Derived.Deep.OwnRows
import Derived.Lib.Hide
import Derived.ProofKit
import Derived.OpenShut
import Derived.JoinedCond
import Derived.OpenVars
import Derived.Maps.AppendAt
import Derived.OwnWalk
import Derived.Deep.Strs
import Derived.Lib.SmallJoins
import Derived.DeepKeys4
import Derived.Maps.RangeWalk
import Derived.Maps.OwnOps
import Derived.Deep.QuietTactic
import Derived.BigQuiet
import Derived.Deep.RegionHeld3
/- Base -/
namespace Go.Proofs.YteoodompphhkbaaGreatDoor.Bok
set_option maxRecDepth 100000
open Go.RowKit

theorem block_of_add (a : Addr) (n : Nat) : (a.add n).block = a.block := by unfold Addr.add; split <;> rfl
theorem add_of_add (a : Addr) (i j : Nat) : (a.add i).add j = a.add (i + j) := by
  unfold Addr.add
  by_cases hi : i = 0 <;> by_cases hj : j = 0 <;> simp [hi, hj, Nat.add_assoc]

/-- the slice value '.slice A n c' holds the cells xs, in a block that is there and isn't block g -/
def Reads (w : World) (g : Nat) (A : Option Addr) (n : Nat) (xs : List Value) : Prop :=
  xs.length = n ∧ (0 < n → ∃ ad, A = some ad ∧ ad.block < w.heap.size ∧ ad.block ≠ g ∧ ∀ j u, xs[j]? = some u → w.cell? (ad.add j) = some u)

section
variable {w w' a b c : World} {g g' n : Nat} {A : Option Addr} {xs : List Value}
theorem Reads.at_ {k : Nat} (h : Reads w g A n xs) (hk : k < n) : ∃ ad u, A = some ad ∧ xs[k]? = some u ∧ w.cell? (ad.add k) = some u := by
  obtain ⟨ad, e, _, _, hc⟩ := h.2 (by omega)
  have hl : k < xs.length := by have := h.1; omega
  exact ⟨ad, xs[k], e, List.getElem?_eq_getElem hl, hc k _ (List.getElem?_eq_getElem hl)⟩
theorem Reads.only (h : Reads w g A n xs) (hb : w.grownBy w' (some g)) : Reads w' g A n xs :=
  ⟨h.1, fun hn => by
    obtain ⟨ad, e, hlt, hne, hc⟩ := h.2 hn
    refine ⟨ad, e, Nat.lt_of_lt_of_le hlt hb.size, hne, fun j u hu => ?_⟩
    exact (World.cell?_of_block (hb.block (ad.add j).block (by rw [block_of_add]; exact hlt) (fun e => hne (by rw [block_of_add] at e; injection e)))).trans (hc j u hu)⟩
theorem Reads.below (h : Reads w g A n xs) (hb : Below w.heap.size w w') : Reads w' g A n xs :=
  ⟨h.1, fun hn => by
    obtain ⟨ad, e, hlt, hne, hc⟩ := h.2 hn
    exact ⟨ad, e, Nat.lt_of_lt_of_le hlt hb.size, hne, fun j u hu => (hb.cell (by rw [block_of_add]; exact hlt)).trans (hc j u hu)⟩⟩
end

/-- block g is just the cells cs of element type t, none frozen -/
def Blk (w : World) (g : Nat) (t : TypeId) (cs : Array Value) : Prop := w.heap[g]? = some (.cells cs t (0, 0))

section
variable {w w' : World} {g : Nat} {t : TypeId} {cs : Array Value}
theorem Blk.lt (h : Blk w g t cs) : g < w.heap.size := by
  rcases Nat.lt_or_ge g w.heap.size with hlt | hge
  · exact hlt
  · unfold Blk at h; rw [Array.getElem?_eq_none hge] at h; cases h
theorem Blk.cell (h : Blk w g t cs) (i : Nat) : w.cell? ⟨g, i, none⟩ = cs[i]? := cell_of_row w g i cs t (0, 0) h
theorem Blk.new (w : World) (t : TypeId) (cs : Array Value) : Blk (w.alloc (.cells cs t)) w.heap.size t cs := heap_alloc_new w _
theorem Blk.drew (h : Blk w g t cs) : Blk w.drew g t cs := h
theorem Blk.alloc (h : Blk w g t cs) (o : Obj) : Blk (w.alloc o) g t cs := (Below.heap_alloc w o g h.lt).trans h
theorem Blk.below {B : Nat} (h : Blk w g t cs) (hb : Below B w w') (hg : g < B) : Blk w' g t cs := (hb.block g hg).trans h
theorem Blk.grown {row : Option Nat} (h : Blk w g t cs) (hb : w.grownBy w' row) (hg : some g ≠ row) : Blk w' g t cs := (hb.block g h.lt hg).trans h
end

theorem only_of_below {a w : World} (h : Below a.heap.size a w) (row : Option Nat) : a.grownBy w row := ⟨h.os, h.tape, h.output, h.size, fun i hi _ => h.block i hi⟩
end Go.Proofs.YteoodompphhkbaaGreatDoor.Bok

/- Plain -/
namespace Go.Proofs.YteoodompphhkbaaGreatDoor.Bok
set_option maxRecDepth 100000

/-- a report -/
structure Rp where
  a : Int
  b : Int
  t : Int

def Rp.is (r : Rp) (a b : Int) : Prop := r.a = a ∧ r.b = b
instance (r : Rp) (a b : Int) : Decidable (r.is a b) := inferInstanceAs (Decidable (_ ∧ _))
theorem Rp.ext_ {r s : Rp} (h1 : r.a = s.a) (h2 : r.b = s.b) (h3 : r.t = s.t) : r = s := by
  cases r; cases s; simp at h1 h2 h3; subst h1; subst h2; subst h3; rfl
def Uniq (L : List Rp) : Prop := L.Pairwise fun r s => ¬ (r.a = s.a ∧ r.b = s.b)
def okRp (r : Rp) : Prop := (1 ≤ r.a ∧ r.a ≤ 4294967296) ∧ (1 ≤ r.b ∧ r.b ≤ 4294967296) ∧ (0 ≤ r.t ∧ r.t ≤ 1099511627776)

theorem Uniq.nodup {L : List Rp} (h : Uniq L) : L.Nodup := h.imp fun hn e => hn (by subst e; exact ⟨rfl, rfl⟩)
theorem Uniq.eq {L : List Rp} (h : Uniq L) {r s : Rp} (hr : r ∈ L) (hs : s ∈ L) (h1 : r.a = s.a) (h2 : r.b = s.b) : r = s := by
  induction L with
  | nil => cases hr
  | cons x l ih =>
    obtain ⟨hx, hl⟩ := List.pairwise_cons.1 h
    rcases List.mem_cons.1 hr with e | hr'
    · rcases List.mem_cons.1 hs with f | hs'
      · rw [e, f]
      · subst e; exact absurd ⟨h1, h2⟩ (hx s hs')
    · rcases List.mem_cons.1 hs with f | hs'
      · subst f; exact absurd ⟨h1.symm, h2.symm⟩ (hx r hr')
      · exact ih hl hr' hs'
theorem Uniq.filter {L : List Rp} (h : Uniq L) (p : Rp → Bool) : Uniq (L.filter p) := List.Pairwise.filter p h

/-! ### two lists with the same members -/
/-! ### a note -/
def putL : List Rp → Int → Int → Int → List Rp
  | [], a, b, t => [⟨a, b, t⟩]
  | r :: l, a, b, t => if r.is a b then ⟨a, b, max r.t t⟩ :: l else r :: putL l a b t
def isIdB (x : Int) : Bool := decide (1 ≤ x ∧ x ≤ 4294967296)
def isTimeB (x : Int) : Bool := decide (0 ≤ x ∧ x ≤ 1099511627776)
def noteE (a b t : Int) : Int := if isIdB a = true ∧ isIdB b = true ∧ isTimeB t = true then (if a = b then 33 else 0) else 10
def noteL (L : List Rp) (a b t : Int) : List Rp := if noteE a b t = 0 then putL L a b t else L
theorem noteE_zero {a b t : Int} (h : noteE a b t = 0) : (1 ≤ a ∧ a ≤ 4294967296) ∧ (1 ≤ b ∧ b ≤ 4294967296) ∧ (0 ≤ t ∧ t ≤ 1099511627776) ∧ a ≠ b := by
  unfold noteE at h
  split at h
  · rename_i hc
    split at h
    · cases h
    · rename_i hne
      unfold isIdB isTimeB at hc
      simp only [decide_eq_true_eq] at hc
      exact ⟨hc.1, hc.2.1, hc.2.2, hne⟩
  · cases h
/-- the time that was noted, or 0 -/
def atL : List Rp → Int → Int → Int
  | [], _, _ => 0
  | r :: l, a, b => if r.is a b then r.t else atL l a b
def hasL (L : List Rp) (a b : Int) : Bool := L.any fun r => decide (r.is a b)
theorem hasL_iff {L : List Rp} {a b : Int} : hasL L a b = true ↔ ∃ r ∈ L, r.is a b := by unfold hasL; simp
theorem hasL_no {L : List Rp} {a b : Int} : hasL L a b = false ↔ ∀ r ∈ L, ¬ r.is a b := by unfold hasL; simp
theorem atL_mem : ∀ {L : List Rp}, Uniq L → ∀ {r : Rp} {a b : Int}, r ∈ L → r.is a b → atL L a b = r.t
  | [], _, _, _, _, h, _ => by cases h
  | x :: l, hu, r, a, b, h, hr => by
    obtain ⟨h1, h2⟩ := List.pairwise_cons.1 hu
    show (if x.is a b then _ else _) = _
    rcases List.mem_cons.1 h with e | h'
    · subst e; rw [if_pos hr]
    · rw [if_neg, atL_mem h2 h' hr]
      intro hx
      exact h1 r h' ⟨hx.1.trans hr.1.symm, hx.2.trans hr.2.symm⟩
theorem atL_no : ∀ {L : List Rp} {a b : Int}, (∀ r ∈ L, ¬ r.is a b) → atL L a b = 0
  | [], _, _, _ => rfl
  | x :: l, a, b, h => by
    show (if x.is a b then _ else _) = _
    rw [if_neg (h x (by simp)), atL_no fun r hr => h r (by simp [hr])]
theorem mem_put : ∀ {L : List Rp}, Uniq L → ∀ {a b t : Int} {r : Rp}, r ∈ putL L a b t ↔ (r ∈ L ∧ ¬ r.is a b) ∨ (r.is a b ∧ r.t = if hasL L a b then max (atL L a b) t else t)
  | [], _, a, b, t, r => by
    show r ∈ [(⟨a, b, t⟩ : Rp)] ↔ _
    simp [hasL]
    constructor
    · rintro rfl; exact ⟨⟨rfl, rfl⟩, rfl⟩
    · rintro ⟨⟨h1, h2⟩, h3⟩; exact Rp.ext_ h1 h2 h3
  | x :: l, hu, a, b, t, r => by
    obtain ⟨h1, h2⟩ := List.pairwise_cons.1 hu
    by_cases hx : x.is a b
    · have e1 : putL (x :: l) a b t = ⟨a, b, max x.t t⟩ :: l := if_pos hx
      have e2 : hasL (x :: l) a b = true := hasL_iff.2 ⟨x, by simp, hx⟩
      have e3 : atL (x :: l) a b = x.t := if_pos hx
      rw [e1, e2, e3]
      simp only [if_true, List.mem_cons]
      have hl : ∀ s ∈ l, ¬ s.is a b := fun s hs hh => h1 s hs ⟨hx.1.trans hh.1.symm, hx.2.trans hh.2.symm⟩
      constructor
      · rintro (rfl | h)
        · exact .inr ⟨⟨rfl, rfl⟩, rfl⟩
        · exact .inl ⟨.inr h, hl r h⟩
      · rintro (⟨rfl | h, hn⟩ | ⟨⟨h3, h4⟩, h5⟩)
        · exact absurd hx hn
        · exact .inr h
        · exact .inl (Rp.ext_ h3 h4 h5)
    · have e1 : putL (x :: l) a b t = x :: putL l a b t := if_neg hx
      have e2 : hasL (x :: l) a b = hasL l a b := by unfold hasL; simp [hx]
      have e3 : atL (x :: l) a b = atL l a b := if_neg hx
      rw [e1, e2, e3]
      simp only [List.mem_cons, mem_put h2]
      constructor
      · rintro (rfl | ⟨h, hn⟩ | h)
        · exact .inl ⟨.inl rfl, hx⟩
        · exact .inl ⟨.inr h, hn⟩
        · exact .inr h
      · rintro (⟨rfl | h, hn⟩ | h)
        · exact .inl rfl
        · exact .inr (.inl ⟨h, hn⟩)
        · exact .inr (.inr h)
theorem uniq_put : ∀ {L : List Rp}, Uniq L → ∀ (a b t : Int), Uniq (putL L a b t)
  | [], _, a, b, t => List.pairwise_singleton _ _
  | x :: l, hu, a, b, t => by
    obtain ⟨h1, h2⟩ := List.pairwise_cons.1 hu
    by_cases hx : x.is a b
    · have e1 : putL (x :: l) a b t = ⟨a, b, max x.t t⟩ :: l := if_pos hx
      rw [e1]
      exact List.pairwise_cons.2 ⟨fun s hs => by have := h1 s hs; rwa [hx.1, hx.2] at this, h2⟩
    · have e1 : putL (x :: l) a b t = x :: putL l a b t := if_neg hx
      rw [e1]
      refine List.pairwise_cons.2 ⟨fun s hs => ?_, uniq_put h2 a b t⟩
      rcases (mem_put h2).1 hs with ⟨h, _⟩ | ⟨⟨h3, h4⟩, _⟩
      · exact h1 s h
      · rw [h3, h4]; exact hx
theorem len_put : ∀ (L : List Rp) (a b t : Int), (putL L a b t).length = if hasL L a b then L.length else L.length + 1
  | [], a, b, t => rfl
  | x :: l, a, b, t => by
    by_cases hx : x.is a b
    · have e1 : putL (x :: l) a b t = ⟨a, b, max x.t t⟩ :: l := if_pos hx
      have e2 : hasL (x :: l) a b = true := hasL_iff.2 ⟨x, by simp, hx⟩
      rw [e1, e2]; simp
    · have e1 : putL (x :: l) a b t = x :: putL l a b t := if_neg hx
      have e2 : hasL (x :: l) a b = hasL l a b := by unfold hasL; simp [hx]
      rw [e1, e2, List.length_cons, len_put]
      split <;> simp
def Good (L : List Rp) : Prop := Uniq L ∧ ∀ r ∈ L, okRp r
theorem Good.nil : Good [] := ⟨List.Pairwise.nil, fun r hr => by cases hr⟩
theorem Good.filter {L : List Rp} (h : Good L) (p : Rp → Bool) : Good (L.filter p) := ⟨h.1.filter p, fun r hr => h.2 r (List.mem_filter.1 hr).1⟩
theorem Good.put {L : List Rp} (h : Good L) {a b t : Int} (he : noteE a b t = 0) : Good (putL L a b t) := by
  refine ⟨uniq_put h.1 a b t, fun r hr => ?_⟩
  obtain ⟨ha, hb, ht, _⟩ := noteE_zero he
  rcases (mem_put h.1).1 hr with ⟨h', _⟩ | ⟨⟨h1, h2⟩, h3⟩
  · exact h.2 r h'
  · refine ⟨by rw [h1]; exact ha, by rw [h2]; exact hb, ?_⟩
    rw [h3]
    split
    · rename_i hh
      obtain ⟨s, hs, hk⟩ := hasL_iff.1 hh
      rw [atL_mem h.1 hs hk]
      have := (h.2 s hs).2.2
      omega
    · exact ht
/-! ### what counts, who told -/
def countB (win now : Int) (r : Rp) : Bool := decide (now ≤ r.t + win)
def tellB (about now win : Int) (r : Rp) : Bool := decide (r.a = about) && countB win now r
def whoL (L : List Rp) (about now win : Int) : List Int := (L.filter (tellB about now win)).map (·.b)
def sorted (l : List Int) : List Int := l.mergeSort fun x y => decide (x ≤ y)
def byL (L : List Rp) (about now win : Int) : List Int := sorted (whoL L about now win)
/-! ### what goes -/
/-! ### many notes -/
/-- a step of a play -/
structure St where
  how : Int
  a : Int
  b : Int
  t : Int
def St.ok (x : St) : Prop := noteE x.a x.b x.t = 0
end Go.Proofs.YteoodompphhkbaaGreatDoor.Bok

/- Law -/
namespace Go.Proofs.YteoodompphhkbaaGreatDoor.Bok
set_option maxRecDepth 100000
open Go.RowKit Go.ChangeShapes Go.WideShapes Go.ChangeAt Go.WideElems

theorem laid_ok : laidOutB Tryz.prog = true := by kernel_rfl
section
variable {H : Type} {enc : TypeId × Value → H} {P : Program}
end
end Go.Proofs.YteoodompphhkbaaGreatDoor.Bok

/- Ints -/
namespace Go.Proofs.YteoodompphhkbaaGreatDoor.Bok
set_option maxRecDepth 100000
open Go.RowKit Go.ChangeShapes Go.WideShapes Go.ChangeAt Go.WideElems

theorem wf_i64 {z : Int} (h : (Lit.int .i64 z).wf = true) : -9223372036854775808 ≤ z ∧ z ≤ 9223372036854775807 := by
  have e1 : IntKind.i64.min = -9223372036854775808 := by decide
  simp [Lit.wf] at h
  rw [e1] at h
  exact h

section
variable {H : Type} {enc : TypeId × Value → H} {P : Program}
end
theorem cells_int : Tryz.prog.cellsOf 3 = 1 := by kernel_rfl
end Go.Proofs.YteoodompphhkbaaGreatDoor.Bok

/- Mem -/
namespace Go.Proofs.YteoodompphhkbaaGreatDoor.Bok
set_option maxRecDepth 100000
open Go.RowKit Go.ChangeShapes Go.WideShapes Go.ChangeAt Go.WideElems

def inInt (z : Int) : Prop := -9223372036854775808 ≤ z ∧ z ≤ 9223372036854775807
theorem add_succ (x : Addr) (j : Nat) : x.add (j + 1) = ⟨x.block, x.off + (j + 1), none⟩ := by unfold Addr.add; rw [if_neg (by omega)]

/-- the slice value '.slice A n c' holds the steps l, in a block that is there -/
def ActsAt (w : World) (A : Option Addr) (n : Nat) (l : List St) : Prop :=
  l.length = n ∧ (0 < n → ∃ ad, A = some ad ∧ ad.block < w.heap.size ∧ ∀ i s, l[i]? = some s → w.cell? (ad.add (i * 4)) = some (.int .i64 s.how) ∧ w.cell? (ad.add (i * 4 + 1)) = some (.int .i64 s.a) ∧ w.cell? (ad.add (i * 4 + 2)) = some (.int .i64 s.b) ∧ w.cell? (ad.add (i * 4 + 3)) = some (.int .i64 s.t))
theorem ActsAt.below {w w' : World} {A : Option Addr} {n : Nat} {l : List St} (h : ActsAt w A n l) (hb : Below w.heap.size w w') : ActsAt w' A n l :=
  ⟨h.1, fun hn => by
    obtain ⟨ad, e, hlt, hc⟩ := h.2 hn
    refine ⟨ad, e, Nat.lt_of_lt_of_le hlt hb.size, fun i s hs => ?_⟩
    obtain ⟨c0, c1, c2, c3⟩ := hc i s hs
    exact ⟨(hb.cell (by rw [block_of_add]; exact hlt)).trans c0, (hb.cell (by rw [block_of_add]; exact hlt)).trans c1, (hb.cell (by rw [block_of_add]; exact hlt)).trans c2, (hb.cell (by rw [block_of_add]; exact hlt)).trans c3⟩⟩
theorem ActsAt.at_ {w : World} {A : Option Addr} {n k : Nat} {l : List St} (h : ActsAt w A n l) (hk : k < n) :
    ∃ ad s, A = some ad ∧ l[k]? = some s ∧ ad.block < w.heap.size ∧ w.cell? (ad.add (k * 4)) = some (.int .i64 s.how) ∧ w.cell? ⟨(ad.add (k * 4)).block, (ad.add (k * 4)).off + 1, none⟩ = some (.int .i64 s.a) ∧ w.cell? ⟨(ad.add (k * 4)).block, (ad.add (k * 4)).off + 2, none⟩ = some (.int .i64 s.b) ∧ w.cell? ⟨(ad.add (k * 4)).block, (ad.add (k * 4)).off + 3, none⟩ = some (.int .i64 s.t) := by
  obtain ⟨ad, e, hlt, hc⟩ := h.2 (by omega)
  have hl : k < l.length := by have := h.1; omega
  obtain ⟨c0, c1, c2, c3⟩ := hc k _ (List.getElem?_eq_getElem hl)
  rw [← add_of_add, add_succ] at c1 c2 c3
  exact ⟨ad, l[k], e, List.getElem?_eq_getElem hl, hlt, c0, c1, c2, c3⟩
section
variable {H : Type} {enc : TypeId × Value → H}
end

/-! ### slices of reports -/
def encR (r : Rp) : List Value := [.int .i64 r.a, .int .i64 r.b, .int .i64 r.t]
def flatR (l : List Rp) : List Value := l.flatMap encR
theorem flat_at : ∀ {l : List Rp} {j : Nat} {u : Value}, (flatR l)[j]? = some u → ∃ i r, l[i]? = some r ∧ ((j = i * 3 ∧ u = .int .i64 r.a) ∨ (j = i * 3 + 1 ∧ u = .int .i64 r.b) ∨ (j = i * 3 + 2 ∧ u = .int .i64 r.t))
  | [], j, u, h => by simp [flatR] at h
  | x :: l, 0, u, h => by simp [flatR, encR] at h; exact ⟨0, x, rfl, .inl ⟨rfl, h.symm⟩⟩
  | x :: l, 1, u, h => by simp [flatR, encR] at h; exact ⟨0, x, rfl, .inr (.inl ⟨rfl, h.symm⟩)⟩
  | x :: l, 2, u, h => by simp [flatR, encR] at h; exact ⟨0, x, rfl, .inr (.inr ⟨rfl, h.symm⟩)⟩
  | x :: l, j + 3, u, h => by
    obtain ⟨i, r, hi, h⟩ := flat_at (l := l) (j := j) (u := u) h
    refine ⟨i + 1, r, by simpa using hi, ?_⟩
    rcases h with ⟨e, h⟩ | ⟨e, h⟩ | ⟨e, h⟩
    · exact .inl ⟨by omega, h⟩
    · exact .inr (.inl ⟨by omega, h⟩)
    · exact .inr (.inr ⟨by omega, h⟩)

/-- the slice value '.slice A n c' holds the reports l, in a block that is there -/
def RpsAt (w : World) (A : Option Addr) (n : Nat) (l : List Rp) : Prop :=
  l.length = n ∧ (0 < n → ∃ ad, A = some ad ∧ ad.block < w.heap.size ∧ ∀ i s, l[i]? = some s → w.cell? (ad.add (i * 3)) = some (.int .i64 s.a) ∧ w.cell? (ad.add (i * 3 + 1)) = some (.int .i64 s.b) ∧ w.cell? (ad.add (i * 3 + 2)) = some (.int .i64 s.t))

section
variable {w w' : World} {A : Option Addr} {ad : Addr} {n k : Nat} {l : List Rp}
theorem RpsAt.below (h : RpsAt w A n l) (hb : Below w.heap.size w w') : RpsAt w' A n l :=
  ⟨h.1, fun hn => by
    obtain ⟨ad, e, hlt, hc⟩ := h.2 hn
    refine ⟨ad, e, Nat.lt_of_lt_of_le hlt hb.size, fun i s hs => ?_⟩
    obtain ⟨c0, c1, c2⟩ := hc i s hs
    exact ⟨(hb.cell (by rw [block_of_add]; exact hlt)).trans c0, (hb.cell (by rw [block_of_add]; exact hlt)).trans c1, (hb.cell (by rw [block_of_add]; exact hlt)).trans c2⟩⟩
theorem RpsAt.at_ (h : RpsAt w A n l) (hk : k < n) :
    ∃ ad s, A = some ad ∧ l[k]? = some s ∧ ad.block < w.heap.size ∧ w.cell? (ad.add (k * 3)) = some (.int .i64 s.a) ∧ w.cell? ⟨(ad.add (k * 3)).block, (ad.add (k * 3)).off + 1, none⟩ = some (.int .i64 s.b) ∧ w.cell? ⟨(ad.add (k * 3)).block, (ad.add (k * 3)).off + 2, none⟩ = some (.int .i64 s.t) := by
  obtain ⟨ad, e, hlt, hc⟩ := h.2 (by omega)
  have hl : k < l.length := by have := h.1; omega
  obtain ⟨c0, c1, c2⟩ := hc k _ (List.getElem?_eq_getElem hl)
  rw [← add_of_add, add_succ] at c1 c2
  exact ⟨ad, l[k], e, List.getElem?_eq_getElem hl, hlt, c0, c1, c2⟩
theorem RpsAt.cells (h : RpsAt w (some ad) n l) : ∀ j u, (flatR l)[j]? = some u → w.cell? (ad.add j) = some u := fun j u hu => by
  obtain ⟨i, r, hi, hr⟩ := flat_at hu
  have hn : 0 < n := by have := h.1; have := (List.getElem?_eq_some_iff.1 hi).1; omega
  obtain ⟨ad', e, _, hc⟩ := h.2 hn
  cases e
  obtain ⟨c0, c1, c2⟩ := hc i r hi
  rcases hr with ⟨rfl, rfl⟩ | ⟨rfl, rfl⟩ | ⟨rfl, rfl⟩
  · exact c0
  · exact c1
  · exact c2
end

section
variable {P : Program} (w : World)
end
end Go.Proofs.YteoodompphhkbaaGreatDoor.Bok

/- Map -/
namespace Go.Proofs.YteoodompphhkbaaGreatDoor.Bok
set_option maxRecDepth 100000
open Go.RowKit Go.Lib Go.Maps

theorem pair_row : (208 : TypeId) < Tryz.prog.types.size := of_decide_eq_true (by kernel_rfl)
theorem pair_wide : (match Tryz.prog.underlying 208 with | some (.array _ _) | some (.struct _) => true | _ => false) = true := by rw [Tryz.underlying208]
theorem keyed : Keyed Tryz.prog 208 := Keyed.of_law (deep_law_laid laid_ok (m := 2) (by omega) pair_row (by kernel_rfl) pair_wide)
theorem types_two : ∃ d, Tryz.prog.types.size + 1 = d + 1 + 1 := by
  have h : 0 < Tryz.prog.types.size := Nat.lt_of_le_of_lt (Nat.zero_le _) pair_row
  obtain ⟨d, hd⟩ := Nat.exists_eq_succ_of_ne_zero (Nat.ne_of_gt h)
  exact ⟨d, by rw [hd]⟩
theorem cells_pair : Tryz.prog.cellsOf 208 = 2 := by kernel_rfl
theorem keytype_pair : Tryz.prog.keyType 208 = true := by kernel_rfl

/-- what a pair reads as, as a key -/
def kl (a b : Int) : Lit := .string (keyBytes [.int .i64 a, .int .i64 b])
abbrev vPair (a b : Int) : Value := .agg #[.int .i64 a, .int .i64 b]
theorem wf_of {x : Int} (h : inInt x) : (Lit.int .i64 x).wf = true := WalkArith.wf_i64 h
theorem lits_int (d : Nat) {x : Int} (h : inInt x) : Tryz.prog.keyLits (d + 1) 3 [.int .i64 x] = some [.int .i64 x] := by
  unfold Program.keyLits
  rw [Tryz.underlying3]
  simp [wf_of h]
theorem keyOf_pair {a b : Int} (ha : inInt a) (hb : inInt b) : keyOf Tryz.prog 208 (vPair a b) = some (kl a b) := by
  have hf : (vPair a b).formed Tryz.prog 208 = true := by simp [Value.formed, Tryz.underlying208, cells_pair]
  have hl : ∀ d, Tryz.prog.keyLits (d + 1 + 1) 208 [.int .i64 a, .int .i64 b] = some [.int .i64 a, .int .i64 b] := fun d => by
    unfold Program.keyLits
    rw [Tryz.underlying208]
    simp [cells_pair, cells_int, lits_int d ha, lits_int d hb]
  unfold keyOf
  rw [Tryz.underlying208]
  simp only [keytype_pair, hf, Bool.and_self, if_true, Value.cells]
  obtain ⟨d, hd⟩ := types_two
  rw [hd, hl d]
  rfl
theorem kl_inj {a b c d : Int} (ha : inInt a) (hb : inInt b) (hc : inInt c) (hd : inInt d) (h : kl a b = kl c d) : a = c ∧ b = d := by
  have := keyed.inj (keyOf_pair ha hb) (h ▸ keyOf_pair hc hd)
  simp at this
  exact this
theorem kl_key (a b : Int) : WideAt.IsKeyLit (kl a b) := by simp [kl, WideAt.IsKeyLit]
theorem zero_int (w : World) : (zeroValue 3).run Tryz.prog w = .ok (.int .i64 0) w := by kernel_rfl
theorem ok_in {r : Rp} (h : okRp r) : inInt r.a ∧ inInt r.b ∧ inInt r.t := by unfold okRp at h; unfold inInt; omega

/-! ### a datum and the list of its reports -/
abbrev Dm := DataW Unit
structure Agr (D : Dm) (L : List Rp) : Prop where
  at_ : ∀ r ∈ L, ∀ z, D.atKey (kl r.a r.b) z = .lit (.int .i64 r.t)
  has_ : ∀ a b, inInt a → inInt b → Maps.has D (kl a b) = hasL L a b
  size : Maps.size D = L.length
theorem agr_nil : Agr (.map []) [] := ⟨fun r hr => (by cases hr), fun a b _ _ => rfl, rfl⟩
theorem Agr.look {D : Dm} {L : List Rp} (h : Agr D L) (hu : Good L) {a b : Int} (ha : inInt a) (hb : inInt b) : D.atKey (kl a b) (.lit (.int .i64 0)) = .lit (.int .i64 (atL L a b)) := by
  cases hh : hasL L a b
  · rw [atKey_of_not_has (by rw [h.has_ a b ha hb, hh]), atL_no (hasL_no.1 hh)]
  · obtain ⟨r, hr, hk⟩ := hasL_iff.1 hh
    rw [atL_mem hu.1 hr hk, ← hk.1, ← hk.2]
    exact h.at_ r hr _
theorem Agr.put {D : Dm} {L : List Rp} (h : Agr D L) (hT : Tidy D) (hu : Good L) {a b t : Int} (he : noteE a b t = 0) :
    Agr (D.put (kl a b) (.lit (.int .i64 (max (atL L a b) t)))) (putL L a b t) := by
  obtain ⟨ha, hb, ht, _⟩ := noteE_zero he
  have ia : inInt a := by unfold inInt; omega
  have ib : inInt b := by unfold inInt; omega
  have hg := hu.put he
  refine ⟨fun r hr z => ?_, fun c d hc hd => ?_, ?_⟩
  · obtain ⟨ra, rb, _⟩ := ok_in (hg.2 r hr)
    rcases (mem_put hu.1).1 hr with ⟨h1, h2⟩ | ⟨⟨h1, h2⟩, h3⟩
    · rw [atKey_put_other (fun e => h2 (kl_inj ra rb ia ib e))]
      exact h.at_ r h1 z
    · rw [h1, h2, atKey_put_same hT.isMap (kl_key a b), h3]
      split
      · rfl
      · rename_i hn
        rw [atL_no (hasL_no.1 (by simpa using hn)), show max 0 t = t by omega]
  · by_cases e : c = a ∧ d = b
    · obtain ⟨rfl, rfl⟩ := e
      rw [has_put_same hT.isMap (kl_key c d)]
      symm
      rw [hasL_iff]
      refine ⟨⟨c, d, if hasL L c d then max (atL L c d) t else t⟩, (mem_put hu.1).2 (.inr ⟨⟨rfl, rfl⟩, rfl⟩), rfl, rfl⟩
    · rw [has_put_other (fun e' => e (kl_inj hc hd ia ib e')), h.has_ c d hc hd, Bool.eq_iff_iff, hasL_iff, hasL_iff]
      constructor
      · rintro ⟨r, hr, hk⟩
        exact ⟨r, (mem_put hu.1).2 (.inl ⟨hr, fun hk2 => e ⟨hk.1.symm.trans hk2.1, hk.2.symm.trans hk2.2⟩⟩), hk⟩
      · rintro ⟨r, hr, hk⟩
        rcases (mem_put hu.1).1 hr with ⟨h1, _⟩ | ⟨⟨h1, h2⟩, _⟩
        · exact ⟨r, h1, hk⟩
        · exact absurd ⟨hk.1.symm.trans h1, hk.2.symm.trans h2⟩ e
  · rw [size_put hT, h.has_ a b ia ib, h.size, len_put]
/-- those that are not of these two -/
def dropL (L : List Rp) (a b : Int) : List Rp := L.filter fun r => !decide (r.is a b)
theorem mem_drop {L : List Rp} {a b : Int} {r : Rp} : r ∈ dropL L a b ↔ r ∈ L ∧ ¬ r.is a b := by unfold dropL; simp
theorem Agr.del {D : Dm} {L : List Rp} (h : Agr D L) (hT : Tidy D) (hu : Good L) {a b : Int} (ia : inInt a) (ib : inInt b) : Agr (D.del (kl a b)) (dropL L a b) := by
  refine ⟨fun r hr z => ?_, fun c d hc hd => ?_, ?_⟩
  · obtain ⟨h1, h2⟩ := mem_drop.1 hr
    obtain ⟨ra, rb, _⟩ := ok_in (hu.2 r h1)
    rw [atKey_del_other (fun e => h2 (kl_inj ra rb ia ib e))]
    exact h.at_ r h1 z
  · by_cases e : c = a ∧ d = b
    · obtain ⟨rfl, rfl⟩ := e
      rw [has_del_same]
      symm
      rw [hasL_no]
      exact fun r hr => (mem_drop.1 hr).2
    · rw [has_del_other (fun e' => e (kl_inj hc hd ia ib e')), h.has_ c d hc hd, Bool.eq_iff_iff, hasL_iff, hasL_iff]
      constructor
      · rintro ⟨r, hr, hk⟩
        exact ⟨r, mem_drop.2 ⟨hr, fun hk2 => e ⟨hk.1.symm.trans hk2.1, hk.2.symm.trans hk2.2⟩⟩, hk⟩
      · rintro ⟨r, hr, hk⟩
        exact ⟨r, (mem_drop.1 hr).1, hk⟩
  · have h1 := size_del (k := kl a b) hT
    rw [h.has_ a b ia ib, h.size] at h1
    have h2 : (dropL L a b).length + (if hasL L a b then 1 else 0) = L.length := by
      clear h1 h hT
      induction L with
      | nil => rfl
      | cons x l ih =>
        obtain ⟨u1, u2⟩ := List.pairwise_cons.1 hu.1
        have ih := ih ⟨u2, fun r hr => hu.2 r (by simp [hr])⟩
        by_cases hx : x.is a b
        · have e1 : hasL (x :: l) a b = true := hasL_iff.2 ⟨x, by simp, hx⟩
          have e2 : hasL l a b = false := hasL_no.2 fun s hs hk => u1 s hs ⟨hx.1.trans hk.1.symm, hx.2.trans hk.2.symm⟩
          have e3 : dropL (x :: l) a b = dropL l a b := by unfold dropL; simp [hx]
          rw [e2] at ih
          rw [e1, e3]
          simp at ih ⊢
          exact ih
        · have e2 : hasL (x :: l) a b = hasL l a b := by unfold hasL; simp [hx]
          have e3 : dropL (x :: l) a b = x :: dropL l a b := by unfold dropL; simp [hx]
          rw [e2, e3, List.length_cons, List.length_cons]
          omega
    omega

/-- a map of reports in a block -/
def MapAt (w : World) (b : Nat) (L : List Rp) : Prop :=
  ∃ D : Dm, w.ownsMap Tryz.prog 208 (plainElem Tryz.prog 3) b L.length D ∧ Agr D L
theorem own_tight {w : World} {b n : Nat} {D : Dm} {R : Value → Option (Dm × List MemPlace)} (h : w.ownsMap Tryz.prog 208 R b n D) : w.ownsMap Tryz.prog 208 R b (Maps.size D) D := by
  obtain ⟨es, clock, hb, F, hs, rfl⟩ := h
  exact ⟨es, clock, hb, F, by simp [Maps.size, length_sorted], rfl⟩
theorem map_new (w : World) : MapAt (w.alloc (.map #[] 0)) w.heap.size [] := ⟨.map [], World.ownsMap_made _ _ _ _, agr_nil⟩
section
variable {w w' : World} {b : Nat} {L : List Rp}
theorem MapAt.lt (h : MapAt w b L) : b < w.heap.size := by obtain ⟨D, h, _⟩ := h; exact h.lt
theorem MapAt.kept {row : Option Nat} (h : MapAt w b L) (hg : w.grownBy w' row) (hne : some b ≠ row) : MapAt w' b L := by
  obtain ⟨D, h, r⟩ := h; exact ⟨D, h.kept hg hne, r⟩
theorem MapAt.look (h : MapAt w b L) (hu : Good L) {x y : Int} (hx : inInt x) (hy : inInt y) :
    (Instr.lookup 168 (.map (some b)) (vPair x y) false).run Tryz.prog w = .ok (.int .i64 (atL L x y)) w := by
  obtain ⟨D, h, r⟩ := h
  obtain ⟨c, hrun, hat, _⟩ := h.lookup_int keyed Tryz.underlying168 Tryz.underlying3 (zero_int _) (keyOf_pair hx hy)
  rw [r.look hu hx hy] at hat
  injection hat with hat
  injection hat with _ hat
  rw [hrun, hat]
theorem MapAt.store (h : MapAt w b L) (hu : Good L) (hlen : L.length < maxLen) {x y t : Int} (he : noteE x y t = 0) :
    ∃ w', (Instr.mapUpdate 168 (.map (some b)) (vPair x y) (.int .i64 (max (atL L x y) t))).run Tryz.prog w = .ok () w' ∧ MapAt w' b (putL L x y t) ∧ w.grownBy w' (some b) := by
  obtain ⟨D, h, r⟩ := h
  obtain ⟨hx, hy, ht, _⟩ := noteE_zero he
  have hm : inInt (max (atL L x y) t) := by
    have h0 : 0 ≤ atL L x y ∧ atL L x y ≤ 1099511627776 := by
      cases hh : hasL L x y
      · rw [atL_no (hasL_no.1 hh)]; omega
      · obtain ⟨s, hs, hk⟩ := hasL_iff.1 hh
        rw [atL_mem hu.1 hs hk]
        exact (hu.2 s hs).2.2
    unfold inInt; omega
  obtain ⟨w', hrun, hown, hg⟩ := h.update keyed Tryz.underlying168 hlen (keyOf_pair (a := x) (b := y) (by unfold inInt; omega) (by unfold inInt; omega)) (plainElem_int Tryz.underlying3 (wf_of hm))
  have hagr := r.put (h.tidy keyed) hu he
  refine ⟨w', hrun, ⟨_, ?_, hagr⟩, hg⟩
  rw [← hagr.size]
  exact own_tight hown
theorem MapAt.del (h : MapAt w b L) (hu : Good L) {x y : Int} (hx : inInt x) (hy : inInt y) (ty : TypeId) :
    ∃ w', (Builtin.delete_ #[168, 208] ty #[.map (some b), vPair x y]).run Tryz.prog w = .ok (.tuple #[]) w' ∧ MapAt w' b (dropL L x y) ∧ w.grownBy w' (some b) := by
  obtain ⟨D, h, r⟩ := h
  obtain ⟨w', hrun, hown, hg⟩ := h.drop keyed Tryz.underlying168 (keyOf_pair hx hy) ty
  have hagr := r.del (h.tidy keyed) hu hx hy
  refine ⟨w', hrun, ⟨_, ?_, hagr⟩, hg.grown⟩
  rw [← hagr.size]
  exact own_tight hown
end
/-- a map lies in no block that holds cells -/
theorem Blk.map_ne {w : World} {g b : Nat} {t : TypeId} {cs : Array Value} {L : List Rp} (h : Blk w g t cs) (hs : MapAt w b L) : g ≠ b := by
  intro e
  obtain ⟨D, ⟨es, clock, hh, _⟩, _⟩ := hs
  unfold Blk at h
  rw [e, hh] at h
  cases h
end Go.Proofs.YteoodompphhkbaaGreatDoor.Bok

/- Book -/
namespace Go.Proofs.YteoodompphhkbaaGreatDoor.Bok
set_option maxRecDepth 100000
open Go.RowKit Go.Lib Go.Maps

/-- block g is a book of that window, whose reports lie in the map of block b -/
structure Bk (w : World) (g b : Nat) (win : Int) (L : List Rp) : Prop where
  row : Blk w g 170 #[.int .i64 win, .map (some b)]
  map : MapAt w b L
  good : Good L
  win : 1 ≤ win ∧ win ≤ 1073741824
section
variable {w w' : World} {g b : Nat} {win : Int} {L : List Rp}
theorem Bk.lt (h : Bk w g b win L) : g < w.heap.size := h.row.lt
theorem Bk.ltb (h : Bk w g b win L) : b < w.heap.size := h.map.lt
theorem Bk.ne (h : Bk w g b win L) : g ≠ b := h.row.map_ne h.map
theorem Bk.below (h : Bk w g b win L) (hb : Below w.heap.size w w') : Bk w' g b win L :=
  ⟨h.row.below hb h.lt, h.map.kept (only_of_below hb none) (by simp), h.good, h.win⟩
theorem Bk.kept {row : Option Nat} (h : Bk w g b win L) (hg : w.grownBy w' row) (h1 : some g ≠ row) (h2 : some b ≠ row) : Bk w' g b win L :=
  ⟨h.row.grown hg h1, h.map.kept hg h2, h.good, h.win⟩
theorem Bk.c0 (h : Bk w g b win L) : w.cell? ⟨g, 0, none⟩ = some (.int .i64 win) := by have := h.row.cell 0; simpa using this
theorem Bk.c1 (h : Bk w g b win L) : w.cell? ⟨g, 1, none⟩ = some (.map (some b)) := by have := h.row.cell 1; simpa using this
end

/-- a new book -/
def Made (win : Int) (w : World) (e : Ending) (w' : World) : Prop :=
  ∃ g b, e = .returned (.tuple #[.pointer (some ⟨g, 0, none⟩), .int .i64 0]) ∧ Bk w' g b win [] ∧ Below w.heap.size w w' ∧ w.heap.size ≤ g ∧ w.heap.size ≤ b
theorem new_yes (win : Int) (w : World) (h1 : 1 ≤ win) (h2 : win ≤ 1073741824) : Calls Tryz.prog 44 #[.int .i64 win] w (Made win w) := by
  have hmm := @run_makeMap Tryz.prog
  go_enter Tryz.func44, Tryz.ntmps44
  go_wp2
  go_ret2
  have hblk : Blk ((w.alloc (.map #[] 0)).alloc (.cells #[.int .i64 win, .map (some w.heap.size)] 170)) (w.heap.size + 1) 170 #[.int .i64 win, .map (some w.heap.size)] := by
    have := Blk.new (w.alloc (.map #[] 0)) 170 #[.int .i64 win, .map (some w.heap.size)]
    simpa using this
  exact ⟨w.heap.size + 1, w.heap.size, rfl, ⟨hblk, (map_new w).kept (World.grownBy_alloc _ _ none) (by simp), Good.nil, h1, h2⟩,
    ((Below.refl _ _).alloc (Nat.le_refl _) _).alloc (by simp) _, by omega, Nat.le_refl _⟩
end Go.Proofs.YteoodompphhkbaaGreatDoor.Bok

/- Goes -/
namespace Go.Proofs.YteoodompphhkbaaGreatDoor.Bok
set_option maxRecDepth 100000
open Go.RowKit Go.Lib Go.Maps

def ofB (id : Int) (r : Rp) : Bool := decide (r.a = id ∨ r.b = id)
end Go.Proofs.YteoodompphhkbaaGreatDoor.Bok

/- Gone -/
namespace Go.Proofs.YteoodompphhkbaaGreatDoor.Bok
set_option maxRecDepth 100000
open Go.RowKit Go.Lib Go.Maps

section
variable (w : World) {ops : Array Oper} {rest : List Oper} {o : Oper} {a : Act} {Q : Exit → Act → World → Prop}
end

end Go.Proofs.YteoodompphhkbaaGreatDoor.Bok

/- Take -/
namespace Go.Proofs.YteoodompphhkbaaGreatDoor.Bok
set_option maxRecDepth 100000
open Go.RowKit Go.Lib Go.Maps

end Go.Proofs.YteoodompphhkbaaGreatDoor.Bok

