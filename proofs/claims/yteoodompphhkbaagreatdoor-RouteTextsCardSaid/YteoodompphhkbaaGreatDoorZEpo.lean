/-
  WHAT IS PROVED: layer 6's contracts: epochs. Conditions: each states its own.
-/
import Derived.Test.YteoodompphhkbaaGreatDoorRows
import Derived.WalkKit
import Derived.Deep.AppendLies
import Derived.Deep.Draws
import Derived.Deep.OwnRows
import Derived.Lib.Hide
import Derived.ProofKit
import Derived.OpenShut
import Derived.JoinedCond
import Derived.OpenVars
import Derived.Deep.Strs
import Derived.Shelf.SlicesE.Kit
import Derived.Laws.StructEq
import Derived.Laws.ResultCell
import Derived.Laws.Rows
/- Base -/
namespace Go.Proofs.YteoodompphhkbaaGreatDoor.Epo
set_option maxRecDepth 100000
open Go.RowKit

theorem block_of_add (a : Addr) (n : Nat) : (a.add n).block = a.block := by unfold Addr.add; split <;> rfl
/-- the slice value '.slice A n c' holds the cells xs, in a block that is there and isn't block g -/
def Reads (w : World) (g : Nat) (A : Option Addr) (n : Nat) (xs : List Value) : Prop :=
  xs.length = n ∧ (0 < n → ∃ ad, A = some ad ∧ ad.block < w.heap.size ∧ ad.block ≠ g ∧ ∀ j u, xs[j]? = some u → w.cell? (ad.add j) = some u)

section
variable {w w' a b c : World} {g g' n : Nat} {A : Option Addr} {xs : List Value}
theorem Reads.below (h : Reads w g A n xs) (hb : Below w.heap.size w w') : Reads w' g A n xs :=
  ⟨h.1, fun hn => by
    obtain ⟨ad, e, hlt, hne, hc⟩ := h.2 hn
    exact ⟨ad, e, Nat.lt_of_lt_of_le hlt hb.size, hne, fun j u hu => (hb.cell (by rw [block_of_add]; exact hlt)).trans (hc j u hu)⟩⟩
end

/-- block g is just the cells cs of element type t, none frozen -/
def Blk (w : World) (g : Nat) (t : TypeId) (cs : Array Value) : Prop := w.heap[g]? = some (.cells cs t (0, 0))

section
variable {w w' : World} {g : Nat} {t : TypeId} {cs : Array Value}
theorem Blk.lt (h : Blk w g t cs) : g < w.heap.size := by
  rcases Nat.lt_or_ge g w.heap.size with hlt | hge
  · exact hlt
  · unfold Blk at h; rw [Array.getElem?_eq_none hge] at h; cases h
theorem Blk.cell (h : Blk w g t cs) (i : Nat) : w.cell? ⟨g, i, none⟩ = cs[i]? := cell_of_row w g i cs t (0, 0) h
theorem Blk.frozen (h : Blk w g t cs) (i : Nat) : w.frozen? ⟨g, i, none⟩ = false := by
  unfold Blk at h
  simp [World.frozen?, h]
theorem Blk.new (w : World) (t : TypeId) (cs : Array Value) : Blk (w.alloc (.cells cs t)) w.heap.size t cs := heap_alloc_new w _
theorem Blk.alloc (h : Blk w g t cs) (o : Obj) : Blk (w.alloc o) g t cs := (Below.heap_alloc w o g h.lt).trans h
theorem Blk.set_ (h : Blk w g t cs) (i : Nat) (u : Value) : Blk (w.setCell ⟨g, i, none⟩ u) g t (cs.setIfInBounds i u) := by
  unfold Blk at h ⊢
  simp [World.setCell, Array.getElem?_modify, h]
theorem Blk.far (h : Blk w g t cs) {p : Addr} (hp : g ≠ p.block) (u : Value) : Blk (w.setCell p u) g t cs := (Below.heap_setCell w p u g hp).trans h
theorem Blk.below {B : Nat} (h : Blk w g t cs) (hb : Below B w w') (hg : g < B) : Blk w' g t cs := (hb.block g hg).trans h
end

end Go.Proofs.YteoodompphhkbaaGreatDoor.Epo

/- Plain -/
namespace Go.Proofs.YteoodompphhkbaaGreatDoor.Epo
set_option maxRecDepth 100000
open Go.RowKit Go.Lib

/-- a node's epochs -/
structure Ep where
  cur : Int
  vote : Int
  conf : Int
deriving DecidableEq

def Ep.zero : Ep := ⟨0, 0, 0⟩
def upB (n t : Int) : Bool := decide (0 ≤ n ∧ n ≤ t)
def okB (e : Ep) : Bool := decide ((0 ≤ e.cur ∧ e.cur ≤ 281474976710656) ∧ (0 ≤ e.vote ∧ e.vote ≤ e.cur) ∧ (0 ≤ e.conf ∧ e.conf ≤ e.cur))
def takesB (e : Ep) (n : Int) : Bool := okB e && upB n 281474976710656

def seeE (e : Ep) (n : Int) : Ep := if takesB e n = true then ⟨max e.cur n, e.vote, e.conf⟩ else Ep.zero
def standE (e : Ep) : Ep := if okB e = true then (if e.cur = 281474976710656 then Ep.zero else ⟨e.cur + 1, e.vote, e.conf⟩) else Ep.zero
def standF (e : Ep) : Int := if okB e = true then (if e.cur = 281474976710656 then 12 else 0) else 10
def grantE (e : Ep) (n : Int) : Ep := if takesB e n = true then (if n ≤ e.vote ∨ n < e.cur then Ep.zero else ⟨n, n, e.conf⟩) else Ep.zero
def grantF (e : Ep) (n : Int) : Int := if takesB e n = true then (if n ≤ e.vote ∨ n < e.cur then 22 else 0) else 10
def winE (e : Ep) (n : Int) : Ep := if takesB e n = true then (if e.cur < n ∨ n ≤ e.conf then Ep.zero else ⟨e.cur, e.vote, n⟩) else Ep.zero
def winF (e : Ep) (n : Int) : Int := if takesB e n = true then (if e.cur < n ∨ n ≤ e.conf then 22 else 0) else 10
def bumpE (e : Ep) : Ep := if okB e = true then (if e.cur = 281474976710656 then Ep.zero else ⟨e.cur + 1, e.vote, e.cur + 1⟩) else Ep.zero
def bumpF (e : Ep) : Int := standF e

def yieldB (i o m t : Int) : Bool := decide (m = t ∧ i < o)
theorem ok_iff {e : Ep} : okB e = true ↔ (0 ≤ e.cur ∧ e.cur ≤ 281474976710656) ∧ (0 ≤ e.vote ∧ e.vote ≤ e.cur) ∧ (0 ≤ e.conf ∧ e.conf ≤ e.cur) := by unfold okB; rw [decide_eq_true_iff]
section
variable {e : Ep} {n : Int}
theorem stand_yes (h : okB e = true) (h2 : e.cur ≠ 281474976710656) : standE e = ⟨e.cur + 1, e.vote, e.conf⟩ ∧ standF e = 0 := by unfold standE standF; rw [if_pos h, if_pos h, if_neg h2, if_neg h2]; exact ⟨rfl, rfl⟩
theorem bump_yes (h : okB e = true) (h2 : e.cur ≠ 281474976710656) : bumpE e = ⟨e.cur + 1, e.vote, e.cur + 1⟩ ∧ bumpF e = 0 := by unfold bumpE bumpF; rw [if_pos h, if_neg h2]; exact ⟨rfl, (stand_yes h h2).2⟩
end
end Go.Proofs.YteoodompphhkbaaGreatDoor.Epo

/- Law -/
namespace Go.Proofs.YteoodompphhkbaaGreatDoor.Epo
set_option maxRecDepth 100000
open Go.RowKit Go.ChangeShapes Go.WideShapes Go.ChangeAt Go.WideElems

section
variable {H : Type} {enc : TypeId × Value → H} {P : Program}
end
end Go.Proofs.YteoodompphhkbaaGreatDoor.Epo

/- Ints -/
namespace Go.Proofs.YteoodompphhkbaaGreatDoor.Epo
set_option maxRecDepth 100000
open Go.RowKit Go.ChangeShapes Go.WideShapes Go.ChangeAt Go.WideElems

theorem lt_of_cell {w : World} {a : Addr} {v : Value} (h : w.cell? a = some v) : a.block < w.heap.size := by
  unfold World.cell? at h
  rcases Nat.lt_or_ge a.block w.heap.size with h' | h'
  · exact h'
  · rw [Array.getElem?_eq_none h'] at h
    cases h
section
variable {H : Type} {enc : TypeId × Value → H} {P : Program}
end
end Go.Proofs.YteoodompphhkbaaGreatDoor.Epo

/- Eps -/
namespace Go.Proofs.YteoodompphhkbaaGreatDoor.Epo
set_option maxRecDepth 100000
open Go.RowKit Go.ChangeShapes Go.WideShapes Go.ChangeAt Go.WideElems

/-- a variable of type Epochs -/
def BoxAt (w : World) (b : Nat) (r : Ep) : Prop := w.cell? ⟨b, 0, none⟩ = some (.int .i64 r.cur) ∧ w.cell? ⟨b, 1, none⟩ = some (.int .i64 r.vote) ∧ w.cell? ⟨b, 2, none⟩ = some (.int .i64 r.conf)
theorem BoxAt.new (w : World) (r : Ep) : BoxAt (w.alloc (.cells #[.int .i64 r.cur, .int .i64 r.vote, .int .i64 r.conf] 67)) w.heap.size r := ⟨by simp, by simp, by simp⟩
theorem BoxAt.lt {w : World} {b : Nat} {r : Ep} (h : BoxAt w b r) : b < w.heap.size := lt_of_cell h.1
theorem BoxAt.below {w w' : World} {b : Nat} {r : Ep} (h : BoxAt w b r) (hb : Below w.heap.size w w') : BoxAt w' b r :=
  have hlt := h.lt
  ⟨(hb.cell (p := ⟨b, 0, none⟩) hlt).trans h.1, (hb.cell (p := ⟨b, 1, none⟩) hlt).trans h.2.1, (hb.cell (p := ⟨b, 2, none⟩) hlt).trans h.2.2⟩

/-- the slice value '.slice A n c' holds the epochs l, in a block that is there -/
def EpsAt (w : World) (A : Option Addr) (n : Nat) (l : List Ep) : Prop :=
  l.length = n ∧ (0 < n → ∃ ad, A = some ad ∧ ad.block < w.heap.size ∧ ∀ i s, l[i]? = some s → w.cell? (ad.add (i * 3)) = some (.int .i64 s.cur) ∧ w.cell? (ad.add (i * 3 + 1)) = some (.int .i64 s.vote) ∧ w.cell? (ad.add (i * 3 + 2)) = some (.int .i64 s.conf))
theorem EpsAt.below {w w' : World} {A : Option Addr} {n : Nat} {l : List Ep} (h : EpsAt w A n l) (hb : Below w.heap.size w w') : EpsAt w' A n l :=
  ⟨h.1, fun hn => by
    obtain ⟨ad, e, hlt, hc⟩ := h.2 hn
    refine ⟨ad, e, Nat.lt_of_lt_of_le hlt hb.size, fun i s hs => ?_⟩
    obtain ⟨c0, c1, c2⟩ := hc i s hs
    exact ⟨(hb.cell (by rw [block_of_add]; exact hlt)).trans c0, (hb.cell (by rw [block_of_add]; exact hlt)).trans c1, (hb.cell (by rw [block_of_add]; exact hlt)).trans c2⟩⟩
/-- a step of a play -/
structure Step where
  how : Int
  n : Int
def StepsAt (w : World) (A : Option Addr) (n : Nat) (l : List Step) : Prop :=
  l.length = n ∧ (0 < n → ∃ ad, A = some ad ∧ ad.block < w.heap.size ∧ ∀ i s, l[i]? = some s → w.cell? (ad.add (i * 2)) = some (.int .i64 s.how) ∧ w.cell? (ad.add (i * 2 + 1)) = some (.int .i64 s.n))
theorem StepsAt.below {w w' : World} {A : Option Addr} {n : Nat} {l : List Step} (h : StepsAt w A n l) (hb : Below w.heap.size w w') : StepsAt w' A n l :=
  ⟨h.1, fun hn => by
    obtain ⟨ad, e, hlt, hc⟩ := h.2 hn
    refine ⟨ad, e, Nat.lt_of_lt_of_le hlt hb.size, fun i s hs => ?_⟩
    obtain ⟨c0, c1⟩ := hc i s hs
    exact ⟨(hb.cell (by rw [block_of_add]; exact hlt)).trans c0, (hb.cell (by rw [block_of_add]; exact hlt)).trans c1⟩⟩
section
variable {H : Type} {enc : TypeId × Value → H}
end
end Go.Proofs.YteoodompphhkbaaGreatDoor.Epo

/- Fns -/
namespace Go.Proofs.YteoodompphhkbaaGreatDoor.Epo
set_option maxRecDepth 100000
open Go.RowKit Go.Lib

end Go.Proofs.YteoodompphhkbaaGreatDoor.Epo

/- Same -/
namespace Go.Proofs.YteoodompphhkbaaGreatDoor.Epo
set_option maxRecDepth 100000
open Go.RowKit Go.Lib

end Go.Proofs.YteoodompphhkbaaGreatDoor.Epo

/- Calls -/
namespace Go.Proofs.YteoodompphhkbaaGreatDoor.Epo
set_option maxRecDepth 100000
open Go.RowKit Go.Lib

/-- a variable of type Epochs that may be written -/
def Bx (w : World) (b : Nat) (r : Ep) : Prop := Blk w b 67 #[.int .i64 r.cur, .int .i64 r.vote, .int .i64 r.conf]
section
variable {w w' : World} {b : Nat} {r : Ep}
theorem Bx.new (w : World) (r : Ep) {b : Nat} (hb : b = w.heap.size) : Bx (w.alloc (.cells #[.int .i64 r.cur, .int .i64 r.vote, .int .i64 r.conf] 67)) b r := by subst hb; exact Blk.new _ _ _
theorem Bx.lt (h : Bx w b r) : b < w.heap.size := Blk.lt h
theorem Bx.below {B : Nat} (h : Bx w b r) (hb : Below B w w') (hlt : b < B) : Bx w' b r := Blk.below h hb hlt
theorem Bx.later (h : Bx w b r) (hb : Below w.heap.size w w') : Bx w' b r := Blk.below h hb h.lt
theorem Bx.alloc (h : Bx w b r) (o : Obj) : Bx (w.alloc o) b r := Blk.alloc h o
theorem Bx.far (h : Bx w b r) {p : Addr} (hp : b ≠ p.block) (u : Value) : Bx (w.setCell p u) b r := Blk.far h hp u
theorem Bx.box (h : Bx w b r) : BoxAt w b r := ⟨Blk.cell h 0, Blk.cell h 1, Blk.cell h 2⟩
theorem Bx.c0 (h : Bx w b r) : w.cell? ⟨b, 0, none⟩ = some (.int .i64 r.cur) := Blk.cell h 0
theorem Bx.c1 (h : Bx w b r) : w.cell? ⟨b, 1, none⟩ = some (.int .i64 r.vote) := Blk.cell h 1
theorem Bx.c2 (h : Bx w b r) : w.cell? ⟨b, 2, none⟩ = some (.int .i64 r.conf) := Blk.cell h 2
theorem Bx.fz (h : Bx w b r) (i : Nat) : w.frozen? ⟨b, i, none⟩ = false := Blk.frozen h i
theorem Bx.store (h : Bx w b r) (s : Ep) : Bx (((w.setCell ⟨b, 0, none⟩ (.int .i64 s.cur)).setCell ⟨b, 1, none⟩ (.int .i64 s.vote)).setCell ⟨b, 2, none⟩ (.int .i64 s.conf)) b s := by
  have h3 := ((Blk.set_ h 0 (.int .i64 s.cur)).set_ 1 (.int .i64 s.vote)).set_ 2 (.int .i64 s.conf)
  exact h3
end
end Go.Proofs.YteoodompphhkbaaGreatDoor.Epo

/- Bump -/
namespace Go.Proofs.YteoodompphhkbaaGreatDoor.Epo
set_option maxRecDepth 100000
open Go.RowKit Go.Lib

theorem stand_ok {r : Ep} (h : standF r = 0) : okB r = true ∧ r.cur ≠ 281474976710656 := by
  unfold standF at h
  split at h
  · split at h
    · cases h
    · exact ⟨by assumption, by assumption⟩
  · cases h
end Go.Proofs.YteoodompphhkbaaGreatDoor.Epo
