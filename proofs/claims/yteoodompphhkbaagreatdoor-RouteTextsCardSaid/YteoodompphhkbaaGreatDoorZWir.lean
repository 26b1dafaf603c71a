/-
  WHAT IS PROVED: layer 11's contracts: packets and their bytes. Conditions: each states its own.
-/
import Derived.Test.YteoodompphhkbaaGreatDoorRows
import Derived.WalkKit
import Derived.Deep.AppendLies
import Derived.Deep.Draws
import Derived.Deep.OwnRows
import Derived.Lib.Hide
import Derived.ProofKit
import Derived.OpenShut
import Derived.JoinedCond
import Derived.OpenVars
import Derived.Lib.Strings
import Derived.Maps.AppendAt
import Derived.OwnWalk
import Derived.Deep.Strs
import Derived.Deep.Matrix
import Derived.Laws.OwnMore
import Derived.Maps.Range
import Derived.Laws.ResultCell
import Derived.Laws.Rows
import Derived.RangeFuncNested
import Derived.RangeFuncBound
import Derived.RangeFuncCalls
import Derived.RangeFuncLeaves
import Derived.RangeFuncFrom
import Derived.RangeFuncBox
import Derived.Shelf.Abstract
import Derived.Shelf.RegionOpen
import Derived.OwnWalkIn
import Derived.TacticsInMore
import Derived.LoopNIn
import Derived.LoopIn
import Derived.BigRegionIn
import Derived.Deep.RegionWith
import Derived.BigQuiet
import Derived.OrdersIn
import Derived.Deep.RegionHeld3
import Derived.Deep.DrawnRows
import Derived.Deep.QuietTactic
import Derived.Deep.DeepCutAuto
import Derived.Deep.CutRange
/- Base -/
namespace Go.Proofs.YteoodompphhkbaaGreatDoor.Wir
set_option maxRecDepth 100000
open Go.RowKit

theorem block_of_add (a : Addr) (n : Nat) : (a.add n).block = a.block := by unfold Addr.add; split <;> rfl
theorem add_of_add (a : Addr) (i j : Nat) : (a.add i).add j = a.add (i + j) := by
  unfold Addr.add
  by_cases hi : i = 0 <;> by_cases hj : j = 0 <;> simp [hi, hj, Nat.add_assoc]

/-- the slice value '.slice A n c' holds the cells xs, in a block that is there and isn't block g -/
def Reads (w : World) (g : Nat) (A : Option Addr) (n : Nat) (xs : List Value) : Prop :=
  xs.length = n ∧ (0 < n → ∃ ad, A = some ad ∧ ad.block < w.heap.size ∧ ad.block ≠ g ∧ ∀ j u, xs[j]? = some u → w.cell? (ad.add j) = some u)

section
variable {w w' a b c : World} {g g' n : Nat} {A : Option Addr} {xs : List Value}
theorem Reads.none_ : Reads w g A 0 [] := ⟨rfl, fun h => absurd h (by omega)⟩
theorem Reads.at_ {k : Nat} (h : Reads w g A n xs) (hk : k < n) : ∃ ad u, A = some ad ∧ xs[k]? = some u ∧ w.cell? (ad.add k) = some u := by
  obtain ⟨ad, e, _, _, hc⟩ := h.2 (by omega)
  have hl : k < xs.length := by have := h.1; omega
  exact ⟨ad, xs[k], e, List.getElem?_eq_getElem hl, hc k _ (List.getElem?_eq_getElem hl)⟩
theorem Reads.only (h : Reads w g A n xs) (hb : w.grownBy w' (some g)) : Reads w' g A n xs :=
  ⟨h.1, fun hn => by
    obtain ⟨ad, e, hlt, hne, hc⟩ := h.2 hn
    refine ⟨ad, e, Nat.lt_of_lt_of_le hlt hb.size, hne, fun j u hu => ?_⟩
    exact (World.cell?_of_block (hb.block (ad.add j).block (by rw [block_of_add]; exact hlt) (fun e => hne (by rw [block_of_add] at e; injection e)))).trans (hc j u hu)⟩
theorem Reads.below (h : Reads w g A n xs) (hb : Below w.heap.size w w') : Reads w' g A n xs :=
  ⟨h.1, fun hn => by
    obtain ⟨ad, e, hlt, hne, hc⟩ := h.2 hn
    exact ⟨ad, e, Nat.lt_of_lt_of_le hlt hb.size, hne, fun j u hu => (hb.cell (by rw [block_of_add]; exact hlt)).trans (hc j u hu)⟩⟩
theorem Reads.cut (h : Reads w g A n xs) {k cap : Nat} (hk : k ≤ n) (hc : n ≤ cap) :
    Reads w g (if cap = k then A else A.map (·.add k)) (n - k) (xs.drop k) := by
  refine ⟨by rw [List.length_drop, h.1], fun hn => ?_⟩
  obtain ⟨ad, rfl, hlt, hb, hcell⟩ := h.2 (by omega)
  rw [if_neg (by omega)]
  refine ⟨ad.add k, rfl, by rw [block_of_add]; exact hlt, by rw [block_of_add]; exact hb, fun j u hu => ?_⟩
  rw [add_of_add]
  exact hcell _ u (by rw [← hu, List.getElem?_drop])
theorem Reads.take (h : Reads w g A n xs) {k : Nat} (hk : k ≤ n) : Reads w g A k (xs.take k) := by
  refine ⟨by rw [List.length_take, h.1]; omega, fun hn => ?_⟩
  obtain ⟨ad, e, hlt, hb, hcell⟩ := h.2 (by omega)
  exact ⟨ad, e, hlt, hb, fun j u hu => hcell j u (by rw [List.getElem?_take] at hu; split at hu <;> simp_all)⟩
end

/-- block g is just the cells cs of element type t, none frozen -/
def Blk (w : World) (g : Nat) (t : TypeId) (cs : Array Value) : Prop := w.heap[g]? = some (.cells cs t (0, 0))

section
variable {w w' : World} {g : Nat} {t : TypeId} {cs : Array Value}
theorem Blk.lt (h : Blk w g t cs) : g < w.heap.size := by
  rcases Nat.lt_or_ge g w.heap.size with hlt | hge
  · exact hlt
  · unfold Blk at h; rw [Array.getElem?_eq_none hge] at h; cases h
theorem Blk.cell (h : Blk w g t cs) (i : Nat) : w.cell? ⟨g, i, none⟩ = cs[i]? := cell_of_row w g i cs t (0, 0) h
theorem Blk.frozen (h : Blk w g t cs) (i : Nat) : w.frozen? ⟨g, i, none⟩ = false := by
  unfold Blk at h
  simp [World.frozen?, h]
theorem Blk.new (w : World) (t : TypeId) (cs : Array Value) : Blk (w.alloc (.cells cs t)) w.heap.size t cs := heap_alloc_new w _
theorem Blk.drew (h : Blk w g t cs) : Blk w.drew g t cs := h
theorem Blk.alloc (h : Blk w g t cs) (o : Obj) : Blk (w.alloc o) g t cs := (Below.heap_alloc w o g h.lt).trans h
theorem Blk.set_ (h : Blk w g t cs) (i : Nat) (u : Value) : Blk (w.setCell ⟨g, i, none⟩ u) g t (cs.setIfInBounds i u) := by
  unfold Blk at h ⊢
  simp [World.setCell, Array.getElem?_modify, h]
theorem Blk.below {B : Nat} (h : Blk w g t cs) (hb : Below B w w') (hg : g < B) : Blk w' g t cs := (hb.block g hg).trans h
theorem Blk.grown {row : Option Nat} (h : Blk w g t cs) (hb : w.grownBy w' row) (hg : some g ≠ row) : Blk w' g t cs := (hb.block g h.lt hg).trans h
end

theorem only_of_below {a w : World} (h : Below a.heap.size a w) (row : Option Nat) : a.grownBy w row := ⟨h.os, h.tape, h.output, h.size, fun i hi _ => h.block i hi⟩
end Go.Proofs.YteoodompphhkbaaGreatDoor.Wir

/- Crc -/
namespace Go.Proofs.YteoodompphhkbaaGreatDoor.Wir
set_option maxRecDepth 100000

/-- one shift of sixteen bits -/
def st (s : Nat) : Nat := if 32768 ≤ s then (s * 2 % 65536) ^^^ 4129 else s * 2 % 65536
def stN : Nat → Nat → Nat
  | 0, s => s
  | n + 1, s => stN n (st s)
/-- what a byte in the upper eight bits comes to -/
def tb (i : Nat) : Nat := stN 8 (i * 256)
/-- one byte more, as the document has it -/
def up (s c : Nat) : Nat := stN 8 (s ^^^ c * 256)
def crc (s : Nat) (l : List UInt8) : Nat := l.foldl (fun s c => up s c.toNat) s

end Go.Proofs.YteoodompphhkbaaGreatDoor.Wir

/- Turn -/
namespace Go.Proofs.YteoodompphhkbaaGreatDoor.Wir
set_option maxRecDepth 100000

end Go.Proofs.YteoodompphhkbaaGreatDoor.Wir

/- Plain -/
namespace Go.Proofs.YteoodompphhkbaaGreatDoor.Wir
set_option maxRecDepth 100000

/-- an entry -/
structure En where
  id : Int
  st : Int
deriving DecidableEq
/-- a packet -/
structure Pk where
  kind : Int
  frm : Int
  ep : Int
  cf : Int
  ma : Int
  sl : Int
  off : Int
  ab : Int
  ac : Int
  as_ : Int
  sec : List En
deriving DecidableEq

def isId (n : Int) : Bool := decide (1 ≤ n ∧ n ≤ 4294967296)
def isIn (n m : Int) : Bool := decide (0 ≤ n ∧ n ≤ m)
def isKd (n : Int) : Bool := decide (1 ≤ n ∧ n ≤ 7)
/-- the entries are right behind those whose ids are told -/
def okEs (told : List Int) : List En → Bool
  | [] => true
  | e :: es => isId e.id && isIn e.st 2 && !told.contains e.id && okEs (told ++ [e.id]) es
def okSec (p : Pk) : Bool := decide (p.sec.length ≤ 3) && (decide (p.sec.length = 0) || decide (p.kind ≤ 3)) && okEs [p.frm] p.sec
def okMa (p : Pk) : Bool := decide (p.ma = 0) || (isId p.ma && decide (p.ma ≠ p.frm) && decide (p.sl = 0))
def okAb (p : Pk) : Bool :=
  if p.kind = 5 then isId p.ab && isIn p.ac 281474976710656
  else if p.kind = 4 then isId p.ab && decide (p.ac = 0) && decide (p.as_ = 0)
  else decide (p.ab = 0) && decide (p.ac = 0) && decide (p.as_ = 0)
/-- a packet is right -/
def okP (p : Pk) : Bool :=
  isKd p.kind && isId p.frm && isIn p.ep 281474976710656 && isIn p.cf p.ep && okMa p && isIn p.off 281474976710656 && okAb p && okSec p

/-! ### bytes -/
def b8 (n : Nat) : UInt8 := UInt8.ofNat n
def eight (n : Nat) : List UInt8 := [b8 (n / 72057594037927936), b8 (n / 281474976710656), b8 (n / 1099511627776), b8 (n / 4294967296), b8 (n / 16777216), b8 (n / 65536), b8 (n / 256), b8 n]
def num (l : List UInt8) : Nat := l.foldl (fun n c => n * 256 + c.toNat) 0
/-! ### a packet's bytes -/
def nums (p : Pk) : List Nat := [p.frm.toNat, p.ep.toNat, p.cf.toNat, p.ma.toNat, p.sl.toNat, p.off.toNat, p.ab.toNat, p.ac.toNat, p.as_.toNat]
def encE (e : En) : List UInt8 := eight e.id.toNat ++ [b8 e.st.toNat]
def encH (p : Pk) : List UInt8 := [71, 86, 1, b8 p.kind.toNat] ++ (nums p).flatMap eight ++ [b8 p.sec.length]
def encB (p : Pk) : List UInt8 := encH p ++ p.sec.flatMap encE
def two (s : Nat) : List UInt8 := [b8 (s / 256), b8 s]
def enc (p : Pk) : List UInt8 := encB p ++ two (crc 0 (encB p))
/-! ### reading -/
def at_ (l : List UInt8) (i : Nat) : Nat := (l[i]?.getD 0).toNat
def numAt (l : List UInt8) (i : Nat) : Nat := num ((l.drop i).take 8)
/-- a number of 64 bits, as an int -/
def toI (n : Nat) : Int := if n < 9223372036854775808 then (n : Int) else (n : Int) - 18446744073709551616
def entAt (l : List UInt8) (i : Nat) : En := ⟨toI (numAt l (77 + 9 * i)), at_ l (85 + 9 * i)⟩
def pkt0 (l : List UInt8) : Pk := ⟨at_ l 3, toI (numAt l 4), toI (numAt l 12), toI (numAt l 20), toI (numAt l 28), numAt l 36, toI (numAt l 44), toI (numAt l 52), toI (numAt l 60), numAt l 68, []⟩
def pkt (l : List UInt8) : Pk := { pkt0 l with sec := (List.range (at_ l 76)).map (entAt l) }
def zeroP : Pk := ⟨0, 0, 0, 0, 0, 0, 0, 0, 0, 0, []⟩
/-- what is wrong with bytes, whatever their numbers say -/
def chk (l : List UInt8) : Int :=
  if l.length < 4 then 11
  else if ¬ (at_ l 0 = 71 ∧ at_ l 1 = 86) then 10
  else if ¬ (at_ l 2 = 1 ∧ 1 ≤ at_ l 3 ∧ at_ l 3 ≤ 7) then 13
  else if l.length < 77 then 11
  else if 3 < at_ l 76 then 12
  else if l.length < 79 + 9 * at_ l 76 then 11
  else if 79 + 9 * at_ l 76 < l.length then 10
  else if l.drop (77 + 9 * at_ l 76) = two (crc 0 (l.take (77 + 9 * at_ l 76))) then 0
  else 14
def dec (l : List UInt8) : Pk × Int := if chk l ≠ 0 then (zeroP, chk l) else if okP (pkt l) then (pkt l, 0) else (zeroP, 10)

/-! ### bytes that are no packet's -/
end Go.Proofs.YteoodompphhkbaaGreatDoor.Wir

/- Fns -/
namespace Go.Proofs.YteoodompphhkbaaGreatDoor.Wir
set_option maxRecDepth 100000
open Go.RowKit Go.Lib

end Go.Proofs.YteoodompphhkbaaGreatDoor.Wir

/- Law -/
namespace Go.Proofs.YteoodompphhkbaaGreatDoor.Wir
set_option maxRecDepth 100000
open Go.RowKit Go.ChangeShapes Go.WideShapes Go.ChangeAt Go.WideElems

section
variable {H : Type} {enc : TypeId × Value → H} {P : Program}
end
end Go.Proofs.YteoodompphhkbaaGreatDoor.Wir

/- Ints -/
namespace Go.Proofs.YteoodompphhkbaaGreatDoor.Wir
set_option maxRecDepth 100000
open Go.RowKit Go.ChangeShapes Go.WideShapes Go.ChangeAt Go.WideElems

section
variable {H : Type} {enc : TypeId × Value → H} {P : Program}
end
end Go.Proofs.YteoodompphhkbaaGreatDoor.Wir

/- Bytes -/
namespace Go.Proofs.YteoodompphhkbaaGreatDoor.Wir
set_option maxRecDepth 100000
open Go.RowKit

/-- bytes as cells -/
def bs (l : List UInt8) : List Value := l.map fun c => .int .u8 (c.toNat : Int)
end Go.Proofs.YteoodompphhkbaaGreatDoor.Wir

/- Append -/
namespace Go.Proofs.YteoodompphhkbaaGreatDoor.Wir
set_option maxRecDepth 100000
open Go.RowKit

section
variable {P : Program} (w : World)
end

end Go.Proofs.YteoodompphhkbaaGreatDoor.Wir

/- Mem -/
namespace Go.Proofs.YteoodompphhkbaaGreatDoor.Wir
set_option maxRecDepth 100000
open Go.RowKit Go.ChangeShapes Go.WideShapes Go.ChangeAt Go.WideElems

/-- a replica's cells -/
def encR (r : En) : List Value := [.int .i64 r.id, .int .i64 r.st]
def flatR (l : List En) : List Value := l.flatMap encR
theorem flat_get : ∀ {l : List En} {i : Nat} {r : En}, l[i]? = some r → (flatR l)[i * 2]? = some (.int .i64 r.id) ∧ (flatR l)[i * 2 + 1]? = some (.int .i64 r.st)
  | x :: l, 0, r, h => by simp at h; subst h; exact ⟨rfl, rfl⟩
  | x :: l, i + 1, r, h => by
    have := flat_get (l := l) (i := i) (r := r) (by simpa using h)
    rw [show (i + 1) * 2 = i * 2 + 2 by omega, show i * 2 + 2 + 1 = i * 2 + 1 + 2 by omega]
    exact this
theorem flat_at : ∀ {l : List En} {j : Nat} {u : Value}, (flatR l)[j]? = some u → ∃ i r, l[i]? = some r ∧ ((j = i * 2 ∧ u = .int .i64 r.id) ∨ (j = i * 2 + 1 ∧ u = .int .i64 r.st))
  | x :: l, 0, u, h => by simp [flatR, encR] at h; exact ⟨0, x, rfl, .inl ⟨rfl, h.symm⟩⟩
  | x :: l, 1, u, h => by simp [flatR, encR] at h; exact ⟨0, x, rfl, .inr ⟨rfl, h.symm⟩⟩
  | x :: l, j + 2, u, h => by
    obtain ⟨i, r, hi, h⟩ := flat_at (l := l) (j := j) (u := u) h
    refine ⟨i + 1, r, by simpa using hi, ?_⟩
    rcases h with ⟨e, h⟩ | ⟨e, h⟩
    · exact .inl ⟨by omega, h⟩
    · exact .inr ⟨by omega, h⟩

/-- the slice value '.slice A n c' holds the replicas l, in a block that is there -/
def EsAt (w : World) (A : Option Addr) (n : Nat) (l : List En) : Prop :=
  l.length = n ∧ (0 < n → ∃ ad, A = some ad ∧ ad.block < w.heap.size ∧ ∀ i s, l[i]? = some s → w.cell? (ad.add (i * 2)) = some (.int .i64 s.id) ∧ w.cell? (ad.add (i * 2 + 1)) = some (.int .i64 s.st))
theorem add_succ (x : Addr) (j : Nat) : x.add (j + 1) = ⟨x.block, x.off + (j + 1), none⟩ := by unfold Addr.add; rw [if_neg (by omega)]

section
variable {w w' : World} {A : Option Addr} {ad : Addr} {n k : Nat} {l : List En}
theorem EsAt.nil_ (w : World) (A : Option Addr) : EsAt w A 0 [] := ⟨rfl, fun h => absurd h (by omega)⟩
theorem EsAt.below (h : EsAt w A n l) (hb : Below w.heap.size w w') : EsAt w' A n l :=
  ⟨h.1, fun hn => by
    obtain ⟨ad, e, hlt, hc⟩ := h.2 hn
    refine ⟨ad, e, Nat.lt_of_lt_of_le hlt hb.size, fun i s hs => ?_⟩
    obtain ⟨c0, c1⟩ := hc i s hs
    exact ⟨(hb.cell (by rw [block_of_add]; exact hlt)).trans c0, (hb.cell (by rw [block_of_add]; exact hlt)).trans c1⟩⟩
theorem EsAt.at_ (h : EsAt w A n l) (hk : k < n) :
    ∃ ad s, A = some ad ∧ l[k]? = some s ∧ ad.block < w.heap.size ∧ w.cell? (ad.add (k * 2)) = some (.int .i64 s.id) ∧ w.cell? ⟨(ad.add (k * 2)).block, (ad.add (k * 2)).off + 1, none⟩ = some (.int .i64 s.st) := by
  obtain ⟨ad, e, hlt, hc⟩ := h.2 (by omega)
  have hl : k < l.length := by have := h.1; omega
  obtain ⟨c0, c1⟩ := hc k _ (List.getElem?_eq_getElem hl)
  rw [← add_of_add, add_succ] at c1
  exact ⟨ad, l[k], e, List.getElem?_eq_getElem hl, hlt, c0, c1⟩
theorem EsAt.take (h : EsAt w A n l) (hk : k ≤ n) : EsAt w A k (l.take k) := by
  refine ⟨by rw [List.length_take, h.1]; omega, fun hn => ?_⟩
  obtain ⟨ad, e, hlt, hc⟩ := h.2 (by omega)
  exact ⟨ad, e, hlt, fun i s hs => hc i s (by rw [List.getElem?_take] at hs; split at hs <;> simp_all)⟩
theorem EsAt.cut (h : EsAt w A n l) {cap : Nat} (hk : k ≤ n) (hc : n ≤ cap) :
    EsAt w (if cap = k then A else A.map (·.add (k * 2))) (n - k) (l.drop k) := by
  refine ⟨by rw [List.length_drop, h.1], fun hn => ?_⟩
  obtain ⟨ad, rfl, hlt, hcell⟩ := h.2 (by omega)
  rw [if_neg (by omega)]
  refine ⟨ad.add (k * 2), rfl, by rw [block_of_add]; exact hlt, fun i s hs => ?_⟩
  have hs' : l[k + i]? = some s := by rw [← hs, List.getElem?_drop]
  obtain ⟨c0, c1⟩ := hcell _ s hs'
  rw [add_of_add, add_of_add]
  rw [show k * 2 + i * 2 = (k + i) * 2 by omega, show k * 2 + (i * 2 + 1) = (k + i) * 2 + 1 by omega]
  exact ⟨c0, c1⟩
theorem EsAt.cells (h : EsAt w (some ad) n l) : ∀ j u, (flatR l)[j]? = some u → w.cell? (ad.add j) = some u := fun j u hu => by
  obtain ⟨i, r, hi, hr⟩ := flat_at hu
  have hn : 0 < n := by have := h.1; have := (List.getElem?_eq_some_iff.1 hi).1; omega
  obtain ⟨ad', e, _, hc⟩ := h.2 hn
  cases e
  obtain ⟨c0, c1⟩ := hc i r hi
  rcases hr with ⟨rfl, rfl⟩ | ⟨rfl, rfl⟩
  · exact c0
  · exact c1
theorem EsAt.of_cells {ad : Addr} (hl : l.length = n) (hlt : 0 < n → ad.block < w.heap.size) (hc : ∀ j u, (flatR l)[j]? = some u → w.cell? (ad.add j) = some u) : EsAt w (some ad) n l :=
  ⟨hl, fun hn => ⟨ad, rfl, hlt hn, fun _ _ hs => ⟨hc _ _ (flat_get hs).1, hc _ _ (flat_get hs).2⟩⟩⟩
end

section
variable {H : Type} {enc : TypeId × Value → H}
end

section
variable {P : Program} (w : World)
end

section
variable {H : Type} {enc : TypeId × Value → H} {P : Program}
end

/-! ### rows of bytes of the call's own -/
theorem bs_len (l : List UInt8) : (bs l).length = l.length := by simp [bs]
/-- v is a row of bytes of the call's own, in a block at or beyond B -/
def OwnB (w : World) (B : Nat) (v : Value) (l : List UInt8) : Prop := w.ownsRow B 5 1 v l.length (bs l)
theorem OwnB.reads {w : World} {B : Nat} {v : Value} {l : List UInt8} (h : OwnB w B v l) :
    ∃ A cap, v = .slice A l.length cap ∧ l.length ≤ cap ∧ cap ≤ 9223372036854775807 ∧ ∀ g, w.heap.size ≤ g → Reads w g A l.length (bs l) := by
  rcases h.2 with ⟨rfl, h0⟩ | ⟨b, cap, cur, rfl, hb, hh, hnc, hcm, hs⟩
  · obtain rfl := List.eq_nil_of_length_eq_zero h0
    exact ⟨none, 0, rfl, Nat.le_refl _, by omega, fun _ _ => Reads.none_⟩
  · have hlt : b < w.heap.size := (Array.getElem?_eq_some_iff.1 hh).1
    refine ⟨some ⟨b, 0, none⟩, cap, rfl, hnc, by unfold maxLen at hcm; omega, fun g hg => ⟨bs_len l, fun hn => ⟨_, rfl, hlt, by show b ≠ g; omega, ?_⟩⟩⟩
    exact h.cells rfl

end Go.Proofs.YteoodompphhkbaaGreatDoor.Wir

/- Right -/
namespace Go.Proofs.YteoodompphhkbaaGreatDoor.Wir
set_option maxRecDepth 100000
open Go.RowKit Go.Lib

end Go.Proofs.YteoodompphhkbaaGreatDoor.Wir

/- Own -/
namespace Go.Proofs.YteoodompphhkbaaGreatDoor.Wir
set_option maxRecDepth 100000
open Go.RowKit Go.Lib

/-- the row of v has grown into that of v': nothing else that was there has turned -/
def Grew (w : World) (v : Value) (w' : World) (v' : Value) : Prop := w.grownBy w' v.ownBlock ∧ (v'.ownBlock = v.ownBlock ∨ ∃ b, v'.ownBlock = some b ∧ w.heap.size ≤ b)
section
variable {w w' w'' : World} {v v' v'' : Value} {B : Nat}
theorem Grew.refl (w : World) (v : Value) : Grew w v w v := ⟨World.grownBy.refl _ _, .inl rfl⟩
theorem Grew.of (hg : w.grownBy w' v.ownBlock) (h : v'.ownBlock = v.ownBlock ∨ v'.ownBlock = some w.heap.size) : Grew w v w' v' :=
  ⟨hg, h.imp id fun e => ⟨_, e, Nat.le_refl _⟩⟩
theorem Grew.trans (h : Grew w v w' v') (k : Grew w' v' w'' v'') : Grew w v w'' v'' := by
  refine ⟨h.1.andThen k.1 fun j hj => ?_, ?_⟩
  · rcases h.2 with e | ⟨b, e, hb⟩
    · exact .inr (by rw [← e, hj])
    · rw [e] at hj; injection hj with hj; exact .inl (by omega)
  · rcases k.2 with e | ⟨b, e, hb⟩
    · rw [e]; exact h.2
    · exact .inr ⟨b, e, Nat.le_trans h.1.size hb⟩
theorem Grew.after (hb : Below w.heap.size w w') (k : Grew w' v w'' v'') : Grew w v w'' v'' :=
  ⟨(only_of_below hb v.ownBlock).andThen k.1 fun _ hj => .inr hj, k.2.imp id fun ⟨b, e, hb'⟩ => ⟨b, e, Nat.le_trans hb.size hb'⟩⟩
theorem Grew.size (h : Grew w v w' v') : w.heap.size ≤ w'.heap.size := h.1.size
/-- another block stays -/
theorem Grew.cell (h : Grew w v w' v') {p : Addr} (hp : p.block < w.heap.size) (hne : v.ownBlock ≠ some p.block) : w'.cell? p = w.cell? p :=
  World.cell?_of_block (h.1.block p.block hp fun e => hne e.symm)
theorem Grew.frozen (h : Grew w v w' v') {p : Addr} (hp : p.block < w.heap.size) (hne : v.ownBlock ≠ some p.block) : w'.frozen? p = w.frozen? p :=
  World.frozen?_of_block (h.1.block p.block hp fun e => hne e.symm)
theorem OwnB.lt {l : List UInt8} (h : OwnB w B v l) : ∀ k, v.ownBlock = some k → B ≤ k ∧ k < w.heap.size := World.ownsRow.lt h
theorem OwnB.ne {l : List UInt8} (h : OwnB w B v l) {b : Nat} (hb : b < B ∨ w.heap.size ≤ b) : v.ownBlock ≠ some b := fun e => by have := h.lt b e; omega
theorem Grew.below {l : List UInt8} (h : Grew w v w' v') (ho : OwnB w B v l) (hB : B ≤ w.heap.size) : Below B w w' :=
  (Below.refl B w).grown h.1 hB fun k e => (ho.lt k e).1
theorem OwnB.kept {l : List UInt8} (h : OwnB w B v l) (hb : Below w.heap.size w w') : OwnB w' B v l := by
  refine World.ownsRow.kept h (only_of_below hb none) ?_
  cases e : v.ownBlock with
  | none => exact .inl rfl
  | some k => exact .inr (by simp)
theorem OwnB.alloc {l : List UInt8} (h : OwnB w B v l) (o : Obj) : OwnB (w.alloc o) B v l := h.kept ((Below.refl _ _).alloc (Nat.le_refl _) _)
/-- a literal's row -/
theorem OwnB.lit {l : List UInt8} (w : World) (hB : B ≤ w.heap.size) (hn : l.length ≤ 1000000) (cs : Array Value) (hc : cs = (bs l).toArray) (n : Nat) (hl : l.length = n) :
    OwnB (w.alloc (.cells cs 5)) B (.slice (some ⟨w.heap.size, 0, none⟩) n n) l := by
  subst hc hl
  have := World.ownsRow_lit (base := B) (e := 5) (size := 1) w (bs l).toArray l.length hB (by unfold maxLen; omega) (by simp [bs])
  simpa [OwnB] using this
end

section
variable {w : World}
end
end Go.Proofs.YteoodompphhkbaaGreatDoor.Wir

/- List -/
namespace Go.Proofs.YteoodompphhkbaaGreatDoor.Wir
set_option maxRecDepth 100000
open Go.RowKit Go.Lib

end Go.Proofs.YteoodompphhkbaaGreatDoor.Wir

/- Sec -/
namespace Go.Proofs.YteoodompphhkbaaGreatDoor.Wir
set_option maxRecDepth 100000
open Go.RowKit Go.Lib

end Go.Proofs.YteoodompphhkbaaGreatDoor.Wir

/- Rt -/
namespace Go.Proofs.YteoodompphhkbaaGreatDoor.Wir
set_option maxRecDepth 100000
open Go.RowKit Go.Lib

end Go.Proofs.YteoodompphhkbaaGreatDoor.Wir

/- Nums -/
namespace Go.Proofs.YteoodompphhkbaaGreatDoor.Wir
set_option maxRecDepth 100000
open Go.RowKit Go.Lib

end Go.Proofs.YteoodompphhkbaaGreatDoor.Wir

/- Cells -/
namespace Go.Proofs.YteoodompphhkbaaGreatDoor.Wir
set_option maxRecDepth 100000
open Go.RowKit Go.Lib

end Go.Proofs.YteoodompphhkbaaGreatDoor.Wir

/- Chunk -/
namespace Go.Proofs.YteoodompphhkbaaGreatDoor.Wir
set_option maxRecDepth 100000
open Go.RowKit Go.Shelf
attribute [local go_sem] Oper.semAt_some

end Go.Proofs.YteoodompphhkbaaGreatDoor.Wir

/- Write -/
namespace Go.Proofs.YteoodompphhkbaaGreatDoor.Wir
set_option maxRecDepth 100000
open Go.RowKit Go.Lib

end Go.Proofs.YteoodompphhkbaaGreatDoor.Wir

/- Round -/
namespace Go.Proofs.YteoodompphhkbaaGreatDoor.Wir
set_option maxRecDepth 100000
open Go.RowKit

section
variable {P : Program} {ops : Array Oper} {Q : Exit → Act → World → Prop}
end
end Go.Proofs.YteoodompphhkbaaGreatDoor.Wir

/- Wsec -/
namespace Go.Proofs.YteoodompphhkbaaGreatDoor.Wir
set_option maxRecDepth 100000
open Go.RowKit Go.Shelf
attribute [local go_sem] Oper.semAt_some

end Go.Proofs.YteoodompphhkbaaGreatDoor.Wir

/- Pack -/
namespace Go.Proofs.YteoodompphhkbaaGreatDoor.Wir
set_option maxRecDepth 100000
open Go.RowKit Go.Lib

/-- a packet's cells -/
def pc (p : Pk) (S : Value) : Array Value := #[.int .i64 p.kind, .int .i64 p.frm, .int .i64 p.ep, .int .i64 p.cf, .int .i64 p.ma, .int .u64 p.sl, .int .i64 p.off, .int .i64 p.ab, .int .i64 p.ac, .int .u64 p.as_, S]
end Go.Proofs.YteoodompphhkbaaGreatDoor.Wir

/- Shift -/
namespace Go.Proofs.YteoodompphhkbaaGreatDoor.Wir
set_option maxRecDepth 100000
open Go.RowKit

end Go.Proofs.YteoodompphhkbaaGreatDoor.Wir

/- Once -/
namespace Go.Proofs.YteoodompphhkbaaGreatDoor.Wir
set_option maxRecDepth 100000
open Go.RowKit

/-- block g is a hasher: its Once's word d, its lock's word m, its table f -/
def Hs (w : World) (g : Nat) (d m : Int) (f : Nat → Nat) : Prop :=
  ∃ cs : Array Value, Blk w g 151 cs ∧ cs.size = 259 ∧ cs[0]? = some (.int .u32 d) ∧ cs[1]? = some (.int .i32 m) ∧ ∀ i, i < 256 → cs[3 + i]? = some (.int .u16 (f i : Nat))

section
variable {w w' : World} {g : Nat} {d m : Int} {f : Nat → Nat}
theorem Hs.lt (h : Hs w g d m f) : g < w.heap.size := by obtain ⟨cs, hb, _⟩ := h; exact hb.lt
theorem Hs.c0 (h : Hs w g d m f) : w.cell? ⟨g, 0, none⟩ = some (.int .u32 d) := by obtain ⟨cs, hb, _, h0, _⟩ := h; rw [hb.cell]; exact h0
theorem Hs.c1 (h : Hs w g d m f) : w.cell? ⟨g, 1, none⟩ = some (.int .i32 m) := by obtain ⟨cs, hb, _, _, h1, _⟩ := h; rw [hb.cell]; exact h1
theorem Hs.ct (h : Hs w g d m f) {i : Nat} (hi : i < 256) : w.cell? ⟨g, 3 + i, none⟩ = some (.int .u16 (f i : Nat)) := by obtain ⟨cs, hb, _, _, _, ht⟩ := h; rw [hb.cell]; exact ht i hi
theorem Hs.fz (h : Hs w g d m f) (i : Nat) : w.frozen? ⟨g, i, none⟩ = false := by obtain ⟨cs, hb, _⟩ := h; exact hb.frozen i
theorem Hs.drew (h : Hs w g d m f) : Hs w.drew g d m f := h
theorem Hs.alloc (h : Hs w g d m f) (o : Obj) : Hs (w.alloc o) g d m f := by obtain ⟨cs, hb, r⟩ := h; exact ⟨cs, hb.alloc o, r⟩
theorem Hs.grown {row : Option Nat} (h : Hs w g d m f) (hb : w.grownBy w' row) (hg : some g ≠ row) : Hs w' g d m f := by obtain ⟨cs, hk, r⟩ := h; exact ⟨cs, hk.grown hb hg, r⟩
theorem Hs.below {B : Nat} (h : Hs w g d m f) (hb : Below B w w') (hg : g < B) : Hs w' g d m f := by obtain ⟨cs, hk, r⟩ := h; exact ⟨cs, hk.below hb hg, r⟩
theorem Hs.set0 (h : Hs w g d m f) (x : Int) : Hs (w.setCell ⟨g, 0, none⟩ (.int .u32 x)) g x m f := by
  obtain ⟨cs, hb, hs, h0, h1, ht⟩ := h
  refine ⟨_, hb.set_ 0 _, by simp [hs], by simp [hs], ?_, fun i hi => ?_⟩
  · rw [Array.getElem?_setIfInBounds_ne (by omega)]; exact h1
  · rw [Array.getElem?_setIfInBounds_ne (by omega)]; exact ht i hi
theorem Hs.set1 (h : Hs w g d m f) (x : Int) : Hs (w.setCell ⟨g, 1, none⟩ (.int .i32 x)) g d x f := by
  obtain ⟨cs, hb, hs, h0, h1, ht⟩ := h
  refine ⟨_, hb.set_ 1 _, by simp [hs], ?_, by simp [hs], fun i hi => ?_⟩
  · rw [Array.getElem?_setIfInBounds_ne (by omega)]; exact h0
  · rw [Array.getElem?_setIfInBounds_ne (by omega)]; exact ht i hi
theorem Hs.sett (h : Hs w g d m f) {k : Nat} (hk : k < 256) (x : Nat) : Hs (w.setCell ⟨g, 3 + k, none⟩ (.int .u16 (x : Nat))) g d m (fun i => if i = k then x else f i) := by
  obtain ⟨cs, hb, hs, h0, h1, ht⟩ := h
  refine ⟨_, hb.set_ (3 + k) _, by simp [hs], ?_, ?_, fun i hi => ?_⟩
  · rw [Array.getElem?_setIfInBounds_ne (by omega)]; exact h0
  · rw [Array.getElem?_setIfInBounds_ne (by omega)]; exact h1
  · show _ = some (Value.int .u16 ((if i = k then x else f i : Nat) : Int))
    by_cases e : i = k
    · subst e
      rw [if_pos rfl, Array.getElem?_setIfInBounds_self_of_lt (by omega)]
    · rw [Array.getElem?_setIfInBounds_ne (by omega), if_neg e]; exact ht i hi
theorem Hs.table (h : Hs w g d m f) {f' : Nat → Nat} (e : ∀ i, i < 256 → f i = f' i) : Hs w g d m f' := by
  obtain ⟨cs, hb, hs, h0, h1, ht⟩ := h
  exact ⟨cs, hb, hs, h0, h1, fun i hi => by rw [← e i hi]; exact ht i hi⟩
end

end Go.Proofs.YteoodompphhkbaaGreatDoor.Wir

/- Do -/
namespace Go.Proofs.YteoodompphhkbaaGreatDoor.Wir
set_option maxRecDepth 100000
open Go.RowKit

end Go.Proofs.YteoodompphhkbaaGreatDoor.Wir

/- Ref -/
namespace Go.Proofs.YteoodompphhkbaaGreatDoor.Wir
set_option maxRecDepth 100000
open Go.RowKit

end Go.Proofs.YteoodompphhkbaaGreatDoor.Wir

/- More -/
namespace Go.Proofs.YteoodompphhkbaaGreatDoor.Wir
set_option maxRecDepth 100000
open Go.RowKit

/-- block g is a hasher, not used yet or used -/
def Hx (w : World) (g : Nat) : Prop := (∃ f, Hs w g 0 0 f) ∨ Hs w g 1 0 tb
theorem Hx.lt {w : World} {g : Nat} (h : Hx w g) : g < w.heap.size := by
  rcases h with ⟨f, h⟩ | h
  · exact h.lt
  · exact h.lt
theorem Hx.grown {w w' : World} {g : Nat} {row : Option Nat} (h : Hx w g) (hb : w.grownBy w' row) (hg : some g ≠ row) : Hx w' g := by
  rcases h with ⟨f, h⟩ | h
  · exact .inl ⟨f, h.grown hb hg⟩
  · exact .inr (h.grown hb hg)
theorem Hx.below {w w' : World} {g B : Nat} (h : Hx w g) (hb : Below B w w') (hg : g < B) : Hx w' g := by
  rcases h with ⟨f, h⟩ | h
  · exact .inl ⟨f, h.below hb hg⟩
  · exact .inr (h.below hb hg)

end Go.Proofs.YteoodompphhkbaaGreatDoor.Wir

/- Eight -/
namespace Go.Proofs.YteoodompphhkbaaGreatDoor.Wir
set_option maxRecDepth 100000
open Go.RowKit Go.Lib

end Go.Proofs.YteoodompphhkbaaGreatDoor.Wir

/- Back -/
namespace Go.Proofs.YteoodompphhkbaaGreatDoor.Wir
set_option maxRecDepth 100000
open Go.RowKit Go.ChangeShapes Go.WideShapes Go.ChangeAt Go.WideElems

end Go.Proofs.YteoodompphhkbaaGreatDoor.Wir

/- BytesEq -/
namespace Go.Proofs.YteoodompphhkbaaGreatDoor.Wir
set_option maxRecDepth 100000
open Go.RowKit Go.Lib

end Go.Proofs.YteoodompphhkbaaGreatDoor.Wir

/- Check -/
namespace Go.Proofs.YteoodompphhkbaaGreatDoor.Wir
set_option maxRecDepth 100000
open Go.RowKit Go.Lib

end Go.Proofs.YteoodompphhkbaaGreatDoor.Wir

/- Decode -/
namespace Go.Proofs.YteoodompphhkbaaGreatDoor.Wir
set_option maxRecDepth 100000
open Go.RowKit Go.Lib

end Go.Proofs.YteoodompphhkbaaGreatDoor.Wir

/- Encode -/
namespace Go.Proofs.YteoodompphhkbaaGreatDoor.Wir
set_option maxRecDepth 100000
open Go.RowKit Go.Lib

theorem Grew.ne {w w' : World} {v v' : Value} (h : Grew w v w' v') {b : Nat} (hb : b < w.heap.size) (hne : v.ownBlock ≠ some b) : v'.ownBlock ≠ some b := by
  rcases h.2 with e | ⟨c, e, hc⟩
  · rw [e]; exact hne
  · rw [e]; intro h; injection h with h; omega
end Go.Proofs.YteoodompphhkbaaGreatDoor.Wir
