/-
  WHAT IS PROVED: layer 4's contracts: a tally. Conditions: each states its own.
-/
import Derived.Test.YteoodompphhkbaaGreatDoorRows
import Derived.WalkKit
import Derived.Deep.AppendLies
import Derived.Deep.Draws
import Derived.Deep.OwnRows
import Derived.Lib.Hide
import Derived.ProofKit
import Derived.OpenShut
import Derived.JoinedCond
import Derived.OpenVars
import Derived.Maps.OwnSet
import Derived.Deep.QuietTactic
import Derived.BigQuiet
import Derived.Maps.RangeWalk
import Derived.Maps.OwnOps
/- Base -/
namespace Go.Proofs.YteoodompphhkbaaGreatDoor.Bal
set_option maxRecDepth 100000
open Go.RowKit

theorem block_of_add (a : Addr) (n : Nat) : (a.add n).block = a.block := by unfold Addr.add; split <;> rfl
theorem add_of_add (a : Addr) (i j : Nat) : (a.add i).add j = a.add (i + j) := by
  unfold Addr.add
  by_cases hi : i = 0 <;> by_cases hj : j = 0 <;> simp [hi, hj, Nat.add_assoc]

/-- the slice value '.slice A n c' holds the cells xs, in a block that is there and isn't block g -/
def Reads (w : World) (g : Nat) (A : Option Addr) (n : Nat) (xs : List Value) : Prop :=
  xs.length = n ∧ (0 < n → ∃ ad, A = some ad ∧ ad.block < w.heap.size ∧ ad.block ≠ g ∧ ∀ j u, xs[j]? = some u → w.cell? (ad.add j) = some u)

section
variable {w w' a b c : World} {g g' n : Nat} {A : Option Addr} {xs : List Value}
theorem Reads.none_ : Reads w g A 0 [] := ⟨rfl, fun h => absurd h (by omega)⟩
theorem Reads.at_ {k : Nat} (h : Reads w g A n xs) (hk : k < n) : ∃ ad u, A = some ad ∧ xs[k]? = some u ∧ w.cell? (ad.add k) = some u := by
  obtain ⟨ad, e, _, _, hc⟩ := h.2 (by omega)
  have hl : k < xs.length := by have := h.1; omega
  exact ⟨ad, xs[k], e, List.getElem?_eq_getElem hl, hc k _ (List.getElem?_eq_getElem hl)⟩
theorem Reads.only (h : Reads w g A n xs) (hb : w.grownBy w' (some g)) : Reads w' g A n xs :=
  ⟨h.1, fun hn => by
    obtain ⟨ad, e, hlt, hne, hc⟩ := h.2 hn
    refine ⟨ad, e, Nat.lt_of_lt_of_le hlt hb.size, hne, fun j u hu => ?_⟩
    exact (World.cell?_of_block (hb.block (ad.add j).block (by rw [block_of_add]; exact hlt) (fun e => hne (by rw [block_of_add] at e; injection e)))).trans (hc j u hu)⟩
theorem Reads.below (h : Reads w g A n xs) (hb : Below w.heap.size w w') : Reads w' g A n xs :=
  ⟨h.1, fun hn => by
    obtain ⟨ad, e, hlt, hne, hc⟩ := h.2 hn
    exact ⟨ad, e, Nat.lt_of_lt_of_le hlt hb.size, hne, fun j u hu => (hb.cell (by rw [block_of_add]; exact hlt)).trans (hc j u hu)⟩⟩
theorem Reads.take (h : Reads w g A n xs) {k : Nat} (hk : k ≤ n) : Reads w g A k (xs.take k) := by
  refine ⟨by rw [List.length_take, h.1]; omega, fun hn => ?_⟩
  obtain ⟨ad, e, hlt, hb, hcell⟩ := h.2 (by omega)
  exact ⟨ad, e, hlt, hb, fun j u hu => hcell j u (by rw [List.getElem?_take] at hu; split at hu <;> simp_all)⟩
end

/-- block g is just the cells cs of element type t, none frozen -/
def Blk (w : World) (g : Nat) (t : TypeId) (cs : Array Value) : Prop := w.heap[g]? = some (.cells cs t (0, 0))

section
variable {w w' : World} {g : Nat} {t : TypeId} {cs : Array Value}
theorem Blk.lt (h : Blk w g t cs) : g < w.heap.size := by
  rcases Nat.lt_or_ge g w.heap.size with hlt | hge
  · exact hlt
  · unfold Blk at h; rw [Array.getElem?_eq_none hge] at h; cases h
theorem Blk.cell (h : Blk w g t cs) (i : Nat) : w.cell? ⟨g, i, none⟩ = cs[i]? := cell_of_row w g i cs t (0, 0) h
theorem Blk.frozen (h : Blk w g t cs) (i : Nat) : w.frozen? ⟨g, i, none⟩ = false := by
  unfold Blk at h
  simp [World.frozen?, h]
theorem Blk.new (w : World) (t : TypeId) (cs : Array Value) : Blk (w.alloc (.cells cs t)) w.heap.size t cs := heap_alloc_new w _
theorem Blk.alloc (h : Blk w g t cs) (o : Obj) : Blk (w.alloc o) g t cs := (Below.heap_alloc w o g h.lt).trans h
theorem Blk.set_ (h : Blk w g t cs) (i : Nat) (u : Value) : Blk (w.setCell ⟨g, i, none⟩ u) g t (cs.setIfInBounds i u) := by
  unfold Blk at h ⊢
  simp [World.setCell, Array.getElem?_modify, h]
theorem Blk.below {B : Nat} (h : Blk w g t cs) (hb : Below B w w') (hg : g < B) : Blk w' g t cs := (hb.block g hg).trans h
theorem Blk.grown {row : Option Nat} (h : Blk w g t cs) (hb : w.grownBy w' row) (hg : some g ≠ row) : Blk w' g t cs := (hb.block g h.lt hg).trans h
end

theorem only_of_below {a w : World} (h : Below a.heap.size a w) (row : Option Nat) : a.grownBy w row := ⟨h.os, h.tape, h.output, h.size, fun i hi _ => h.block i hi⟩
end Go.Proofs.YteoodompphhkbaaGreatDoor.Bal

/- Law -/
namespace Go.Proofs.YteoodompphhkbaaGreatDoor.Bal
set_option maxRecDepth 100000
open Go.RowKit Go.ChangeShapes Go.WideShapes Go.ChangeAt Go.WideElems

section
variable {H : Type} {enc : TypeId × Value → H} {P : Program}
end
end Go.Proofs.YteoodompphhkbaaGreatDoor.Bal

/- Ints -/
namespace Go.Proofs.YteoodompphhkbaaGreatDoor.Bal
set_option maxRecDepth 100000
open Go.RowKit Go.ChangeShapes Go.WideShapes Go.ChangeAt Go.WideElems

def zints (l : List Int) : List Value := l.map fun z => Value.int .i64 z
theorem wf_i64 {z : Int} (h : (Lit.int .i64 z).wf = true) : -9223372036854775808 ≤ z ∧ z ≤ 9223372036854775807 := by
  have e1 : IntKind.i64.min = -9223372036854775808 := by decide
  simp [Lit.wf] at h
  rw [e1] at h
  exact h

section
variable {H : Type} {enc : TypeId × Value → H} {P : Program}
end
end Go.Proofs.YteoodompphhkbaaGreatDoor.Bal

/- Plain -/
namespace Go.Proofs.YteoodompphhkbaaGreatDoor.Bal
set_option maxRecDepth 100000

/-! ### lists without doubles -/
theorem nodup_snoc {l : List Int} {x : Int} (hl : l.Nodup) (hx : x ∉ l) : (l ++ [x]).Nodup := by
  rw [List.nodup_append]
  refine ⟨hl, by simp, fun a ha b hb => ?_⟩
  simp at hb
  subst hb
  exact fun e => hx (e ▸ ha)

/-! ### a set of voters -/
def isIdB (x : Int) : Bool := decide (1 ≤ x ∧ x ≤ 4294967296)
def Good (l : List Int) : Prop := l.Nodup ∧ ∀ x ∈ l, 1 ≤ x ∧ x ≤ 4294967296
instance (l : List Int) : Decidable (Good l) := inferInstanceAs (Decidable (_ ∧ _))
def goodB (l : List Int) : Bool := decide (Good l)
def rightB (l : List Int) : Bool := decide (l.length ≤ 16) && goodB l
/-! ### those who say yes -/
def yesIn (vs ys : List Int) : List Int := vs.filter fun v => decide (v ∈ ys)
def majB (vs ys : List Int) : Bool := rightB vs && decide (vs.length < 2 * (yesIn vs ys).length)
/-! ### who has granted -/
def addG (vs gs : List Int) (x : Int) : List Int := if x ∈ vs ∧ x ∉ gs then gs ++ [x] else gs
def okG (vs gs : List Int) (x : Int) : Bool := decide (x ∈ vs ∧ x ∉ gs)
/-- a tally's granted: voters, each once -/
def Sub (vs gs : List Int) : Prop := gs.Nodup ∧ ∀ x ∈ gs, x ∈ vs
theorem Sub.nil (vs : List Int) : Sub vs [] := ⟨by simp, fun x hx => by cases hx⟩
theorem Sub.add {vs gs : List Int} (h : Sub vs gs) (x : Int) : Sub vs (addG vs gs x) := by
  unfold addG
  split
  · rename_i hc
    refine ⟨nodup_snoc h.1 hc.2, fun y hy => ?_⟩
    rcases List.mem_append.1 hy with hy | hy
    · exact h.2 y hy
    · simp at hy; subst hy; exact hc.1
  · exact h
/-! ### the order of voters plays no part -/
def sorted (l : List Int) : List Int := l.mergeSort fun x y => decide (x ≤ y)
end Go.Proofs.YteoodompphhkbaaGreatDoor.Bal

/- List -/
namespace Go.Proofs.YteoodompphhkbaaGreatDoor.Bal
set_option maxRecDepth 100000
open Go.RowKit Go.Lib

def hasB (l : List Int) (x : Int) : Bool := decide (x ∈ l)
end Go.Proofs.YteoodompphhkbaaGreatDoor.Bal

/- Tally -/
namespace Go.Proofs.YteoodompphhkbaaGreatDoor.Bal
set_option maxRecDepth 100000
open Go.RowKit Go.Lib Go.Maps

theorem keyed : Keyed Tryz.prog 3 := int_keyed Tryz.underlying3
theorem wf_of {x : Int} (h : -9223372036854775808 ≤ x ∧ x ≤ 9223372036854775807) : (Lit.int .i64 x).wf = true := WalkArith.wf_i64 h
/-- a set of ints in a block, as the list of its keys -/
def SetAt (w : World) (b : Nat) (gs : List Int) : Prop :=
  ∃ D : DataW Unit, w.ownsMap Tryz.prog 3 unitElem b gs.length D ∧ (∀ x, Maps.has D (.int .i64 x) = hasB gs x) ∧ Maps.size D = gs.length

theorem SetAt.lt {w : World} {b : Nat} {gs : List Int} (h : SetAt w b gs) : b < w.heap.size := by obtain ⟨D, h, _⟩ := h; exact h.lt
theorem SetAt.kept {w w' : World} {b : Nat} {gs : List Int} {row : Option Nat} (h : SetAt w b gs) (hg : w.grownBy w' row) (hne : some b ≠ row) : SetAt w' b gs := by
  obtain ⟨D, h, r⟩ := h; exact ⟨D, h.kept hg hne, r⟩
/-- a set lies in no block that holds cells -/
theorem Reads.apart {w : World} {g b n : Nat} {A : Option Addr} {xs : List Value} {gs : List Int} (h : Reads w g A n xs) (hs : SetAt w b gs) : Reads w b A n xs :=
  ⟨h.1, fun hn => by
    obtain ⟨ad, e, hlt, hne, hc⟩ := h.2 hn
    refine ⟨ad, e, hlt, ?_, hc⟩
    intro hb
    have hl : 0 < xs.length := by rw [h.1]; exact hn
    have h0 := hc 0 xs[0] (List.getElem?_eq_getElem hl)
    obtain ⟨D, ⟨es, clock, hh, _⟩, _⟩ := hs
    unfold World.cell? at h0
    rw [block_of_add, hb, hh] at h0
    simp at h0⟩

/-- block g is a tally of the voters vs (as it holds them), of whom gs granted, in the set of block b -/
structure Ty (w : World) (g b : Nat) (vs gs : List Int) : Prop where
  row : ∃ A n c, Blk w g 289 #[.slice A n c, .map (some b)] ∧ Reads w b A n (zints vs) ∧ n ≤ c ∧ c ≤ 9223372036854775807
  set : SetAt w b gs
  ne : g ≠ b
  sub : Sub vs gs
  len : vs.length ≤ 16

theorem Ty.lt {w : World} {g b : Nat} {vs gs : List Int} (h : Ty w g b vs gs) : g < w.heap.size := by
  obtain ⟨A, n, c, h1, _⟩ := h.row; exact h1.lt
theorem Ty.below {w w' : World} {g b : Nat} {vs gs : List Int} (h : Ty w g b vs gs) (hb : Below w.heap.size w w') : Ty w' g b vs gs := by
  obtain ⟨A, n, c, h1, h2, h3, h4⟩ := h.row
  exact ⟨⟨A, n, c, h1.below hb h1.lt, h2.below hb, h3, h4⟩, h.set.kept (only_of_below hb none) (by simp), h.ne, h.sub, h.len⟩
end Go.Proofs.YteoodompphhkbaaGreatDoor.Bal

/- Map -/
namespace Go.Proofs.YteoodompphhkbaaGreatDoor.Bal.Mp
set_option maxRecDepth 100000
open Go.RowKit Go.Lib Go.Maps

/-- an id and a time -/
structure Bn where
  id : Int
  till : Int
deriving DecidableEq
def inInt (z : Int) : Prop := -9223372036854775808 ≤ z ∧ z ≤ 9223372036854775807
def hasB (B : List Bn) (x : Int) : Bool := B.any fun b => decide (b.id = x)
def unB (B : List Bn) (x : Int) : List Bn := B.filter fun b => !decide (b.id = x)
def putB (B : List Bn) (q : Bn) : List Bn := unB B q.id ++ [q]
def tillB : List Bn → Int → Int
  | [], _ => 0
  | b :: l, x => if b.id = x then b.till else tillB l x
def UpB (B : List Bn) : Prop := B.Pairwise fun p q => p.id ≠ q.id
theorem hasB_iff {B : List Bn} {x : Int} : hasB B x = true ↔ ∃ p ∈ B, p.id = x := by unfold hasB; simp
theorem hasB_no {B : List Bn} {x : Int} : hasB B x = false ↔ ∀ p ∈ B, ¬ p.id = x := by unfold hasB; simp
theorem mem_un {B : List Bn} {x : Int} {r : Bn} : r ∈ unB B x ↔ r ∈ B ∧ r.id ≠ x := by unfold unB; simp
theorem UpB.un {B : List Bn} (h : UpB B) (x : Int) : UpB (unB B x) := List.Pairwise.filter _ h
theorem mem_putB {B : List Bn} {q r : Bn} : r ∈ putB B q ↔ (r ∈ B ∧ r.id ≠ q.id) ∨ r = q := by unfold putB; rw [List.mem_append, mem_un]; simp
theorem UpB.put {B : List Bn} (h : UpB B) (q : Bn) : UpB (putB B q) := by
  unfold putB UpB
  rw [List.pairwise_append]
  refine ⟨h.un _, by simp, fun a ha b hb => ?_⟩
  simp at hb
  subst hb
  exact (mem_un.1 ha).2
theorem has_putB {B : List Bn} {q : Bn} {y : Int} : hasB (putB B q) y = (hasB B y || decide (q.id = y)) := by
  rw [Bool.eq_iff_iff, hasB_iff, Bool.or_eq_true, hasB_iff, decide_eq_true_eq]
  constructor
  · rintro ⟨p, hp, e⟩
    rcases mem_putB.1 hp with ⟨h, _⟩ | rfl
    · exact .inl ⟨p, h, e⟩
    · exact .inr e
  · rintro (⟨p, hp, e⟩ | e)
    · by_cases hq : p.id = q.id
      · exact ⟨q, mem_putB.2 (.inr rfl), by omega⟩
      · exact ⟨p, mem_putB.2 (.inl ⟨hp, hq⟩), e⟩
    · exact ⟨q, mem_putB.2 (.inr rfl), e⟩
theorem un_none {B : List Bn} {x : Int} (h : hasB B x = false) : unB B x = B := by
  unfold unB
  rw [List.filter_eq_self]
  intro p hp
  simp [hasB_no.1 h p hp]
theorem len_un : ∀ {B : List Bn}, UpB B → ∀ {x : Int}, (unB B x).length + (if hasB B x then 1 else 0) = B.length
  | [], _, x => rfl
  | b :: l, hu, x => by
    obtain ⟨hx, hl⟩ := List.pairwise_cons.1 hu
    have ih := len_un hl (x := x)
    by_cases e : b.id = x
    · have e2 : hasB l x = false := hasB_no.2 fun p hp f => hx p hp (by omega)
      have e1 : hasB (b :: l) x = true := hasB_iff.2 ⟨b, by simp, e⟩
      have e3 : unB (b :: l) x = unB l x := by unfold unB; simp [e]
      rw [e1, e3, un_none e2]
      simp
    · have e2 : hasB (b :: l) x = hasB l x := by unfold hasB; simp [e]
      have e3 : unB (b :: l) x = b :: unB l x := by unfold unB; simp [e]
      rw [e2, e3, List.length_cons, List.length_cons]
      omega
theorem len_putB {B : List Bn} (hu : UpB B) {q : Bn} : (putB B q).length = if hasB B q.id then B.length else B.length + 1 := by
  have := len_un hu (x := q.id)
  unfold putB
  rw [List.length_append]
  cases h : hasB B q.id <;> rw [h] at this <;> simp at this ⊢ <;> omega
theorem till_mem : ∀ {B : List Bn} {x : Int}, hasB B x = true → ∃ p ∈ B, p.id = x ∧ tillB B x = p.till
  | [], _, h => by simp [hasB] at h
  | b :: l, x, h => by
    unfold tillB
    split
    · rename_i e; exact ⟨b, by simp, e, rfl⟩
    · rename_i e
      have : hasB l x = true := by
        obtain ⟨p, hp, e2⟩ := hasB_iff.1 h
        rcases List.mem_cons.1 hp with f | hp'
        · subst f; exact absurd e2 e
        · exact hasB_iff.2 ⟨p, hp', e2⟩
      obtain ⟨p, h1, h2, h3⟩ := till_mem this
      exact ⟨p, List.mem_cons_of_mem _ h1, h2, h3⟩
theorem till_no : ∀ {B : List Bn} {x : Int}, hasB B x = false → tillB B x = 0
  | [], _, _ => rfl
  | b :: l, x, h => by
    have h' := hasB_no.1 h
    unfold tillB
    rw [if_neg (h' b (by simp)), till_no (hasB_no.2 fun p hp => h' p (by simp [hp]))]
abbrev Dm := DataW Unit
theorem keyed : Keyed Tryz.prog 3 := int_keyed Tryz.underlying3
theorem wf_of {x : Int} (h : inInt x) : (Lit.int .i64 x).wf = true := WalkArith.wf_i64 h
/-- what an id reads as, as a key -/
def kl (x : Int) : Lit := .int .i64 x
theorem keyOf_int {x : Int} (h : inInt x) : keyOf Tryz.prog 3 (.int .i64 x) = some (kl x) := keyOf_int_mk Tryz.underlying3 (wf_of h)
theorem kl_inj {x y : Int} (h : kl x = kl y) : x = y := by unfold kl at h; injection h
theorem kl_key (x : Int) : WideAt.IsKeyLit (kl x) := by simp [kl, WideAt.IsKeyLit]
/-- how a time reads -/
def tiElem (v : Value) : Option (Dm × List MemPlace) :=
  match v with
  | .int .i64 l => some (.lit (.int .i64 l), [])
  | _ => none
theorem tiElem_mk (t : Int) : tiElem (.int .i64 t) = some (.lit (.int .i64 t), []) := rfl
theorem tiElem_of {v : Value} {t : Int} {ps : List MemPlace} (h : tiElem v = some (.lit (.int .i64 t), ps)) : v = .int .i64 t := by
  unfold tiElem at h
  split at h
  · simp at h; rw [h.1]
  · cases h
theorem zero_int (w : World) : (zeroValue 3).run Tryz.prog w = .ok (.int .i64 0) w := by kernel_rfl

/-! ### a datum and the list of its bans -/
structure Agr (D : Dm) (B : List Bn) : Prop where
  at_ : ∀ p ∈ B, ∀ z, D.atKey (kl p.id) z = .lit (.int .i64 p.till)
  has_ : ∀ x, inInt x → Maps.has D (kl x) = hasB B x
  size : Maps.size D = B.length
theorem agr_nil : Agr (.map []) [] := ⟨fun r hr => (by cases hr), fun a _ => rfl, rfl⟩
theorem Agr.look {D : Dm} {B : List Bn} (h : Agr D B) {x : Int} (hx : inInt x) : D.atKey (kl x) (.lit (.int .i64 0)) = .lit (.int .i64 (tillB B x)) := by
  cases hh : hasB B x
  · rw [atKey_of_not_has (by rw [h.has_ x hx, hh]), till_no hh]
  · obtain ⟨p, h1, h2, h3⟩ := till_mem hh
    have := h.at_ _ h1 (.lit (.int .i64 0))
    rw [h2] at this
    rw [this, h3]
theorem Agr.put {D : Dm} {B : List Bn} (h : Agr D B) (hT : Tidy D) (hu : UpB B) {q : Bn} (hq : inInt q.id) : Agr (D.put (kl q.id) (.lit (.int .i64 q.till))) (putB B q) := by
  refine ⟨fun r hr z => ?_, fun x hx => ?_, ?_⟩
  · rcases mem_putB.1 hr with ⟨h1, h2⟩ | rfl
    · rw [atKey_put_other (fun e => h2 (kl_inj e))]
      exact h.at_ r h1 z
    · exact atKey_put_same hT.isMap (kl_key _) _ _
  · rw [has_putB]
    by_cases e : q.id = x
    · subst e
      rw [has_put_same hT.isMap (kl_key _)]
      simp
    · rw [has_put_other (fun e' => e (kl_inj e').symm), h.has_ x hx]
      simp [e]
  · rw [size_put hT, h.has_ _ hq, h.size, len_putB hu]
/-- a map of bans in a block -/
def MapAt (w : World) (b : Nat) (B : List Bn) : Prop := ∃ D : Dm, w.ownsMap Tryz.prog 3 tiElem b B.length D ∧ Agr D B
theorem own_tight {w : World} {b n : Nat} {D : Dm} {R : Value → Option (Dm × List MemPlace)} (h : w.ownsMap Tryz.prog 3 R b n D) : w.ownsMap Tryz.prog 3 R b (Maps.size D) D := by
  obtain ⟨es, clock, hb, F, hs, rfl⟩ := h
  exact ⟨es, clock, hb, F, by simp [Maps.size, length_sorted], rfl⟩
theorem map_new (w : World) : MapAt (w.alloc (.map #[] 0)) w.heap.size [] := ⟨.map [], World.ownsMap_made _ _ _ _, agr_nil⟩
section
variable {w w' : World} {b : Nat} {B : List Bn}
theorem MapAt.lt (h : MapAt w b B) : b < w.heap.size := by obtain ⟨D, h, _⟩ := h; exact h.lt
theorem MapAt.kept {row : Option Nat} (h : MapAt w b B) (hg : w.grownBy w' row) (hne : some b ≠ row) : MapAt w' b B := by
  obtain ⟨D, h, r⟩ := h; exact ⟨D, h.kept hg hne, r⟩
theorem MapAt.look_ok (h : MapAt w b B) {x : Int} (hx : inInt x) :
    (Instr.lookup 162 (.map (some b)) (.int .i64 x) true).run Tryz.prog w = .ok (.tuple #[.int .i64 (tillB B x), .bool (hasB B x)]) w := by
  obtain ⟨D, h, r⟩ := h
  obtain ⟨v, ps, hrun, hv⟩ := h.look_ok keyed Tryz.underlying162 (zero_int _) (tiElem_mk 0) (keyOf_int hx)
  rw [r.look hx] at hv
  rw [hrun, tiElem_of hv, r.has_ x hx]
theorem MapAt.store (h : MapAt w b B) (hu : UpB B) (hlen : B.length < 1000000) {q : Bn} (hq : inInt q.id) :
    ∃ w', (Instr.mapUpdate 162 (.map (some b)) (.int .i64 q.id) (.int .i64 q.till)).run Tryz.prog w = .ok () w' ∧ MapAt w' b (putB B q) ∧ w.grownBy w' (some b) := by
  obtain ⟨D, h, r⟩ := h
  obtain ⟨w', hrun, hown, hg⟩ := h.update keyed Tryz.underlying162 (by unfold maxLen; omega) (keyOf_int hq) (tiElem_mk q.till)
  have hagr := r.put (h.tidy keyed) hu hq
  refine ⟨w', hrun, ⟨_, ?_, hagr⟩, hg⟩
  rw [← hagr.size]
  exact own_tight hown

end
/-- a map lies in no block that holds cells -/
theorem blk_map_ne {w : World} {g b : Nat} {t : TypeId} {cs : Array Value} {B : List Bn} (h : Blk w g t cs) (hs : MapAt w b B) : g ≠ b := by
  intro e
  obtain ⟨D, ⟨es, clock, hh, _⟩, _⟩ := hs
  unfold Blk at h
  rw [e, hh] at h
  cases h
section
variable (w : World) {ops : Array Oper} {rest : List Oper} {o : Oper} {a : Act} {Q : Exit → Act → World → Prop}
end
end Go.Proofs.YteoodompphhkbaaGreatDoor.Bal.Mp

/- PlainB -/
namespace Go.Proofs.YteoodompphhkbaaGreatDoor.Bal
set_option maxRecDepth 100000
open Go.RowKit

/-- a stand (on: it stands, or its time is over), and what was given when -/
structure Bst where
  on : Bool
  ep : Int
  si : Int
  vs : List Int
  ys : List Int
  G : List Mp.Bn
def Bst.zero : Bst := ⟨false, 0, 0, [], [], []⟩
def isTimeB (x : Int) : Bool := decide (0 ≤ x ∧ x ≤ 1099511627776)
def lastB (T si now : Int) : Bool := decide (now ≤ si + 2 * T)
def stB (T : Int) (s : Bst) (now : Int) : Bool := s.on && lastB T s.si now
/-- a vote counts -/
def ackO (T : Int) (s : Bst) (x ep now : Int) : Bool := stB T s now && (decide (s.ep = ep) && okG s.vs s.ys x)
def winB (vs ys : List Int) : Bool := decide (vs.length < 2 * ys.length)
def ackB (T : Int) (s : Bst) (x ep now : Int) : Bool := ackO T s x ep now && winB s.vs (s.ys ++ [x])
def ackS (T : Int) (s : Bst) (x ep now : Int) : Bst := if ackO T s x ep now = true then { s with on := !winB s.vs (s.ys ++ [x]), ys := s.ys ++ [x] } else s
def stopS (s : Bst) : Bst := { s with on := false }
def mayB (T : Int) (s : Bst) (m now : Int) : Bool := !Mp.hasB s.G m || !lastB T (Mp.tillB s.G m) now
def gaveOk (m now : Int) : Bool := isIdB m && isTimeB now
def putG : List Mp.Bn → Mp.Bn → List Mp.Bn
  | [], q => [q]
  | b :: l, q => if b.id = q.id then q :: l else b :: putG l q
def gaveS (s : Bst) (m now : Int) : Bst := if gaveOk m now = true then { s with G := putG s.G ⟨m, now⟩ } else s

/-! ### what was given -/
/-! ### what holds of a ballot -/
structure Fine (T : Int) (s : Bst) : Prop where
  t1 : 2 ≤ T
  t2 : T ≤ 1073741824
  right : rightB s.vs = true
  si : 0 ≤ s.si ∧ s.si ≤ 1099511627776
  ep : 0 ≤ s.ep ∧ s.ep ≤ 281474976710656
  sub : Sub s.vs s.ys
  up : Mp.UpB s.G
  tl : ∀ p ∈ s.G, 0 ≤ p.till ∧ p.till ≤ 1099511627776
theorem Fine.zero {T : Int} (h1 : 2 ≤ T) (h2 : T ≤ 1073741824) : Fine T Bst.zero := ⟨h1, h2, by decide, by decide, by decide, Sub.nil _, List.Pairwise.nil, fun p hp => by cases hp⟩
theorem Fine.stop {T : Int} {s : Bst} (h : Fine T s) : Fine T (stopS s) := ⟨h.t1, h.t2, h.right, h.si, h.ep, h.sub, h.up, h.tl⟩
end Go.Proofs.YteoodompphhkbaaGreatDoor.Bal

