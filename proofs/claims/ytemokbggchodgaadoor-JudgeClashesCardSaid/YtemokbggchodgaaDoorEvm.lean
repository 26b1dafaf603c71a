/-
  WHAT IS PROVED: words for events in memory (a row of them, each with numbers elsewhere). No condition.
-/
import Derived.Test.YtemokbggchodgaaDoorMem
import Derived.Test.YtemokbggchodgaaDoorEv
import Derived.Maps.OwnSet
import Derived.Deep.QuietTactic
namespace Go.Proofs.YtemokbggchodgaaDoor
open Go.RowKit Go.Lib

def encE (e : Ev) : List Value := [.int .i64 e.kind, .int .i64 e.by_, .int .i64 e.about, .int .i64 e.epoch, .slice e.A e.n e.c]
def flatE (l : List Ev) : List Value := l.flatMap encE
abbrev vE (e : Ev) : Value := .agg #[.int .i64 e.kind, .int .i64 e.by_, .int .i64 e.about, .int .i64 e.epoch, .slice e.A e.n e.c]
abbrev rowE (e : Ev) : Array Value := #[.int .i64 e.kind, .int .i64 e.by_, .int .i64 e.about, .int .i64 e.epoch, .slice e.A e.n e.c]
theorem flatE_len : ∀ l : List Ev, (flatE l).length = l.length * 5
  | [] => rfl
  | r :: l => by have := flatE_len l; simp [flatE, encE] at this ⊢; omega
theorem flatE_append (l m : List Ev) : flatE (l ++ m) = flatE l ++ flatE m := by unfold flatE; rw [List.flatMap_append]
theorem flatE_one (l : List Ev) : ∀ u ∈ flatE l, u.oneCell' = true := by
  intro u hu
  obtain ⟨r, _, hr⟩ := List.mem_flatMap.1 hu
  simp [encE] at hr
  rcases hr with rfl | rfl | rfl | rfl | rfl <;> rfl
theorem flatE_take : ∀ (l : List Ev) (k : Nat), flatE (l.take k) = (flatE l).take (k * 5)
  | [], k => by simp [flatE]
  | r :: l, 0 => by simp [flatE]
  | r :: l, k + 1 => by
    rw [List.take_succ_cons, show (k + 1) * 5 = k * 5 + 5 by omega]
    show encE r ++ flatE (l.take k) = (encE r ++ flatE l).take (k * 5 + 5)
    rw [flatE_take l k]; rfl
theorem flatE_get : ∀ {l : List Ev} {i : Nat} {e : Ev}, l[i]? = some e → (flatE l)[i * 5]? = some (.int .i64 e.kind) ∧ (flatE l)[i * 5 + 1]? = some (.int .i64 e.by_) ∧ (flatE l)[i * 5 + 2]? = some (.int .i64 e.about) ∧ (flatE l)[i * 5 + 3]? = some (.int .i64 e.epoch) ∧ (flatE l)[i * 5 + 4]? = some (.slice e.A e.n e.c)
  | x :: l, 0, r, h => by simp at h; subst h; exact ⟨rfl, rfl, rfl, rfl, rfl⟩
  | x :: l, i + 1, r, h => by
    have := flatE_get (l := l) (i := i) (e := r) (by simpa using h)
    rw [show (i + 1) * 5 = i * 5 + 5 by omega, show i * 5 + 5 + 1 = i * 5 + 1 + 5 by omega, show i * 5 + 5 + 2 = i * 5 + 2 + 5 by omega, show i * 5 + 5 + 3 = i * 5 + 3 + 5 by omega, show i * 5 + 5 + 4 = i * 5 + 4 + 5 by omega]
    exact this

/-- an event's numbers are there, outside of F -/
structure OkE (w : World) (F : Nat → Prop) (e : Ev) : Prop where
  rd : Rd w F 1 e.A e.n (zints e.who)
  nc : e.n ≤ e.c
  cm : e.c ≤ 9223372036854775807
  i0 : inI e.kind
  i1 : inI e.by_
  i2 : inI e.about
  i3 : inI e.epoch
  iw : ∀ v ∈ e.who, inI v
section
variable {w w' : World} {F F' G : Nat → Prop} {n k : Nat} {A : Option Addr} {e : Ev}
theorem OkE.turn (h : OkE w F e) (hb : Turn w w' F) (hs : Sub w F F') : OkE w' F' e := ⟨h.rd.turn hb hs, h.nc, h.cm, h.i0, h.i1, h.i2, h.i3, h.iw⟩
theorem OkE.below (h : OkE w F e) (hb : Below w.heap.size w w') : OkE w' F e := ⟨h.rd.below hb, h.nc, h.cm, h.i0, h.i1, h.i2, h.i3, h.iw⟩
theorem OkE.weak (h : OkE w F e) (hs : ∀ i, i < w.heap.size → F' i → F i) : OkE w F' e := ⟨h.rd.weak hs, h.nc, h.cm, h.i0, h.i1, h.i2, h.i3, h.iw⟩
theorem Rd.lenE {l : List Ev} (h : Rd w F 5 A n (flatE l)) : l.length = n := by have := h.1; rw [flatE_len] at this; omega
theorem Rd.lenZ {l : List Int} (h : Rd w F 1 A n (zints l)) : l.length = n := by have := h.1; rw [zints_len] at this; omega
theorem OkE.len (h : OkE w F e) : e.who.length = e.n := h.rd.lenZ
/-- an event of a slice, as the walk asks for it -/
theorem Rd.atE {l : List Ev} (h : Rd w F 5 A n (flatE l)) (hk : k < n) : ∃ ad e, A = some ad ∧ l[k]? = some e ∧ ad.block < w.heap.size ∧ ¬ F ad.block ∧
    w.cell? (ad.add (k * 5)) = some (.int .i64 e.kind) ∧ w.cell? ⟨(ad.add (k * 5)).block, (ad.add (k * 5)).off + 1, none⟩ = some (.int .i64 e.by_) ∧ w.cell? ⟨(ad.add (k * 5)).block, (ad.add (k * 5)).off + 2, none⟩ = some (.int .i64 e.about) ∧
    w.cell? ⟨(ad.add (k * 5)).block, (ad.add (k * 5)).off + 3, none⟩ = some (.int .i64 e.epoch) ∧ w.cell? ⟨(ad.add (k * 5)).block, (ad.add (k * 5)).off + 4, none⟩ = some (.slice e.A e.n e.c) := by
  obtain ⟨ad, e, hlt, hf, hc⟩ := h.2 (by omega)
  have hl : k < l.length := by rw [h.lenE]; exact hk
  obtain ⟨f0, f1, f2, f3, f4⟩ := flatE_get (List.getElem?_eq_getElem hl)
  have c1 := hc _ _ f1
  have c2 := hc _ _ f2
  have c3 := hc _ _ f3
  have c4 := hc _ _ f4
  rw [← add_of_add, add_succ] at c1 c2 c3 c4
  exact ⟨ad, l[k], e, List.getElem?_eq_getElem hl, hlt, hf, hc _ _ f0, c1, c2, c3, c4⟩
theorem Rd.atZ {l : List Int} (h : Rd w F 1 A n (zints l)) (hk : k < n) : ∃ ad z, A = some ad ∧ l[k]? = some z ∧ ad.block < w.heap.size ∧ ¬ F ad.block ∧ w.cell? (ad.add k) = some (.int .i64 z) := by
  obtain ⟨ad, e, hlt, hf, hc⟩ := h.2 (by omega)
  have hl : k < l.length := by rw [h.lenZ]; exact hk
  refine ⟨ad, l[k], e, List.getElem?_eq_getElem hl, hlt, hf, hc _ _ ?_⟩
  unfold zints
  rw [List.getElem?_map, List.getElem?_eq_getElem hl]
  rfl
theorem Rd.takeE {l : List Ev} (h : Rd w F 5 A n (flatE l)) (hk : k ≤ n) : Rd w F 5 A k (flatE (l.take k)) := by rw [flatE_take]; exact h.take hk
theorem Turn.wide (h : Turn w w' G) (hs : ∀ i, i < w.heap.size → G i → F i) : Turn w w' F :=
  ⟨h.os, h.tape, h.output, h.size, fun i hi hn => h.block i hi (fun g => hn (hs i hi g))⟩
end
/-- a variable that holds an event -/
def Bx (w : World) (b : Nat) (e : Ev) : Prop := Blk w b 29 (rowE e)
theorem Bx.new (w : World) (e : Ev) : Bx (w.alloc (.cells (rowE e) 29)) w.heap.size e := Blk.new w _ _
theorem Bx.later {w w' : World} {b : Nat} {e : Ev} (h : Bx w b e) (hb : Below w.heap.size w w') : Bx w' b e := Blk.below h hb (Blk.lt h)
theorem Bx.cells {w : World} {b : Nat} {e : Ev} (h : Bx w b e) : w.cell? ⟨b, 0, none⟩ = some (.int .i64 e.kind) ∧ w.cell? ⟨b, 1, none⟩ = some (.int .i64 e.by_) ∧ w.cell? ⟨b, 2, none⟩ = some (.int .i64 e.about) ∧ w.cell? ⟨b, 3, none⟩ = some (.int .i64 e.epoch) ∧ w.cell? ⟨b, 4, none⟩ = some (.slice e.A e.n e.c) :=
  ⟨Blk.cell h 0, Blk.cell h 1, Blk.cell h 2, Blk.cell h 3, Blk.cell h 4⟩
end Go.Proofs.YtemokbggchodgaaDoor
