/-
  WHAT IS PROVED: layers 4's and 15's contracts: majorities, a ballot. Conditions: each states its own.
-/
import Derived.Test.YteoodompphhkbaaGreatDoorZBalP
import Derived.Test.YteoodompphhkbaaGreatDoorZShelf
import Derived.Maps.AppendAt
import Derived.OwnWalk
import Derived.Deep.Strs
import Derived.Lib.SmallJoins
import Derived.Sort.OwnSortedInts
import Derived.OpenShut
/- Mem -/
namespace Go.Proofs.YteoodompphhkbaaGreatDoor.Bal
set_option maxRecDepth 100000
open Go.RowKit

/-- what lies outside of the blocks F stays as it is -/
structure Turn (w w' : World) (F : Nat → Prop) : Prop where
  os : w'.os = w.os
  tape : w'.tape = w.tape
  output : w'.output = w.output
  size : w.heap.size ≤ w'.heap.size
  block : ∀ i, i < w.heap.size → ¬ F i → w'.heap[i]? = w.heap[i]?
/-- of the blocks that were there F' has no more than F -/
def Subs (w : World) (F F' : Nat → Prop) : Prop := ∀ i, i < w.heap.size → F' i → F i
section
variable {a b c w w' : World} {F G F' : Nat → Prop} {C : Nat}
theorem Turn.refl (w : World) (F : Nat → Prop) : Turn w w F := ⟨rfl, rfl, rfl, Nat.le_refl _, fun _ _ _ => rfl⟩
theorem Turn.trans (h : Turn a b F) (k : Turn b c G) (hG : Subs a F G) : Turn a c F :=
  ⟨k.os.trans h.os, k.tape.trans h.tape, k.output.trans h.output, Nat.le_trans h.size k.size, fun i hi hn =>
    (k.block i (Nat.lt_of_lt_of_le hi h.size) (fun g => hn (hG i hi g))).trans (h.block i hi hn)⟩
theorem Turn.of_below (h : Below w.heap.size w w') (F : Nat → Prop) : Turn w w' F := ⟨h.os, h.tape, h.output, h.size, fun i hi _ => h.block i hi⟩
theorem Turn.of_grown {row : Option Nat} (h : w.grownBy w' row) (hr : ∀ k, row = some k → F k) : Turn w w' F :=
  ⟨h.os, h.tape, h.output, h.size, fun i hi hn => h.block i hi (fun e => hn (hr i e.symm))⟩
theorem Turn.below (h : Turn w w' F) (hF : ∀ i, F i → C ≤ i) (hC : C ≤ w.heap.size) : Below C w w' :=
  ⟨h.os, h.tape, h.output, h.size, fun i hi => h.block i (by omega) (fun f => by have := hF i f; omega)⟩
theorem Turn.then_ (h : Turn a b F) (k : Below b.heap.size b c) : Turn a c F := h.trans (Turn.of_below k (fun _ => False)) (fun _ _ f => f.elim)
theorem Turn.cell (h : Turn w w' F) {p : Addr} (hp : p.block < w.heap.size) (hn : ¬ F p.block) : w'.cell? p = w.cell? p := World.cell?_of_block (h.block _ hp hn)
theorem Subs.refl (w : World) (F : Nat → Prop) : Subs w F F := fun _ _ h => h
theorem Subs.trans (h : Subs a F G) (k : Subs b G F') (hs : a.heap.size ≤ b.heap.size) : Subs a F F' := fun i hi f => h i hi (k i (Nat.lt_of_lt_of_le hi hs) f)
theorem Blk.turn {g : Nat} {t : TypeId} {cs : Array Value} (h : Blk w g t cs) (k : Turn w w' F) (hn : ¬ F g) : Blk w' g t cs := (k.block g h.lt hn).trans h
end

/-- the slice value '.slice A n c' of elements of s cells holds the cells xs, in a block that is there and outside of F -/
def Rd (w : World) (F : Nat → Prop) (s : Nat) (A : Option Addr) (n : Nat) (xs : List Value) : Prop :=
  xs.length = n * s ∧ (0 < n → ∃ ad, A = some ad ∧ ad.block < w.heap.size ∧ ¬ F ad.block ∧ ∀ j u, xs[j]? = some u → w.cell? (ad.add j) = some u)
def no : Nat → Prop := fun _ => False
section
variable {w w' : World} {F F' : Nat → Prop} {s n k cap : Nat} {A : Option Addr} {xs : List Value}
theorem Rd.turn (h : Rd w F s A n xs) (hb : Turn w w' F) (hs : Subs w F F') : Rd w' F' s A n xs :=
  ⟨h.1, fun hn => by
    obtain ⟨ad, e, hlt, hf, hc⟩ := h.2 hn
    exact ⟨ad, e, Nat.lt_of_lt_of_le hlt hb.size, fun f => hf (hs _ hlt f), fun j u hu => (hb.cell (by rw [block_of_add]; exact hlt) (by rw [block_of_add]; exact hf)).trans (hc j u hu)⟩⟩
theorem Rd.below (h : Rd w F s A n xs) (hb : Below w.heap.size w w') : Rd w' F s A n xs := h.turn (Turn.of_below hb F) (Subs.refl w F)
theorem Rd.take (h : Rd w F s A n xs) (hk : k ≤ n) : Rd w F s A k (xs.take (k * s)) := by
  have hks : k * s ≤ n * s := Nat.mul_le_mul_right _ hk
  refine ⟨by rw [List.length_take, h.1]; omega, fun hn => ?_⟩
  obtain ⟨ad, e, hlt, hf, hc⟩ := h.2 (by omega)
  exact ⟨ad, e, hlt, hf, fun j u hu => hc j u (by rw [List.getElem?_take] at hu; split at hu <;> simp_all)⟩
theorem Rd.drop (h : Rd w F s A n xs) (hk : k ≤ n) (hc : n ≤ cap) : Rd w F s (if cap = k then A else A.map (·.add (k * s))) (n - k) (xs.drop (k * s)) := by
  refine ⟨by rw [List.length_drop, h.1, Nat.sub_mul], fun hn => ?_⟩
  obtain ⟨ad, rfl, hlt, hf, hcell⟩ := h.2 (by omega)
  rw [if_neg (by omega)]
  refine ⟨ad.add (k * s), rfl, by rw [block_of_add]; exact hlt, by rw [block_of_add]; exact hf, fun j u hu => ?_⟩
  rw [add_of_add]
  exact hcell _ u (by rw [← hu, List.getElem?_drop])
end
theorem Rd.new (w : World) (F : Nat → Prop) (hF : ∀ i, F i → i < w.heap.size) (s n : Nat) (cs : Array Value) (t : TypeId) (hl : cs.size = n * s) : Rd (w.alloc (.cells cs t)) F s (some ⟨w.heap.size, 0, none⟩) n cs.toList :=
  ⟨by simpa using hl, fun _ => ⟨_, rfl, by simp, fun f => by have := hF _ f; simp at this, fun j u hu => by
    rw [Go.WideShapes.add_plain, Nat.zero_add, (Blk.new w t _).cell j]
    simpa using hu⟩⟩
end Go.Proofs.YteoodompphhkbaaGreatDoor.Bal

/- New -/
namespace Go.Proofs.YteoodompphhkbaaGreatDoor.Bal
set_option maxRecDepth 100000
open Go.RowKit Go.Lib Go.Maps

end Go.Proofs.YteoodompphhkbaaGreatDoor.Bal

/- Bal -/
namespace Go.Proofs.YteoodompphhkbaaGreatDoor.Bal
set_option maxRecDepth 100000
open Go.RowKit Go.Lib Go.Maps

/-- a tally's voters lie among the blocks F -/
def Own (w : World) (F : Nat → Prop) (g : Nat) : Prop := ∃ A n c m, Blk w g 289 #[.slice A n c, m] ∧ ∀ ad, A = some ad → 0 < n → F ad.block
section
variable {w w' : World} {C g b : Nat} {F F' G : Nat → Prop} {vs gs : List Int}
theorem Own.turn (h : Own w F g) (k : Turn w w' G) (hg : ¬ G g) : Own w' F g := by
  obtain ⟨A, n, c, m, h1, h2⟩ := h
  exact ⟨A, n, c, m, h1.turn k hg, h2⟩
theorem SetAt.turn (h : SetAt w b gs) (k : Turn w w' F) (hF : ¬ F b) : SetAt w' b gs := by
  have hlt := h.lt
  obtain ⟨D, ⟨es, clock, hh, rest⟩, r⟩ := h
  exact ⟨D, ⟨es, clock, (k.block b hlt hF).trans hh, rest⟩, r⟩
theorem map_turn {B : List Mp.Bn} (h : Mp.MapAt w b B) (k : Turn w w' F) (hF : ¬ F b) : Mp.MapAt w' b B := by
  have hlt := h.lt
  obtain ⟨D, ⟨es, clock, hh, rest⟩, r⟩ := h
  exact ⟨D, ⟨es, clock, (k.block b hlt hF).trans hh, rest⟩, r⟩
theorem Ty.turn (h : Ty w g b vs gs) (o : Own w F g) (k : Turn w w' G) (hd : ∀ i, F i → ¬ G i) (hg : ¬ G g) (hb : ¬ G b) : Ty w' g b vs gs := by
  obtain ⟨A', n', c', h3, h4, h5, h6⟩ := h.row
  obtain ⟨A, n, c, m, h1, h2⟩ := o
  have he : (#[Value.slice A n c, m] : Array Value) = #[.slice A' n' c', .map (some b)] := by
    unfold Blk at h1 h3
    rw [h1] at h3
    injection h3 with h3
    injection h3
  have he2 : A = A' ∧ n = n' := by simp at he; exact ⟨he.1.1, he.1.2.1⟩
  obtain ⟨rfl, rfl⟩ := he2
  refine ⟨⟨A, n, c', h3.turn k hg, ⟨h4.1, fun hn => ?_⟩, h5, h6⟩, h.set.turn k hb, h.ne, h.sub, h.len⟩
  obtain ⟨ad, e, hlt, hne, hc⟩ := h4.2 hn
  refine ⟨ad, e, Nat.lt_of_lt_of_le hlt k.size, hne, fun j u hu => ?_⟩
  exact (k.cell (p := ad.add j) (by rw [block_of_add]; exact hlt) (by rw [block_of_add]; exact hd _ (h2 ad e hn))).trans (hc j u hu)
end

/-- what a ballot's pointer to a stand points at -/
def Std (w : World) (F : Nat → Prop) (mb : Nat) (st : Value) (s : Bst) : Prop :=
  (s.on = false ∧ st = .pointer none) ∨ (s.on = true ∧ ∃ sb tg tb, st = .pointer (some ⟨sb, 0, none⟩) ∧ Blk w sb 284 #[.pointer (some ⟨tg, 0, none⟩), .int .i64 s.ep, .int .i64 s.si] ∧ Ty w tg tb (sorted s.vs) s.ys ∧ Own w F tg ∧ F sb ∧ F tg ∧ F tb ∧ tb ≠ mb)
/-- block g is a ballot with the timeout T, whose blocks are among F, all of them from C on -/
structure Bl (w : World) (C g : Nat) (F : Nat → Prop) (T : Int) (s : Bst) : Prop where
  ex : ∃ mb st, Blk w g 173 #[.int .i64 T, st, .map (some mb)] ∧ Mp.MapAt w mb s.G ∧ F mb ∧ Std w F mb st s
  fg : F g
  fine : Fine T s
  lt : ∀ i, F i → i < w.heap.size
  lo : ∀ i, F i → C ≤ i
section
variable {w w' : World} {C g mb : Nat} {F G : Nat → Prop} {T : Int} {s : Bst} {st : Value}
theorem Std.turn (h : Std w F mb st s) (k : Turn w w' G) (hd : ∀ i, F i → ¬ G i) : Std w' F mb st s := by
  rcases h with h | ⟨h0, sb, tg, tb, h1, h2, h3, h4, h5, h6, h7, h8⟩
  · exact .inl h
  · exact .inr ⟨h0, sb, tg, tb, h1, h2.turn k (hd _ h5), h3.turn h4 k hd (hd _ h6) (hd _ h7), h4.turn k (hd _ h6), h5, h6, h7, h8⟩
theorem Bl.turn (h : Bl w C g F T s) (k : Turn w w' G) (hd : ∀ i, F i → ¬ G i) : Bl w' C g F T s := by
  obtain ⟨mb, st, h1, h2, h3, h4⟩ := h.ex
  exact ⟨⟨mb, st, h1.turn k (hd _ h.fg), map_turn h2 k (hd _ h3), h3, h4.turn k hd⟩, h.fg, h.fine, fun i hi => Nat.lt_of_lt_of_le (h.lt i hi) k.size, h.lo⟩
theorem Bl.below (h : Bl w C g F T s) (k : Below w.heap.size w w') : Bl w' C g F T s := h.turn (Turn.of_below k no) (fun _ _ f => f.elim)
theorem Bl.alloc (h : Bl w C g F T s) (o : Obj) : Bl (w.alloc o) C g F T s := h.below ((Below.refl _ _).alloc (Nat.le_refl _) _)
theorem Bl.cle (h : Bl w C g F T s) : C ≤ w.heap.size := Nat.le_trans (h.lo _ h.fg) (Nat.le_of_lt (h.lt _ h.fg))
theorem Bl.glt (h : Bl w C g F T s) : g < w.heap.size := h.lt _ h.fg
end
/-! ### the small functions -/
/-! ### New -/
def BMade (T : Int) (w : World) (e : Ending) (w' : World) : Prop :=
  ∃ g F, e = .returned (.tuple #[.pointer (some ⟨g, 0, none⟩), .int .i64 0]) ∧ Bl w' w.heap.size g F T Bst.zero ∧ Below w.heap.size w w'
theorem bnew_yes (T : Int) (w : World) (h1 : 2 ≤ T) (h2 : T ≤ 1073741824) : Calls Tryz.prog 45 #[.int .i64 T] w (BMade T w) := by
  have hmm := @run_makeMap Tryz.prog
  have HF := Lib.hid (Fine.zero h1 h2)
  go_enter Tryz.func45, Tryz.ntmps45
  go_wp2
  go_ret2
  have hblk : Blk ((w.alloc (.map #[] 0)).alloc (.cells #[.int .i64 T, .pointer none, .map (some w.heap.size)] 173)) (w.heap.size + 1) 173 #[.int .i64 T, .pointer none, .map (some w.heap.size)] := by
    have := Blk.new (w.alloc (.map #[] 0)) 173 #[.int .i64 T, .pointer none, .map (some w.heap.size)]
    simpa using this
  refine ⟨w.heap.size + 1, fun i => i = w.heap.size ∨ i = w.heap.size + 1, rfl, ⟨⟨w.heap.size, .pointer none, hblk, (Mp.map_new w).kept (World.grownBy_alloc _ _ none) (by simp), .inl rfl, .inl ⟨rfl, rfl⟩⟩, .inr rfl, HF.out, ?_, ?_⟩,
    ((Below.refl _ _).alloc (Nat.le_refl _) _).alloc (by simp) _⟩
  · rintro i (rfl | rfl) <;> simp <;> omega
  · rintro i (rfl | rfl) <;> omega
/-! ### what is told -/
section
variable (C g : Nat) (F : Nat → Prop) (T : Int) (s : Bst) (w : World) (h : Bl w C g F T s)
include h
end
end Go.Proofs.YteoodompphhkbaaGreatDoor.Bal

/- BalW -/
namespace Go.Proofs.YteoodompphhkbaaGreatDoor.Bal
set_option maxRecDepth 100000
open Go.RowKit Go.Lib Go.Maps

/-- what a call hands back, and what the ballot is behind it -/
def DidB (C g : Nat) (F : Nat → Prop) (T : Int) (r : Value) (s : Bst) (w : World) (e : Ending) (w' : World) : Prop :=
  e = .returned r ∧ ∃ F', Bl w' C g F' T s ∧ Turn w w' F ∧ Subs w F F'
theorem DidB.same {w w' : World} {C g : Nat} {F : Nat → Prop} {T : Int} {s : Bst} {r : Value} (h : Bl w C g F T s) (hb : Below w.heap.size w w') : DidB C g F T r s w (.returned r) w' :=
  ⟨rfl, F, h.below hb, Turn.of_below hb F, Subs.refl _ _⟩
section
variable {w w' : World} {C g b mb : Nat} {F : Nat → Prop} {T : Int} {s : Bst} {st : Value} {vs gs : List Int}
theorem Own.no_map {B : List Mp.Bn} (h : Own w F g) (ht : Ty w g b vs gs) (hm : Mp.MapAt w mb B) : Own w (fun i => F i ∧ i ≠ mb) g := by
  obtain ⟨A, n, c, m, h1, h2⟩ := h
  obtain ⟨A', n', c', h3, h4, _⟩ := ht.row
  have he : (#[Value.slice A n c, m] : Array Value) = #[.slice A' n' c', .map (some b)] := by
    unfold Blk at h1 h3
    rw [h1] at h3
    injection h3 with h3
    injection h3
  have he2 : A = A' ∧ n = n' := by simp at he; exact ⟨he.1.1, he.1.2.1⟩
  obtain ⟨rfl, rfl⟩ := he2
  refine ⟨A, n, c, m, h1, fun ad e hn => ⟨h2 ad e hn, fun hb => ?_⟩⟩
  obtain ⟨ad', e', hlt, _, hc⟩ := h4.2 hn
  rw [e] at e'
  cases e'
  have hl : 0 < (zints vs).length := by rw [h4.1]; exact hn
  have h0 := hc 0 (zints vs)[0] (List.getElem?_eq_getElem hl)
  obtain ⟨D, ⟨es, clock, hh, _⟩, _⟩ := hm
  unfold World.cell? at h0
  rw [block_of_add, hb, hh] at h0
  simp at h0
/-- the map of what was given is written: a stand stays -/
theorem Std.map (h : Std w F mb st s) (hm : Mp.MapAt w mb s.G) (k : Turn w w' (fun i => i = mb)) (G' : List Mp.Bn) : Std w' F mb st { s with G := G' } := by
  rcases h with ⟨h0, h1⟩ | ⟨h0, sb, tg, tb, h1, h2, h3, h4, h5, h6, h7, h8⟩
  · exact .inl ⟨h0, h1⟩
  · have h9 := h4.no_map h3 hm
    have t1 : tg ≠ mb := by obtain ⟨A, n, c, m, h, _⟩ := h4; exact Mp.blk_map_ne h hm
    exact .inr ⟨h0, sb, tg, tb, h1, h2.turn k (Mp.blk_map_ne h2 hm), h3.turn h9 k (fun i hi e => hi.2 e) t1 h8, h4.turn k t1, h5, h6, h7, h8⟩
end

section
variable (C g : Nat) (F : Nat → Prop) (T : Int) (s : Bst) (w : World) (h : Bl w C g F T s)
include h
end

/-! ### Stand -/
section
variable (C g : Nat) (F : Nat → Prop) (T : Int) (s : Bst) (w : World) (h : Bl w C g F T s)
include h
end
end Go.Proofs.YteoodompphhkbaaGreatDoor.Bal

/- BalA -/
namespace Go.Proofs.YteoodompphhkbaaGreatDoor.Bal
set_option maxRecDepth 100000
open Go.RowKit Go.Lib Go.Maps

section
variable {w w' : World} {C g tb : Nat} {F : Nat → Prop} {T : Int} {s : Bst}
end
section
variable (C g : Nat) (F : Nat → Prop) (T : Int) (s : Bst) (w : World) (h : Bl w C g F T s)
include h
end
end Go.Proofs.YteoodompphhkbaaGreatDoor.Bal

/- Maj -/
namespace Go.Proofs.YteoodompphhkbaaGreatDoor.Bal
set_option maxRecDepth 100000
open Go.RowKit Go.Lib Go.Maps

end Go.Proofs.YteoodompphhkbaaGreatDoor.Bal
