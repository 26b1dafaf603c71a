/-
  WHAT IS PROVED: memory beside a disk: arguments, new rows, known nodes that a disk's calls leave alone. No condition.
-/
import Derived.Test.YtijkdibccgdomaaGreatDoorKA
import Derived.Test.YtijkdibccgdomaaGreatDoorKn
import Derived.Test.YtijkdibccgdomaaGreatDoorBack
import Derived.Laws.IdiomStrings
namespace Go.Proofs.YtijkdibccgdomaaGreatDoor.Dsk
open Go.RowKit Go.Lib Go.ChangeShapes Go.WideShapes Go.ChangeAt Go.WideElems

theorem Dk.fd {w : World} {d g : Nat} {S : Ds} (h : Dk w d g S) : ∀ i, FD d g i → i < w.heap.size := fun i hi => by
  rcases hi with e | e
  · rw [e]; exact h.lt.1
  · rw [e]; exact h.lt.2
theorem turn_new (w : World) (d g : Nat) (o : Obj) : Turn w (w.alloc o) (FD d g) := Turn.of_below ((Below.refl _ w).alloc (Nat.le_refl _) o) _
theorem Dk.alloc {w : World} {d g : Nat} {S : Ds} (h : Dk w d g S) (o : Obj) : Dk (w.alloc o) d g S := h.below ((Below.refl _ w).alloc (Nat.le_refl _) o)
theorem rd_bytes {w : World} {d g : Nat} {S : Ds} (h : Dk w d g S) (t : List UInt8) (e : TypeId) (c : Nat) (m : Nat × Nat) :
    Rd (w.drew.alloc (.cells (bytesRow (str t) c) e m)) (FD d g) 1 (some ⟨w.heap.size, 0, none⟩) t.length (bs t) :=
  ⟨by rw [bs_len]; omega, fun _ => ⟨_, rfl, by simp, fun f => by have := h.fd _ f; simp at this, fun j u hu => by
    have hj : j < t.length := by have := (List.getElem?_eq_some_iff.1 hu).1; rwa [bs_len] at this
    rw [Go.WideShapes.add_plain, Nat.zero_add, cell_of_row _ w.heap.size j (bytesRow (str t) c) e m (heap_alloc_new w.drew _)]
    unfold bytesRow
    rw [Array.getElem?_append_left (by simp [str]; exact hj)]
    rw [← hu]
    simp [str, bs]⟩⟩
theorem turn_bytes (w : World) (d g : Nat) (o : Obj) : Turn w (w.drew.alloc o) (FD d g) := Turn.of_below (((Below.refl _ w).drew).alloc (Nat.le_refl _) o) _
/-- what was there when the law began is read outside of a disk that was made since -/
theorem rd_arg {w w' : World} {d g b n : Nat} {A : Option Addr} {xs : List Value} (hr : Reads w b A n xs) (hb : Below w.heap.size w w') (hd : w.heap.size ≤ d) (hg : w.heap.size ≤ g) : Rd w' (FD d g) 1 A n xs := by
  refine ⟨by have := hr.1; omega, fun hn => ?_⟩
  obtain ⟨ad, e, hlt, _, hc⟩ := hr.2 hn
  refine ⟨ad, e, Nat.lt_of_lt_of_le hlt hb.size, fun f => by rcases f with f | f <;> omega, fun j u hu => ?_⟩
  exact (hb.cell (by rw [block_of_add]; exact hlt)).trans (hc j u hu)
/-- known ones outside of a disk -/
def KnF (w : World) (d g : Nat) (A : Option Addr) (n : Nat) (l : List Kn) : Prop := KnAt w A n l ∧ ∀ ad, A = some ad → ad.block ≠ d ∧ ad.block ≠ g
theorem KnF.turn {w w' : World} {d g : Nat} {A : Option Addr} {n : Nat} {l : List Kn} (h : KnF w d g A n l) (ht : Turn w w' (FD d g)) : KnF w' d g A n l :=
  ⟨⟨h.1.1, fun hn => by
    obtain ⟨ad, e, hlt, hc⟩ := h.1.2 hn
    obtain ⟨h1, h2⟩ := h.2 ad e
    have hf : ∀ j, w'.cell? (ad.add j) = w.cell? (ad.add j) := fun j => ht.cell (by rw [block_of_add]; exact hlt) (by rw [block_of_add]; rintro (f | f) <;> omega)
    refine ⟨ad, e, Nat.lt_of_lt_of_le hlt ht.size, fun i s hs => ?_⟩
    obtain ⟨c0, c1, c2⟩ := hc i s hs
    exact ⟨(hf _).trans c0, (hf _).trans c1, (hf _).trans c2⟩⟩, h.2⟩
theorem KnF.below {w w' : World} {d g : Nat} {A : Option Addr} {n : Nat} {l : List Kn} (h : KnF w d g A n l) (hb : Below w.heap.size w w') : KnF w' d g A n l := h.turn (Turn.of_below hb _)
theorem KnF.arg {w w' : World} {d g : Nat} {A : Option Addr} {n : Nat} {l : List Kn} (h : KnAt w A n l) (hlt : ∀ ad, A = some ad → ad.block < w.heap.size) (hb : Below w.heap.size w w') (hd : w.heap.size ≤ d) (hg : w.heap.size ≤ g) : KnF w' d g A n l :=
  ⟨h.below hb, fun ad e => by have := hlt ad e; omega⟩
/-- a block outside of a disk -/
theorem blk_turn {w w' : World} {d g b : Nat} {t : TypeId} {cs : Array Value} (h : Blk w b t cs) (ht : Turn w w' (FD d g)) (hd : b ≠ d) (hg : b ≠ g) : Blk w' b t cs :=
  (ht.block b h.lt (by rintro (f | f) <;> omega)).trans h
end Go.Proofs.YtijkdibccgdomaaGreatDoor.Dsk
