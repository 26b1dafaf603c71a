/-
  WHAT IS PROVED: words for a file in a variable beside a disk. No condition.
-/
import Derived.Test.YtdoahbegcfhegaaWrite
namespace Go.Proofs.Ytdoahbegcfhegaa
open Go.RowKit Go.Lib

/-- a file's cells -/
abbrev fc (A : Option Addr) (n c : Nat) (s : Bool) : Array Value := #[.slice A n c, .bool s]
section
variable {a w w' : World} {d g n : Nat} {S : Ds} {F : Nat → Prop}
theorem Turn.set_far (h : Turn a w F) {p : Addr} (hp : a.heap.size ≤ p.block) (u : Value) : Turn a (w.setCell p u) F :=
  ⟨h.os, h.tape, h.output, by simpa [World.setCell] using h.size, fun i hi hn => (Below.heap_setCell w p u i (by omega)).trans (h.block i hi hn)⟩
theorem Turn.alloc (h : Turn a w F) (o : Obj) : Turn a (w.alloc o) F :=
  ⟨h.os, h.tape, h.output, Nat.le_trans h.size (by simp), fun i hi hn => (Below.heap_alloc w o i (Nat.lt_of_lt_of_le hi h.size)).trans (h.block i hi hn)⟩
theorem Turn.drew (h : Turn a w F) : Turn a w.drew F := ⟨h.os, h.tape, h.output, h.size, h.block⟩
/-- bytes lie in no block of a file's cells -/
theorem Rd.far {A : Option Addr} {b : List UInt8} (h : Rd w F 1 A n (bs b)) {x : Nat} {t : TypeId} {A' : Option Addr} {n' c' : Nat} {s : Bool} (hx : Blk w x t (fc A' n' c' s)) (i : Nat) (u : Value) : Rd (w.setCell ⟨x, i, none⟩ u) F 1 A n (bs b) := by
  refine ⟨h.1, fun hn => ?_⟩
  obtain ⟨ad, e, hlt, hf, hc⟩ := h.2 hn
  have hne : x ≠ ad.block := by
    intro e
    have hb : 0 < b.length := by have := h.1; rw [bs_len] at this; omega
    have h0 := hc 0 _ (show (bs b)[0]? = some (.int .u8 ((b[0].toNat : Nat) : Int)) by unfold bs; rw [List.getElem?_map, List.getElem?_eq_getElem hb]; rfl)
    have h1 : ad.add 0 = ad := by unfold Addr.add; simp
    rw [h1] at h0
    obtain ⟨bk, off, m⟩ := ad
    dsimp only at e
    subst e
    unfold Blk at hx
    simp [World.cell?, hx] at h0
    obtain ⟨_, h0⟩ := h0
    match off with
    | 0 => simp at h0
    | 1 => simp at h0
    | k + 2 => simp at h0
  refine ⟨ad, e, by simpa [World.setCell] using hlt, hf, fun j u' hu => ?_⟩
  rw [World.cell?_setCell_far _ _ _ _ (by rw [block_of_add]; exact hne)]
  exact hc j u' hu
theorem Dk.box (h : Dk w d g S) {x : Nat} {t : TypeId} {A' : Option Addr} {n' c' : Nat} {s : Bool} (hx : Blk w x t (fc A' n' c' s)) (hd : x ≠ d) (i : Nat) (u : Value) : Dk (w.setCell ⟨x, i, none⟩ u) d g S := by
  have hg : x ≠ g := hx.map_ne h.map
  refine ⟨h.blk.far (fun e => hd e.symm) u, ?_, h.good, h.left⟩
  obtain ⟨D, h1, h2⟩ := h.map
  refine ⟨D, own_turn_map h1 (Below.heap_setCell w _ u g (fun e => hg e.symm)), fun f hf => ?_, h2.has_, h2.size⟩
  obtain ⟨v, e1, A, n, c, e2, e3, e4, e5, e6⟩ := h2.at_ f hf
  exact ⟨v, e1, A, n, c, e2, e3, e4, e5, e6.far hx i u⟩
theorem fc_new (w : World) (A : Option Addr) (n c : Nat) (s : Bool) : Blk (w.alloc (.cells (fc A n c s) 53)) w.heap.size 53 (fc A n c s) := Blk.new w _ _
end
end Go.Proofs.Ytdoahbegcfhegaa
