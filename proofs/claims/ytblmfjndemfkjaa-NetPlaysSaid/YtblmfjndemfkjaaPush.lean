/-
  WHAT IS PROVED: what a net is behind a message that is appended. Conditions: the object is a net, and not full.
-/
import Derived.Test.YtblmfjndemfkjaaFns
import Derived.Test.YtblmfjndemfkjaaUntil
namespace Go.Proofs.Ytblmfjndemfkjaa
open Go.RowKit Go.Lib

theorem Turn.set_ {w : World} {F : Nat → Prop} {p : Addr} (u : Value) (hp : F p.block) : Turn w (w.setCell p u) F :=
  ⟨rfl, rfl, rfl, by simp [World.setCell], fun i _ hn => Below.heap_setCell w p u i (fun e => hn (by rw [e]; exact hp))⟩
section
variable {w : World} {C n : Nat} {U : Nat → Prop} {l : List Ms} {k : Int}
theorem Nt.push (h : Nt w C n U l k) : ∃ A c, w.cell? ⟨n, 0, none⟩ = some (.slice A l.length c) ∧ l.length ≤ c ∧ c ≤ 9223372036854775807 ∧ n < w.heap.size ∧ (∀ b, (Value.slice A l.length c).ownBlock = some b → b < w.heap.size) ∧ ∀ W4, Below w.heap.size w W4 →
    W4.cell? ⟨n, 0, none⟩ = some (.slice A l.length c) ∧ W4.ownsRow C 29 3 (.slice A l.length c) l.length (flatM l) ∧ ∀ m w6 v6, Good W4 (fun i => i < w.heap.size) m → l.length < 4096 →
      w6.ownsRow C 29 3 v6 (l.length + 1) (flatM l ++ encM m) → W4.grownBy w6 (Value.slice A l.length c).ownBlock → (v6.ownBlock = (Value.slice A l.length c).ownBlock ∨ v6.ownBlock = some W4.heap.size) →
      w6.cell? ⟨n, 0, none⟩ = some (.slice A l.length c) ∧ w6.frozen? ⟨n, 0, none⟩ = false ∧ Nt (w6.setCell ⟨n, 0, none⟩ v6) C n U (l ++ [m]) k ∧ Turn w (w6.setCell ⟨n, 0, none⟩ v6) (Vf C U) := by
  obtain ⟨A, c, hb, ho, hc, hcm, hu, hg, _⟩ := h.open_
  have hlt := hb.lt
  have c0 := hb.cell 0
  simp at c0
  refine ⟨A, c, c0, hc, hcm, hlt, fun b hb => (hu b hb).2.2.2, fun W4 hB => ?_⟩
  have hb4 := hb.below hB hlt
  have c4 := hb4.cell 0
  simp at c4
  refine ⟨c4, own_below ho hB, fun m w6 v6 hm hl ho6 hg6 hv6 => ?_⟩
  have hnn : some n ≠ (Value.slice A l.length c).ownBlock := fun e => (hu n e.symm).2.1 rfl
  have hb6 := hb4.grown hg6 hnn
  have c6 := hb6.cell 0
  simp at c6
  have hs4 := hB.size
  have hs6 := hg6.size
  have t6 : Turn W4 w6 (fun i => (Value.slice A l.length c).ownBlock = some i) := ⟨hg6.os, hg6.tape, hg6.output, hg6.size, fun i hi hn => hg6.block i hi (fun e => hn e.symm)⟩
  have hn6 : ∀ b, v6.ownBlock = some b → b ≠ n ∧ ¬ U b := fun b e => by
    rcases hv6 with e2 | e2
    · rw [e] at e2; exact ⟨(hu b e2.symm).2.1, (hu b e2.symm).1⟩
    · rw [e] at e2; injection e2 with e2
      exact ⟨by omega, fun f => by have := h.lt b f; omega⟩
  have t7 : Turn w6 (w6.setCell ⟨n, 0, none⟩ v6) (fun i => i = n) := Turn.set_ v6 rfl
  refine ⟨c6, hb6.frozen 0, h.next (v := v6) ?_ ?_ (fun b e => (hn6 b e).2) ?_ ?_ ?_, ?_⟩
  · have := hb6.set_ 0 v6
    simpa using this
  · have : w6.ownsRow C 29 3 v6 (l ++ [m]).length (flatM (l ++ [m])) := by
      rw [List.length_append, flatM_append]; simpa [flatM] using ho6
    exact own_turn this t7 (fun b e => (hn6 b e).1)
  · intro x hx
    have h4 : Good W4 (fun i => i = n ∨ (Value.slice A l.length c).ownBlock = some i ∨ U i) x := by
      rcases List.mem_append.1 hx with hx | hx
      · exact (hg x hx).below hB
      · rw [List.mem_singleton.1 hx]
        exact hm.weak (fun i _ f => by
          rcases f with f | f | f
          · rw [f]; exact hlt
          · exact (hu i f).2.2.2
          · exact h.lt i f)
    have h6 : Good w6 (fun i => i = n ∨ v6.ownBlock = some i ∨ U i) x := h4.turn (t6.wide fun i _ f => .inr (.inl f)) (fun i hi f => by
      rcases f with f | f | f
      · exact .inl f
      · rcases hv6 with e2 | e2
        · exact .inr (.inl (by rw [← e2]; exact f))
        · rw [e2] at f; injection f with f; omega
      · exact .inr (.inr f))
    exact h6.turn (t7.wide fun i _ f => .inl f) (Sub.refl _ _)
  · have := t7.size; omega
  · rw [List.length_append]; simp; omega
  · have a1 : Turn w W4 (Vf C U) := Turn.of_below hB _
    have a2 : Turn W4 w6 (Vf C U) := t6.wide (fun i _ f => ⟨(hu i f).2.2.1, (hu i f).1⟩)
    have a3 : Turn w6 (w6.setCell ⟨n, 0, none⟩ v6) (Vf C U) := t7.wide (fun i _ f => by rw [f]; exact ⟨h.lo, h.nu⟩)
    exact (a1.trans a2 (Sub.refl _ _)).trans a3 (Sub.refl _ _)
/-- the number of those lost is laid anew -/
theorem Nt.lose (h : Nt w C n U l k) (k' : Int) : w.cell? ⟨n, 1, none⟩ = some (.int .i64 k) ∧ w.frozen? ⟨n, 1, none⟩ = false ∧ Nt (w.setCell ⟨n, 1, none⟩ (.int .i64 k')) C n U l k' ∧ Turn w (w.setCell ⟨n, 1, none⟩ (.int .i64 k')) (Vf C U) := by
  obtain ⟨A, c, hb, ho, hc, hcm, hu, hg, _⟩ := h.open_
  have c1 := hb.cell 1
  simp at c1
  have t7 : Turn w (w.setCell ⟨n, 1, none⟩ (.int .i64 k')) (fun i => i = n) := Turn.set_ _ rfl
  refine ⟨c1, hb.frozen 1, h.next (v := .slice A l.length c) ?_ (own_turn ho t7 (fun b e => (hu b e).2.1)) (fun b e => (hu b e).1) (fun x hx => (hg x hx).turn (t7.wide fun i _ f => .inl f) (Sub.refl _ _)) t7.size h.le, t7.wide (fun i _ f => by rw [f]; exact ⟨h.lo, h.nu⟩)⟩
  have := hb.set_ 1 (.int .i64 k')
  simpa using this
end
end Go.Proofs.Ytblmfjndemfkjaa
