/-
  WHAT IS PROVED: rows of bytes of the call's own that grow: append as one step of a walk and of a region that draws its order. Conditions: the sizes.
-/
import Derived.Test.YtneanlffllejnaaMem
import Derived.Laws.OwnMore
import Derived.Maps.Range
namespace Go.Proofs.Ytneanlffllejnaa
open Go.RowKit Go.Lib

/-- the row of v has grown into that of v': nothing else that was there has turned -/
def Grew (w : World) (v : Value) (w' : World) (v' : Value) : Prop := w.grownBy w' v.ownBlock ∧ (v'.ownBlock = v.ownBlock ∨ ∃ b, v'.ownBlock = some b ∧ w.heap.size ≤ b)
section
variable {w w' w'' : World} {v v' v'' : Value} {B : Nat}
theorem Grew.refl (w : World) (v : Value) : Grew w v w v := ⟨World.grownBy.refl _ _, .inl rfl⟩
theorem Grew.of (hg : w.grownBy w' v.ownBlock) (h : v'.ownBlock = v.ownBlock ∨ v'.ownBlock = some w.heap.size) : Grew w v w' v' :=
  ⟨hg, h.imp id fun e => ⟨_, e, Nat.le_refl _⟩⟩
theorem Grew.trans (h : Grew w v w' v') (k : Grew w' v' w'' v'') : Grew w v w'' v'' := by
  refine ⟨h.1.andThen k.1 fun j hj => ?_, ?_⟩
  · rcases h.2 with e | ⟨b, e, hb⟩
    · exact .inr (by rw [← e, hj])
    · rw [e] at hj; injection hj with hj; exact .inl (by omega)
  · rcases k.2 with e | ⟨b, e, hb⟩
    · rw [e]; exact h.2
    · exact .inr ⟨b, e, Nat.le_trans h.1.size hb⟩
theorem Grew.after (hb : Below w.heap.size w w') (k : Grew w' v w'' v'') : Grew w v w'' v'' :=
  ⟨(only_of_below hb v.ownBlock).andThen k.1 fun _ hj => .inr hj, k.2.imp id fun ⟨b, e, hb'⟩ => ⟨b, e, Nat.le_trans hb.size hb'⟩⟩
theorem Grew.size (h : Grew w v w' v') : w.heap.size ≤ w'.heap.size := h.1.size
/-- another block stays -/
theorem Grew.cell (h : Grew w v w' v') {p : Addr} (hp : p.block < w.heap.size) (hne : v.ownBlock ≠ some p.block) : w'.cell? p = w.cell? p :=
  World.cell?_of_block (h.1.block p.block hp fun e => hne e.symm)
theorem Grew.frozen (h : Grew w v w' v') {p : Addr} (hp : p.block < w.heap.size) (hne : v.ownBlock ≠ some p.block) : w'.frozen? p = w.frozen? p :=
  World.frozen?_of_block (h.1.block p.block hp fun e => hne e.symm)
theorem OwnB.lt {l : List UInt8} (h : OwnB w B v l) : ∀ k, v.ownBlock = some k → B ≤ k ∧ k < w.heap.size := World.ownsRow.lt h
theorem OwnB.ne {l : List UInt8} (h : OwnB w B v l) {b : Nat} (hb : b < B ∨ w.heap.size ≤ b) : v.ownBlock ≠ some b := fun e => by have := h.lt b e; omega
theorem Grew.below {l : List UInt8} (h : Grew w v w' v') (ho : OwnB w B v l) (hB : B ≤ w.heap.size) : Below B w w' :=
  (Below.refl B w).grown h.1 hB fun k e => (ho.lt k e).1
theorem OwnB.kept {l : List UInt8} (h : OwnB w B v l) (hb : Below w.heap.size w w') : OwnB w' B v l := by
  refine World.ownsRow.kept h (only_of_below hb none) ?_
  cases e : v.ownBlock with
  | none => exact .inl rfl
  | some k => exact .inr (by simp)
theorem OwnB.alloc {l : List UInt8} (h : OwnB w B v l) (o : Obj) : OwnB (w.alloc o) B v l := h.kept ((Below.refl _ _).alloc (Nat.le_refl _) _)
/-- a literal's row -/
theorem OwnB.lit {l : List UInt8} (w : World) (hB : B ≤ w.heap.size) (hn : l.length ≤ 1000000) (cs : Array Value) (hc : cs = (bs l).toArray) (n : Nat) (hl : l.length = n) :
    OwnB (w.alloc (.cells cs 5)) B (.slice (some ⟨w.heap.size, 0, none⟩) n n) l := by
  subst hc hl
  have := World.ownsRow_lit (base := B) (e := 5) (size := 1) w (bs l).toArray l.length hB (by unfold maxLen; omega) (by simp [bs])
  simpa [OwnB] using this
/-- a literal read -/
theorem lit_reads {l : List UInt8} (w : World) (cs : Array Value) (hc : cs = (bs l).toArray) (n : Nat) (hl : l.length = n) : Reads (w.alloc (.cells cs 5)) (w.heap.size + 1) (some ⟨w.heap.size, 0, none⟩) n (bs l) := by
  subst hc hl
  refine ⟨bs_len l, fun _ => ⟨_, rfl, by simp, by simp, fun j u hu => ?_⟩⟩
  have e : (⟨w.heap.size, 0, none⟩ : Addr).add j = ⟨w.heap.size, j, none⟩ := by
    unfold Addr.add
    by_cases h : j = 0
    · subst h; rfl
    · simp [h]
  rw [e, World.cell?_alloc_mark, List.getElem?_toArray]
  exact hu
end

section
variable {w : World}
theorem run_push (ty B : Nat) (v : Value) (l : List UInt8) (hown : OwnB w B v l) (g : Nat) (A : Option Addr) (m c : Nat) (news : List UInt8) (hr : Reads w g A m (bs news)) (hsz : l.length + m ≤ 1000000) (hB : B ≤ w.heap.size) :
    ∃ v' w', (Builtin.append_ #[32, 32] ty #[v, .slice A m c]).run Try.prog w = .ok v' w' ∧ OwnB w' B v' (l ++ news) ∧ Grew w v w' v' := by
  obtain ⟨i0, hi0, hz0, hz1, hz2⟩ := info_parts u8_info
  obtain ⟨v', w', h1, h2, h3, h4⟩ := run_append_cells (P := Try.prog) w B 32 ty 5 i0 _ 1 Try.underlying32 hi0 hz0 hz1 hz2 rfl v l.length (bs l) hown g A m c (bs news) hr (bs_one news) (by unfold maxLen; omega) (by omega) hB
  refine ⟨v', w', h1, ?_, Grew.of h3 h4⟩
  have hm : news.length = m := by rw [← bs_len]; exact hr.1
  rw [← bs_append] at h2
  unfold OwnB
  rwa [List.length_append, hm]
theorem wpList_push {ops : Array Oper} {rest : List Oper} {o : Oper} {a : Act} {Q : Exit → Act → World → Prop} (hgd : o.guard = none) (s x : Operand)
    (ho : o.op = .call { callee := .builtin .append, args := #[s, x], argTypes := #[32, 32] })
    (B : Nat) (v : Value) (l : List UInt8) (hs : a.eval s = v) (hown : OwnB w B v l) (g : Nat) (A : Option Addr) (m c : Nat) (news : List UInt8) (hx : a.eval x = .slice A m c) (hr : Reads w g A m (bs news)) (hsz : l.length + m ≤ 1000000) (hB : B ≤ w.heap.size)
    (h : ∀ v' w', OwnB w' B v' (l ++ news) → Grew w v w' v' → wpList Try.prog ops Q rest (a.put o.dst v') w') : wpList Try.prog ops Q (o :: rest) a w :=
  wpList_plain hgd fun K hK => by
    obtain ⟨v', w', hrun, h2, h3⟩ := run_push o.type B v l hown g A m c news hr hsz hB
    unfold Oper.wp execOp
    simp only [ho, resolve, invoke, builtin, Sem.run_bind, Sem.run_pure, Result.andThen_ok, List.map_toArray, List.map_cons, List.map_nil, hs, hx, hrun]
    exact hK _ _ (h v' w' h2 h3)
theorem step_push {ops : Array Oper} {o : Oper} {a : Act} {K : Act → World → Prop} {Q : Exit → Act → World → Prop} {E : Prop} (hgd : o.guard = none) (s x : Operand)
    (ho : o.op = .call { callee := .builtin .append, args := #[s, x], argTypes := #[32, 32] })
    (B : Nat) (v : Value) (l : List UInt8) (hs : a.eval s = v) (hown : OwnB w B v l) (g : Nat) (A : Option Addr) (m c : Nat) (news : List UInt8) (hx : a.eval x = .slice A m c) (hr : Reads w g A m (bs news)) (hsz : l.length + m ≤ 1000000) (hB : B ≤ w.heap.size)
    (h : ∀ v' w', OwnB w' B v' (l ++ news) → Grew w v w' v' → K (a.put o.dst v') w') :
    if Region.wanted o (yielded ops a.tmps) = true then Oper.wp Try.prog o a w K Q else E := by
  have hw : Region.wanted o (yielded ops a.tmps) = true := by simp [Region.wanted, hgd]
  rw [if_pos hw]
  obtain ⟨v', w', hrun, h2, h3⟩ := run_push o.type B v l hown g A m c news hr hsz hB
  unfold Oper.wp execOp
  simp only [ho, resolve, invoke, builtin, Sem.run_bind, Sem.run_pure, Result.andThen_ok, List.map_toArray, List.map_cons, List.map_nil, hs, hx, hrun]
  exact h v' w' h2 h3
end
end Go.Proofs.Ytneanlffllejnaa
