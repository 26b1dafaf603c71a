/-
  WHAT IS PROVED: append as one step of a region that draws its order; what a new stand of the document's comes to. Conditions: the sizes.
-/
import Derived.Test.YtmjbacmaafbdlaaTwin
import Derived.BigQuiet
namespace Go.Proofs.Ytmjbacmaafbdlaa
open Go.RowKit Go.Lib Go.Maps

section
variable {P : Program} (w : World)
theorem step_append_cells {ops : Array Oper} {o : Oper} {a : Act} {K : Act → World → Prop} {Q : Exit → Act → World → Prop} {E : Prop} (hgd : o.guard = none) (s x : Operand) (t : TypeId)
    (ho : o.op = .call { callee := .builtin .append, args := #[s, x], argTypes := #[t, t] })
    (base : Nat) (e : TypeId) (i : TypeInfo) (z : Value) (bytes : Nat) (ht : P.underlying t = some (.slice e)) (hi : P.info? e = some i) (hz : i.zero = some z)
    (hsize : i.size = 1) (hby : i.bytes = bytes) (hzs : z.cells.size = 1)
    (v : Value) (n : Nat) (xs : List Value) (hs : a.eval s = v) (hown : w.ownsRow base e 1 v n xs)
    (g : Nat) (A : Option Addr) (m c : Nat) (news : List Value) (hx : a.eval x = .slice A m c) (hr : Reads w g A m news) (h1 : ∀ u ∈ news, u.oneCell' = true)
    (h63 : n + m ≤ maxLen) (hbytes : (n + m) * bytes ≤ 140737488355328) (hbase : base ≤ w.heap.size)
    (h : ∀ v' w', w'.ownsRow base e 1 v' (n + m) (xs ++ news) → w.grownBy w' v.ownBlock → (v'.ownBlock = v.ownBlock ∨ v'.ownBlock = some w.heap.size) → K (a.put o.dst v') w') :
    if Region.wanted o (yielded ops a.tmps) = true then Oper.wp P o a w K Q else E := by
  have hw : Region.wanted o (yielded ops a.tmps) = true := by simp [Region.wanted, hgd]
  rw [if_pos hw]
  obtain ⟨v', w', hrun, h2, h3, h4⟩ := run_append_cells (P := P) w base t o.type e i z bytes ht hi hz hsize hby hzs v n xs hown g A m c news hr h1 h63 hbytes hbase
  unfold Oper.wp execOp
  simp only [ho, resolve, invoke, builtin, Sem.run_bind, Sem.run_pure, Result.andThen_ok, List.map_toArray, List.map_cons, List.map_nil, hs, hx, hrun]
  exact h v' w' h2 h3 h4
end
theorem turn_more {a b : World} {x : Nat} (h : Turn a b (fun i => i = x)) (i : Nat) (u : Value) : Turn a (b.setCell ⟨x, i, none⟩ u) (fun i => i = x) := h.trans (turn_set b ⟨x, i, none⟩ u) (fun _ _ e => e)
/-- what a new stand comes to -/
theorem Tw.stood {w w3 w4 : World} {C x : Nat} {F : Nat → Prop} {T : Int} {s : Bst} {ep now un : Int} {n c4 : Nat} {A4 : Option Addr} {vs : List Int} {v : Nat → Value} {l : Nat → List Int} {b0 : Value}
    (h : Tw w C x F T s) (hb3 : Below w.heap.size w w3) (hb4 : Below w3.heap.size w3 w4) (hx : Blk w4 x 31 #[b0, .int .i64 s.ep, .int .i64 un, v 0, v 1, v 2, v 3]) (hr : Rows4 w3 C v l) (ho : w4.ownsRow w3.heap.size 3 1 (.slice A4 n c4) n (zints vs)) (hn : vs.length = n)
    (hl : l 2 = s.G.map (·.id) ∧ l 3 = s.G.map (·.till)) (hF : ∀ i, i < 4 → ∀ k, (v i).ownBlock = some k → F k) (hi : Mp.inInt (now + 2 * T)) :
    DidT C x F T (.int .i64 0) ⟨true, ep, now, vs, [], s.G⟩ w (.returned (.int .i64 0)) (((((w4.setCell ⟨x, 0, none⟩ (.bool true)).setCell ⟨x, 1, none⟩ (.int .i64 ep)).setCell ⟨x, 2, none⟩ (.int .i64 (now + 2 * T))).setCell ⟨x, 3, none⟩ (.slice A4 n c4)).setCell ⟨x, 4, none⟩ (.slice none 0 0)) := by
  subst hn
  have k : Turn w4 (((((w4.setCell ⟨x, 0, none⟩ (.bool true)).setCell ⟨x, 1, none⟩ (.int .i64 ep)).setCell ⟨x, 2, none⟩ (.int .i64 (now + 2 * T))).setCell ⟨x, 3, none⟩ (.slice A4 vs.length c4)).setCell ⟨x, 4, none⟩ (.slice none 0 0)) (fun i => i = x) :=
    turn_more (turn_more (turn_more (turn_more (turn_set w4 ⟨x, 0, none⟩ _) 1 _) 2 _) 3 _) 4 _
  have hB := ((((hx.set_ 0 (.bool true)).set_ 1 (.int .i64 ep)).set_ 2 (.int .i64 (now + 2 * T))).set_ 3 (.slice A4 vs.length c4)).set_ 4 (.slice none 0 0)
  have hbw := hb3.trans (hb4.mono hb3.size)
  have hs3 := hb3.size
  have hs4 := hb4.size
  have hxl := h.lt x h.fx
  have hlo : ∀ j, (Value.slice A4 vs.length c4).ownBlock = some j → w3.heap.size ≤ j ∧ j < w4.heap.size := ho.lt
  have hr4 : Rows4 w4 C (upd v 0 (.slice A4 vs.length c4)) (upd l 0 vs) := hr.put (j := 0) (own_base ho (Nat.le_trans h.cle hs3)) (only_of_below hb4 _) (.inr fun j hj => (hlo j hj).1) (by omega)
  have hr5 := hr4.nil 1
  have hF5 : ∀ i, i < 4 → ∀ j, (upd (upd v 0 (.slice A4 vs.length c4)) 1 (.slice none 0 0) i).ownBlock = some j → F j ∨ (w.heap.size ≤ j ∧ j < w4.heap.size) := by
    intro i hi4 j hj
    by_cases e1 : i = 1
    · subst e1; rw [upd_same] at hj; simp [Value.ownBlock] at hj
    · rw [upd_other _ _ e1] at hj
      by_cases e0 : i = 0
      · subst e0; rw [upd_same] at hj; have := hlo j hj; exact .inr ⟨by omega, this.2⟩
      · rw [upd_other _ _ e0] at hj; exact .inl (hF i hi4 j hj)
  have hr6 := hr5.turn k (fun i hi4 j hj e => by
    have e' : j = x := e
    subst e'
    exact row_ne (hr5.own i hi4) hx (by decide) _ hj rfl)
  have ks := k.size
  refine ⟨rfl, fun i => F i ∨ (w.heap.size ≤ i ∧ i < w4.heap.size), ⟨⟨now + 2 * T, upd (upd v 0 (.slice A4 vs.length c4)) 1 (.slice none 0 0), upd (upd l 0 vs) 1 [], hB, hr6, rfl, rfl, hl.1, hl.2, fun _ => rfl, hi, hF5⟩, .inl h.fx, ?_, ?_⟩, ?_, ?_⟩
  · rintro i (hi | hi)
    · have := h.lt i hi; omega
    · omega
  · rintro i (hi | hi)
    · exact h.lo i hi
    · have := h.cle; omega
  · exact (Turn.of_below hbw F).trans k (fun i _ e => by have e' : i = x := e; rw [e']; exact h.fx)
  · rintro i hi (h1 | h1)
    · exact h1
    · omega
end Go.Proofs.Ytmjbacmaafbdlaa
