/-
  deeds IS PROVED: maps from deeds to nothing, as a function of three numbers: look-up, store. No condition beyond the keys' range.
-/
import Derived.Test.YtemokbggchodgaaDoorMem
import Derived.Test.YtemokbggchodgaaDoorEv
import Derived.Test.YtemokbggchodgaaDoorLaw
import Derived.DeepKeys4
import Derived.Maps.OwnSet
import Derived.Maps.OwnOps
import Derived.Laws.Externs
namespace Go.Proofs.YtemokbggchodgaaDoor.De
open Go.RowKit Go.Lib Go.Maps

theorem key_row : (43 : TypeId) < Tryd.prog.types.size := of_decide_eq_true (by kernel_rfl)
theorem key_wide : (match Tryd.prog.underlying 43 with | some (.array _ _) | some (.struct _) => true | _ => false) = true := by rw [Tryd.underlying43]

theorem keyed : Keyed Tryd.prog 43 := Keyed.of_law (deep_law_laid laid_ok (m := 2) (by omega) key_row (by kernel_rfl) key_wide)
theorem types_two : ∃ d, Tryd.prog.types.size + 1 = d + 1 + 1 := by
  have h : 0 < Tryd.prog.types.size := Nat.lt_of_le_of_lt (Nat.zero_le _) key_row
  obtain ⟨d, hd⟩ := Nat.exists_eq_succ_of_ne_zero (Nat.ne_of_gt h)
  exact ⟨d, by rw [hd]⟩
theorem cells_key : Tryd.prog.cellsOf 43 = 3 := by kernel_rfl
theorem cells_int : Tryd.prog.cellsOf 3 = 1 := by kernel_rfl
theorem keytype : Tryd.prog.keyType 43 = true := by kernel_rfl
theorem zero_unit (w : World) : (zeroValue 44).run Tryd.prog w = .ok (.agg #[]) w := by kernel_rfl

/-- what a key reads as -/
def kl (a b c : Int) : Lit := .string (keyBytes [.int .i64 a, .int .i64 b, .int .i64 c])
abbrev vKey (a b c : Int) : Value := .agg #[.int .i64 a, .int .i64 b, .int .i64 c]
theorem wf_of {x : Int} (h : inI x) : (Lit.int .i64 x).wf = true := WalkArith.wf_i64 h
theorem lits_int (d : Nat) {x : Int} (h : inI x) : Tryd.prog.keyLits (d + 1) 3 [.int .i64 x] = some [.int .i64 x] := by
  unfold Program.keyLits
  rw [Tryd.underlying3]
  simp [wf_of h]
theorem keyOf_key {a b c : Int} (ha : inI a) (hb : inI b) (hc : inI c) : keyOf Tryd.prog 43 (vKey a b c) = some (kl a b c) := by
  have hf : (vKey a b c).formed Tryd.prog 43 = true := by simp [Value.formed, Tryd.underlying43, cells_key]
  have hl : ∀ d, Tryd.prog.keyLits (d + 1 + 1) 43 [.int .i64 a, .int .i64 b, .int .i64 c] = some [.int .i64 a, .int .i64 b, .int .i64 c] := fun d => by
    unfold Program.keyLits
    rw [Tryd.underlying43]
    simp [cells_key, cells_int, lits_int d ha, lits_int d hb, lits_int d hc]
  unfold keyOf
  rw [Tryd.underlying43]
  simp only [keytype, hf, Bool.and_self, if_true, Value.cells]
  obtain ⟨d, hd⟩ := types_two
  rw [hd, hl d]
  rfl
theorem kl_inj {a b c x y z : Int} (ha : inI a) (hb : inI b) (hc : inI c) (hx : inI x) (hy : inI y) (hz : inI z) (h : kl a b c = kl x y z) : a = x ∧ b = y ∧ c = z := by
  have := keyed.inj (keyOf_key ha hb hc) (h ▸ keyOf_key hx hy hz)
  simp at this
  exact this
theorem kl_key (a b c : Int) : WideAt.IsKeyLit (kl a b c) := by simp [kl, WideAt.IsKeyLit]

/-- a set in a block: p tells what is in it; of at most k -/
def SetAt (w : World) (b k : Nat) (p : Int → Int → Int → Bool) : Prop :=
  ∃ (D : DataW Unit) (n : Nat), n ≤ k ∧ w.ownsMap Tryd.prog 43 unitElem b n D ∧ ∀ x y z, inI x → inI y → inI z → Maps.has D (kl x y z) = p x y z
theorem set_new (w : World) : SetAt (w.alloc (.map #[] 0)) w.heap.size 0 (fun _ _ _ => false) :=
  ⟨.map [], 0, Nat.le_refl _, World.ownsMap_made _ _ _ _, fun x y z _ _ _ => by simp [Maps.has]⟩
section
variable {w w' : World} {b k : Nat} {p q : Int → Int → Int → Bool}
theorem SetAt.lt (h : SetAt w b k p) : b < w.heap.size := by obtain ⟨D, n, _, h, _⟩ := h; exact h.lt
theorem SetAt.kept {row : Option Nat} (h : SetAt w b k p) (hg : w.grownBy w' row) (hne : some b ≠ row) : SetAt w' b k p := by
  obtain ⟨D, n, h1, h2, h3⟩ := h; exact ⟨D, n, h1, h2.kept hg hne, h3⟩
theorem grown_of_below (hb : Below w.heap.size w w') : w.grownBy w' none := ⟨hb.os, hb.tape, hb.output, hb.size, fun i hi _ => hb.block i hi⟩
theorem SetAt.below (h : SetAt w b k p) (hb : Below w.heap.size w w') : SetAt w' b k p := h.kept (grown_of_below hb) (by simp)
theorem SetAt.wide {m : Nat} (h : SetAt w b k p) (hm : k ≤ m) (hp : ∀ x y z, p x y z = q x y z) : SetAt w b m q := by
  obtain ⟨D, n, h1, h2, h3⟩ := h; exact ⟨D, n, by omega, h2, fun x y z hx hy hz => (h3 x y z hx hy hz).trans (hp x y z)⟩
end
section
variable {w : World} {b k : Nat} {p q : Int → Int → Int → Bool} {ops : Array Oper} {rest : List Oper} {o : Oper} {a : Act} {Q : Exit → Act → World → Prop}
/-- '_, ok := m[k]' -/
theorem wpList_look (h : SetAt w b k p) (hg : o.guard = none) (m x : Operand) (hop : o.op = Op.lookup 41 m x true) (hm : a.eval m = .map (some b)) {r s t : Int} (hr : inI r) (hs : inI s) (ht : inI t) (hx : a.eval x = vKey r s t)
    (hK : wpList Tryd.prog ops Q rest (a.put o.dst (.tuple #[.agg #[], .bool (p r s t)])) w) : wpList Tryd.prog ops Q (o :: rest) a w := by
  obtain ⟨D, n, _, h2, h3⟩ := h
  refine wpList_lookup_own_unit w hg m x 41 hop 43 44 keyed Tryd.underlying41 (zero_unit _) b n D hm h2 _ _ hx (keyOf_key hr hs ht) ?_
  rw [h3 r s t hr hs ht]
  exact hK
/-- 'm[k] = struct{}{}' -/
theorem wpList_store (h : SetAt w b k p) (hk : k < maxLen) (hg : o.guard = none) (m x v : Operand) (hop : o.op = Op.mapUpdate 41 m x v) (hm : a.eval m = .map (some b)) {r s t : Int} (hr : inI r) (hs : inI s) (ht : inI t) (hx : a.eval x = vKey r s t) (hv : a.eval v = .agg #[])
    (hK : ∀ w', SetAt w' b (k + 1) (fun x y z => p x y z || ((r == x) && ((s == y) && (t == z)))) → w.grownBy w' (some b) → wpList Tryd.prog ops Q rest (a.put o.dst undef) w') : wpList Tryd.prog ops Q (o :: rest) a w := by
  obtain ⟨D, n, h1, h2, h3⟩ := h
  refine wpList_mapUpdate_own w hg m x v 41 hop 43 44 keyed Tryd.underlying41 (unitElem (H := Unit)) b n D hm h2 (by omega) _ _ _ hx hv (keyOf_key hr hs ht) _ [] unitElem_mk ?_
  intro w' hown hgr
  refine hK w' ⟨_, n + 1, by omega, hown, fun x y z hx hy hz => ?_⟩ hgr
  have hT : Tidy D := h2.tidy keyed
  by_cases e : r = x ∧ s = y ∧ t = z
  · obtain ⟨rfl, rfl, rfl⟩ := e
    rw [has_put_same hT.isMap (kl_key r s t)]
    show true = (p r s t || ((r == r) && ((s == s) && (t == t))))
    simp
  · rw [has_put_other (fun e' => e (by obtain ⟨e1, e2, e3⟩ := kl_inj hx hy hz hr hs ht e'; exact ⟨e1.symm, e2.symm, e3.symm⟩)), h3 x y z hx hy hz]
    have : ((r == x) && ((s == y) && (t == z))) = false := by
      rw [Bool.eq_false_iff]
      intro hh
      simp only [Bool.and_eq_true, beq_iff_eq] at hh
      exact e hh
    show p x y z = (p x y z || ((r == x) && ((s == y) && (t == z))))
    rw [this, Bool.or_false]
end
end Go.Proofs.YtemokbggchodgaaDoor.De
