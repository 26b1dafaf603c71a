/-
  WHAT IS PROVED: maps from polls to numbers, as a function of an epoch and a text: look-up, store. No condition beyond the keys' range.
-/
import Derived.Test.YtemokbggchodgaaDoorMem
import Derived.Test.YtemokbggchodgaaDoorEv
import Derived.Test.YtemokbggchodgaaDoorLaw
import Derived.Test.YtemokbggchodgaaDoorBytes
import Derived.Maps.RangeWalk
import Derived.DeepKeys4
import Derived.Maps.OwnSet
import Derived.Maps.OwnOps
import Derived.Laws.Externs
namespace Go.Proofs.YtemokbggchodgaaDoor.Po
open Go.RowKit Go.Lib Go.Maps

theorem key_row : (39 : TypeId) < Tryd.prog.types.size := of_decide_eq_true (by kernel_rfl)
theorem key_wide : (match Tryd.prog.underlying 39 with | some (.array _ _) | some (.struct _) => true | _ => false) = true := by rw [Tryd.underlying39]

theorem keyed : Keyed Tryd.prog 39 := Keyed.of_law (deep_law_laid laid_ok (m := 2) (by omega) key_row (by kernel_rfl) key_wide)
theorem types_two : ∃ d, Tryd.prog.types.size + 1 = d + 1 + 1 := by
  have h : 0 < Tryd.prog.types.size := Nat.lt_of_le_of_lt (Nat.zero_le _) key_row
  obtain ⟨d, hd⟩ := Nat.exists_eq_succ_of_ne_zero (Nat.ne_of_gt h)
  exact ⟨d, by rw [hd]⟩
theorem cells_key : Tryd.prog.cellsOf 39 = 2 := by kernel_rfl
theorem cells_int : Tryd.prog.cellsOf 3 = 1 := by kernel_rfl
theorem keytype : Tryd.prog.keyType 39 = true := by kernel_rfl
theorem cells_str : Tryd.prog.cellsOf 9 = 1 := by kernel_rfl
theorem zero_int (w : World) : (zeroValue 3).run Tryd.prog w = .ok (.int .i64 0) w := by kernel_rfl

/-- what a key reads as -/
def kl (a : Int) (t : List UInt8) : Lit := .string (keyBytes [.int .i64 a, .string t])
abbrev vKey (a : Int) (t : List UInt8) : Value := .agg #[.int .i64 a, .string (str t)]
theorem wf_of {x : Int} (h : inI x) : (Lit.int .i64 x).wf = true := WalkArith.wf_i64 h
theorem lits_int (d : Nat) {x : Int} (h : inI x) : Tryd.prog.keyLits (d + 1) 3 [.int .i64 x] = some [.int .i64 x] := by
  unfold Program.keyLits
  rw [Tryd.underlying3]
  simp [wf_of h]
def okT (t : List UInt8) : Prop := t.length ≤ 1000000
theorem lits_str (d : Nat) {t : List UInt8} (h : okT t) : Tryd.prog.keyLits (d + 1) 9 [.string (str t)] = some [.string t] := by
  unfold Program.keyLits
  rw [Tryd.underlying9]
  have h2 : (str t).size ≤ maxLen := by unfold okT at h; show t.length ≤ maxLen; unfold maxLen; omega
  simp only [h2, if_true]
  simp [str]
theorem keyOf_key {a : Int} (ha : inI a) {t : List UInt8} (ht : okT t) : keyOf Tryd.prog 39 (vKey a t) = some (kl a t) := by
  have hf : (vKey a t).formed Tryd.prog 39 = true := by simp [Value.formed, Tryd.underlying39, cells_key]
  have hl : ∀ d, Tryd.prog.keyLits (d + 1 + 1) 39 [.int .i64 a, .string (str t)] = some [.int .i64 a, .string t] := fun d => by
    unfold Program.keyLits
    rw [Tryd.underlying39]
    simp [cells_key, cells_int, cells_str, lits_int d ha, lits_str d ht]
  unfold keyOf
  rw [Tryd.underlying39]
  simp only [keytype, hf, Bool.and_self, if_true, Value.cells]
  obtain ⟨d, hd⟩ := types_two
  rw [hd, hl d]
  rfl
theorem kl_inj {a x : Int} {t u : List UInt8} (ha : inI a) (hx : inI x) (ht : okT t) (hu : okT u) (h : kl a t = kl x u) : a = x ∧ t = u := by
  have := keyed.inj (keyOf_key ha ht) (h ▸ keyOf_key hx hu)
  simp [str] at this
  exact this
theorem kl_key (a : Int) (t : List UInt8) : WideAt.IsKeyLit (kl a t) := by simp [kl, WideAt.IsKeyLit]

/-- a map in a block: f tells what is at an epoch and a text; of at most k -/
def MapAt (w : World) (b k : Nat) (f : Int → List UInt8 → Option Nat) : Prop :=
  ∃ (D : DataW Unit) (n : Nat), n ≤ k ∧ w.ownsMap Tryd.prog 39 (plainElem Tryd.prog 3) b n D ∧ ∀ x t, inI x → okT t → Maps.has D (kl x t) = (f x t).isSome ∧ ∀ v, f x t = some v → ∀ z, D.atKey (kl x t) z = .lit (.int .i64 (v : Int))
theorem map_new (w : World) : MapAt (w.alloc (.map #[] 0)) w.heap.size 0 (fun _ _ => none) :=
  ⟨.map [], 0, Nat.le_refl _, World.ownsMap_made _ _ _ _, fun x t _ _ => ⟨by simp [Maps.has], fun v h => by cases h⟩⟩
section
variable {w w' : World} {b k : Nat} {f g : Int → List UInt8 → Option Nat}
theorem MapAt.kept {row : Option Nat} (h : MapAt w b k f) (hg : w.grownBy w' row) (hne : some b ≠ row) : MapAt w' b k f := by
  obtain ⟨D, n, h1, h2, h3⟩ := h; exact ⟨D, n, h1, h2.kept hg hne, h3⟩
theorem grown_of_below (hb : Below w.heap.size w w') : w.grownBy w' none := ⟨hb.os, hb.tape, hb.output, hb.size, fun i hi _ => hb.block i hi⟩
theorem MapAt.below (h : MapAt w b k f) (hb : Below w.heap.size w w') : MapAt w' b k f := h.kept (grown_of_below hb) (by simp)
theorem MapAt.wide {m : Nat} (h : MapAt w b k f) (hm : k ≤ m) (hp : ∀ x t, f x t = g x t) : MapAt w b m g := by
  obtain ⟨D, n, h1, h2, h3⟩ := h; exact ⟨D, n, by omega, h2, fun x t hx ht => by rw [← hp x t]; exact h3 x t hx ht⟩
end
section
variable {w : World} {b k : Nat} {f : Int → List UInt8 → Option Nat} {ops : Array Oper} {rest : List Oper} {o : Oper} {a : Act} {Q : Exit → Act → World → Prop}
/-- 'v, ok := m[k]' where nothing is -/
theorem wpList_look_no (h : MapAt w b k f) (hg : o.guard = none) (m x : Operand) (hop : o.op = Op.lookup 36 m x true) (hm : a.eval m = .map (some b)) {r : Int} {t : List UInt8} (hr : inI r) (ht : okT t) (hx : a.eval x = vKey r t) (hf : f r t = none)
    (hK : wpList Tryd.prog ops Q rest (a.put o.dst (.tuple #[.int .i64 0, .bool false])) w) : wpList Tryd.prog ops Q (o :: rest) a w := by
  obtain ⟨D, n, _, h2, h3⟩ := h
  obtain ⟨h4, _⟩ := h3 r t hr ht
  rw [hf] at h4
  refine wpList_lookup_own_ok_int w hg m x 36 hop 39 3 .i64 keyed Tryd.underlying36 Tryd.underlying3 (zero_int _) b n D hm h2 _ _ hx (keyOf_key hr ht) ?_
  intro c hc _
  rw [atKey_of_not_has h4] at hc
  injection hc with hc
  injection hc with _ hc
  rw [h4, ← hc]
  exact hK
/-- .. and where something is -/
theorem wpList_look_yes (h : MapAt w b k f) (hg : o.guard = none) (m x : Operand) (hop : o.op = Op.lookup 36 m x true) (hm : a.eval m = .map (some b)) {r : Int} {t : List UInt8} (hr : inI r) (ht : okT t) (hx : a.eval x = vKey r t) {v : Nat} (hf : f r t = some v)
    (hK : wpList Tryd.prog ops Q rest (a.put o.dst (.tuple #[.int .i64 (v : Int), .bool true])) w) : wpList Tryd.prog ops Q (o :: rest) a w := by
  obtain ⟨D, n, _, h2, h3⟩ := h
  obtain ⟨h4, h5⟩ := h3 r t hr ht
  rw [hf] at h4
  refine wpList_lookup_own_ok_int w hg m x 36 hop 39 3 .i64 keyed Tryd.underlying36 Tryd.underlying3 (zero_int _) b n D hm h2 _ _ hx (keyOf_key hr ht) ?_
  intro c hc _
  rw [h5 v hf] at hc
  injection hc with hc
  injection hc with _ hc
  rw [h4, ← hc]
  exact hK
/-- 'm[k] = v' -/
theorem wpList_store (h : MapAt w b k f) (hk : k < maxLen) (hg : o.guard = none) (m x u : Operand) (hop : o.op = Op.mapUpdate 36 m x u) (hm : a.eval m = .map (some b)) {r : Int} {t : List UInt8} {v : Nat} (hr : inI r) (ht : okT t) (hx : a.eval x = vKey r t) (hv : a.eval u = .int .i64 (v : Int)) (hvi : inI (v : Int))
    (hK : ∀ w', MapAt w' b (k + 1) (fun y s => if r = y ∧ t = s then some v else f y s) → w.grownBy w' (some b) → wpList Tryd.prog ops Q rest (a.put o.dst undef) w') : wpList Tryd.prog ops Q (o :: rest) a w := by
  obtain ⟨D, n, h1, h2, h3⟩ := h
  refine wpList_mapUpdate_own w hg m x u 36 hop 39 3 keyed Tryd.underlying36 (plainElem Tryd.prog 3) b n D hm h2 (by omega) _ _ _ hx hv (keyOf_key hr ht) _ _ (plainElem_int Tryd.underlying3 (wf_of hvi)) ?_
  intro w' hown hgr
  refine hK w' ⟨_, n + 1, by omega, hown, fun y s hy hs => ?_⟩ hgr
  have hT : Tidy D := h2.tidy keyed
  by_cases e : r = y ∧ t = s
  · obtain ⟨rfl, rfl⟩ := e
    rw [has_put_same hT.isMap (kl_key r t)]
    refine ⟨by simp, fun z hz q => ?_⟩
    simp at hz
    subst hz
    rw [atKey_put_same hT.isMap (kl_key r t)]
  · have hne : kl y s ≠ kl r t := fun e' => e (by obtain ⟨e1, e2⟩ := kl_inj hy hr hs ht e'; exact ⟨e1.symm, e2.symm⟩)
    obtain ⟨h4, h5⟩ := h3 y s hy hs
    rw [has_put_other hne]
    refine ⟨by show _ = (if r = y ∧ t = s then some v else f y s).isSome; rw [if_neg e]; exact h4, fun z hz q => ?_⟩
    have hz' : (if r = y ∧ t = s then some v else f y s) = some z := hz
    rw [if_neg e] at hz'
    rw [atKey_put_other hne]
    exact h5 z hz' q
end
end Go.Proofs.YtemokbggchodgaaDoor.Po
