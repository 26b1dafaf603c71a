/-
  WHAT IS PROVED: append as one step of a region that draws its order, at ints; the worlds of a region that makes an empty row and a row of one, in whatever order. Conditions: the sizes.
-/
import Derived.Test.YtcacjppdcmghjaaWithout
import Derived.Deep.RegionLaw
import Derived.Deep.CutRange
namespace Go.Proofs.Ytcacjppdcmghjaa
open Go.RowKit Go.Lib Go.Maps

section
variable {P : Program} (w : World)
theorem step_append_cells {ops : Array Oper} {o : Oper} {a : Act} {K : Act → World → Prop} {Q : Exit → Act → World → Prop} {E : Prop} (hgd : o.guard = none) (s x : Operand) (t : TypeId)
    (ho : o.op = .call { callee := .builtin .append, args := #[s, x], argTypes := #[t, t] })
    (base : Nat) (e : TypeId) (i : TypeInfo) (z : Value) (bytes : Nat) (ht : P.underlying t = some (.slice e)) (hi : P.info? e = some i) (hz : i.zero = some z)
    (hsize : i.size = 1) (hby : i.bytes = bytes) (hzs : z.cells.size = 1)
    (v : Value) (n : Nat) (xs : List Value) (hs : a.eval s = v) (hown : w.ownsRow base e 1 v n xs)
    (g : Nat) (A : Option Addr) (m c : Nat) (news : List Value) (hx : a.eval x = .slice A m c) (hr : Reads w g A m news) (h1 : ∀ u ∈ news, u.oneCell' = true)
    (h63 : n + m ≤ maxLen) (hbytes : (n + m) * bytes ≤ 140737488355328) (hbase : base ≤ w.heap.size)
    (h : ∀ v' w', w'.ownsRow base e 1 v' (n + m) (xs ++ news) → w.grownBy w' v.ownBlock → (v'.ownBlock = v.ownBlock ∨ v'.ownBlock = some w.heap.size) → K (a.put o.dst v') w') :
    if Region.wanted o (yielded ops a.tmps) = true then Oper.wp P o a w K Q else E := by
  have hw : Region.wanted o (yielded ops a.tmps) = true := by simp [Region.wanted, hgd]
  rw [if_pos hw]
  obtain ⟨v', w', hrun, h2, h3, h4⟩ := run_append_cells (P := P) w base t o.type e i z bytes ht hi hz hsize hby hzs v n xs hown g A m c news hr h1 h63 hbytes hbase
  unfold Oper.wp execOp
  simp only [ho, resolve, invoke, builtin, Sem.run_bind, Sem.run_pure, Result.andThen_ok, List.map_toArray, List.map_cons, List.map_nil, hs, hx, hrun]
  exact h v' w' h2 h3 h4
end

/-! ### an empty row and a row of one -/
abbrev oE : Obj := .cells #[] 3
abbrev oO (x : Int) : Obj := .cells #[.int .i64 x] 3
abbrev vAt (n : Nat) : Value := .slice (some ⟨n, 0, none⟩) 0 0
section
variable (w : World) (x : Int)
theorem below_new {B : Nat} {a w : World} (h : Below B a w) (hB : B ≤ w.heap.size) (o : Obj) : Below B a (w.alloc o) := h.alloc hB o
theorem b0 : Below w.heap.size w w.drew := below_drewN (Below.refl _ _) 1
theorem bE : Below w.heap.size w (w.drew.alloc oE) := (b0 w).alloc (Nat.le_refl _) _
theorem bEO : Below w.heap.size w ((w.drew.alloc oE).alloc (oO x)) := (bE w).alloc (bE w).size _
theorem bO : Below w.heap.size w (w.drew.alloc (oO x)) := (b0 w).alloc (Nat.le_refl _) _
theorem bOE : Below w.heap.size w ((w.drew.alloc (oO x)).alloc oE) := (bO w x).alloc (bO w x).size _
theorem ownE : (w.drew.alloc oE).ownsRow w.heap.size 3 1 (vAt w.heap.size) 0 [] := World.ownsRow_made w.drew #[] 0 (Nat.le_refl _) (Nat.zero_le _) rfl
theorem ownEO : ((w.drew.alloc oE).alloc (oO x)).ownsRow w.heap.size 3 1 (vAt w.heap.size) 0 [] := (ownE w).alloc _
theorem ownOE : ((w.drew.alloc (oO x)).alloc oE).ownsRow w.heap.size 3 1 (vAt (w.heap.size + 1)) 0 [] := by
  have h : ((w.drew.alloc (oO x)).alloc oE).ownsRow w.heap.size 3 1 (.slice (some ⟨(w.drew.alloc (oO x)).heap.size, 0, none⟩) 0 0) 0 [] := World.ownsRow_made (w.drew.alloc (oO x)) #[] 0 (by simp) (Nat.zero_le _) rfl
  rwa [show (w.drew.alloc (oO x)).heap.size = w.heap.size + 1 by simp] at h
theorem one_reads (g : Nat) (hg : g ≠ w.heap.size) : Reads (w.alloc (oO x)) g (some ⟨w.heap.size, 0, none⟩) 1 (zints [x]) :=
  ⟨rfl, fun _ => ⟨_, rfl, by simp, hg.symm, fun j u hu => cell_one_new w (.int .i64 x) 3 j u (by simpa [zints] using hu)⟩⟩
theorem oneEO {w' : World} (hg : ((w.drew.alloc oE).alloc (oO x)).grownBy w' (some w.heap.size)) : Reads w' w.heap.size (some ⟨w.heap.size + 1, 0, none⟩) 1 (zints [x]) := by
  have h := one_reads (w.drew.alloc oE) x w.heap.size (by simp)
  rw [show (w.drew.alloc oE).heap.size = w.heap.size + 1 by simp] at h
  exact h.only hg
theorem oneOE {w' : World} (hg : ((w.drew.alloc (oO x)).alloc oE).grownBy w' (some (w.heap.size + 1))) : Reads w' (w.heap.size + 1) (some ⟨w.heap.size, 0, none⟩) 1 (zints [x]) := by
  have h := (one_reads w.drew x (w.heap.size + 1) (by show w.heap.size + 1 ≠ w.heap.size; omega))
  exact (h.below ((Below.refl _ _).alloc (Nat.le_refl _) oE)).only hg
theorem grE {w' : World} (hg : (w.drew.alloc oE).grownBy w' (some w.heap.size)) : Below w.heap.size w w' := (bE w).grown hg (bE w).size (fun j e => by cases e; exact Nat.le_refl _)
theorem grEO {w' : World} (hg : ((w.drew.alloc oE).alloc (oO x)).grownBy w' (some w.heap.size)) : Below w.heap.size w w' := (bEO w x).grown hg (bEO w x).size (fun j e => by cases e; exact Nat.le_refl _)
theorem grOE {w' : World} (hg : ((w.drew.alloc (oO x)).alloc oE).grownBy w' (some (w.heap.size + 1))) : Below w.heap.size w w' := (bOE w x).grown hg (bOE w x).size (fun j e => by cases e; exact Nat.le_succ _)
end
theorem own_base {w : World} {base base' n : Nat} {e : TypeId} {v : Value} {xs : List Value} (h : w.ownsRow base e 1 v n xs) (hb : base' ≤ base) : w.ownsRow base' e 1 v n xs := by
  refine ⟨h.1, ?_⟩
  rcases h.2 with h2 | ⟨b, cap, cur, h0, h1, r⟩
  · exact .inl h2
  · exact .inr ⟨b, cap, cur, h0, Nat.le_trans hb h1, r⟩
end Go.Proofs.Ytcacjppdcmghjaa
