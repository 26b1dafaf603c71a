/-
  WHAT IS PROVED: no call makes an epoch lower, and what comes of right epochs is right; a row of ints of one's own beside a variable of type Epochs. No condition.
-/
import Derived.Test.YtckdibnadokipaaBump
import Derived.Test.YtckdibnadokipaaCases
import Derived.Test.YtckdibnadokipaaAppend
import Derived.OwnWalk
namespace Go.Proofs.Ytckdibnadokipaa
open Go.RowKit Go.Lib

def Up (e x : Ep) : Prop := okB x = true ∧ e.cur ≤ x.cur ∧ e.vote ≤ x.vote ∧ e.conf ≤ x.conf
section
variable {e : Ep} {n : Int}
theorem see_up (h : okB e = true) (hf : seeF e n = 0) : Up e (seeE e n) := by
  rw [ok_iff] at h
  rcases see_cases e n with ⟨_, _, g⟩ | ⟨_, _, _, g⟩ | ⟨_, h2, g, _⟩
  · rw [g] at hf; cases hf
  · rw [g] at hf; cases hf
  · rw [up_iff] at h2
    rw [g]
    refine ⟨ok_iff.2 ?_, ?_, ?_, ?_⟩ <;> simp <;> omega
theorem stand_up (h : okB e = true) (hf : standF e = 0) : Up e (standE e) := by
  rw [ok_iff] at h
  rcases stand_cases e with ⟨_, _, g, _⟩ | ⟨_, _, _, g, _⟩ | ⟨_, h2, g, _⟩
  · rw [g] at hf; cases hf
  · rw [g] at hf; cases hf
  · rw [beq_eq_false_iff_ne] at h2
    rw [g]
    refine ⟨ok_iff.2 ?_, ?_, ?_, ?_⟩ <;> simp <;> omega
theorem bump_up (h : okB e = true) (hf : bumpF e = 0) : Up e (bumpE e) := by
  rw [ok_iff] at h
  rcases stand_cases e with ⟨_, _, _, _, g⟩ | ⟨_, _, _, _, _, g⟩ | ⟨_, h2, _, _, g, _⟩
  · rw [g] at hf; cases hf
  · rw [g] at hf; cases hf
  · rw [beq_eq_false_iff_ne] at h2
    rw [g]
    refine ⟨ok_iff.2 ?_, ?_, ?_, ?_⟩ <;> simp <;> omega
theorem win_up (h : okB e = true) (hf : winF e n = 0) : Up e (winE e n) := by
  rw [ok_iff] at h
  rcases win_cases e n with ⟨_, _, g⟩ | ⟨_, _, _, g⟩ | ⟨_, _, _, _, g⟩ | ⟨_, _, _, _, _, g⟩ | ⟨_, h2, h3, h4, g, _⟩
  · rw [g] at hf; cases hf
  · rw [g] at hf; cases hf
  · rw [g] at hf; cases hf
  · rw [g] at hf; cases hf
  · rw [up_iff] at h2
    simp at h3 h4
    rw [g]
    refine ⟨ok_iff.2 ?_, ?_, ?_, ?_⟩ <;> simp <;> omega
theorem grant_up (h : okB e = true) (hf : grantF e n = 0) : Up e (grantE e n) ∧ (grantE e n).vote = n ∧ e.vote < n := by
  rw [ok_iff] at h
  rcases grant_cases e n with ⟨_, _, g⟩ | ⟨_, _, _, g⟩ | ⟨_, _, _, _, g⟩ | ⟨_, _, _, _, _, g⟩ | ⟨_, h2, h3, h4, g, _⟩
  · rw [g] at hf; cases hf
  · rw [g] at hf; cases hf
  · rw [g] at hf; cases hf
  · rw [g] at hf; cases hf
  · rw [up_iff] at h2
    simp at h3 h4
    rw [g]
    refine ⟨⟨ok_iff.2 ?_, ?_, ?_, ?_⟩, ?_, ?_⟩ <;> (try simp) <;> omega
end

theorem int_info : (Try.prog.info? 3).map (fun i => (i.zero, i.size, i.bytes)) = some (some (.int .i64 0), 1, 8) := by kernel_rfl
theorem info_parts {P : Program} {t : TypeId} {z : Option Value} {s b : Nat} (h : (P.info? t).map (fun i => (i.zero, i.size, i.bytes)) = some (z, s, b)) : ∃ i, P.info? t = some i ∧ i.zero = z ∧ i.size = s ∧ i.bytes = b := by
  cases hi : P.info? t with
  | none => rw [hi] at h; cases h
  | some i => rw [hi] at h; simp at h; exact ⟨i, rfl, h.1, h.2.1, h.2.2⟩
theorem own_slice {w : World} {base n : Nat} {e : TypeId} {v : Value} {xs : List Value} (h : w.ownsRow base e 1 v n xs) :
    ∃ A cap, v = .slice A n cap ∧ n ≤ cap ∧ cap ≤ 9223372036854775807 := by
  rcases h.2 with ⟨rfl, rfl⟩ | ⟨b, cap, cur, rfl, hb, hh, hnc, hcm, _⟩
  · exact ⟨none, 0, rfl, Nat.le_refl _, by omega⟩
  · exact ⟨some ⟨b, 0, none⟩, cap, rfl, hnc, by unfold maxLen at hcm; omega⟩
theorem own_read {w : World} {base n cap : Nat} {A : Option Addr} {e : TypeId} {xs : List Value} (h : w.ownsRow base e 1 (.slice A n cap) n xs) : ∀ g, w.heap.size ≤ g ∨ g < base → Reads w g A n xs := by
  have hl : xs.length = n := by have := h.1; omega
  intro g hg
  refine ⟨hl, fun hn => ?_⟩
  rcases h.2 with ⟨hv, rfl⟩ | ⟨b, cap, cur, hv, hb, hh, hnc, hcm, _⟩
  · exact absurd hn (by omega)
  · injection hv with hv
    subst hv
    have hlt : b < w.heap.size := by
      rcases Nat.lt_or_ge b w.heap.size with hlt | hge
      · exact hlt
      · rw [Array.getElem?_eq_none hge] at hh; cases hh
    exact ⟨_, rfl, hlt, by show b ≠ g; omega, h.cells rfl⟩
theorem own_below {w w' : World} {base n : Nat} {e : TypeId} {v : Value} {xs : List Value} (h : w.ownsRow base e 1 v n xs) (hb : Below w.heap.size w w') : w'.ownsRow base e 1 v n xs :=
  h.kept (only_of_below hb none) (by cases v.ownBlock <;> simp)
theorem zints_append (a b : List Int) : zints (a ++ b) = zints a ++ zints b := by unfold zints; rw [List.map_append]
theorem cell_one_new (w : World) (v : Value) (t : TypeId) : ∀ j u, [v][j]? = some u → (w.alloc (.cells #[v] t)).cell? ((⟨w.heap.size, 0, none⟩ : Addr).add j) = some u := fun j u hu => by
  rw [Go.WideShapes.add_plain, Nat.zero_add, (Blk.new w t _).cell j]
  simpa using hu

/-- a variable of type Act -/
def Ax (w : World) (b : Nat) (ho nn : Int) : Prop := Blk w b 36 #[.int .i64 ho, .int .i64 nn]
section
variable {w w' : World} {b : Nat} {ho nn : Int}
theorem Ax.new (w : World) (ho nn : Int) : Ax (w.alloc (.cells #[.int .i64 ho, .int .i64 nn] 36)) w.heap.size ho nn := Blk.new _ _ _
theorem Ax.alloc (h : Ax w b ho nn) (o : Obj) : Ax (w.alloc o) b ho nn := Blk.alloc h o
theorem Ax.later (h : Ax w b ho nn) (hb : Below w.heap.size w w') : Ax w' b ho nn := Blk.below h hb (Blk.lt h)
theorem Ax.far3 (h : Ax w b ho nn) {c i j k : Nat} (hp : b ≠ c) (x y z : Value) : Ax (((w.setCell ⟨c, i, none⟩ x).setCell ⟨c, j, none⟩ y).setCell ⟨c, k, none⟩ z) b ho nn := ((Blk.far h (p := ⟨c, i, none⟩) hp x).far (p := ⟨c, j, none⟩) hp y).far (p := ⟨c, k, none⟩) hp z
theorem Ax.c0 (h : Ax w b ho nn) : w.cell? ⟨b, 0, none⟩ = some (.int .i64 ho) := Blk.cell h 0
theorem Ax.c1 (h : Ax w b ho nn) : w.cell? ⟨b, 1, none⟩ = some (.int .i64 nn) := Blk.cell h 1
end

/-- a variable of type Epochs of the call's own (it came first), and a row of ints that came behind it -/
structure Play (W w : World) (B : Nat) (e : Ep) (va : Value) (vs : List Int) : Prop where
  box : Bx w W.heap.size e
  row : w.ownsRow B 3 1 va vs.length (zints vs)
  bel : Below W.heap.size W w
  le : B ≤ w.heap.size
  lt : W.heap.size < B
section
variable {W w w' : World} {B : Nat} {e x : Ep} {va : Value} {vs : List Int}
theorem Play.below (h : Play W w B e va vs) (hb : Below w.heap.size w w') : Play W w' B e va vs :=
  ⟨h.box.later hb, own_below h.row hb, h.bel.trans (hb.mono h.bel.size), Nat.le_trans h.le hb.size, h.lt⟩
theorem Play.store (h : Play W w B e va vs) (x : Ep) : Play W (((w.setCell ⟨W.heap.size, 0, none⟩ (.int .i64 x.cur)).setCell ⟨W.heap.size, 1, none⟩ (.int .i64 x.vote)).setCell ⟨W.heap.size, 2, none⟩ (.int .i64 x.conf)) B x va vs :=
  ⟨h.box.store x, ownsRow_setCell_below (ownsRow_setCell_below (ownsRow_setCell_below h.row (a := ⟨W.heap.size, 0, none⟩) h.lt _) (a := ⟨W.heap.size, 1, none⟩) h.lt _) (a := ⟨W.heap.size, 2, none⟩) h.lt _,
    below3 h.bel (Nat.le_refl _) _ _ _, by simpa [World.setCell] using h.le, h.lt⟩
/-- behind an append onto the row -/
theorem Play.more {va' : Value} {n : Int} (h : Play W w B e va vs) (hg : w.grownBy w' va.ownBlock) (hr : w'.ownsRow B 3 1 va' (vs.length + 1) (zints vs ++ [.int .i64 n])) : Play W w' B e va' (vs ++ [n]) :=
  ⟨Blk.grown h.box hg (fun e => by have := (h.row.lt _ e.symm).1; have := h.lt; omega), by rw [List.length_append, zints_append]; exact hr,
    h.bel.grown hg h.bel.size (fun r e => Nat.le_trans (Nat.le_of_lt h.lt) (h.row.lt r e).1),
    Nat.le_trans h.le hg.size, h.lt⟩
end
end Go.Proofs.Ytckdibnadokipaa
