/-
  WHAT IS PROVED: words for a meter's block (its lock, its counters, the greatest mark, the once, whether it is closed): plain lemmas, for any world. No condition.
-/
import Derived.Test.YthaikcopbeppeaaBase
namespace Go.Proofs.Ythaikcopbeppeaa
open Go.RowKit

/-- what a meter has -/
structure St where
  f : Nat → Int
  high : Int
  closed : Bool
  reason : Int

def St.zero : St := ⟨fun _ => 0, 0, false, 0⟩
/-- what holds of every meter: no counter is below 0 or above the most; the greatest mark isn't below 0 -/
def St.ok (s : St) : Prop := (∀ i, i < 16 → 0 ≤ s.f i ∧ s.f i ≤ 4611686018427387904) ∧ 0 ≤ s.high ∧ s.high ≤ 9223372036854775807
def St.put (s : St) (k : Nat) (v : Int) : St := { s with f := fun i => if i = k then v else s.f i }
/-- a and n together, or the most -/
def plusI (a n : Int) : Int := a + min n (4611686018427387904 - a)
def St.okC (s : St) (kind n : Int) : Bool := !s.closed && (decide (0 ≤ kind) && (decide (kind < 16) && (decide (0 ≤ n) && decide (n ≤ 4294967296))))
def St.count (s : St) (kind n : Int) : St := if s.okC kind n then s.put kind.toNat (plusI (s.f kind.toNat) n) else s
def St.okM (s : St) (n : Int) : Bool := !s.closed && decide (s.high < n)
def St.mark (s : St) (n : Int) : St := if s.okM n then { s with high := n } else s
def St.close (s : St) (r : Int) : St := if s.closed then s else { s with closed := true, reason := r }
def St.get (s : St) (k : Int) : Int := if 0 ≤ k ∧ k < 16 then s.f k.toNat else 0
/-- the first k counters together -/
def sumTo (f : Nat → Int) : Nat → Int
  | 0 => 0
  | k + 1 => sumTo f k + f k

theorem plusI_bounds {a n : Int} (h0 : 0 ≤ a) (h1 : a ≤ 4611686018427387904) (hn : 0 ≤ n) : a ≤ plusI a n ∧ plusI a n ≤ 4611686018427387904 := by
  unfold plusI; omega
theorem St.ok_zero : St.zero.ok := ⟨fun _ _ => by simp [St.zero], by simp [St.zero], by simp [St.zero]⟩
theorem St.ok_put {s : St} (h : s.ok) {k : Nat} {v : Int} (h0 : 0 ≤ v) (h1 : v ≤ 4611686018427387904) : (s.put k v).ok :=
  ⟨fun i hi => by
    show 0 ≤ (if i = k then v else s.f i) ∧ (if i = k then v else s.f i) ≤ _
    by_cases e : i = k
    · rw [if_pos e]; exact ⟨h0, h1⟩
    · rw [if_neg e]; exact h.1 i hi, h.2⟩
theorem St.ok_high {s : St} (h : s.ok) {n : Int} (h0 : 0 ≤ n) (h1 : n ≤ 9223372036854775807) : ({ s with high := n } : St).ok := ⟨h.1, h0, h1⟩
theorem St.ok_close {s : St} (h : s.ok) (r : Int) : (s.close r).ok := by
  unfold St.close; split
  · exact h
  · exact h

/-- block g is a meter: a: the writers' lock; rc: the readers' count; d: the once's word; m: the once's lock -/
def Mt (w : World) (g : Nat) (a rc d m : Int) (s : St) : Prop :=
  ∃ cs : Array Value, Blk w g 64 cs ∧ cs.size = 28 ∧ cs[0]? = some (.int .i32 a) ∧ cs[2]? = some (.int .u32 0) ∧ cs[3]? = some (.int .u32 0) ∧ cs[4]? = some (.int .i32 rc) ∧
    (∀ i, i < 16 → cs[6 + i]? = some (.int .i64 (s.f i))) ∧ cs[22]? = some (.int .i64 s.high) ∧ cs[23]? = some (.int .u32 d) ∧ cs[24]? = some (.int .i32 m) ∧ cs[26]? = some (.bool s.closed) ∧ cs[27]? = some (.int .i64 s.reason)

section
variable {w w' : World} {g : Nat} {a rc d m : Int} {s : St}
theorem Mt.lt (h : Mt w g a rc d m s) : g < w.heap.size := by obtain ⟨cs, hb, _⟩ := h; exact hb.lt
theorem Mt.c0 (h : Mt w g a rc d m s) : w.cell? ⟨g, 0, none⟩ = some (.int .i32 a) := by obtain ⟨cs, hb, _, h0, _, _, _, _, _, _, _, _, _⟩ := h; rw [hb.cell]; exact h0
theorem Mt.c2 (h : Mt w g a rc d m s) : w.cell? ⟨g, 2, none⟩ = some (.int .u32 0) := by obtain ⟨cs, hb, _, _, h2, _, _, _, _, _, _, _, _⟩ := h; rw [hb.cell]; exact h2
theorem Mt.c3 (h : Mt w g a rc d m s) : w.cell? ⟨g, 3, none⟩ = some (.int .u32 0) := by obtain ⟨cs, hb, _, _, _, h3, _, _, _, _, _, _, _⟩ := h; rw [hb.cell]; exact h3
theorem Mt.c4 (h : Mt w g a rc d m s) : w.cell? ⟨g, 4, none⟩ = some (.int .i32 rc) := by obtain ⟨cs, hb, _, _, _, _, h4, _, _, _, _, _, _⟩ := h; rw [hb.cell]; exact h4
theorem Mt.ch (h : Mt w g a rc d m s) : w.cell? ⟨g, 22, none⟩ = some (.int .i64 s.high) := by obtain ⟨cs, hb, _, _, _, _, _, _, hh, _, _, _, _⟩ := h; rw [hb.cell]; exact hh
theorem Mt.cd (h : Mt w g a rc d m s) : w.cell? ⟨g, 23, none⟩ = some (.int .u32 d) := by obtain ⟨cs, hb, _, _, _, _, _, _, _, hd, _, _, _⟩ := h; rw [hb.cell]; exact hd
theorem Mt.cm (h : Mt w g a rc d m s) : w.cell? ⟨g, 24, none⟩ = some (.int .i32 m) := by obtain ⟨cs, hb, _, _, _, _, _, _, _, _, hm, _, _⟩ := h; rw [hb.cell]; exact hm
theorem Mt.cc (h : Mt w g a rc d m s) : w.cell? ⟨g, 26, none⟩ = some (.bool s.closed) := by obtain ⟨cs, hb, _, _, _, _, _, _, _, _, _, hc, _⟩ := h; rw [hb.cell]; exact hc
theorem Mt.cr (h : Mt w g a rc d m s) : w.cell? ⟨g, 27, none⟩ = some (.int .i64 s.reason) := by obtain ⟨cs, hb, _, _, _, _, _, _, _, _, _, _, hr⟩ := h; rw [hb.cell]; exact hr
theorem Mt.cf (h : Mt w g a rc d m s) {i : Nat} (hi : i < 16) : w.cell? ⟨g, 6 + i, none⟩ = some (.int .i64 (s.f i)) := by obtain ⟨cs, hb, _, _, _, _, _, hf, _, _, _, _, _⟩ := h; rw [hb.cell]; exact hf i hi
theorem Mt.fz (h : Mt w g a rc d m s) (i : Nat) : w.frozen? ⟨g, i, none⟩ = false := by obtain ⟨cs, hb, _⟩ := h; exact hb.frozen i
theorem Mt.drew (h : Mt w g a rc d m s) : Mt w.drew g a rc d m s := h
theorem Mt.drewN (h : Mt w g a rc d m s) (n : Nat) : Mt (w.drewN n) g a rc d m s := h
theorem Mt.alloc (h : Mt w g a rc d m s) (o : Obj) : Mt (w.alloc o) g a rc d m s := by obtain ⟨cs, hb, r⟩ := h; exact ⟨cs, hb.alloc o, r⟩
theorem Mt.far (h : Mt w g a rc d m s) {p : Addr} (hp : g ≠ p.block) (u : Value) : Mt (w.setCell p u) g a rc d m s := by obtain ⟨cs, hb, r⟩ := h; exact ⟨cs, hb.far hp u, r⟩
theorem Mt.grown {row : Option Nat} (h : Mt w g a rc d m s) (hb : w.grownBy w' row) (hg : some g ≠ row) : Mt w' g a rc d m s := by obtain ⟨cs, hk, r⟩ := h; exact ⟨cs, hk.grown hb hg, r⟩
theorem Mt.below {B : Nat} (h : Mt w g a rc d m s) (hb : Below B w w') (hg : g < B) : Mt w' g a rc d m s := by obtain ⟨cs, hk, r⟩ := h; exact ⟨cs, hk.below hb hg, r⟩
theorem Mt.same (h : Mt w g a rc d m s) {s' : St} (e1 : ∀ i, i < 16 → s.f i = s'.f i) (e2 : s.high = s'.high) (e3 : s.closed = s'.closed) (e4 : s.reason = s'.reason) : Mt w g a rc d m s' := by
  obtain ⟨cs, hb, hs, h0, h2, h3, h4, hf, hh, hd, hm, hc, hr⟩ := h
  exact ⟨cs, hb, hs, h0, h2, h3, h4, fun i hi => by rw [← e1 i hi]; exact hf i hi, by rw [← e2]; exact hh, hd, hm, by rw [← e3]; exact hc, by rw [← e4]; exact hr⟩
theorem Mt.s0 (h : Mt w g a rc d m s) (x : Int) : Mt (w.setCell ⟨g, 0, none⟩ (.int .i32 x)) g x rc d m s := by
  obtain ⟨cs, hb, hs, h0, h2, h3, h4, hf, hh, hd, hm, hc, hr⟩ := h
  exact ⟨_, hb.set_ 0 _, by simp [hs], by rw [Array.getElem?_setIfInBounds_self_of_lt (by omega)], by rw [Array.getElem?_setIfInBounds_ne (by omega)]; exact h2, by rw [Array.getElem?_setIfInBounds_ne (by omega)]; exact h3, by rw [Array.getElem?_setIfInBounds_ne (by omega)]; exact h4, fun i hi => by rw [Array.getElem?_setIfInBounds_ne (by omega)]; exact hf i hi, by rw [Array.getElem?_setIfInBounds_ne (by omega)]; exact hh, by rw [Array.getElem?_setIfInBounds_ne (by omega)]; exact hd, by rw [Array.getElem?_setIfInBounds_ne (by omega)]; exact hm, by rw [Array.getElem?_setIfInBounds_ne (by omega)]; exact hc, by rw [Array.getElem?_setIfInBounds_ne (by omega)]; exact hr⟩
theorem Mt.s4 (h : Mt w g a rc d m s) (x : Int) : Mt (w.setCell ⟨g, 4, none⟩ (.int .i32 x)) g a x d m s := by
  obtain ⟨cs, hb, hs, h0, h2, h3, h4, hf, hh, hd, hm, hc, hr⟩ := h
  exact ⟨_, hb.set_ 4 _, by simp [hs], by rw [Array.getElem?_setIfInBounds_ne (by omega)]; exact h0, by rw [Array.getElem?_setIfInBounds_ne (by omega)]; exact h2, by rw [Array.getElem?_setIfInBounds_ne (by omega)]; exact h3, by rw [Array.getElem?_setIfInBounds_self_of_lt (by omega)], fun i hi => by rw [Array.getElem?_setIfInBounds_ne (by omega)]; exact hf i hi, by rw [Array.getElem?_setIfInBounds_ne (by omega)]; exact hh, by rw [Array.getElem?_setIfInBounds_ne (by omega)]; exact hd, by rw [Array.getElem?_setIfInBounds_ne (by omega)]; exact hm, by rw [Array.getElem?_setIfInBounds_ne (by omega)]; exact hc, by rw [Array.getElem?_setIfInBounds_ne (by omega)]; exact hr⟩
theorem Mt.sh (h : Mt w g a rc d m s) (x : Int) : Mt (w.setCell ⟨g, 22, none⟩ (.int .i64 x)) g a rc d m { s with high := x } := by
  obtain ⟨cs, hb, hs, h0, h2, h3, h4, hf, hh, hd, hm, hc, hr⟩ := h
  exact ⟨_, hb.set_ 22 _, by simp [hs], by rw [Array.getElem?_setIfInBounds_ne (by omega)]; exact h0, by rw [Array.getElem?_setIfInBounds_ne (by omega)]; exact h2, by rw [Array.getElem?_setIfInBounds_ne (by omega)]; exact h3, by rw [Array.getElem?_setIfInBounds_ne (by omega)]; exact h4, fun i hi => by rw [Array.getElem?_setIfInBounds_ne (by omega)]; exact hf i hi, by rw [Array.getElem?_setIfInBounds_self_of_lt (by omega)], by rw [Array.getElem?_setIfInBounds_ne (by omega)]; exact hd, by rw [Array.getElem?_setIfInBounds_ne (by omega)]; exact hm, by rw [Array.getElem?_setIfInBounds_ne (by omega)]; exact hc, by rw [Array.getElem?_setIfInBounds_ne (by omega)]; exact hr⟩
theorem Mt.sd (h : Mt w g a rc d m s) (x : Int) : Mt (w.setCell ⟨g, 23, none⟩ (.int .u32 x)) g a rc x m s := by
  obtain ⟨cs, hb, hs, h0, h2, h3, h4, hf, hh, hd, hm, hc, hr⟩ := h
  exact ⟨_, hb.set_ 23 _, by simp [hs], by rw [Array.getElem?_setIfInBounds_ne (by omega)]; exact h0, by rw [Array.getElem?_setIfInBounds_ne (by omega)]; exact h2, by rw [Array.getElem?_setIfInBounds_ne (by omega)]; exact h3, by rw [Array.getElem?_setIfInBounds_ne (by omega)]; exact h4, fun i hi => by rw [Array.getElem?_setIfInBounds_ne (by omega)]; exact hf i hi, by rw [Array.getElem?_setIfInBounds_ne (by omega)]; exact hh, by rw [Array.getElem?_setIfInBounds_self_of_lt (by omega)], by rw [Array.getElem?_setIfInBounds_ne (by omega)]; exact hm, by rw [Array.getElem?_setIfInBounds_ne (by omega)]; exact hc, by rw [Array.getElem?_setIfInBounds_ne (by omega)]; exact hr⟩
theorem Mt.sm (h : Mt w g a rc d m s) (x : Int) : Mt (w.setCell ⟨g, 24, none⟩ (.int .i32 x)) g a rc d x s := by
  obtain ⟨cs, hb, hs, h0, h2, h3, h4, hf, hh, hd, hm, hc, hr⟩ := h
  exact ⟨_, hb.set_ 24 _, by simp [hs], by rw [Array.getElem?_setIfInBounds_ne (by omega)]; exact h0, by rw [Array.getElem?_setIfInBounds_ne (by omega)]; exact h2, by rw [Array.getElem?_setIfInBounds_ne (by omega)]; exact h3, by rw [Array.getElem?_setIfInBounds_ne (by omega)]; exact h4, fun i hi => by rw [Array.getElem?_setIfInBounds_ne (by omega)]; exact hf i hi, by rw [Array.getElem?_setIfInBounds_ne (by omega)]; exact hh, by rw [Array.getElem?_setIfInBounds_ne (by omega)]; exact hd, by rw [Array.getElem?_setIfInBounds_self_of_lt (by omega)], by rw [Array.getElem?_setIfInBounds_ne (by omega)]; exact hc, by rw [Array.getElem?_setIfInBounds_ne (by omega)]; exact hr⟩
theorem Mt.sc (h : Mt w g a rc d m s) (x : Bool) : Mt (w.setCell ⟨g, 26, none⟩ (.bool x)) g a rc d m { s with closed := x } := by
  obtain ⟨cs, hb, hs, h0, h2, h3, h4, hf, hh, hd, hm, hc, hr⟩ := h
  exact ⟨_, hb.set_ 26 _, by simp [hs], by rw [Array.getElem?_setIfInBounds_ne (by omega)]; exact h0, by rw [Array.getElem?_setIfInBounds_ne (by omega)]; exact h2, by rw [Array.getElem?_setIfInBounds_ne (by omega)]; exact h3, by rw [Array.getElem?_setIfInBounds_ne (by omega)]; exact h4, fun i hi => by rw [Array.getElem?_setIfInBounds_ne (by omega)]; exact hf i hi, by rw [Array.getElem?_setIfInBounds_ne (by omega)]; exact hh, by rw [Array.getElem?_setIfInBounds_ne (by omega)]; exact hd, by rw [Array.getElem?_setIfInBounds_ne (by omega)]; exact hm, by rw [Array.getElem?_setIfInBounds_self_of_lt (by omega)], by rw [Array.getElem?_setIfInBounds_ne (by omega)]; exact hr⟩
theorem Mt.sr (h : Mt w g a rc d m s) (x : Int) : Mt (w.setCell ⟨g, 27, none⟩ (.int .i64 x)) g a rc d m { s with reason := x } := by
  obtain ⟨cs, hb, hs, h0, h2, h3, h4, hf, hh, hd, hm, hc, hr⟩ := h
  exact ⟨_, hb.set_ 27 _, by simp [hs], by rw [Array.getElem?_setIfInBounds_ne (by omega)]; exact h0, by rw [Array.getElem?_setIfInBounds_ne (by omega)]; exact h2, by rw [Array.getElem?_setIfInBounds_ne (by omega)]; exact h3, by rw [Array.getElem?_setIfInBounds_ne (by omega)]; exact h4, fun i hi => by rw [Array.getElem?_setIfInBounds_ne (by omega)]; exact hf i hi, by rw [Array.getElem?_setIfInBounds_ne (by omega)]; exact hh, by rw [Array.getElem?_setIfInBounds_ne (by omega)]; exact hd, by rw [Array.getElem?_setIfInBounds_ne (by omega)]; exact hm, by rw [Array.getElem?_setIfInBounds_ne (by omega)]; exact hc, by rw [Array.getElem?_setIfInBounds_self_of_lt (by omega)]⟩
theorem Mt.sf (h : Mt w g a rc d m s) {k : Nat} (hk : k < 16) (x : Int) : Mt (w.setCell ⟨g, 6 + k, none⟩ (.int .i64 x)) g a rc d m (s.put k x) := by
  obtain ⟨cs, hb, hs, h0, h2, h3, h4, hf, hh, hd, hm, hc, hr⟩ := h
  exact ⟨_, hb.set_ (6 + k) _, by simp [hs], by rw [Array.getElem?_setIfInBounds_ne (by omega)]; exact h0, by rw [Array.getElem?_setIfInBounds_ne (by omega)]; exact h2, by rw [Array.getElem?_setIfInBounds_ne (by omega)]; exact h3, by rw [Array.getElem?_setIfInBounds_ne (by omega)]; exact h4, fun i hi => by
    show _ = some (Value.int .i64 (if i = k then x else s.f i))
    by_cases e : i = k
    · subst e
      rw [if_pos rfl, Array.getElem?_setIfInBounds_self_of_lt (by omega)]
    · rw [Array.getElem?_setIfInBounds_ne (by omega), if_neg e]; exact hf i hi, by rw [Array.getElem?_setIfInBounds_ne (by omega)]; exact hh, by rw [Array.getElem?_setIfInBounds_ne (by omega)]; exact hd, by rw [Array.getElem?_setIfInBounds_ne (by omega)]; exact hm, by rw [Array.getElem?_setIfInBounds_ne (by omega)]; exact hc, by rw [Array.getElem?_setIfInBounds_ne (by omega)]; exact hr⟩
end

/-- block g is a meter that nobody is at; what it has is right -/
def Me (w : World) (g : Nat) (s : St) : Prop := Mt w g 0 0 (if s.closed then 1 else 0) 0 s ∧ s.ok

section
variable {w w' : World} {g : Nat} {s : St}
theorem Me.lt (h : Me w g s) : g < w.heap.size := h.1.lt
theorem Me.drewN (h : Me w g s) (n : Nat) : Me (w.drewN n) g s := h
theorem Me.alloc (h : Me w g s) (o : Obj) : Me (w.alloc o) g s := ⟨h.1.alloc o, h.2⟩
theorem Me.far (h : Me w g s) {p : Addr} (hp : g ≠ p.block) (u : Value) : Me (w.setCell p u) g s := ⟨h.1.far hp u, h.2⟩
theorem Me.grown {row : Option Nat} (h : Me w g s) (hb : w.grownBy w' row) (hg : some g ≠ row) : Me w' g s := ⟨h.1.grown hb hg, h.2⟩
theorem Me.below {B : Nat} (h : Me w g s) (hb : Below B w w') (hg : g < B) : Me w' g s := ⟨h.1.below hb hg, h.2⟩
end

/-- a call on the meter in block g: what it hands back, what the meter has behind it; nothing else has turned -/
def Did (g : Nat) (r : Value) (s' : St) (w : World) (e : Ending) (w' : World) : Prop := e = .returned r ∧ Me w' g s' ∧ w.grownBy w' (some g)
end Go.Proofs.Ythaikcopbeppeaa
