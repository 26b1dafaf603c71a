/-
  WHAT IS PROVED: contracts of the hasher's table: fill, sync.Once's Do (in one goroutine; the lock free), New. Condition: the hasher is a block of its own, not yet used or used as the code uses it.
-/
import Derived.Test.YtneanlffllejnaaShift
import Derived.Deep.RegionWith
import Derived.Deep.DrawnRows
import Derived.Deep.QuietTactic
import Derived.BigQuiet
namespace Go.Proofs.Ytneanlffllejnaa
open Go.RowKit

/-- block g is a hasher: its Once's word d, its lock's word m, its table f -/
def Hs (w : World) (g : Nat) (d m : Int) (f : Nat → Nat) : Prop :=
  ∃ cs : Array Value, Blk w g 87 cs ∧ cs.size = 259 ∧ cs[0]? = some (.int .u32 d) ∧ cs[1]? = some (.int .i32 m) ∧ ∀ i, i < 256 → cs[3 + i]? = some (.int .u16 (f i : Nat))

section
variable {w w' : World} {g : Nat} {d m : Int} {f : Nat → Nat}
theorem Hs.lt (h : Hs w g d m f) : g < w.heap.size := by obtain ⟨cs, hb, _⟩ := h; exact hb.lt
theorem Hs.c0 (h : Hs w g d m f) : w.cell? ⟨g, 0, none⟩ = some (.int .u32 d) := by obtain ⟨cs, hb, _, h0, _⟩ := h; rw [hb.cell]; exact h0
theorem Hs.c1 (h : Hs w g d m f) : w.cell? ⟨g, 1, none⟩ = some (.int .i32 m) := by obtain ⟨cs, hb, _, _, h1, _⟩ := h; rw [hb.cell]; exact h1
theorem Hs.ct (h : Hs w g d m f) {i : Nat} (hi : i < 256) : w.cell? ⟨g, 3 + i, none⟩ = some (.int .u16 (f i : Nat)) := by obtain ⟨cs, hb, _, _, _, ht⟩ := h; rw [hb.cell]; exact ht i hi
theorem Hs.fz (h : Hs w g d m f) (i : Nat) : w.frozen? ⟨g, i, none⟩ = false := by obtain ⟨cs, hb, _⟩ := h; exact hb.frozen i
theorem Hs.drew (h : Hs w g d m f) : Hs w.drew g d m f := h
theorem Hs.drewN (h : Hs w g d m f) (n : Nat) : Hs (w.drewN n) g d m f := h
theorem Hs.alloc (h : Hs w g d m f) (o : Obj) : Hs (w.alloc o) g d m f := by obtain ⟨cs, hb, r⟩ := h; exact ⟨cs, hb.alloc o, r⟩
theorem Hs.grown {row : Option Nat} (h : Hs w g d m f) (hb : w.grownBy w' row) (hg : some g ≠ row) : Hs w' g d m f := by obtain ⟨cs, hk, r⟩ := h; exact ⟨cs, hk.grown hb hg, r⟩
theorem Hs.below {B : Nat} (h : Hs w g d m f) (hb : Below B w w') (hg : g < B) : Hs w' g d m f := by obtain ⟨cs, hk, r⟩ := h; exact ⟨cs, hk.below hb hg, r⟩
theorem Hs.set0 (h : Hs w g d m f) (x : Int) : Hs (w.setCell ⟨g, 0, none⟩ (.int .u32 x)) g x m f := by
  obtain ⟨cs, hb, hs, h0, h1, ht⟩ := h
  refine ⟨_, hb.set_ 0 _, by simp [hs], by simp [hs], ?_, fun i hi => ?_⟩
  · rw [Array.getElem?_setIfInBounds_ne (by omega)]; exact h1
  · rw [Array.getElem?_setIfInBounds_ne (by omega)]; exact ht i hi
theorem Hs.set1 (h : Hs w g d m f) (x : Int) : Hs (w.setCell ⟨g, 1, none⟩ (.int .i32 x)) g d x f := by
  obtain ⟨cs, hb, hs, h0, h1, ht⟩ := h
  refine ⟨_, hb.set_ 1 _, by simp [hs], ?_, by simp [hs], fun i hi => ?_⟩
  · rw [Array.getElem?_setIfInBounds_ne (by omega)]; exact h0
  · rw [Array.getElem?_setIfInBounds_ne (by omega)]; exact ht i hi
theorem Hs.sett (h : Hs w g d m f) {k : Nat} (hk : k < 256) (x : Nat) : Hs (w.setCell ⟨g, 3 + k, none⟩ (.int .u16 (x : Nat))) g d m (fun i => if i = k then x else f i) := by
  obtain ⟨cs, hb, hs, h0, h1, ht⟩ := h
  refine ⟨_, hb.set_ (3 + k) _, by simp [hs], ?_, ?_, fun i hi => ?_⟩
  · rw [Array.getElem?_setIfInBounds_ne (by omega)]; exact h0
  · rw [Array.getElem?_setIfInBounds_ne (by omega)]; exact h1
  · show _ = some (Value.int .u16 ((if i = k then x else f i : Nat) : Int))
    by_cases e : i = k
    · subst e
      rw [if_pos rfl, Array.getElem?_setIfInBounds_self_of_lt (by omega)]
    · rw [Array.getElem?_setIfInBounds_ne (by omega), if_neg e]; exact ht i hi
theorem Hs.table (h : Hs w g d m f) {f' : Nat → Nat} (e : ∀ i, i < 256 → f i = f' i) : Hs w g d m f' := by
  obtain ⟨cs, hb, hs, h0, h1, ht⟩ := h
  exact ⟨cs, hb, hs, h0, h1, fun i hi => by rw [← e i hi]; exact ht i hi⟩
end

theorem shifted_int (x : Int) (s : Nat) (hs : s < 65536) (h : x = s) (w : World) :
    Calls Try.prog 53 #[.int .u16 x] w fun e w' => e = .returned (.int .u16 (stN 8 s)) ∧ w = w' := by
  subst h
  exact shifted_any s hs w

/-- the hasher's table is filled in; nothing else has turned -/
def Filled (g : Nat) (d m : Int) (w : World) (e : Ending) (w' : World) : Prop := e = .returned (.tuple #[]) ∧ Hs w' g d m tb ∧ w.grownBy w' (some g)

set_option maxRecDepth 100000 in
set_option maxHeartbeats 1000000 in
theorem fill_any (g : Nat) (d m : Int) (f : Nat → Nat) (w : World) (h : Hs w g d m f) :
    Calls Try.prog 50 #[.pointer (some ⟨g, 0, none⟩)] w (Filled g d m w) := by
  go_enter Try.func50, Try.ntmps50
  go_wp2
  go_loopw [2, 3] (fun a i wr => ∃ k : Nat, k ≤ 256 ∧ i = .int .i64 k ∧ Hs wr g d m (fun j => if j < k then tb j else f j) ∧ w.grownBy wr (some g)) (fun _ i _ => 256 - (intOf i).toNat)
  case atStart => exact ⟨0, by omega, rfl, h.table (fun i _ => by simp), World.grownBy.refl _ _⟩
  case round =>
    obtain ⟨k, hk, rfl, hh, hg⟩ := hrel
    by_cases hk2 : k < 256
    · have c := hh.ct hk2
      have z := hh.fz (3 + k)
      have HW : Hid (IntKind.u16.wrap (IntKind.u16.wrap (k : Int) * 256) = ((k * 256 : Nat) : Int)) := by
        show _ = _
        rw [IntKind.wrap_u16, IntKind.wrap_u16]; omega
      go_wp2
      go_region_with (go_at_call 53; refine (shifted_int _ (k * 256) (by omega) HW.out _).mono ?_; rintro e w' ⟨rfl, rfl⟩)
      go_wp2
      go_roundw
      case rel =>
        refine ⟨k + 1, by omega, by go_num, ?_, ?_⟩
        · refine ((hh.drew).sett hk2 (stN 8 (k * 256))).table fun i hi => ?_
          by_cases e : i = k
          · subst e; simp; rfl
          · rw [if_neg e]
            by_cases e2 : i < k
            · rw [if_pos e2, if_pos (by omega)]
            · rw [if_neg e2, if_neg (by omega)]
        · exact only_setCell (only_drew hg) (.inl rfl) _
      case measure => simp [intOf]; omega
    · obtain rfl : k = 256 := by omega
      go_wp2
      go_end0
      exact ⟨rfl, hh.table fun i hi => by rw [if_pos hi], hg⟩
end Go.Proofs.Ytneanlffllejnaa
