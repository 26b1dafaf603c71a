/-
  WHAT IS PROVED: the laws' common anchor (the document's examples) answers true; nothing that was there has turned. No condition.
-/
import Derived.Test.YtaaibjibnonlaaaSlot
import Derived.Lib.SlBytesConst
namespace Go.Proofs.Ytaaibjibnonlaaa
open Go.RowKit

theorem sum19 : crc 0 [49, 50, 51, 52, 53, 54, 55, 56, 57] = 12739 := by decide +kernel
theorem tagA : str (tagL [123, 117, 115, 101, 114, 49, 125, 46, 120]) = { data := #[117, 115, 101, 114, 49] } := by
  rw [show tagL [123, 117, 115, 101, 114, 49, 125, 46, 120] = [117, 115, 101, 114, 49] from by decide +kernel]; rfl
theorem tagB : str (tagL [123, 125, 120]) = { data := #[123, 125, 120] } := by
  rw [show tagL [123, 125, 120] = [123, 125, 120] from by decide +kernel]; rfl
theorem tagC : str (tagL [97, 123, 98, 123, 99, 125, 100, 125]) = { data := #[98, 123, 99] } := by
  rw [show tagL [97, 123, 98, 123, 99, 125, 100, 125] = [98, 123, 99] from by decide +kernel]; rfl

/-- a Go bool is handed back; nothing that was there has turned -/
def Says (r : Bool) (w : World) (e : Ending) (w' : World) : Prop := e = .returned (.bool r) ∧ Below w.heap.size w w'

theorem row_read (l : List UInt8) (g : Nat) (w : World) (fr : Nat × Nat) (hg : g ≠ w.heap.size) : Reads (w.alloc (.cells (bs l).toArray 5 fr)) g (some ⟨w.heap.size, 0, none⟩) l.length (bs l) := by
  refine ⟨by simp [bs], fun _ => ⟨_, rfl, by simp, fun e => hg e.symm, fun j u hu => ?_⟩⟩
  have e : (⟨w.heap.size, 0, none⟩ : Addr).add j = ⟨w.heap.size, j, none⟩ := by
    unfold Addr.add
    by_cases h : j = 0
    · subst h; rfl
    · simp [h]
  rw [e, World.cell?_alloc_mark, List.getElem?_toArray]
  exact hu

set_option maxRecDepth 100000 in
set_option maxHeartbeats 1000000 in
theorem anchor_any (w : World) : Calls Try.prog 11 #[] w (Says true w) := by
  have HS := Lib.hid sum19
  have kc := fun (w : World) (C : Array Value) (n c : Nat) => Lib.run_convert_bytes_const (P := Try.prog) w 22 5 C n c Try.underlying22 Try.underlying5
  go_enter Try.func11, Try.ntmps11
  go_wp2_with (fail)
  refine (new_any w).mono ?_
  rintro e w1 ⟨rfl, hx, hb⟩
  have hlt := hx.lt
  go_wp2_with (fail)
  refine (sum_any _ 9 9 w.heap.size [49, 50, 51, 52, 53, 54, 55, 56, 57] _ (by omega) (row_read [49, 50, 51, 52, 53, 54, 55, 56, 57] w.heap.size w1 (9, 10) (by omega)) (hx.grown (only_alloc (World.grownBy.refl _ none) _) (by simp))).mono ?_
  rintro e w2 ⟨rfl, h2, hg2⟩
  rw [HS.out]
  have hb2 : Below w.heap.size w w2 := (hb.alloc hb.size _).trans (below_of_only hg2 (Nat.le_trans hb.size (by simp)) (Nat.le_refl _))
  go_wp2_with (fail)
  refine (tag_any [123, 117, 115, 101, 114, 49, 125, 46, 120] _ (by decide)).mono ?_
  rintro e w3 ⟨rfl, n, rfl⟩
  rw [tagA]
  go_wp2_with (fail)
  refine (tag_any [123, 125, 120] _ (by decide)).mono ?_
  rintro e w3 ⟨rfl, n2, rfl⟩
  rw [tagB]
  go_wp2_with (fail)
  refine (tag_any [97, 123, 98, 123, 99, 125, 100, 125] _ (by decide)).mono ?_
  rintro e w3 ⟨rfl, n3, rfl⟩
  rw [tagC]
  go_wp2
  go_ret
  exact ⟨rfl, below_drewN hb2 _⟩
end Go.Proofs.Ytaaibjibnonlaaa
