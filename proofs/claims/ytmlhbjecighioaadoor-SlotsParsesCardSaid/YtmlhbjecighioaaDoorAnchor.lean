/-
  WHAT IS PROVED: the document's examples, which each law asks first, hold. Condition: strconv's errors hold errors.
-/
import Derived.Test.YtmlhbjecighioaaDoorOf
import Derived.Test.YtmlhbjecighioaaDoorParse
namespace Go.Proofs.YtmlhbjecighioaaDoor
open Go.RowKit

theorem anchor_of : ofP [0, 1, 2, 5] = (39, 0) := by decide +kernel
theorem anchor_parse : parseP [49, 32, 50] = (0, 60) := by decide +kernel
theorem anchor_text : txt 39 = [48, 45, 50, 32, 53] := by decide +kernel
theorem anchor_share : spanN (1 * 64 / 3) ((1 + 1) * 64 / 3 - 1) = 4398044413952 := by decide +kernel
theorem anchor_text2 : txt 4398044413952 = [50, 49, 45, 52, 49] := by decide +kernel

set_option maxRecDepth 100000 in
set_option maxHeartbeats 1000000 in
theorem anchor_any (w : World) (hE : Errs w) : Calls Tryd.prog 10 #[] w (Says true w) := by
  have HO := Lib.hid anchor_of
  have HP := Lib.hid anchor_parse
  have HT := Lib.hid anchor_text
  have HS := Lib.hid anchor_share
  have HT2 := Lib.hid anchor_text2
  have hr : ∀ g, g ≠ w.heap.size → Reads (w.alloc (.cells #[.int .i64 0, .int .i64 1, .int .i64 2, .int .i64 5] 3)) g (some ⟨w.heap.size, 0, none⟩) 4 (zints [0, 1, 2, 5]) := fun g hg => by
    refine ⟨rfl, fun _ => ⟨_, rfl, by simp, fun e => hg e.symm, fun j u hu => ?_⟩⟩
    have hB : Blk (w.alloc (.cells #[.int .i64 0, .int .i64 1, .int .i64 2, .int .i64 5] 3)) w.heap.size 3 #[.int .i64 0, .int .i64 1, .int .i64 2, .int .i64 5] := Blk.new _ _ _
    have e : (⟨w.heap.size, 0, none⟩ : Addr).add j = ⟨w.heap.size, j, none⟩ := add_mk _ _
    rw [e, hB.cell j]
    simpa [zints] using hu
  have k1 : ((str [48, 45, 50, 32, 53]).toList == [48, 45, 50, 32, 53]) = true := by rw [str_toList]; rfl
  have hb1 : Below w.heap.size w (w.alloc (.cells #[.int .i64 0, .int .i64 1, .int .i64 2, .int .i64 5] 3)) := (Below.refl _ _).alloc (Nat.le_refl _) _
  go_enter Tryd.func10, Tryd.ntmps10
  go_wp2_with (fail)
  refine (of_any _ 4 4 [0, 1, 2, 5] (w.heap.size + 1) _ (by omega) (hr _ (by omega))).mono ?_
  rintro e w2 ⟨rfl, m, rfl⟩
  rw [HO.out]
  have hb2 := below_drewN hb1 m
  generalize (w.alloc (.cells #[.int .i64 0, .int .i64 1, .int .i64 2, .int .i64 5] 3)).drewN m = w2 at *
  have hE2 := hE.below hb2
  clear hr hb1
  go_wp2_with (fail)
  refine (parse_any [49, 32, 50] (by simp) w2 hE2).mono ?_
  rintro e w3 ⟨rfl, hb3⟩
  rw [HP.out]
  have hb3' := hb2.trans (hb3.mono hb2.size)
  clear hb3 hE2
  go_wp2_with (fail)
  refine (share_yes 3 1 w3 (by omega) (by omega) (by omega)).mono ?_
  rintro e w4 ⟨rfl, q, rfl⟩
  rw [HS.out]
  have hb4 := below_drewN hb3' q
  generalize w3.drewN q = w4 at *
  clear hb3'
  go_wp2_with (fail)
  refine (text_any 39 (by omega) w4).mono ?_
  rintro e w5 ⟨rfl, hb5⟩
  rw [HT.out]
  have hb5' := hb4.trans (hb5.mono hb4.size)
  clear hb4 hb5
  go_wp2_with (fail)
  refine (text_any 4398044413952 (by omega) w5).mono ?_
  rintro e w6 ⟨rfl, hb6⟩
  rw [HT2.out]
  have hb6' := hb5'.trans (hb6.mono hb5'.size)
  clear hb5' hb6
  go_wp2
  go_ret
  refine ⟨?_, hb6'⟩
  show Ending.returned (.bool ((str [50, 49, 45, 52, 49]).toList == [50, 49, 45, 52, 49])) = _
  rw [str_toList]; rfl
end Go.Proofs.YtmlhbjecighioaaDoor
