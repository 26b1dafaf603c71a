/-
  WHAT IS PROVED: the laws' common anchor (the document's examples) answers true. No condition.
-/
import Derived.Test.YtcacjppdcmghjaaRby
namespace Go.Proofs.Ytcacjppdcmghjaa
open Go.RowKit Go.Lib Go.Maps

theorem lit_reads (w : World) (l : List Int) (g : Nat) (hg : g ≠ w.heap.size) : Reads (w.alloc (.cells (zints l).toArray 3)) g (some ⟨w.heap.size, 0, none⟩) l.length (zints l) :=
  ⟨zints_len l, fun _ => ⟨_, rfl, by simp, hg.symm, fun j u hu => by
    rw [Go.WideShapes.add_plain, Nat.zero_add, (Blk.new w 3 _).cell j]
    simpa using hu⟩⟩
theorem Bk.grownB {w w' W : World} {g b : Nat} {win : Int} {L : List Rp} (_ : Bk w g b win L) (hb : Below W.heap.size W w) (hB : W.heap.size ≤ b) (hg : w.grownBy w' (some b)) : Below W.heap.size W w' :=
  hb.trans (below_of_only hg hb.size hB)
abbrev ex2 : List Rp := [⟨1, 2, 100⟩, ⟨1, 3, 105⟩]

set_option maxRecDepth 100000 in
set_option maxHeartbeats 4000000 in
theorem anchor_any (w : World) : Calls Try.prog 9 #[] w (Says true w) := by
  have E1 := Lib.hid (show noteE 1 2 100 = 0 by decide +kernel)
  have E2 := Lib.hid (show noteL [] 1 2 100 = [⟨1, 2, 100⟩] by rw [noteL_ok (by decide +kernel)]; rfl)
  have E3 := Lib.hid (show noteE 1 3 105 = 0 by decide +kernel)
  have E4 := Lib.hid (show noteL [⟨1, 2, 100⟩] 1 3 105 = ex2 by rw [noteL_ok (by decide +kernel)]; rfl)
  have E5 := Lib.hid (show byL ex2 1 110 10 = [2, 3] by unfold byL; rw [show whoL ex2 1 110 10 = [2, 3] by decide +kernel]; unfold sorted; exact List.mergeSort_of_pairwise (by decide))
  have E6 := Lib.hid (show byL ex2 1 111 10 = [3] by unfold byL; rw [show whoL ex2 1 111 10 = [3] by decide +kernel]; unfold sorted; exact List.mergeSort_of_pairwise (by decide))
  have E7 := Lib.hid (show sameB [2, 3] [2, 3] = true by decide +kernel)
  have E8 := Lib.hid (show sameB [3] [3] = true by decide +kernel)
  have E9 : Hid (Q.majB [2, 3, 4] (byL ex2 1 110 10) = true) := Lib.hid (by rw [E5.out]; decide +kernel)
  have E10 : Hid (Q.majB [2, 3, 4] (byL ex2 1 111 10) = false) := Lib.hid (by rw [E6.out]; decide +kernel)
  go_enter Try.func9, Try.ntmps9
  go_wp2_with (fail)
  refine (new_yes 10 _ (by omega) (by omega)).mono ?_
  rintro e w1 ⟨g, b, rfl, k1, hb1, hg, hb⟩
  have K1 := Lib.hid k1
  have HB1 := Lib.hid hb1
  have HBb := Lib.hid hb
  clear k1 hb1 hg hb
  go_wp2_with (fail)
  refine (note_any g b 10 [] 1 2 100 _ K1.out (by simp)).mono ?_
  rintro e w2 ⟨rfl, k2, hg2⟩
  rw [E1.out]
  rw [E2.out] at k2
  have K2 := Lib.hid k2
  have HB2 := Lib.hid (K1.out.grownB HB1.out HBb.out hg2)
  clear k2 hg2
  go_wp2_with (fail)
  refine (note_any g b 10 _ 1 3 105 _ K2.out (by simp)).mono ?_
  rintro e w3 ⟨rfl, k3, hg3⟩
  rw [E3.out]
  rw [E4.out] at k3
  have K3 := Lib.hid k3
  have HB3 := Lib.hid (K2.out.grownB HB2.out HBb.out hg3)
  clear k3 hg3
  go_wp2_with (fail)
  refine (by_any g b 10 ex2 1 110 _ K3.out (by simp)).mono ?_
  rintro e w4 ⟨hb4, v4, rfl, hown4⟩
  rw [E5.out] at hown4
  obtain ⟨A4, c4, rfl, hc4, hcm4⟩ := own_slice hown4
  have K4 := Lib.hid (K3.out.below hb4)
  have HB4 := Lib.hid (HB3.out.trans (hb4.mono HB3.out.size))
  have HO4 := Lib.hid hown4
  clear hb4 hown4
  go_wp2_with (fail)
  refine (same_any A4 _ _ c4 2 2 [2, 3] [2, 3] (w4.heap.size + 1) (w4.heap.size + 1) _ (by decide) (by decide) (own_read (HO4.out.alloc _) _ (.inl (by simp))) (lit_reads w4 [2, 3] _ (by omega))).mono ?_
  rintro e w5 ⟨rfl, rfl⟩
  rw [E7.out]
  have K5 := Lib.hid (K4.out.below ((Below.refl _ _).alloc (Nat.le_refl _) (.cells #[.int .i64 2, .int .i64 3] 3)))
  have HB5 := Lib.hid (HB4.out.alloc HB4.out.size (.cells #[.int .i64 2, .int .i64 3] 3))
  go_wp2_with (fail)
  refine (by_any g b 10 ex2 1 111 _ K5.out (by simp)).mono ?_
  rintro e w6 ⟨hb6, v6, rfl, hown6⟩
  rw [E6.out] at hown6
  obtain ⟨A6, c6, rfl, hc6, hcm6⟩ := own_slice hown6
  have K6 := Lib.hid (K5.out.below hb6)
  have HB6 := Lib.hid (HB5.out.trans (hb6.mono HB5.out.size))
  have HO6 := Lib.hid hown6
  clear hb6 hown6
  go_wp2_with (fail)
  refine (same_any A6 _ _ c6 1 1 [3] [3] (w6.heap.size + 1) (w6.heap.size + 1) _ (by decide) (by decide) (own_read (HO6.out.alloc _) _ (.inl (by simp))) (lit_reads w6 [3] _ (by omega))).mono ?_
  rintro e w7 ⟨rfl, rfl⟩
  rw [E8.out]
  have K7 := Lib.hid ((K6.out.below ((Below.refl _ _).alloc (Nat.le_refl _) (.cells #[.int .i64 3] 3))).below ((Below.refl _ _).alloc (Nat.le_refl _) (.cells #[.int .i64 2, .int .i64 3, .int .i64 4] 3)))
  have HB7 := Lib.hid ((HB6.out.alloc HB6.out.size (.cells #[.int .i64 3] 3)).alloc (by have := HB6.out.size; simp; omega) (.cells #[.int .i64 2, .int .i64 3, .int .i64 4] 3))
  have HR7 := Lib.hid (lit_reads (w6.alloc (.cells #[.int .i64 3] 3)) [2, 3, 4] (w6.heap.size + 2) (by simp))
  go_wp2_with (fail)
  refine (failing_any g b 10 ex2 1 110 _ 3 3 [2, 3, 4] _ K7.out (by simp) (Nat.le_refl _) (by omega) (by simpa [zints] using HR7.out)).mono ?_
  rintro e w8 ⟨rfl, hb8⟩
  rw [E9.out]
  have K8 := Lib.hid ((K7.out.below hb8).below ((Below.refl _ _).alloc (Nat.le_refl _) (.cells #[.int .i64 2, .int .i64 3, .int .i64 4] 3)))
  have HB8 := Lib.hid ((HB7.out.trans (hb8.mono HB7.out.size)))
  have HR8 := Lib.hid (lit_reads w8 [2, 3, 4] (w8.heap.size + 1) (by omega))
  clear hb8
  go_wp2_with (fail)
  refine (failing_any g b 10 ex2 1 111 _ 3 3 [2, 3, 4] _ K8.out (by simp) (Nat.le_refl _) (by omega) (by simpa [zints] using HR8.out)).mono ?_
  rintro e w9 ⟨rfl, hb9⟩
  rw [E10.out]
  have HB9 := Lib.hid ((HB8.out.alloc HB8.out.size (.cells #[.int .i64 2, .int .i64 3, .int .i64 4] 3)).trans (hb9.mono (by have := HB8.out.size; simp; omega)))
  clear hb9
  go_wp2
  go_ret
  exact ⟨rfl, HB9.out⟩
end Go.Proofs.Ytcacjppdcmghjaa
