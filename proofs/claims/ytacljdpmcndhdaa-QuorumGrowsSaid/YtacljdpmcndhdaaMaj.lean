/-
  WHAT IS PROVED: the contract of Majority, and that the laws' common anchor (the document's example) answers true. Condition: none beyond the arguments' reading.
-/
import Derived.Test.YtacljdpmcndhdaaNew
namespace Go.Proofs.Ytacljdpmcndhdaa
open Go.RowKit Go.Lib Go.Maps

def inInts (l : List Int) : Prop := ∀ x ∈ l, -9223372036854775808 ≤ x ∧ x ≤ 9223372036854775807
theorem ids_in {l : List Int} (h : rightB l = true) : inInts l := fun x hx => by have := (right_iff.1 h).2.2 x hx; omega
theorem won_maj {vs ys : List Int} (h : rightB vs = true) : wonB (sorted vs) (gAll (sorted vs) ys) = majB vs ys := by
  have hn := (right_iff.1 h).2.1
  rw [maj_right h]
  unfold wonB
  rw [sorted_len, len_gAll ys (sorted_nodup hn), yes_perm (sorted_perm vs) (fun _ => Iff.rfl)]

set_option maxRecDepth 100000 in
set_option maxHeartbeats 1000000 in
theorem maj_any (A B : Option Addr) (n c m d : Nat) (vs ys : List Int) (w : World) (hnc : n ≤ c) (hc : c ≤ 9223372036854775807) (hmd : m ≤ 9223372036854775807)
    (hr : Reads w w.heap.size A n (zints vs)) (hr2 : Reads w w.heap.size B m (zints ys)) (hys : inInts ys) :
    Calls Try.prog 16 #[.slice A n c, .slice B m d] w (Says (majB vs ys) w) := by
  by_cases hright : rightB vs = true
  · have HR := Lib.hid hright
    have HW := Lib.hid (won_maj (ys := ys) hright)
    have HY := Lib.hid hys
    have HL := Lib.hid (zlen hr2)
    clear hright hys
    go_enter Try.func16, Try.ntmps16
    go_wp2_with (fail)
    refine (new_yes A n c vs _ _ hnc hc hr HR).mono ?_
    rintro e w1 ⟨g, b, rfl, h1, hb1, hg, hb⟩
    have hr3 := hr2.old hb1 hb1.size
    have hs1 := hb1.size
    generalize sorted vs = V at *
    go_wp2
    go_loopw [18] (fun i wr => ∃ k : Nat, k ≤ m ∧ i = .int .i64 k ∧ Ty wr g b V (gAll V (ys.take k)) ∧ Below w.heap.size w wr) (fun i _ => m - (intOf i).toNat)
    case atStart => exact ⟨0, by omega, rfl, h1, hb1⟩
    case round =>
      obtain ⟨k, hk, rfl, h2, hb2⟩ := hrel
      by_cases hlt : k < m
      · obtain ⟨ad, u, rfl, hu, hc⟩ := (hr2.old hb2 hb2.size).at_ hlt
        obtain ⟨z, hz, rfl⟩ := zints_at hu
        have hzb := HY.out z (List.mem_of_getElem? hz)
        have HX : Hid (gAll V (ys.take (k + 1)) = addG V (gAll V (ys.take k)) z) := by show _ = _; rw [takeZ_snoc hz, gAll_snoc]
        clear hu hz
        generalize gAll V (ys.take k) = G at *
        go_wp2_with (fail)
        refine (grant_any g b V G z _ h2 hzb).mono ?_
        rintro e w2 ⟨rfl, h3, hg3⟩
        have hb3 : Below w.heap.size w w2 := hb2.trans (below_of_only hg3 hb2.size hb)
        rw [← HX.out] at h3
        clear hb2 h2 hg3 hc
        go_wp2
        go_roundw
        case rel => exact ⟨k + 1, by omega, by go_num, h3, hb3⟩
        case measure => simp [intOf]; omega
      · obtain rfl : k = m := by omega
        have HT : Hid (ys.take k = ys) := List.take_of_length_le (by rw [HL.out]; exact Nat.le_refl _)
        rw [HT.out] at h2
        generalize gAll V ys = G at *
        go_wp2_with (fail)
        refine (won_any g b V G _ h2).mono ?_
        rintro e w2 ⟨rfl, q, rfl⟩
        rw [HW.out]
        go_wp2
        go_ret
        exact ⟨rfl, below_drewN hb2 q⟩
  · have HR : Hid (rightB vs = false) := by show _ = _; simpa using hright
    have HM := Lib.hid (maj_bad (ys := ys) HR.out)
    clear hright
    go_enter Try.func16, Try.ntmps16
    go_wp2_with (fail)
    refine (new_no A n c vs _ _ hnc hc hr HR).mono ?_
    rintro e w1 ⟨rfl, rfl⟩
    go_wp2
    go_ret
    exact ⟨by rw [HM.out]; rfl, Below.refl _ _⟩

set_option maxRecDepth 100000 in
set_option maxHeartbeats 1000000 in
theorem anchor_any (w : World) : Calls Try.prog 11 #[] w (Says true w) := by
  have HR := Lib.hid (show rightB [1, 2, 3] = true by decide +kernel)
  have HS := Lib.hid (show sorted [1, 2, 3] = [1, 2, 3] by unfold sorted; exact List.mergeSort_of_pairwise (by decide))
  have HN := Lib.hid (show needZ 4 = 3 by decide +kernel)
  have E1 := Lib.hid (show okG [1, 2, 3] [] 2 = true by decide +kernel)
  have F1 := Lib.hid (show addG [1, 2, 3] [] 2 = [2] by decide +kernel)
  have E2 := Lib.hid (show okG [1, 2, 3] [2] 2 = false by decide +kernel)
  have F2 := Lib.hid (show addG [1, 2, 3] [2] 2 = [2] by decide +kernel)
  have E3 := Lib.hid (show okG [1, 2, 3] [2] 9 = false by decide +kernel)
  have F3 := Lib.hid (show addG [1, 2, 3] [2] 9 = [2] by decide +kernel)
  have E4 := Lib.hid (show wonB [1, 2, 3] [2] = false by decide +kernel)
  have E5 := Lib.hid (show okG [1, 2, 3] [2] 3 = true by decide +kernel)
  have F5 := Lib.hid (show addG [1, 2, 3] [2] 3 = [2, 3] by decide +kernel)
  have E6 := Lib.hid (show wonB [1, 2, 3] [2, 3] = true by decide +kernel)
  go_enter Try.func11, Try.ntmps11
  go_wp2_with (fail)
  have hblk := Blk.new w 3 #[.int .i64 1, .int .i64 2, .int .i64 3]
  have hr : Reads (w.alloc (.cells #[.int .i64 1, .int .i64 2, .int .i64 3] 3)) (w.alloc (.cells #[.int .i64 1, .int .i64 2, .int .i64 3] 3)).heap.size (some ⟨w.heap.size, 0, none⟩) 3 (zints [1, 2, 3]) :=
    ⟨rfl, fun _ => ⟨_, rfl, hblk.lt, Nat.ne_of_lt hblk.lt, fun j u hu => by
      have ha : (⟨w.heap.size, 0, none⟩ : Addr).add j = ⟨w.heap.size, j, none⟩ := by unfold Addr.add; split <;> simp_all
      rw [ha, hblk.cell]
      simpa [zints] using hu⟩⟩
  refine (new_yes _ 3 3 [1, 2, 3] _ _ (Nat.le_refl _) (by omega) hr HR).mono ?_
  rintro e w1 ⟨g, b, rfl, h1, hb1, hg, hb⟩
  rw [HS.out] at h1
  have hb2 : Below w.heap.size w w1 := ((Below.refl _ _).alloc (Nat.le_refl _) _).trans (hb1.mono (by simp))
  have hgb : w.heap.size ≤ b := by simp at hb; omega
  have HB := Lib.hid hgb
  clear hb1 hr hblk hg hb hgb
  go_wp2_with (fail)
  refine (need_any 4 _ (by decide)).mono ?_
  rintro e w2 ⟨rfl, rfl⟩
  rw [HN.out]
  go_wp2_with (fail)
  refine (grant_any g b _ _ 2 _ h1 (by decide)).mono ?_
  rintro e w2 ⟨rfl, h2, hg2⟩
  rw [E1.out]
  rw [F1.out] at h2
  have hb3 := hb2.trans (below_of_only hg2 hb2.size HB.out)
  clear hg2 h1 hb2
  go_wp2_with (fail)
  refine (grant_any g b _ _ 2 _ h2 (by decide)).mono ?_
  rintro e w3 ⟨rfl, h3, hg3⟩
  rw [E2.out]
  rw [F2.out] at h3
  have hb4 := hb3.trans (below_of_only hg3 hb3.size HB.out)
  clear hg3 h2 hb3
  go_wp2_with (fail)
  refine (grant_any g b _ _ 9 _ h3 (by decide)).mono ?_
  rintro e w4 ⟨rfl, h4, hg4⟩
  rw [E3.out]
  rw [F3.out] at h4
  have hb5 := hb4.trans (below_of_only hg4 hb4.size HB.out)
  clear hg4 h3 hb4
  go_wp2_with (fail)
  refine (won_any g b _ _ _ h4).mono ?_
  rintro e w5 ⟨rfl, q, rfl⟩
  rw [E4.out]
  have h5 := h4.below (below_drewN (Below.refl _ _) q)
  have hb6 := below_drewN hb5 q
  generalize w4.drewN q = w5 at *
  clear hb5 h4
  go_wp2_with (fail)
  refine (grant_any g b _ _ 3 _ h5 (by decide)).mono ?_
  rintro e w6 ⟨rfl, h6, hg6⟩
  rw [E5.out]
  rw [F5.out] at h6
  have hb7 := hb6.trans (below_of_only hg6 hb6.size HB.out)
  clear hg6 h5 hb6
  go_wp2_with (fail)
  refine (won_any g b _ _ _ h6).mono ?_
  rintro e w7 ⟨rfl, q, rfl⟩
  rw [E6.out]
  go_wp2
  go_ret
  exact ⟨rfl, below_drewN hb7 q⟩
end Go.Proofs.Ytacljdpmcndhdaa
