/-
  WHAT IS PROVED: the contract of Majority. Condition: none beyond the arguments' reading.
-/
import Derived.Test.YtmjbacmaafbdlaaNew
namespace Go.Proofs.Ytmjbacmaafbdlaa
open Go.RowKit Go.Lib Go.Maps

def inInts (l : List Int) : Prop := ∀ x ∈ l, -9223372036854775808 ≤ x ∧ x ≤ 9223372036854775807
theorem ids_in {l : List Int} (h : rightB l = true) : inInts l := fun x hx => by have := (right_iff.1 h).2.2 x hx; omega
theorem won_maj {vs ys : List Int} (h : rightB vs = true) : wonB (sorted vs) (gAll (sorted vs) ys) = majB vs ys := by
  have hn := (right_iff.1 h).2.1
  rw [maj_right h]
  unfold wonB
  rw [sorted_len, len_gAll ys (sorted_nodup hn), yes_perm (sorted_perm vs) (fun _ => Iff.rfl)]

set_option maxRecDepth 100000 in
set_option maxHeartbeats 1000000 in
theorem maj_any (A B : Option Addr) (n c m d : Nat) (vs ys : List Int) (w : World) (hnc : n ≤ c) (hc : c ≤ 9223372036854775807) (hmd : m ≤ 9223372036854775807)
    (hr : Reads w w.heap.size A n (zints vs)) (hr2 : Reads w w.heap.size B m (zints ys)) (hys : inInts ys) :
    Calls Try.prog 22 #[.slice A n c, .slice B m d] w (Says (majB vs ys) w) := by
  by_cases hright : rightB vs = true
  · have HR := Lib.hid hright
    have HW := Lib.hid (won_maj (ys := ys) hright)
    have HY := Lib.hid hys
    have HL := Lib.hid (zlen hr2)
    clear hright hys
    go_enter Try.func22, Try.ntmps22
    go_wp2_with (fail)
    refine (new_yes A n c vs _ _ hnc hc hr HR).mono ?_
    rintro e w1 ⟨g, b, rfl, h1, hb1, hg, hb, _⟩
    have hr3 := hr2.old hb1 hb1.size
    have hs1 := hb1.size
    generalize sorted vs = V at *
    go_wp2
    go_loopw [18] (fun i wr => ∃ k : Nat, k ≤ m ∧ i = .int .i64 k ∧ Ty wr g b V (gAll V (ys.take k)) ∧ Below w.heap.size w wr) (fun i _ => m - (intOf i).toNat)
    case atStart => exact ⟨0, by omega, rfl, h1, hb1⟩
    case round =>
      obtain ⟨k, hk, rfl, h2, hb2⟩ := hrel
      by_cases hlt : k < m
      · obtain ⟨ad, u, rfl, hu, hc⟩ := (hr2.old hb2 hb2.size).at_ hlt
        obtain ⟨z, hz, rfl⟩ := zints_at hu
        have hzb := HY.out z (List.mem_of_getElem? hz)
        have HX : Hid (gAll V (ys.take (k + 1)) = addG V (gAll V (ys.take k)) z) := by show _ = _; rw [takeZ_snoc hz, gAll_snoc]
        clear hu hz
        generalize gAll V (ys.take k) = G at *
        go_wp2_with (fail)
        refine (grant_any g b V G z _ h2 hzb).mono ?_
        rintro e w2 ⟨rfl, h3, hg3⟩
        have hb3 : Below w.heap.size w w2 := hb2.trans (below_of_only hg3 hb2.size hb)
        rw [← HX.out] at h3
        clear hb2 h2 hg3 hc
        go_wp2
        go_roundw
        case rel => exact ⟨k + 1, by omega, by go_num, h3, hb3⟩
        case measure => simp [intOf]; omega
      · obtain rfl : k = m := by omega
        have HT : Hid (ys.take k = ys) := List.take_of_length_le (by rw [HL.out]; exact Nat.le_refl _)
        rw [HT.out] at h2
        generalize gAll V ys = G at *
        go_wp2_with (fail)
        refine (won_any g b V G _ h2).mono ?_
        rintro e w2 ⟨rfl, q, rfl⟩
        rw [HW.out]
        go_wp2
        go_ret
        exact ⟨rfl, below_drewN hb2 q⟩
  · have HR : Hid (rightB vs = false) := by show _ = _; simpa using hright
    have HM := Lib.hid (maj_bad (ys := ys) HR.out)
    clear hright
    go_enter Try.func22, Try.ntmps22
    go_wp2_with (fail)
    refine (new_no A n c vs _ _ hnc hc hr HR).mono ?_
    rintro e w1 ⟨rfl, rfl⟩
    go_wp2
    go_ret
    exact ⟨by rw [HM.out]; rfl, Below.refl _ _⟩

end Go.Proofs.Ytmjbacmaafbdlaa
