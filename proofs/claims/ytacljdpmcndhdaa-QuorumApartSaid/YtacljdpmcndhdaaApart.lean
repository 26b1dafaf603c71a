/-
  WHAT IS PROVED: the law QuorumApart answers true for all arguments, which read behind the call as before it (of voters who grant to one of two each at most one comes to a majority). No condition beyond those of the given row.
-/
import Derived.Test.YtacljdpmcndhdaaArg
namespace Go.Proofs.Ytacljdpmcndhdaa
open Go.RowKit Go.Lib Go.ChangeShapes Go.WideShapes Go.ChangeAt Go.WideElems

/-- both tallies can't be won by unlike voters -/
theorem apart_won {vs : List Int} {cs : List Bool} (k : Nat) (h : k ≤ vs.length) : ¬ (wonB (sorted vs) (sel vs cs true k) = true ∧ wonB (sorted vs) (sel vs cs false k) = true) := by
  intro ⟨h1, h2⟩
  unfold wonB at h1 h2
  rw [decide_eq_true_eq, sorted_len] at h1 h2
  have := sel_both vs cs k
  omega
theorem ok_fresh {vs gs : List Int} {z : Int} (h1 : z ∈ vs) (h2 : z ∉ gs) : addG (sorted vs) gs z = gs ++ [z] := by unfold addG; rw [if_pos ⟨mem_sorted.2 h1, h2⟩]

set_option maxRecDepth 100000 in
set_option maxHeartbeats 4000000 in
theorem apart_in (r1 r2 : Bool) (A B : Option Addr) (n c m d : Nat) (vs : List Int) (cs : List Bool) (W : World) (hnc : n ≤ c) (hc : c ≤ 9223372036854775807) (hn : n ≤ 16) (hm : m ≤ 60) (hra : Arg W A n vs) (hrb : ArgB W B m cs) (hr : rightB vs = true)
    (HA : Hid (wonB (sorted vs) (sel vs cs true n) = r1)) (HB : Hid (wonB (sorted vs) (sel vs cs false n) = r2)) :
    Calls Try.prog 6 #[.slice A n c, .slice B m d] W (Says true W) := by
  have HL := Lib.hid hra.len
  have HLC := Lib.hid hrb.len
  have HR := Lib.hid hr
  have HD : Hid (inInts vs) := ids_in hr
  have HN : Hid vs.Nodup := (right_iff.1 hr).2.1
  clear hr
  go_enter Try.func6, Try.ntmps6
  go_wp2_with (fail)
  refine (anchor_any W).mono ?_
  rintro e w1 ⟨rfl, hb1⟩
  go_wp2_with (fail)
  refine (new_yes A n c vs _ _ hnc hc (hra.now hb1) HR).mono ?_
  rintro e w2 ⟨g, b, rfl, h2, hb2', hg2, hgb2⟩
  have hb2 := hb1.trans (hb2'.mono hb1.size)
  have hWb : W.heap.size ≤ b := Nat.le_trans hb1.size hgb2
  have hlt2 := h2.set.lt
  clear hb1 hb2' hg2 hgb2
  go_wp2_with (fail)
  refine (new_yes A n c vs _ _ hnc hc (hra.now hb2) HR).mono ?_
  rintro e w3 ⟨g', b', rfl, h3, hb3', hg3, hgb3⟩
  have hb3 := hb2.trans (hb3'.mono hb2.size)
  have hWb' : W.heap.size ≤ b' := Nat.le_trans hb2.size hgb3
  have hbb : b ≠ b' := by omega
  have h4 := h2.below hb3'
  have HBB := Lib.hid hbb
  have HWB := Lib.hid hWb
  have HWB2 := Lib.hid hWb'
  clear hb2 hb3' hg3 hgb3 hlt2 h2 hbb hWb hWb'
  go_wp2
  go_loopw [42] (fun i wr => ∃ k : Nat, k ≤ n ∧ i = .int .i64 k ∧ Ty wr g b (sorted vs) (sel vs cs true k) ∧ Ty wr g' b' (sorted vs) (sel vs cs false k) ∧ Below W.heap.size W wr) (fun i _ => n - (intOf i).toNat)
  case atStart => exact ⟨0, by omega, rfl, h4, h3, hb3⟩
  case round =>
    obtain ⟨k, hk, rfl, ht, hf, hb⟩ := hrel
    have HT := Lib.hid ht
    have HF := Lib.hid hf
    have HBe := Lib.hid hb
    by_cases hlt : k < n
    · obtain ⟨ad, u, rfl, hu, hcell⟩ := (hra.now hb).at_ hlt
      obtain ⟨z, hz, rfl⟩ := zints_at hu
      have hzb := HD.out z (List.mem_of_getElem? hz)
      have hzm := List.mem_of_getElem? hz
      clear hu
      by_cases hkm : k < m
      · obtain ⟨adb, u, rfl, hu, hcellb⟩ := (hrb.now hb).at_ hkm
        obtain ⟨y, hy, rfl⟩ := bools_at hu
        clear hu ht hf hb
        cases y
        · have HX := Lib.hid ((ok_fresh hzm (sel_fresh (cs := cs) (c := false) HN.out hz)).trans (sel_yes hz hy).symm)
          have HY := Lib.hid (sel_no (c := true) hz hy (by decide))
          clear hz hy hzm
          go_wp2_with (fail)
          refine (grant_any g' b' _ _ z _ HF.out hzb).mono ?_
          rintro e w4 ⟨rfl, h5, hg5⟩
          rw [HX.out] at h5
          have h6 := HT.out.other HF.out HBB.out hg5
          rw [← HY.out] at h6
          have hb5 := HBe.out.trans (below_of_only hg5 HBe.out.size HWB2.out)
          go_wp2
          go_roundw
          case rel => exact ⟨k + 1, by omega, by go_num, h6, h5, hb5⟩
          case measure => simp [intOf]; omega
        · have HX := Lib.hid ((ok_fresh hzm (sel_fresh (cs := cs) (c := true) HN.out hz)).trans (sel_yes hz hy).symm)
          have HY := Lib.hid (sel_no (c := false) hz hy (by decide))
          clear hz hy hzm
          go_wp2_with (fail)
          refine (grant_any g b _ _ z _ HT.out hzb).mono ?_
          rintro e w4 ⟨rfl, h5, hg5⟩
          rw [HX.out] at h5
          have h6 := HF.out.other HT.out (Ne.symm HBB.out) hg5
          rw [← HY.out] at h6
          have hb5 := HBe.out.trans (below_of_only hg5 HBe.out.size HWB.out)
          go_wp2
          go_roundw
          case rel => exact ⟨k + 1, by omega, by go_num, h5, h6, hb5⟩
          case measure => simp [intOf]; omega
      · have HX : Hid (sel vs cs true (k + 1) = sel vs cs true k) := sel_past (by have := HLC.out; omega)
        have HY : Hid (sel vs cs false (k + 1) = sel vs cs false k) := sel_past (by have := HLC.out; omega)
        clear hz hzm ht hf hb
        go_wp2
        go_roundw
        case rel => exact ⟨k + 1, by omega, by go_num, by rw [HX.out]; exact HT.out, by rw [HY.out]; exact HF.out, HBe.out⟩
        case measure => simp [intOf]; omega
    · obtain rfl : k = n := by omega
      have HS : Hid ((sel vs cs true k).length + (sel vs cs false k).length = min k m) := by
        show _ = _
        rw [sel_both, HL.out, HLC.out]; omega
      have HAP := Lib.hid (apart_won (vs := vs) (cs := cs) k (by rw [HL.out]; exact Nat.le_refl _))
      obtain ⟨a1, q1⟩ : ∃ a : Nat, Hid ((sel vs cs true k).length = a) := ⟨_, Lib.hid rfl⟩
      obtain ⟨a2, q2⟩ : ∃ a : Nat, Hid ((sel vs cs false k).length = a) := ⟨_, Lib.hid rfl⟩
      have hsum := HS.out
      rw [q1.out, q2.out] at hsum
      clear ht hf hb
      have hE : ((a1 : Int) + a2 == min (k : Int) (m : Int)) = true := by rw [beq_iff_eq]; omega
      have h1 : a1 ≤ 16 := by omega
      have h2 : a2 ≤ 16 := by omega
      clear hsum
      · go_wp2_with (fail)
        refine (won_any g b _ _ _ HT.out).mono ?_
        rintro e w4 ⟨rfl, q, rfl⟩
        rw [HA.out]
        have ht4 := HT.out.below (below_drewN (Below.refl _ _) q)
        have hf4 := HF.out.below (below_drewN (Below.refl _ _) q)
        have hb4 := below_drewN HBe.out q
        generalize wr.drewN q = w4 at *
        cases r1
        · go_wp2_with (fail)
          refine (count_any g b _ _ _ ht4).mono ?_
          rintro e w5 ⟨rfl, rfl⟩
          rw [q1.out]
          go_wp2_with (fail)
          refine (count_any g' b' _ _ _ hf4).mono ?_
          rintro e w6 ⟨rfl, rfl⟩
          rw [q2.out]
          go_wp2
          go_ret
          exact ⟨rfl, hb4⟩
        · cases r2
          · go_wp2_with (fail)
            refine (won_any g' b' _ _ _ hf4).mono ?_
            rintro e w5 ⟨rfl, q', rfl⟩
            rw [HB.out]
            have ht5 := ht4.below (below_drewN (Below.refl _ _) q')
            have hf5 := hf4.below (below_drewN (Below.refl _ _) q')
            have hb5 := below_drewN hb4 q'
            clear ht4 hf4 hb4
            generalize w4.drewN q' = w5 at *
            go_wp2_with (fail)
            refine (count_any g b _ _ _ ht5).mono ?_
            rintro e w5 ⟨rfl, rfl⟩
            rw [q1.out]
            go_wp2_with (fail)
            refine (count_any g' b' _ _ _ hf5).mono ?_
            rintro e w6 ⟨rfl, rfl⟩
            rw [q2.out]
            go_wp2
            go_ret
            exact ⟨rfl, hb5⟩
          · exact absurd ⟨HA.out, HB.out⟩ HAP.out

set_option maxHeartbeats 1000000 in
theorem apart_any (A B : Option Addr) (n c m d : Nat) (vs : List Int) (cs : List Bool) (W : World) (hnc : n ≤ c) (hc : c ≤ 9223372036854775807) (hra : Arg W A n vs) (hrb : ArgB W B m cs) :
    Calls Try.prog 6 #[.slice A n c, .slice B m d] W (Says true W) := by
  by_cases h : n ≤ 16 ∧ m ≤ 60
  · by_cases hr : rightB vs = true
    · exact apart_in _ _ A B n c m d vs cs W hnc hc h.1 h.2 hra hrb hr (Lib.hid rfl) (Lib.hid rfl)
    · have HR : Hid (rightB vs = false) := by show _ = _; simpa using hr
      obtain ⟨h1, h2⟩ := h
      clear hr
      go_enter Try.func6, Try.ntmps6
      go_wp2_with (fail)
      refine (anchor_any W).mono ?_
      rintro e w1 ⟨rfl, hb1⟩
      go_wp2_with (fail)
      refine (new_no A n c vs _ _ hnc hc (hra.now hb1) HR).mono ?_
      rintro e w2 ⟨rfl, rfl⟩
      go_wp2_with (fail)
      refine (new_no A n c vs _ _ hnc hc (hra.now hb1) HR).mono ?_
      rintro e w2 ⟨rfl, rfl⟩
      go_wp2
      go_ret
      exact ⟨rfl, hb1⟩
  · have h2 : (16 : Int) < n ∨ ((n : Int) ≤ 16 ∧ (60 : Int) < m) := by omega
    clear h
    rcases h2 with h | ⟨h1, h2⟩
    all_goals
      go_enter Try.func6, Try.ntmps6
      go_wp2_with (fail)
      refine (anchor_any W).mono ?_
      rintro e w1 ⟨rfl, hb1⟩
      go_wp2
      go_ret
      exact ⟨rfl, hb1⟩

theorem apart_lifted (os : Os) (started : os.Started) (H : Type) (enc : TypeId × Value → H) :
    ReturnsInHanded {} Try.checked os 6 .any (Rows.quorumApartSpec.pre6 enc Try.prog Try.f6 Rows.quorumApartRow.domain false) (Rows.quorumApartSpec.post enc Try.prog Try.f6 false true false false) := by
  refine returnsInHanded_of_change (C := Try.checked) own started (by kernel_rfl) Try.func6
    (ChangeSpec.witness6 (enc := enc) (C := Try.checked) false ⟨#[], #[.slice none 0 0, .slice none 0 0], []⟩ 8 (by kernel_rfl) (by kernel_rfl) (by kernel_rfl) (by kernel_rfl)) ?_
  intro W base args ds gs before hval0 hW _ _
  have hval : ∀ (j : Nat) t v, Try.f6.params[j]? = some t → args[j]? = some v → Value.okWide Try.prog W .any base t v := hval0
  have hW' := hW
  obtain ⟨p, q, hA0, hV, rfl, _, _⟩ := hW
  have hA : DataW.TrodAll enc Try.prog W 0 (fun _ => true) true Try.f6.params.toList args.toList ds p := hA0
  rw [Try.params6] at hA hval
  obtain ⟨v0, vs0, d0, ds0, p0, q0, hargs, rfl, rfl, h0, r0⟩ := trodAll_cons hA
  obtain ⟨v1, vs1, d1, ds1, p1, q1, rfl, rfl, rfl, h1, r1⟩ := trodAll_cons r0
  obtain ⟨rfl, rfl, rfl⟩ := trodAll_nil r1
  obtain rfl : args = #[v0, v1] := by cases args; simp_all
  obtain ⟨rfl, rfl⟩ := trodVars_none hV
  obtain ⟨A0, n0, c0, l0, rfl, hl0, hc0, hm0, hr0, hz0⟩ := open_zints Try.underlying25 Try.underlying3 cells_int (hval 0 25 v0 rfl rfl) h0
  obtain ⟨A1, n1, c1, l1, rfl, hc1, hm1, hr1⟩ := open_bools (hval 1 36 v1 rfl rfl) h1
  clear hA0
  have hk := apart_any A0 A1 n0 c0 n1 c1 l0 l1 W hc0 hm0 hr0 hr1
  exact hk.mono fun e W' ⟨he, hb⟩ => ⟨_, he, law_post laid_ok (by kernel_rfl) rfl Try.underlying4 rfl hW' rfl hb⟩

theorem apart_holds : Rows.QuorumApartSaid :=
  OpenClaim.holds_of_wide 6 Try.f6 rfl rfl rfl rfl rfl rfl rfl ⟨rfl, rfl, rfl, rfl, rfl⟩ rfl rfl rfl rfl rfl (by kernel_rfl) Try.func6 (by kernel_rfl)
    (of_decide_eq_true (by kernel_rfl)) (by unfold Func.isWrapper; first | (rw [if_pos (by decide +kernel)]; kernel_rfl) | (rw [if_neg (by decide +kernel)]; exact ⟨rfl, rfl⟩))
    (fun os started H enc _ => apart_lifted os started H enc)

end Go.Proofs.Ytacljdpmcndhdaa
