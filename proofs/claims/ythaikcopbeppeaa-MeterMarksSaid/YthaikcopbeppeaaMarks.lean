/-
  WHAT IS PROVED: the law MeterMarks answers true for all arguments, which read behind the call as before it (the greatest mark is the greatest of all that were marked and 0; each that is told to be one is above all ahead of it). No condition beyond those of the given row.
-/
import Derived.Test.YthaikcopbeppeaaAnchor
import Derived.Test.YthaikcopbeppeaaInts
namespace Go.Proofs.Ythaikcopbeppeaa
open Go.RowKit Go.Lib Go.ChangeShapes Go.WideShapes Go.ChangeAt Go.WideElems

/-- a meter of which the greatest mark alone is used -/
def marked (h : Int) : St := ⟨fun _ => 0, h, false, 0⟩
theorem okM_marked (h z : Int) : (marked h).okM z = decide (h < z) := rfl
theorem mark_more {h z : Int} (e : h < z) : (marked h).mark z = marked z := by unfold St.mark; rw [okM_marked, decide_eq_true e]; rfl
theorem mark_less {h z : Int} (e : ¬ h < z) : (marked h).mark z = marked h := by unfold St.mark; rw [okM_marked, decide_eq_false e]; rfl

set_option maxRecDepth 100000 in
set_option maxHeartbeats 2000000 in
theorem marks_any (A : Option Addr) (n cap : Nat) (zs : List Int) (W : World) (hl : zs.length = n) (hr : ∀ g, W.heap.size ≤ g → Reads W g A n (zints zs)) (hz : ∀ z ∈ zs, -9223372036854775808 ≤ z ∧ z ≤ 9223372036854775807) :
    Calls Try.prog 5 #[.slice A n cap] W (Says true W) := by
  by_cases hn : n ≤ 300
  · go_enter Try.func5, Try.ntmps5
    go_wp2_with (fail)
    refine (anchor_any W).mono ?_
    rintro e w1 ⟨rfl, hb1⟩
    go_wp2_with (fail)
    refine (new_any _).mono ?_
    rintro e w2 ⟨rfl, h2, hb2⟩
    have hb3 : Below W.heap.size W w2 := hb1.trans (hb2.mono hb1.size)
    have hg0 := hb1.size
    clear hb2 hb1
    go_wp2
    go_loopw [4, 15] (fun h i wr => ∃ (k : Nat) (x : Int), k ≤ n ∧ i = .int .i64 k ∧ h = .int .i64 x ∧ 0 ≤ x ∧ x ≤ 9223372036854775807 ∧ Me wr w1.heap.size (marked x) ∧ Below W.heap.size W wr) (fun _ i _ => n - (intOf i).toNat)
    case atStart => exact ⟨0, 0, by omega, rfl, rfl, by omega, by omega, h2, hb3⟩
    case round =>
      obtain ⟨k, x, hk, rfl, rfl, hx0, hx1, hm, hb⟩ := hrel
      by_cases hlt : k < n
      · obtain ⟨ad, u, rfl, hu, hc⟩ := ((hr W.heap.size (Nat.le_refl _)).below hb).at_ hlt
        obtain ⟨z, hz1, rfl⟩ := zints_at hu
        have hzb := hz z (List.mem_of_getElem? hz1)
        have hz2 : z ≤ 9223372036854775807 := hzb.2
        clear hu hz1 hzb
        by_cases hxz : x < z
        · have E1 := Lib.hid (show (marked x).okM z = true by rw [okM_marked, decide_eq_true hxz])
          have E2 := Lib.hid (mark_more hxz)
          go_wp2_with (fail)
          refine (mark_any _ _ z _ hm hz2).mono ?_
          rintro e w4 ⟨rfl, h4, hg4⟩
          rw [E1.out]
          rw [E2.out] at h4
          have hb4 : Below W.heap.size W w4 := hb.trans (below_of_only hg4 hb.size hg0)
          clear hg4 hm hb E1 E2
          go_wp2_with (fail)
          refine (high_any _ _ _ h4).mono ?_
          rintro e w5 ⟨rfl, h5, hg5⟩
          have hb5 : Below W.heap.size W w5 := hb4.trans (below_of_only hg5 hb4.size hg0)
          clear hg5 h4 hb4
          simp only [marked]
          go_wp2
          go_roundw
          case rel => exact ⟨k + 1, z, by omega, by go_num, rfl, by omega, by omega, h5, hb5⟩
          case measure => simp [intOf]; omega
        · have E1 := Lib.hid (show (marked x).okM z = false by rw [okM_marked, decide_eq_false hxz])
          have E2 := Lib.hid (mark_less hxz)
          have hzx : z ≤ x := by omega
          clear hxz
          go_wp2_with (fail)
          refine (mark_any _ _ z _ hm hz2).mono ?_
          rintro e w4 ⟨rfl, h4, hg4⟩
          rw [E1.out]
          rw [E2.out] at h4
          have hb4 : Below W.heap.size W w4 := hb.trans (below_of_only hg4 hb.size hg0)
          clear hg4 hm hb E1 E2
          go_wp2_with (fail)
          refine (high_any _ _ _ h4).mono ?_
          rintro e w5 ⟨rfl, h5, hg5⟩
          have hb5 : Below W.heap.size W w5 := hb4.trans (below_of_only hg5 hb4.size hg0)
          clear hg5 h4 hb4
          simp only [marked]
          go_wp2
          go_roundw
          case rel => exact ⟨k + 1, x, by omega, by go_num, rfl, by omega, by omega, h5, hb5⟩
          case measure => simp [intOf]; omega
      · obtain rfl : k = n := by omega
        go_wp2
        go_ret
        exact ⟨rfl, hb⟩
  · go_enter Try.func5, Try.ntmps5
    go_wp2_with (fail)
    refine (anchor_any W).mono ?_
    rintro e w1 ⟨rfl, hb1⟩
    go_wp2
    go_ret
    exact ⟨rfl, hb1⟩

theorem marks_lifted (os : Os) (started : os.Started) (H : Type) (enc : TypeId × Value → H) :
    ReturnsInHanded {} Try.checked os 5 .any (Rows.meterMarksSpec.pre6 enc Try.prog Try.f5 Rows.meterMarksRow.domain false) (Rows.meterMarksSpec.post enc Try.prog Try.f5 false true false false) := by
  refine returnsInHanded_of_change (C := Try.checked) own started (by kernel_rfl) Try.func5
    (ChangeSpec.witness6 (enc := enc) (C := Try.checked) false ⟨#[], #[.slice none 0 0], []⟩ 8 (by kernel_rfl) (by kernel_rfl) (by kernel_rfl) (by kernel_rfl)) ?_
  intro W base args ds gs before hval0 hW _ _
  have hval : ∀ (j : Nat) t v, Try.f5.params[j]? = some t → args[j]? = some v → Value.okWide Try.prog W .any base t v := hval0
  have hW' := hW
  obtain ⟨p, q, hA0, hV, rfl, _, _⟩ := hW
  have hA : DataW.TrodAll enc Try.prog W 0 (fun _ => true) true Try.f5.params.toList args.toList ds p := hA0
  rw [Try.params5] at hA hval
  obtain ⟨v0, vs0, d0, ds0, p0, q0, hargs, rfl, rfl, h0, r0⟩ := trodAll_cons hA
  obtain ⟨rfl, rfl, rfl⟩ := trodAll_nil r0
  obtain rfl : args = #[v0] := by cases args; simp_all
  obtain ⟨rfl, rfl⟩ := trodVars_none hV
  obtain ⟨A0, n0, c0, l0, rfl, hl0, hc0, hm0, hr0, hz0⟩ := open_zints Try.underlying37 Try.underlying3 cells_int (hval 0 37 v0 rfl rfl) h0
  clear hA0
  have hk := marks_any A0 n0 c0 l0 W hl0 hr0 hz0
  exact hk.mono fun e W' ⟨he, hb⟩ => ⟨_, he, law_post laid_ok (by kernel_rfl) rfl Try.underlying4 rfl hW' rfl hb⟩

theorem marks_holds : Rows.MeterMarksSaid :=
  OpenClaim.holds_of_wide 5 Try.f5 rfl rfl rfl rfl rfl rfl rfl ⟨rfl, rfl, rfl, rfl, rfl⟩ rfl rfl rfl rfl rfl (by kernel_rfl) Try.func5 (by kernel_rfl)
    (of_decide_eq_true (by kernel_rfl)) (by unfold Func.isWrapper; first | (rw [if_pos (by decide +kernel)]; kernel_rfl) | (rw [if_neg (by decide +kernel)]; exact ⟨rfl, rfl⟩))
    (fun os started H enc _ => marks_lifted os started H enc)

end Go.Proofs.Ythaikcopbeppeaa
