/-
  WHAT IS PROVED: the law RankFresh answers true for all arguments, which read behind the call as before it (data are fresh just up to ten times the timeout). No condition beyond those of the given row.
-/
import Derived.Test.YtdeppjoehnlbnaaAnchor
namespace Go.Proofs.Ytdeppjoehnlbnaa
open Go.RowKit Go.Lib Go.Sort Go.ChangeShapes Go.WideShapes Go.ChangeAt Go.WideElems

set_option maxHeartbeats 1000000 in
theorem freshlaw_any (a t : Int) (W : World) :
    Calls Try.prog 6 #[.int .i64 a, .int .i64 t] W (Says true W) := by
  by_cases h1 : 1 ≤ t
  · by_cases h2 : t ≤ 1073741824
    · by_cases h3 : 0 ≤ a
      · obtain ⟨b, HB⟩ : ∃ b, Hid (decide (a ≤ 10 * t) = b) := ⟨_, Lib.hid rfl⟩
        have HX : Hid (decide (1 ≤ t ∧ t ≤ 1073741824 ∧ 0 ≤ a ∧ a ≤ 10 * t) = b) := by show _ = _; rw [← HB.out]; simp [h1, h2, h3]
        have hb := HB.out
        go_enter Try.func6, Try.ntmps6
        go_wp2_with (fail)
        refine (anchor_any W).mono ?_
        rintro e w1 ⟨rfl, hb1⟩
        go_wp2_with (fail)
        refine (fresh_any a t _).mono ?_
        rintro e w2 ⟨rfl, rfl⟩
        rw [HX.out]
        cases b
        all_goals (go_wp2; go_ret; exact ⟨rfl, hb1⟩)
      · have HX : Hid (decide (1 ≤ t ∧ t ≤ 1073741824 ∧ 0 ≤ a ∧ a ≤ 10 * t) = false) := by show _ = _; simp; omega
        have h5 : decide (0 ≤ a) = false := by simp; omega
        clear h3
        go_enter Try.func6, Try.ntmps6
        go_wp2_with (fail)
        refine (anchor_any W).mono ?_
        rintro e w1 ⟨rfl, hb1⟩
        go_wp2_with (fail)
        refine (fresh_any a t _).mono ?_
        rintro e w2 ⟨rfl, rfl⟩
        rw [HX.out]
        go_wp2
        go_ret
        exact ⟨rfl, hb1⟩
    · have HX : Hid (decide (1 ≤ t ∧ t ≤ 1073741824 ∧ 0 ≤ a ∧ a ≤ 10 * t) = false) := by show _ = _; simp; omega
      have h5 : decide (t ≤ 1073741824) = false := by simp; omega
      clear h2
      go_enter Try.func6, Try.ntmps6
      go_wp2_with (fail)
      refine (anchor_any W).mono ?_
      rintro e w1 ⟨rfl, hb1⟩
      go_wp2_with (fail)
      refine (fresh_any a t _).mono ?_
      rintro e w2 ⟨rfl, rfl⟩
      rw [HX.out]
      go_wp2
      go_ret
      exact ⟨rfl, hb1⟩
  · have HX : Hid (decide (1 ≤ t ∧ t ≤ 1073741824 ∧ 0 ≤ a ∧ a ≤ 10 * t) = false) := by show _ = _; simp; omega
    have h5 : decide (1 ≤ t) = false := by simp; omega
    clear h1
    go_enter Try.func6, Try.ntmps6
    go_wp2_with (fail)
    refine (anchor_any W).mono ?_
    rintro e w1 ⟨rfl, hb1⟩
    go_wp2_with (fail)
    refine (fresh_any a t _).mono ?_
    rintro e w2 ⟨rfl, rfl⟩
    rw [HX.out]
    go_wp2
    go_ret
    exact ⟨rfl, hb1⟩

theorem fresh_lifted (os : Os) (started : os.Started) (H : Type) (enc : TypeId × Value → H) :
    ReturnsInHanded {} Try.checked os 6 .any (Rows.rankFreshSpec.pre6 enc Try.prog Try.f6 Rows.rankFreshRow.domain false) (Rows.rankFreshSpec.post enc Try.prog Try.f6 false true false false) := by
  refine returnsInHanded_of_change (C := Try.checked) own started (by kernel_rfl) Try.func6
    (ChangeSpec.witness6 (enc := enc) (C := Try.checked) false ⟨#[], #[.int .i64 0, .int .i64 0], []⟩ 8 (by kernel_rfl) (by kernel_rfl) (by kernel_rfl) (by kernel_rfl)) ?_
  intro W base args ds gs before hval0 hW _ _
  have hval : ∀ (j : Nat) t v, Try.f6.params[j]? = some t → args[j]? = some v → Value.okWide Try.prog W .any base t v := hval0
  have hW' := hW
  obtain ⟨p, q, hA0, hV, rfl, _, _⟩ := hW
  have hA : DataW.TrodAll enc Try.prog W 0 (fun _ => true) true Try.f6.params.toList args.toList ds p := hA0
  rw [Try.params6] at hA hval
  obtain ⟨v0, vs0, d0, ds0, p0, q0, hargs, rfl, rfl, h0, r0⟩ := trodAll_cons hA
  obtain ⟨v1, vs1, d1, ds1, p1, q1, rfl, rfl, rfl, h1, r1⟩ := trodAll_cons r0
  obtain ⟨rfl, rfl, rfl⟩ := trodAll_nil r1
  obtain rfl : args = #[v0, v1] := by cases args; simp_all
  obtain ⟨rfl, rfl⟩ := trodVars_none hV
  obtain ⟨z0, rfl, rfl, rfl, wz0⟩ := open_int Try.underlying3 (hval 0 3 v0 rfl rfl) h0
  obtain ⟨z1, rfl, rfl, rfl, wz1⟩ := open_int Try.underlying3 (hval 1 3 v1 rfl rfl) h1
  clear hA0
  have hk := freshlaw_any z0 z1 W
  exact hk.mono fun e W' ⟨he, hb⟩ => ⟨_, he, law_post laid_ok (by kernel_rfl) rfl Try.underlying4 rfl hW' rfl hb⟩

theorem fresh_holds : Rows.RankFreshSaid :=
  OpenClaim.holds_of_wide 6 Try.f6 rfl rfl rfl rfl rfl rfl rfl ⟨rfl, rfl, rfl, rfl, rfl⟩ rfl rfl rfl rfl rfl (by kernel_rfl) Try.func6 (by kernel_rfl)
    (of_decide_eq_true (by kernel_rfl)) (by unfold Func.isWrapper; first | (rw [if_pos (by decide +kernel)]; kernel_rfl) | (rw [if_neg (by decide +kernel)]; exact ⟨rfl, rfl⟩))
    (fun os started H enc _ => fresh_lifted os started H enc)

end Go.Proofs.Ytdeppjoehnlbnaa
