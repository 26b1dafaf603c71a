/-
  WHAT IS PROVED: the law RankDelays answers true for all arguments, which read behind the call as before it (how long a rank waits; a lower rank never waits as long as a higher one). No condition beyond those of the given row.
-/
import Derived.Test.YtdeppjoehnlbnaaAnchor
namespace Go.Proofs.Ytdeppjoehnlbnaa
open Go.RowKit Go.Lib Go.Sort Go.ChangeShapes Go.WideShapes Go.ChangeAt Go.WideElems

/-- what Delay answers -/
def Delayed (a x p e : Int) : Prop := ((0 ≤ a ∧ a < 16 ∧ 0 ≤ x) ∧ p = 500 + x % 500 + 1000 * a ∧ e = 0) ∨ (¬ (0 ≤ a ∧ a < 16 ∧ 0 ≤ x) ∧ p = 0 ∧ e = 10)
theorem delay_any (a x : Int) : ∃ p e : Int, Hid (Delayed a x p e) ∧ Hid (∀ w, Calls Try.prog 15 #[.int .i64 a, .int .i64 x] w fun en w' => en = .returned (.tuple #[.int .i64 p, .int .i64 e]) ∧ w = w') := by
  by_cases h : 0 ≤ a ∧ a < 16 ∧ 0 ≤ x
  · exact ⟨_, _, Lib.hid (.inl ⟨h, rfl, rfl⟩), Lib.hid fun w => delay_yes a x w h.1 h.2.1 h.2.2⟩
  · exact ⟨_, _, Lib.hid (.inr ⟨h, rfl, rfl⟩), Lib.hid fun w => delay_no a x w h⟩

set_option maxHeartbeats 1000000 in
theorem delays_any (a x b y : Int) (W : World) :
    Calls Try.prog 5 #[.int .i64 a, .int .i64 x, .int .i64 b, .int .i64 y] W (Says true W) := by
  obtain ⟨q, f, HQ, HC⟩ := delay_any b y
  by_cases h : 0 ≤ a ∧ a < 16 ∧ 0 ≤ x
  · obtain ⟨h1, h2, h3⟩ := h
    have g1 : decide (a < 0) = false := by simp; omega
    have g2 : decide (15 < a) = false := by simp; omega
    have g3 : decide (x < 0) = false := by simp; omega
    have h4 : 0 ≤ x % 500 := by omega
    have h5 : x % 500 < 500 := by omega
    by_cases hf : f = 0
    · subst hf
      have hq : q = 500 + y % 500 + 1000 * b := by
        rcases HQ.out with ⟨_, h, _⟩ | ⟨_, _, h⟩
        · exact h
        · cases h
      by_cases hab : b ≤ a
      · clear hq
        go_enter Try.func5, Try.ntmps5
        go_wp2_with (fail)
        refine (anchor_any W).mono ?_
        rintro e w1 ⟨rfl, hb1⟩
        go_wp2_with (fail)
        refine (delay_yes a x _ h1 h2 h3).mono ?_
        rintro e w2 ⟨rfl, rfl⟩
        go_wp2_with (fail)
        refine (HC.out _).mono ?_
        rintro e w2 ⟨rfl, rfl⟩
        go_wp2
        go_ret
        exact ⟨rfl, hb1⟩
      · have hab' : decide (b ≤ a) = false := by simp; omega
        have hlt : 500 + x % 500 + 1000 * a < q := by omega
        clear hq hab
        go_enter Try.func5, Try.ntmps5
        go_wp2_with (fail)
        refine (anchor_any W).mono ?_
        rintro e w1 ⟨rfl, hb1⟩
        go_wp2_with (fail)
        refine (delay_yes a x _ h1 h2 h3).mono ?_
        rintro e w2 ⟨rfl, rfl⟩
        go_wp2_with (fail)
        refine (HC.out _).mono ?_
        rintro e w2 ⟨rfl, rfl⟩
        go_wp2
        go_ret
        exact ⟨rfl, hb1⟩
    · have hf' : (f != 0) = true := by simpa using hf
      clear hf
      go_enter Try.func5, Try.ntmps5
      go_wp2_with (fail)
      refine (anchor_any W).mono ?_
      rintro e w1 ⟨rfl, hb1⟩
      go_wp2_with (fail)
      refine (delay_yes a x _ h1 h2 h3).mono ?_
      rintro e w2 ⟨rfl, rfl⟩
      go_wp2_with (fail)
      refine (HC.out _).mono ?_
      rintro e w2 ⟨rfl, rfl⟩
      go_wp2
      go_ret
      exact ⟨rfl, hb1⟩
  · have HN : Hid (∀ w, Calls Try.prog 15 #[.int .i64 a, .int .i64 x] w fun e w' => e = .returned (.tuple #[.int .i64 0, .int .i64 10]) ∧ w = w') := fun w => delay_no a x w h
    have hcase : (a < 0) ∨ (decide (a < 0) = false ∧ 15 < a) ∨ (decide (a < 0) = false ∧ decide (15 < a) = false ∧ x < 0) := by
      rcases Int.lt_or_le a 0 with g | g
      · exact .inl g
      · refine .inr ?_
        rcases Int.lt_or_le 15 a with g2 | g2
        · exact .inl ⟨by simp; omega, g2⟩
        · exact .inr ⟨by simp; omega, by simp; omega, by omega⟩
    clear h
    go_enter Try.func5, Try.ntmps5
    go_wp2_with (fail)
    refine (anchor_any W).mono ?_
    rintro e w1 ⟨rfl, hb1⟩
    go_wp2_with (fail)
    refine (HN.out _).mono ?_
    rintro e w2 ⟨rfl, rfl⟩
    go_wp2_with (fail)
    refine (HC.out _).mono ?_
    rintro e w2 ⟨rfl, rfl⟩
    rcases hcase with g | ⟨g, g2⟩ | ⟨g, g2, g3⟩
    all_goals (go_wp2; go_ret; exact ⟨rfl, hb1⟩)

theorem delays_lifted (os : Os) (started : os.Started) (H : Type) (enc : TypeId × Value → H) :
    ReturnsInHanded {} Try.checked os 5 .any (Rows.rankDelaysSpec.pre6 enc Try.prog Try.f5 Rows.rankDelaysRow.domain false) (Rows.rankDelaysSpec.post enc Try.prog Try.f5 false true false false) := by
  refine returnsInHanded_of_change (C := Try.checked) own started (by kernel_rfl) Try.func5
    (ChangeSpec.witness6 (enc := enc) (C := Try.checked) false ⟨#[], #[.int .i64 0, .int .i64 0, .int .i64 0, .int .i64 0], []⟩ 8 (by kernel_rfl) (by kernel_rfl) (by kernel_rfl) (by kernel_rfl)) ?_
  intro W base args ds gs before hval0 hW _ _
  have hval : ∀ (j : Nat) t v, Try.f5.params[j]? = some t → args[j]? = some v → Value.okWide Try.prog W .any base t v := hval0
  have hW' := hW
  obtain ⟨p, q, hA0, hV, rfl, _, _⟩ := hW
  have hA : DataW.TrodAll enc Try.prog W 0 (fun _ => true) true Try.f5.params.toList args.toList ds p := hA0
  rw [Try.params5] at hA hval
  obtain ⟨v0, vs0, d0, ds0, p0, q0, hargs, rfl, rfl, h0, r0⟩ := trodAll_cons hA
  obtain ⟨v1, vs1, d1, ds1, p1, q1, rfl, rfl, rfl, h1, r1⟩ := trodAll_cons r0
  obtain ⟨v2, vs2, d2, ds2, p2, q2, rfl, rfl, rfl, h2, r2⟩ := trodAll_cons r1
  obtain ⟨v3, vs3, d3, ds3, p3, q3, rfl, rfl, rfl, h3, r3⟩ := trodAll_cons r2
  obtain ⟨rfl, rfl, rfl⟩ := trodAll_nil r3
  obtain rfl : args = #[v0, v1, v2, v3] := by cases args; simp_all
  obtain ⟨rfl, rfl⟩ := trodVars_none hV
  obtain ⟨z0, rfl, rfl, rfl, wz0⟩ := open_int Try.underlying3 (hval 0 3 v0 rfl rfl) h0
  obtain ⟨z1, rfl, rfl, rfl, wz1⟩ := open_int Try.underlying3 (hval 1 3 v1 rfl rfl) h1
  obtain ⟨z2, rfl, rfl, rfl, wz2⟩ := open_int Try.underlying3 (hval 2 3 v2 rfl rfl) h2
  obtain ⟨z3, rfl, rfl, rfl, wz3⟩ := open_int Try.underlying3 (hval 3 3 v3 rfl rfl) h3
  clear hA0
  have hk := delays_any z0 z1 z2 z3 W
  exact hk.mono fun e W' ⟨he, hb⟩ => ⟨_, he, law_post laid_ok (by kernel_rfl) rfl Try.underlying4 rfl hW' rfl hb⟩

theorem delays_holds : Rows.RankDelaysSaid :=
  OpenClaim.holds_of_wide 5 Try.f5 rfl rfl rfl rfl rfl rfl rfl ⟨rfl, rfl, rfl, rfl, rfl⟩ rfl rfl rfl rfl rfl (by kernel_rfl) Try.func5 (by kernel_rfl)
    (of_decide_eq_true (by kernel_rfl)) (by unfold Func.isWrapper; first | (rw [if_pos (by decide +kernel)]; kernel_rfl) | (rw [if_neg (by decide +kernel)]; exact ⟨rfl, rfl⟩))
    (fun os started H enc _ => delays_lifted os started H enc)

end Go.Proofs.Ytdeppjoehnlbnaa
