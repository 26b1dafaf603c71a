/-
  WHAT IS PROVED: the law EpochYields answers true for all arguments, which read behind the call as before it (of two masters with one epoch just one must bump; with two epochs none). No condition beyond those of the given row.
-/
import Derived.Test.YtckdibnadokipaaBump
namespace Go.Proofs.Ytckdibnadokipaa
open Go.RowKit Go.Lib Go.ChangeShapes Go.WideShapes Go.ChangeAt Go.WideElems

set_option maxHeartbeats 1000000 in
theorem yieldslaw_any (i o m t : Int) (W : World) :
    Calls Try.prog 7 #[.int .i64 i, .int .i64 o, .int .i64 m, .int .i64 t] W (Says true W) := by
  by_cases h : m = t
  · subst h
    rcases Int.lt_trichotomy i o with h1 | h1 | h1
    · have E1 : Hid (yieldB i o m m = true) := yield_iff.2 (by omega)
      have E2 : Hid (yieldB o i m m = false) := yield_no.2 (by omega)
      have t1 : (i == o) = false := by rw [beq_eq_false_iff_ne]; omega
      go_enter Try.func7, Try.ntmps7
      go_wp2_with (fail)
      refine (anchor_any W).mono ?_
      rintro e w1 ⟨rfl, hb1⟩
      go_wp2_with (fail)
      refine (yields_any i o m m _).mono ?_
      rintro e w2 ⟨rfl, rfl⟩
      rw [E1.out]
      go_wp2_with (fail)
      refine (yields_any o i m m _).mono ?_
      rintro e w2 ⟨rfl, rfl⟩
      rw [E2.out]
      go_wp2
      go_ret
      exact ⟨rfl, hb1⟩
    · subst h1
      have E1 : Hid (yieldB i i m m = false) := yield_no.2 (by omega)
      go_enter Try.func7, Try.ntmps7
      go_wp2_with (fail)
      refine (anchor_any W).mono ?_
      rintro e w1 ⟨rfl, hb1⟩
      go_wp2_with (fail)
      refine (yields_any i i m m _).mono ?_
      rintro e w2 ⟨rfl, rfl⟩
      rw [E1.out]
      go_wp2_with (fail)
      refine (yields_any i i m m _).mono ?_
      rintro e w2 ⟨rfl, rfl⟩
      rw [E1.out]
      go_wp2
      go_ret
      exact ⟨rfl, hb1⟩
    · have E1 : Hid (yieldB i o m m = false) := yield_no.2 (by omega)
      have E2 : Hid (yieldB o i m m = true) := yield_iff.2 (by omega)
      have t1 : (i == o) = false := by rw [beq_eq_false_iff_ne]; omega
      have t2 : decide (i < o) = false := by simp; omega
      clear h1
      go_enter Try.func7, Try.ntmps7
      go_wp2_with (fail)
      refine (anchor_any W).mono ?_
      rintro e w1 ⟨rfl, hb1⟩
      go_wp2_with (fail)
      refine (yields_any i o m m _).mono ?_
      rintro e w2 ⟨rfl, rfl⟩
      rw [E1.out]
      go_wp2_with (fail)
      refine (yields_any o i m m _).mono ?_
      rintro e w2 ⟨rfl, rfl⟩
      rw [E2.out]
      go_wp2
      go_ret
      exact ⟨rfl, hb1⟩
  · have E1 : Hid (yieldB i o m t = false) := yield_no.2 (by omega)
    have E2 : Hid (yieldB o i t m = false) := yield_no.2 (by omega)
    have t1 : (m != t) = true := by simpa using h
    clear h
    go_enter Try.func7, Try.ntmps7
    go_wp2_with (fail)
    refine (anchor_any W).mono ?_
    rintro e w1 ⟨rfl, hb1⟩
    go_wp2_with (fail)
    refine (yields_any i o m t _).mono ?_
    rintro e w2 ⟨rfl, rfl⟩
    rw [E1.out]
    go_wp2_with (fail)
    refine (yields_any o i t m _).mono ?_
    rintro e w2 ⟨rfl, rfl⟩
    rw [E2.out]
    go_wp2
    go_ret
    exact ⟨rfl, hb1⟩

theorem yields_lifted (os : Os) (started : os.Started) (H : Type) (enc : TypeId × Value → H) :
    ReturnsInHanded {} Try.checked os 7 .any (Rows.epochYieldsSpec.pre6 enc Try.prog Try.f7 Rows.epochYieldsRow.domain false) (Rows.epochYieldsSpec.post enc Try.prog Try.f7 false true false false) := by
  refine returnsInHanded_of_change (C := Try.checked) own started (by kernel_rfl) Try.func7
    (ChangeSpec.witness6 (enc := enc) (C := Try.checked) false ⟨#[], #[.int .i64 0, .int .i64 0, .int .i64 0, .int .i64 0], []⟩ 8 (by kernel_rfl) (by kernel_rfl) (by kernel_rfl) (by kernel_rfl)) ?_
  intro W base args ds gs before hval0 hW _ _
  have hval : ∀ (j : Nat) t v, Try.f7.params[j]? = some t → args[j]? = some v → Value.okWide Try.prog W .any base t v := hval0
  have hW' := hW
  obtain ⟨p, q, hA0, hV, rfl, _, _⟩ := hW
  have hA : DataW.TrodAll enc Try.prog W 0 (fun _ => true) true Try.f7.params.toList args.toList ds p := hA0
  rw [Try.params7] at hA hval
  obtain ⟨v0, vs0, d0, ds0, p0, q0, hargs, rfl, rfl, h0, r0⟩ := trodAll_cons hA
  obtain ⟨v1, vs1, d1, ds1, p1, q1, rfl, rfl, rfl, h1, r1⟩ := trodAll_cons r0
  obtain ⟨v2, vs2, d2, ds2, p2, q2, rfl, rfl, rfl, h2, r2⟩ := trodAll_cons r1
  obtain ⟨v3, vs3, d3, ds3, p3, q3, rfl, rfl, rfl, h3, r3⟩ := trodAll_cons r2
  obtain ⟨rfl, rfl, rfl⟩ := trodAll_nil r3
  obtain rfl : args = #[v0, v1, v2, v3] := by cases args; simp_all
  obtain ⟨rfl, rfl⟩ := trodVars_none hV
  obtain ⟨z0, rfl, rfl, rfl, wz0⟩ := open_int Try.underlying3 (hval 0 3 v0 rfl rfl) h0
  obtain ⟨z1, rfl, rfl, rfl, wz1⟩ := open_int Try.underlying3 (hval 1 3 v1 rfl rfl) h1
  obtain ⟨z2, rfl, rfl, rfl, wz2⟩ := open_int Try.underlying3 (hval 2 3 v2 rfl rfl) h2
  obtain ⟨z3, rfl, rfl, rfl, wz3⟩ := open_int Try.underlying3 (hval 3 3 v3 rfl rfl) h3
  clear hA0
  have hk := yieldslaw_any z0 z1 z2 z3 W
  exact hk.mono fun e W' ⟨he, hb⟩ => ⟨_, he, law_post laid_ok (by kernel_rfl) rfl Try.underlying4 rfl hW' rfl hb⟩

theorem yields_holds : Rows.EpochYieldsSaid :=
  OpenClaim.holds_of_wide 7 Try.f7 rfl rfl rfl rfl rfl rfl rfl ⟨rfl, rfl, rfl, rfl, rfl⟩ rfl rfl rfl rfl rfl (by kernel_rfl) Try.func7 (by kernel_rfl)
    (of_decide_eq_true (by kernel_rfl)) (by unfold Func.isWrapper; first | (rw [if_pos (by decide +kernel)]; kernel_rfl) | (rw [if_neg (by decide +kernel)]; exact ⟨rfl, rfl⟩))
    (fun os started H enc _ => yields_lifted os started H enc)
end Go.Proofs.Ytckdibnadokipaa
