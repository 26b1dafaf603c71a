/-
  WHAT IS PROVED: the law EpochGrants answers true for all arguments, which read behind the call as before it (a vote is given just in an epoch above the last one that was voted in, and not below the current one). No condition beyond those of the given row.
-/
import Derived.Test.YtckdibnadokipaaBump
import Derived.Test.YtckdibnadokipaaCases
namespace Go.Proofs.Ytckdibnadokipaa
open Go.RowKit Go.Lib Go.ChangeShapes Go.WideShapes Go.ChangeAt Go.WideElems

theorem grant_twice {r : Ep} {n : Int} (h1 : okB r = true) (h2 : upB n 281474976710656 = true) (h4 : decide (n < r.cur) = false) :
    grantE ⟨n, n, r.conf⟩ n = ⟨0, 0, 0⟩ ∧ grantF ⟨n, n, r.conf⟩ n = 22 := by
  rw [ok_iff] at h1
  rw [up_iff] at h2
  simp at h4
  refine grant_late (takes_iff.2 ⟨ok_iff.2 ?_, h2⟩) (.inl (by simp))
  simp
  omega

set_option maxHeartbeats 2000000 in
theorem grantslaw_any (r : Ep) (n : Int) (W : World) :
    Calls Try.prog 5 #[vEp r, .int .i64 n] W (Says true W) := by
  have hcase := grant_cases r n
  obtain ⟨a, HA⟩ : ∃ a, Hid (grantE r n = a) := ⟨_, Lib.hid rfl⟩
  obtain ⟨f, HF⟩ : ∃ f, Hid (grantF r n = f) := ⟨_, Lib.hid rfl⟩
  obtain ⟨b1, B1⟩ : ∃ b, Hid (okB r = b) := ⟨_, Lib.hid rfl⟩
  obtain ⟨b2, B2⟩ : ∃ b, Hid (upB n 281474976710656 = b) := ⟨_, Lib.hid rfl⟩
  rw [HA.out, HF.out, B1.out, B2.out] at hcase
  have HC := Lib.hid hcase
  have SA := fun w => same_ep ⟨0, 0, 0⟩ ⟨0, 0, 0⟩ w
  have SB := fun w => same_ep ⟨n, n, r.conf⟩ ⟨n, n, r.conf⟩ w
  simp only [decide_true] at SA SB
  clear hcase
  go_enter Try.func5, Try.ntmps5
  go_wp2_with (fail)
  refine (anchor_any _).mono ?_
  rintro e w1 ⟨rfl, hb1⟩
  have K1 := Lib.hid ((Bx.new W r rfl).later hb1)
  have HB1 := Lib.hid (((Below.refl _ W).alloc (Nat.le_refl _) _).trans (hb1.mono (by simp)))
  obtain ⟨a0, a1, a2⟩ := K1.out.box
  clear hb1
  go_wp2_with (fail)
  refine (grant_any r n _).mono ?_
  rintro e w2 ⟨rfl, hb2⟩
  rw [HA.out, HF.out]
  have HB2 := Lib.hid (below_new (HB1.out.trans (hb2.mono HB1.out.size)) (Nat.le_trans HB1.out.size hb2.size) (.cells #[.int .i64 a.cur, .int .i64 a.vote, .int .i64 a.conf] 23))
  have K2 := Lib.hid ((K1.out.later hb2).alloc (.cells #[.int .i64 a.cur, .int .i64 a.vote, .int .i64 a.conf] 23))
  have L2 := Lib.hid (Bx.new w2 a rfl)
  obtain ⟨c0, c1, c2⟩ := K2.out.box
  obtain ⟨c3, c4, c5⟩ := (K1.out.later hb2).box
  clear hb2 a0 a1 a2
  go_wp2_with (fail)
  refine (lawright_any r _).mono ?_
  rintro e w3 ⟨rfl, hb3⟩
  rw [B1.out]
  have HB3 := Lib.hid (HB2.out.trans (hb3.mono HB2.out.size))
  have L3 := Lib.hid (L2.out.later hb3)
  have K3 := Lib.hid (K2.out.later hb3)
  obtain ⟨d0, d1, d2⟩ := K3.out.box
  obtain ⟨g0, g1, g2⟩ := L3.out.box
  clear hb3 c0 c1 c2 c3 c4 c5
  rcases HC.out with ⟨rfl, rfl, rfl⟩ | ⟨rfl, rfl, rfl, rfl⟩ | ⟨rfl, rfl, h1, rfl, rfl⟩ | ⟨rfl, rfl, h1, h2, rfl, rfl⟩ | ⟨rfl, rfl, h1, h2, rfl, rfl⟩
  · go_wp2
    go_ret
    exact ⟨rfl, HB3.out⟩
  iterate 3
    · go_wp2_with (fail)
      refine (num_any n _).mono ?_
      rintro e w4 ⟨rfl, rfl⟩
      rw [B2.out]
      go_wp2
      go_ret
      exact ⟨rfl, HB3.out⟩
  · have G := Lib.hid (grant_twice B1.out B2.out h2)
    go_wp2_with (fail)
    refine (num_any n _).mono ?_
    rintro e w4 ⟨rfl, rfl⟩
    rw [B2.out]
    go_wp2_with (fail)
    refine (grant_any ⟨n, n, r.conf⟩ n _).mono ?_
    rintro e w4 ⟨rfl, hb4⟩
    rw [G.out.1, G.out.2]
    have HB4 := Lib.hid (below_new (HB3.out.trans (hb4.mono HB3.out.size)) (Nat.le_trans HB3.out.size hb4.size) (.cells #[.int .i64 0, .int .i64 0, .int .i64 0] 23))
    have L4 := (L3.out.later hb4).alloc (.cells #[.int .i64 0, .int .i64 0, .int .i64 0] 23)
    have K4 := (K3.out.later hb4).alloc (.cells #[.int .i64 0, .int .i64 0, .int .i64 0] 23)
    obtain ⟨k0, k1, k2⟩ := K4.box
    obtain ⟨l0, l1, l2⟩ := L4.box
    obtain ⟨m0, m1, m2⟩ := (L3.out.later hb4).box
    obtain ⟨n0, n1, n2⟩ := (K3.out.later hb4).box
    clear hb4 d0 d1 d2 g0 g1 g2 L4 K4
    go_wp2
    go_ret
    exact ⟨rfl, HB4.out⟩

theorem grants_lifted (os : Os) (started : os.Started) (H : Type) (enc : TypeId × Value → H) :
    ReturnsInHanded {} Try.checked os 5 .any (Rows.epochGrantsSpec.pre6 enc Try.prog Try.f5 Rows.epochGrantsRow.domain false) (Rows.epochGrantsSpec.post enc Try.prog Try.f5 false true false false) := by
  refine returnsInHanded_of_change (C := Try.checked) own started (by kernel_rfl) Try.func5
    (ChangeSpec.witness6 (enc := enc) (C := Try.checked) false ⟨#[], #[.agg #[.int .i64 0, .int .i64 0, .int .i64 0], .int .i64 0], []⟩ 8 (by kernel_rfl) (by kernel_rfl) (by kernel_rfl) (by kernel_rfl)) ?_
  intro W base args ds gs before hval0 hW _ _
  have hval : ∀ (j : Nat) t v, Try.f5.params[j]? = some t → args[j]? = some v → Value.okWide Try.prog W .any base t v := hval0
  have hW' := hW
  obtain ⟨p, q, hA0, hV, rfl, _, _⟩ := hW
  have hA : DataW.TrodAll enc Try.prog W 0 (fun _ => true) true Try.f5.params.toList args.toList ds p := hA0
  rw [Try.params5] at hA hval
  obtain ⟨v0, vs0, d0, ds0, p0, q0, hargs, rfl, rfl, h0, r0⟩ := trodAll_cons hA
  obtain ⟨v1, vs1, d1, ds1, p1, q1, rfl, rfl, rfl, h1, r1⟩ := trodAll_cons r0
  obtain ⟨rfl, rfl, rfl⟩ := trodAll_nil r1
  obtain rfl : args = #[v0, v1] := by cases args; simp_all
  obtain ⟨rfl, rfl⟩ := trodVars_none hV
  obtain ⟨s0, rfl, hs0⟩ := open_ep (hval 0 23 v0 rfl rfl) h0
  obtain ⟨z1, rfl, rfl, rfl, wz1⟩ := open_int Try.underlying3 (hval 1 3 v1 rfl rfl) h1
  clear hA0
  have hk := grantslaw_any s0 z1 W
  exact hk.mono fun e W' ⟨he, hb⟩ => ⟨_, he, law_post laid_ok (by kernel_rfl) rfl Try.underlying4 rfl hW' rfl hb⟩

theorem grants_holds : Rows.EpochGrantsSaid :=
  OpenClaim.holds_of_wide 5 Try.f5 rfl rfl rfl rfl rfl rfl rfl ⟨rfl, rfl, rfl, rfl, rfl⟩ rfl rfl rfl rfl rfl (by kernel_rfl) Try.func5 (by kernel_rfl)
    (of_decide_eq_true (by kernel_rfl)) (by unfold Func.isWrapper; first | (rw [if_pos (by decide +kernel)]; kernel_rfl) | (rw [if_neg (by decide +kernel)]; exact ⟨rfl, rfl⟩))
    (fun os started H enc _ => grants_lifted os started H enc)
end Go.Proofs.Ytckdibnadokipaa
