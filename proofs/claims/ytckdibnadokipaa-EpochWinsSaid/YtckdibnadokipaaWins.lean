/-
  WHAT IS PROVED: the law EpochWins answers true for all arguments, which read behind the call as before it (an epoch is taken for one's own slots just if it is known, and above the one they have). No condition beyond those of the given row.
-/
import Derived.Test.YtckdibnadokipaaBump
import Derived.Test.YtckdibnadokipaaCases
namespace Go.Proofs.Ytckdibnadokipaa
open Go.RowKit Go.Lib Go.ChangeShapes Go.WideShapes Go.ChangeAt Go.WideElems

set_option maxHeartbeats 2000000 in
theorem winslaw_any (r : Ep) (n : Int) (W : World) :
    Calls Try.prog 6 #[vEp r, .int .i64 n] W (Says true W) := by
  have hcase := win_cases r n
  obtain ⟨a, HA⟩ : ∃ a, Hid (winE r n = a) := ⟨_, Lib.hid rfl⟩
  obtain ⟨f, HF⟩ : ∃ f, Hid (winF r n = f) := ⟨_, Lib.hid rfl⟩
  obtain ⟨b1, B1⟩ : ∃ b, Hid (okB r = b) := ⟨_, Lib.hid rfl⟩
  obtain ⟨b2, B2⟩ : ∃ b, Hid (upB n 281474976710656 = b) := ⟨_, Lib.hid rfl⟩
  rw [HA.out, HF.out, B1.out, B2.out] at hcase
  have HC := Lib.hid hcase
  have SA := fun w => same_ep ⟨0, 0, 0⟩ ⟨0, 0, 0⟩ w
  have SB := fun w => same_ep ⟨r.cur, r.vote, n⟩ ⟨r.cur, r.vote, n⟩ w
  simp only [decide_true] at SA SB
  clear hcase
  go_enter Try.func6, Try.ntmps6
  go_wp2_with (fail)
  refine (anchor_any _).mono ?_
  rintro e w1 ⟨rfl, hb1⟩
  have K1 := Lib.hid ((Bx.new W r rfl).later hb1)
  have HB1 := Lib.hid (((Below.refl _ W).alloc (Nat.le_refl _) _).trans (hb1.mono (by simp)))
  obtain ⟨a0, a1, a2⟩ := K1.out.box
  clear hb1
  go_wp2_with (fail)
  refine (win_any r n _).mono ?_
  rintro e w2 ⟨rfl, hb2⟩
  rw [HA.out, HF.out]
  have HB2 := Lib.hid (below_new (HB1.out.trans (hb2.mono HB1.out.size)) (Nat.le_trans HB1.out.size hb2.size) (.cells #[.int .i64 a.cur, .int .i64 a.vote, .int .i64 a.conf] 23))
  have K2 := Lib.hid ((K1.out.later hb2).alloc (.cells #[.int .i64 a.cur, .int .i64 a.vote, .int .i64 a.conf] 23))
  have L2 := Lib.hid (Bx.new w2 a rfl)
  obtain ⟨c0, c1, c2⟩ := K2.out.box
  obtain ⟨c3, c4, c5⟩ := (K1.out.later hb2).box
  clear hb2 a0 a1 a2
  go_wp2_with (fail)
  refine (lawright_any r _).mono ?_
  rintro e w3 ⟨rfl, hb3⟩
  rw [B1.out]
  have HB3 := Lib.hid (HB2.out.trans (hb3.mono HB2.out.size))
  obtain ⟨d0, d1, d2⟩ := (K2.out.later hb3).box
  obtain ⟨g0, g1, g2⟩ := (L2.out.later hb3).box
  clear hb3 c0 c1 c2 c3 c4 c5
  rcases HC.out with ⟨rfl, rfl, rfl⟩ | ⟨rfl, rfl, rfl, rfl⟩ | ⟨rfl, rfl, h1, rfl, rfl⟩ | ⟨rfl, rfl, h1, h2, rfl, rfl⟩ | ⟨rfl, rfl, h1, h2, rfl, rfl⟩
  · go_wp2
    go_ret
    exact ⟨rfl, HB3.out⟩
  all_goals
    go_wp2_with (fail)
    refine (num_any n _).mono ?_
    rintro e w4 ⟨rfl, rfl⟩
    rw [B2.out]
    go_wp2
    go_ret
    exact ⟨rfl, HB3.out⟩

theorem wins_lifted (os : Os) (started : os.Started) (H : Type) (enc : TypeId × Value → H) :
    ReturnsInHanded {} Try.checked os 6 .any (Rows.epochWinsSpec.pre6 enc Try.prog Try.f6 Rows.epochWinsRow.domain false) (Rows.epochWinsSpec.post enc Try.prog Try.f6 false true false false) := by
  refine returnsInHanded_of_change (C := Try.checked) own started (by kernel_rfl) Try.func6
    (ChangeSpec.witness6 (enc := enc) (C := Try.checked) false ⟨#[], #[.agg #[.int .i64 0, .int .i64 0, .int .i64 0], .int .i64 0], []⟩ 8 (by kernel_rfl) (by kernel_rfl) (by kernel_rfl) (by kernel_rfl)) ?_
  intro W base args ds gs before hval0 hW _ _
  have hval : ∀ (j : Nat) t v, Try.f6.params[j]? = some t → args[j]? = some v → Value.okWide Try.prog W .any base t v := hval0
  have hW' := hW
  obtain ⟨p, q, hA0, hV, rfl, _, _⟩ := hW
  have hA : DataW.TrodAll enc Try.prog W 0 (fun _ => true) true Try.f6.params.toList args.toList ds p := hA0
  rw [Try.params6] at hA hval
  obtain ⟨v0, vs0, d0, ds0, p0, q0, hargs, rfl, rfl, h0, r0⟩ := trodAll_cons hA
  obtain ⟨v1, vs1, d1, ds1, p1, q1, rfl, rfl, rfl, h1, r1⟩ := trodAll_cons r0
  obtain ⟨rfl, rfl, rfl⟩ := trodAll_nil r1
  obtain rfl : args = #[v0, v1] := by cases args; simp_all
  obtain ⟨rfl, rfl⟩ := trodVars_none hV
  obtain ⟨s0, rfl, hs0⟩ := open_ep (hval 0 23 v0 rfl rfl) h0
  obtain ⟨z1, rfl, rfl, rfl, wz1⟩ := open_int Try.underlying3 (hval 1 3 v1 rfl rfl) h1
  clear hA0
  have hk := winslaw_any s0 z1 W
  exact hk.mono fun e W' ⟨he, hb⟩ => ⟨_, he, law_post laid_ok (by kernel_rfl) rfl Try.underlying4 rfl hW' rfl hb⟩

theorem wins_holds : Rows.EpochWinsSaid :=
  OpenClaim.holds_of_wide 6 Try.f6 rfl rfl rfl rfl rfl rfl rfl ⟨rfl, rfl, rfl, rfl, rfl⟩ rfl rfl rfl rfl rfl (by kernel_rfl) Try.func6 (by kernel_rfl)
    (of_decide_eq_true (by kernel_rfl)) (by unfold Func.isWrapper; first | (rw [if_pos (by decide +kernel)]; kernel_rfl) | (rw [if_neg (by decide +kernel)]; exact ⟨rfl, rfl⟩))
    (fun os started H enc _ => wins_lifted os started H enc)
end Go.Proofs.Ytckdibnadokipaa
