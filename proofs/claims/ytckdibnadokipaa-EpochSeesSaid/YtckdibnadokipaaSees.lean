/-
  WHAT IS PROVED: the law EpochSees answers true for all arguments, which read behind the call as before it (epochs are right just if the document says so; an epoch that is seen is taken over if it is greater). No condition beyond those of the given row.
-/
import Derived.Test.YtckdibnadokipaaBump
import Derived.Test.YtckdibnadokipaaCases
import Derived.Test.YtckdibnadokipaaQuiet
namespace Go.Proofs.Ytckdibnadokipaa
open Go.RowKit Go.Lib Go.ChangeShapes Go.WideShapes Go.ChangeAt Go.WideElems

set_option maxHeartbeats 2000000 in
theorem seeslaw_any (r : Ep) (n : Int) (W : World) :
    Calls Try.prog 3 #[vEp r, .int .i64 n] W (Says true W) := by
  have hcase := see_cases r n
  obtain ⟨a, HA⟩ : ∃ a, Hid (seeE r n = a) := ⟨_, Lib.hid rfl⟩
  obtain ⟨f, HF⟩ : ∃ f, Hid (seeF r n = f) := ⟨_, Lib.hid rfl⟩
  obtain ⟨b1, B1⟩ : ∃ b, Hid (okB r = b) := ⟨_, Lib.hid rfl⟩
  obtain ⟨b2, B2⟩ : ∃ b, Hid (upB n 281474976710656 = b) := ⟨_, Lib.hid rfl⟩
  rw [HA.out, HF.out, B1.out, B2.out] at hcase
  have HC := Lib.hid hcase
  have SA := fun w => same_ep ⟨0, 0, 0⟩ ⟨0, 0, 0⟩ w
  have SB := fun w => same_ep ⟨max r.cur n, r.vote, r.conf⟩ ⟨max r.cur n, r.vote, r.conf⟩ w
  simp only [decide_true] at SA SB
  have RA : Hid (∀ W, Calls Try.prog 14 #[vEp r] W (Says b1 W)) := fun W => by have h := right_any r W; rwa [B1.out] at h
  have RB : Hid (∀ W, Calls Try.prog 15 #[vEp r] W (Says b1 W)) := fun W => by have h := lawright_any r W; rwa [B1.out] at h
  clear hcase
  go_enter Try.func3, Try.ntmps3
  go_wp2_with (fail)
  refine (anchor_any _).mono ?_
  rintro e w1 ⟨rfl, hb1⟩
  have K1 := Lib.hid ((Bx.new W r rfl).later hb1)
  have HB1 := Lib.hid (((Below.refl _ W).alloc (Nat.le_refl _) _).trans (hb1.mono (by simp)))
  obtain ⟨a0, a1, a2⟩ := K1.out.box
  clear hb1
  go_wp2_with (fail)
  refine (see_any r n _).mono ?_
  rintro e w2 ⟨rfl, hb2⟩
  rw [HA.out, HF.out]
  have HB2 := Lib.hid (below_new (HB1.out.trans (hb2.mono HB1.out.size)) (Nat.le_trans HB1.out.size hb2.size) (.cells #[.int .i64 a.cur, .int .i64 a.vote, .int .i64 a.conf] 23))
  have K2 := Lib.hid ((K1.out.later hb2).alloc (.cells #[.int .i64 a.cur, .int .i64 a.vote, .int .i64 a.conf] 23))
  have L2 := Lib.hid (Bx.new w2 a rfl)
  have hq0 : ∀ p : Later (w2.alloc (.cells #[.int .i64 a.cur, .int .i64 a.vote, .int .i64 a.conf] 23)), p.now.cell? ⟨W.heap.size, 0, none⟩ = some (.int .i64 r.cur) := fun p => p.cell K2.out.c0
  have hq1 : ∀ p : Later (w2.alloc (.cells #[.int .i64 a.cur, .int .i64 a.vote, .int .i64 a.conf] 23)), p.now.cell? ⟨W.heap.size, 1, none⟩ = some (.int .i64 r.vote) := fun p => p.cell K2.out.c1
  have hq2 : ∀ p : Later (w2.alloc (.cells #[.int .i64 a.cur, .int .i64 a.vote, .int .i64 a.conf] 23)), p.now.cell? ⟨W.heap.size, 2, none⟩ = some (.int .i64 r.conf) := fun p => p.cell K2.out.c2
  clear hb2 a0 a1 a2
  go_wp2
  refine wp_region_later (by kernel_rfl) (by kernel_rfl) ?_
  repeat (quiet_step (first | (go_at_call 14; exact Later.calls (RA.out _)) | (go_at_call 15; exact Later.calls (RB.out _))))
  refine wpQuiet_nil ?_
  intro _ hw'
  obtain ⟨pq, hw''⟩ := hw'
  subst hw''
  have hb3 := pq.below
  have K3 := Lib.hid (K2.out.later hb3)
  have L3 := Lib.hid (L2.out.later hb3)
  have HB3 := Lib.hid (HB2.out.trans (hb3.mono HB2.out.size))
  clear hb3 hq0 hq1 hq2
  obtain ⟨w3, e3⟩ : ∃ w3, pq.now = w3 := ⟨_, rfl⟩
  rw [e3] at K3 L3 HB3 ⊢
  obtain ⟨d0, d1, d2⟩ := K3.out.box
  clear e3
  rcases HC.out with ⟨rfl, rfl, rfl⟩ | ⟨rfl, rfl, rfl, rfl⟩ | ⟨rfl, rfl, rfl, rfl⟩
  all_goals
    go_wp2_with (fail)
    refine (lawright_any r _).mono ?_
    rintro e w4 ⟨rfl, hb4⟩
    rw [B1.out]
    have HB4 := Lib.hid (HB3.out.trans (hb4.mono HB3.out.size))
    obtain ⟨k0, k1, k2⟩ := (K3.out.later hb4).box
    obtain ⟨l0, l1, l2⟩ := (L3.out.later hb4).box
    clear hb4 d0 d1 d2
  · go_wp2
    go_ret
    exact ⟨rfl, HB4.out⟩
  all_goals
    go_wp2_with (fail)
    refine (num_any n _).mono ?_
    rintro e w5 ⟨rfl, rfl⟩
    rw [B2.out]
    go_wp2
    go_ret
    exact ⟨rfl, HB4.out⟩

theorem sees_lifted (os : Os) (started : os.Started) (H : Type) (enc : TypeId × Value → H) :
    ReturnsInHanded {} Try.checked os 3 .any (Rows.epochSeesSpec.pre6 enc Try.prog Try.f3 Rows.epochSeesRow.domain false) (Rows.epochSeesSpec.post enc Try.prog Try.f3 false true false false) := by
  refine returnsInHanded_of_change (C := Try.checked) own started (by kernel_rfl) Try.func3
    (ChangeSpec.witness6 (enc := enc) (C := Try.checked) false ⟨#[], #[.agg #[.int .i64 0, .int .i64 0, .int .i64 0], .int .i64 0], []⟩ 8 (by kernel_rfl) (by kernel_rfl) (by kernel_rfl) (by kernel_rfl)) ?_
  intro W base args ds gs before hval0 hW _ _
  have hval : ∀ (j : Nat) t v, Try.f3.params[j]? = some t → args[j]? = some v → Value.okWide Try.prog W .any base t v := hval0
  have hW' := hW
  obtain ⟨p, q, hA0, hV, rfl, _, _⟩ := hW
  have hA : DataW.TrodAll enc Try.prog W 0 (fun _ => true) true Try.f3.params.toList args.toList ds p := hA0
  rw [Try.params3] at hA hval
  obtain ⟨v0, vs0, d0, ds0, p0, q0, hargs, rfl, rfl, h0, r0⟩ := trodAll_cons hA
  obtain ⟨v1, vs1, d1, ds1, p1, q1, rfl, rfl, rfl, h1, r1⟩ := trodAll_cons r0
  obtain ⟨rfl, rfl, rfl⟩ := trodAll_nil r1
  obtain rfl : args = #[v0, v1] := by cases args; simp_all
  obtain ⟨rfl, rfl⟩ := trodVars_none hV
  obtain ⟨s0, rfl, hs0⟩ := open_ep (hval 0 23 v0 rfl rfl) h0
  obtain ⟨z1, rfl, rfl, rfl, wz1⟩ := open_int Try.underlying3 (hval 1 3 v1 rfl rfl) h1
  clear hA0
  have hk := seeslaw_any s0 z1 W
  exact hk.mono fun e W' ⟨he, hb⟩ => ⟨_, he, law_post laid_ok (by kernel_rfl) rfl Try.underlying4 rfl hW' rfl hb⟩

theorem sees_holds : Rows.EpochSeesSaid :=
  OpenClaim.holds_of_wide 3 Try.f3 rfl rfl rfl rfl rfl rfl rfl ⟨rfl, rfl, rfl, rfl, rfl⟩ rfl rfl rfl rfl rfl (by kernel_rfl) Try.func3 (by kernel_rfl)
    (of_decide_eq_true (by kernel_rfl)) (by unfold Func.isWrapper; first | (rw [if_pos (by decide +kernel)]; kernel_rfl) | (rw [if_neg (by decide +kernel)]; exact ⟨rfl, rfl⟩))
    (fun os started H enc _ => sees_lifted os started H enc)
end Go.Proofs.Ytckdibnadokipaa
