/-
  WHAT IS PROVED: the law EpochStands answers true for all arguments, which read behind the call as before it (to stand takes the next epoch, to bump gives it to one's own slots, too; past the greatest there is none). No condition beyond those of the given row.
-/
import Derived.Test.YtckdibnadokipaaBump
import Derived.Test.YtckdibnadokipaaCases
namespace Go.Proofs.Ytckdibnadokipaa
open Go.RowKit Go.Lib Go.ChangeShapes Go.WideShapes Go.ChangeAt Go.WideElems

set_option maxHeartbeats 2000000 in
theorem standslaw_any (r : Ep) (W : World) :
    Calls Try.prog 4 #[vEp r] W (Says true W) := by
  have hcase := stand_cases r
  obtain ⟨a, HA⟩ : ∃ a, Hid (standE r = a) := ⟨_, Lib.hid rfl⟩
  obtain ⟨f, HF⟩ : ∃ f, Hid (standF r = f) := ⟨_, Lib.hid rfl⟩
  obtain ⟨b, HBE⟩ : ∃ a, Hid (bumpE r = a) := ⟨_, Lib.hid rfl⟩
  obtain ⟨g, HG⟩ : ∃ f, Hid (bumpF r = f) := ⟨_, Lib.hid rfl⟩
  obtain ⟨b1, B1⟩ : ∃ b, Hid (okB r = b) := ⟨_, Lib.hid rfl⟩
  have hle : okB r = true → r.cur ≤ 281474976710656 ∧ 0 ≤ r.cur := fun h => by rw [ok_iff] at h; omega
  rw [B1.out] at hle
  have HLE := Lib.hid hle
  rw [HA.out, HF.out, HBE.out, HG.out, B1.out] at hcase
  have HC := Lib.hid hcase
  have SA := fun w => same_ep ⟨0, 0, 0⟩ ⟨0, 0, 0⟩ w
  have SB := fun w => same_ep ⟨r.cur + 1, r.vote, r.conf⟩ ⟨r.cur + 1, r.vote, r.conf⟩ w
  have SC := fun w => same_ep ⟨r.cur + 1, r.vote, r.cur + 1⟩ ⟨r.cur + 1, r.vote, r.cur + 1⟩ w
  simp only [decide_true] at SA SB SC
  clear hcase hle
  go_enter Try.func4, Try.ntmps4
  go_wp2_with (fail)
  refine (anchor_any _).mono ?_
  rintro e w1 ⟨rfl, hb1⟩
  have K1 := Lib.hid ((Bx.new W r rfl).later hb1)
  have HB1 := Lib.hid (((Below.refl _ W).alloc (Nat.le_refl _) _).trans (hb1.mono (by simp)))
  obtain ⟨a0, a1, a2⟩ := K1.out.box
  clear hb1
  go_wp2_with (fail)
  refine (stand_any r _).mono ?_
  rintro e w2 ⟨rfl, hb2⟩
  rw [HA.out, HF.out]
  have HB2 := Lib.hid (below_new (HB1.out.trans (hb2.mono HB1.out.size)) (Nat.le_trans HB1.out.size hb2.size) (.cells #[.int .i64 a.cur, .int .i64 a.vote, .int .i64 a.conf] 23))
  have K2 := Lib.hid ((K1.out.later hb2).alloc (.cells #[.int .i64 a.cur, .int .i64 a.vote, .int .i64 a.conf] 23))
  have L2 := Lib.hid (Bx.new w2 a rfl)
  obtain ⟨c0, c1, c2⟩ := K2.out.box
  obtain ⟨c3, c4, c5⟩ := (K1.out.later hb2).box
  clear hb2 a0 a1 a2
  go_wp2_with (fail)
  refine (bump_any r _).mono ?_
  rintro e w3 ⟨rfl, hb3⟩
  rw [HBE.out, HG.out]
  have HB3 := Lib.hid (below_new (HB2.out.trans (hb3.mono HB2.out.size)) (Nat.le_trans HB2.out.size hb3.size) (.cells #[.int .i64 b.cur, .int .i64 b.vote, .int .i64 b.conf] 23))
  have K3 := Lib.hid ((K2.out.later hb3).alloc (.cells #[.int .i64 b.cur, .int .i64 b.vote, .int .i64 b.conf] 23))
  have L3 := Lib.hid ((L2.out.later hb3).alloc (.cells #[.int .i64 b.cur, .int .i64 b.vote, .int .i64 b.conf] 23))
  have M3 := Lib.hid (Bx.new w3 b rfl)
  obtain ⟨d0, d1, d2⟩ := K3.out.box
  obtain ⟨d3, d4, d5⟩ := (K2.out.later hb3).box
  clear hb3 c0 c1 c2 c3 c4 c5
  go_wp2_with (fail)
  refine (lawright_any r _).mono ?_
  rintro e w4 ⟨rfl, hb4⟩
  rw [B1.out]
  have HB4 := Lib.hid (HB3.out.trans (hb4.mono HB3.out.size))
  obtain ⟨k0, k1, k2⟩ := (K3.out.later hb4).box
  obtain ⟨l0, l1, l2⟩ := (L3.out.later hb4).box
  obtain ⟨m0, m1, m2⟩ := (M3.out.later hb4).box
  clear hb4 d0 d1 d2 d3 d4 d5
  rcases HC.out with ⟨rfl, rfl, rfl, rfl, rfl⟩ | ⟨rfl, h1, rfl, rfl, rfl, rfl⟩ | ⟨rfl, h1, rfl, rfl, rfl, rfl⟩
  · go_wp2
    go_ret
    exact ⟨rfl, HB4.out⟩
  all_goals
    obtain ⟨h2, h3⟩ := HLE.out rfl
    go_wp2
    go_ret
    exact ⟨rfl, HB4.out⟩

theorem stands_lifted (os : Os) (started : os.Started) (H : Type) (enc : TypeId × Value → H) :
    ReturnsInHanded {} Try.checked os 4 .any (Rows.epochStandsSpec.pre6 enc Try.prog Try.f4 Rows.epochStandsRow.domain false) (Rows.epochStandsSpec.post enc Try.prog Try.f4 false true false false) := by
  refine returnsInHanded_of_change (C := Try.checked) own started (by kernel_rfl) Try.func4
    (ChangeSpec.witness6 (enc := enc) (C := Try.checked) false ⟨#[], #[.agg #[.int .i64 0, .int .i64 0, .int .i64 0]], []⟩ 8 (by kernel_rfl) (by kernel_rfl) (by kernel_rfl) (by kernel_rfl)) ?_
  intro W base args ds gs before hval0 hW _ _
  have hval : ∀ (j : Nat) t v, Try.f4.params[j]? = some t → args[j]? = some v → Value.okWide Try.prog W .any base t v := hval0
  have hW' := hW
  obtain ⟨p, q, hA0, hV, rfl, _, _⟩ := hW
  have hA : DataW.TrodAll enc Try.prog W 0 (fun _ => true) true Try.f4.params.toList args.toList ds p := hA0
  rw [Try.params4] at hA hval
  obtain ⟨v0, vs0, d0, ds0, p0, q0, hargs, rfl, rfl, h0, r0⟩ := trodAll_cons hA
  obtain ⟨rfl, rfl, rfl⟩ := trodAll_nil r0
  obtain rfl : args = #[v0] := by cases args; simp_all
  obtain ⟨rfl, rfl⟩ := trodVars_none hV
  obtain ⟨s0, rfl, hs0⟩ := open_ep (hval 0 23 v0 rfl rfl) h0
  clear hA0
  have hk := standslaw_any s0 W
  exact hk.mono fun e W' ⟨he, hb⟩ => ⟨_, he, law_post laid_ok (by kernel_rfl) rfl Try.underlying4 rfl hW' rfl hb⟩

theorem stands_holds : Rows.EpochStandsSaid :=
  OpenClaim.holds_of_wide 4 Try.f4 rfl rfl rfl rfl rfl rfl rfl ⟨rfl, rfl, rfl, rfl, rfl⟩ rfl rfl rfl rfl rfl (by kernel_rfl) Try.func4 (by kernel_rfl)
    (of_decide_eq_true (by kernel_rfl)) (by unfold Func.isWrapper; first | (rw [if_pos (by decide +kernel)]; kernel_rfl) | (rw [if_neg (by decide +kernel)]; exact ⟨rfl, rfl⟩))
    (fun os started H enc _ => stands_lifted os started H enc)
end Go.Proofs.Ytckdibnadokipaa
