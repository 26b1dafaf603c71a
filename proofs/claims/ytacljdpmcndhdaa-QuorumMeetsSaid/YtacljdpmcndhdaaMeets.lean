/-
  WHAT IS PROVED: the law QuorumMeets answers true for all arguments, which read behind the call as before it (two majorities of one set of voters have one in common). No condition beyond those of the given row.
-/
import Derived.Test.YtacljdpmcndhdaaArg
namespace Go.Proofs.Ytacljdpmcndhdaa
open Go.RowKit Go.Lib Go.ChangeShapes Go.WideShapes Go.ChangeAt Go.WideElems

set_option maxRecDepth 100000 in
set_option maxHeartbeats 1000000 in
theorem meets_in (r1 r2 : Bool) (A B C : Option Addr) (n c m d o p : Nat) (vs xs ys : List Int) (W : World) (hnc : n ≤ c) (hc : c ≤ 9223372036854775807) (hn : n ≤ 16) (hm : m ≤ 60) (ho : o ≤ 60)
    (hra : Arg W A n vs) (hrb : Arg W B m xs) (hrc : Arg W C o ys) (hxs : inInts xs) (hys : inInts ys) (H1 : Hid (majB vs xs = r1)) (H2 : Hid (majB vs ys = r2)) :
    Calls Try.prog 5 #[.slice A n c, .slice B m d, .slice C o p] W (Says true W) := by
  have HL := Lib.hid hra.len
  go_enter Try.func5, Try.ntmps5
  go_wp2_with (fail)
  refine (anchor_any W).mono ?_
  rintro e w1 ⟨rfl, hb1⟩
  go_wp2_with (fail)
  refine (maj_any A B n c m d vs xs _ hnc hc (by omega) (hra.now hb1) (hrb.now hb1) hxs).mono ?_
  rintro e w2 ⟨rfl, hb2'⟩
  rw [H1.out]
  have hb2 := hb1.trans (hb2'.mono hb1.size)
  clear hb1 hb2'
  cases r1
  · go_wp2
    go_ret
    exact ⟨rfl, hb2⟩
  · go_wp2_with (fail)
    refine (maj_any A C n c o p vs ys _ hnc hc (by omega) (hra.now hb2) (hrc.now hb2) hys).mono ?_
    rintro e w3 ⟨rfl, hb3'⟩
    rw [H2.out]
    have hb3 := hb2.trans (hb3'.mono hb2.size)
    clear hb2 hb3'
    cases r2
    · go_wp2
      go_ret
      exact ⟨rfl, hb3⟩
    · have ra := hra.now hb3
      have rb := hrb.now hb3
      have rc := hrc.now hb3
      clear hra hrb hrc hxs hys
      go_wp2
      go_loop [36] (fun i => ∃ k : Nat, k ≤ n ∧ i = .int .i64 k ∧ ∀ x, x ∈ vs.take k → x ∈ xs → x ∈ ys → False) (fun i => n - (intOf i).toNat)
      case atStart => exact ⟨0, by omega, rfl, fun x hx => by simp at hx⟩
      case round =>
        obtain ⟨k, hk, rfl, hx⟩ := hrel
        have HX := Lib.hid hx
        clear hx
        by_cases hlt : k < n
        · obtain ⟨ad, u, rfl, hu, hc⟩ := ra.at_ hlt
          obtain ⟨z, hz, rfl⟩ := zints_at hu
          have HZ := Lib.hid (takeZ_snoc hz)
          clear hu hz
          by_cases h1 : z ∈ xs
          · have E1 := Lib.hid (has_yes h1)
            by_cases h2 : z ∈ ys
            · have E2 := Lib.hid (has_yes h2)
              clear h1 h2
              go_wp2_with (fail)
              refine (has_any B m d xs z _ _ (by omega) rb).mono ?_
              rintro e w4 ⟨rfl, rfl⟩
              rw [E1.out]
              go_wp2_with (fail)
              refine (has_any C o p ys z _ _ (by omega) rc).mono ?_
              rintro e w4 ⟨rfl, rfl⟩
              rw [E2.out]
              go_wp2
              go_ret
              exact ⟨rfl, hb3⟩
            · have E2 := Lib.hid (has_no h2)
              have HN : Hid (∀ x, x ∈ vs.take (k + 1) → x ∈ xs → x ∈ ys → False) := by
                intro x hx a b
                rw [HZ.out, List.mem_append] at hx
                rcases hx with hx | hx
                · exact HX.out x hx a b
                · simp at hx; subst hx; exact h2 b
              clear h1 h2
              go_wp2_with (fail)
              refine (has_any B m d xs z _ _ (by omega) rb).mono ?_
              rintro e w4 ⟨rfl, rfl⟩
              rw [E1.out]
              go_wp2_with (fail)
              refine (has_any C o p ys z _ _ (by omega) rc).mono ?_
              rintro e w4 ⟨rfl, rfl⟩
              rw [E2.out]
              go_wp2
              go_round
              case rel => exact ⟨k + 1, by omega, by go_num, HN.out⟩
              case measure => simp [intOf]; omega
          · have E1 := Lib.hid (has_no h1)
            have HN : Hid (∀ x, x ∈ vs.take (k + 1) → x ∈ xs → x ∈ ys → False) := by
              intro x hx a b
              rw [HZ.out, List.mem_append] at hx
              rcases hx with hx | hx
              · exact HX.out x hx a b
              · simp at hx; subst hx; exact h1 a
            clear h1
            go_wp2_with (fail)
            refine (has_any B m d xs z _ _ (by omega) rb).mono ?_
            rintro e w4 ⟨rfl, rfl⟩
            rw [E1.out]
            go_wp2
            go_round
            case rel => exact ⟨k + 1, by omega, by go_num, HN.out⟩
            case measure => simp [intOf]; omega
        · obtain rfl : k = n := by omega
          exfalso
          obtain ⟨x, h1, h2, h3⟩ := maj_meet H1.out H2.out
          exact HX.out x (by rw [List.take_of_length_le (by rw [HL.out]; exact Nat.le_refl _)]; exact h1) h2 h3

set_option maxHeartbeats 1000000 in
theorem meets_any (A B C : Option Addr) (n c m d o p : Nat) (vs xs ys : List Int) (W : World) (hnc : n ≤ c) (hc : c ≤ 9223372036854775807)
    (hra : Arg W A n vs) (hrb : Arg W B m xs) (hrc : Arg W C o ys) (hxs : inInts xs) (hys : inInts ys) :
    Calls Try.prog 5 #[.slice A n c, .slice B m d, .slice C o p] W (Says true W) := by
  by_cases h : n ≤ 16 ∧ m ≤ 60 ∧ o ≤ 60
  · exact meets_in _ _ A B C n c m d o p vs xs ys W hnc hc h.1 h.2.1 h.2.2 hra hrb hrc hxs hys (Lib.hid rfl) (Lib.hid rfl)
  · have h2 : (16 : Int) < n ∨ ((n : Int) ≤ 16 ∧ (60 : Int) < m) ∨ ((n : Int) ≤ 16 ∧ (m : Int) ≤ 60 ∧ (60 : Int) < o) := by omega
    clear h
    rcases h2 with h | ⟨h1, h2⟩ | ⟨h1, h2, h3⟩
    all_goals
      go_enter Try.func5, Try.ntmps5
      go_wp2_with (fail)
      refine (anchor_any W).mono ?_
      rintro e w1 ⟨rfl, hb1⟩
      go_wp2
      go_ret
      exact ⟨rfl, hb1⟩

theorem meets_lifted (os : Os) (started : os.Started) (H : Type) (enc : TypeId × Value → H) :
    ReturnsInHanded {} Try.checked os 5 .any (Rows.quorumMeetsSpec.pre6 enc Try.prog Try.f5 Rows.quorumMeetsRow.domain false) (Rows.quorumMeetsSpec.post enc Try.prog Try.f5 false true false false) := by
  refine returnsInHanded_of_change (C := Try.checked) own started (by kernel_rfl) Try.func5
    (ChangeSpec.witness6 (enc := enc) (C := Try.checked) false ⟨#[], #[.slice none 0 0, .slice none 0 0, .slice none 0 0], []⟩ 8 (by kernel_rfl) (by kernel_rfl) (by kernel_rfl) (by kernel_rfl)) ?_
  intro W base args ds gs before hval0 hW _ _
  have hval : ∀ (j : Nat) t v, Try.f5.params[j]? = some t → args[j]? = some v → Value.okWide Try.prog W .any base t v := hval0
  have hW' := hW
  obtain ⟨p, q, hA0, hV, rfl, _, _⟩ := hW
  have hA : DataW.TrodAll enc Try.prog W 0 (fun _ => true) true Try.f5.params.toList args.toList ds p := hA0
  rw [Try.params5] at hA hval
  obtain ⟨v0, vs0, d0, ds0, p0, q0, hargs, rfl, rfl, h0, r0⟩ := trodAll_cons hA
  obtain ⟨v1, vs1, d1, ds1, p1, q1, rfl, rfl, rfl, h1, r1⟩ := trodAll_cons r0
  obtain ⟨v2, vs2, d2, ds2, p2, q2, rfl, rfl, rfl, h2, r2⟩ := trodAll_cons r1
  obtain ⟨rfl, rfl, rfl⟩ := trodAll_nil r2
  obtain rfl : args = #[v0, v1, v2] := by cases args; simp_all
  obtain ⟨rfl, rfl⟩ := trodVars_none hV
  obtain ⟨A0, n0, c0, l0, rfl, hl0, hc0, hm0, hr0, hz0⟩ := open_zints Try.underlying25 Try.underlying3 cells_int (hval 0 25 v0 rfl rfl) h0
  obtain ⟨A1, n1, c1, l1, rfl, hl1, hc1, hm1, hr1, hz1⟩ := open_zints Try.underlying25 Try.underlying3 cells_int (hval 1 25 v1 rfl rfl) h1
  obtain ⟨A2, n2, c2, l2, rfl, hl2, hc2, hm2, hr2, hz2⟩ := open_zints Try.underlying25 Try.underlying3 cells_int (hval 2 25 v2 rfl rfl) h2
  clear hA0
  have hk := meets_any A0 A1 A2 n0 c0 n1 c1 n2 c2 l0 l1 l2 W hc0 hm0 hr0 hr1 hr2 hz1 hz2
  exact hk.mono fun e W' ⟨he, hb⟩ => ⟨_, he, law_post laid_ok (by kernel_rfl) rfl Try.underlying4 rfl hW' rfl hb⟩

theorem meets_holds : Rows.QuorumMeetsSaid :=
  OpenClaim.holds_of_wide 5 Try.f5 rfl rfl rfl rfl rfl rfl rfl ⟨rfl, rfl, rfl, rfl, rfl⟩ rfl rfl rfl rfl rfl (by kernel_rfl) Try.func5 (by kernel_rfl)
    (of_decide_eq_true (by kernel_rfl)) (by unfold Func.isWrapper; first | (rw [if_pos (by decide +kernel)]; kernel_rfl) | (rw [if_neg (by decide +kernel)]; exact ⟨rfl, rfl⟩))
    (fun os started H enc _ => meets_lifted os started H enc)

end Go.Proofs.Ytacljdpmcndhdaa
