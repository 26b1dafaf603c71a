/-
  WHAT IS PROVED: the law QuorumMissing answers true for all arguments, which read behind the call as before it (with as many missing as the need, and one less, of the voters no majority is left; with one fewer missing than half there is). No condition beyond those of the given row.
-/
import Derived.Test.YtacljdpmcndhdaaMaj
namespace Go.Proofs.Ytacljdpmcndhdaa
open Go.RowKit Go.Lib Go.ChangeShapes Go.WideShapes Go.ChangeAt Go.WideElems

theorem yes_drop {vs : List Int} (h : vs.Nodup) (k : Nat) : (yesIn vs (vs.drop k)).length = vs.length - k := by
  rw [same_len (yesIn_nodup h) (h.sublist (List.drop_sublist k vs)) (fun x => by rw [mem_yesIn]; exact ⟨fun h => h.2, fun h => ⟨List.mem_of_mem_drop h, h⟩⟩), List.length_drop]
theorem maj_drop {vs : List Int} (h : rightB vs = true) (k : Nat) : majB vs (vs.drop k) = decide (vs.length < 2 * (vs.length - k)) := by
  rw [maj_right h, yes_drop (right_iff.1 h).2.1]

set_option maxRecDepth 100000 in
set_option maxHeartbeats 1000000 in
theorem missing_in (r : Bool) (A : Option Addr) (n c k : Nat) (vs : List Int) (W : World) (hnc : n ≤ c) (hc : c ≤ 9223372036854775807) (hr : ∀ g, W.heap.size ≤ g → Reads W g A n (zints vs)) (hk : k ≤ n) (hn : 0 < n) (h : rightB vs = true)
    (HM : Hid (majB vs (vs.drop k) = r)) (hw : decide (2 * (k : Int) < n) = r) :
    Calls Try.prog 10 #[.slice A n c, .int .i64 (k : Int)] W (Says true W) := by
  have hlen := zlen (hr _ (Nat.le_refl _))
  have HR := Lib.hid h
  have HD : Hid (inInts (vs.drop k)) := fun x hx => ids_in h x (List.mem_of_mem_drop hx)
  have h16 : n ≤ 16 := by have := (right_iff.1 h).1; omega
  have hn0 : ((n : Int) == 0) = false := by simp; omega
  have hk0 : decide ((k : Int) < 0) = false := by simp
  have hk1 : decide (n < k) = false := by simp; omega
  clear h hlen
  go_enter Try.func10, Try.ntmps10
  go_wp2_with (fail)
  refine (anchor_any W).mono ?_
  rintro e w1 ⟨rfl, hb1⟩
  have hr1 := (hr W.heap.size (Nat.le_refl _)).old hb1 hb1.size
  have HC := Lib.hid (hr1.cut hk hnc)
  rw [← zints_drop] at HC
  have HA := Lib.hid ((hr W.heap.size (Nat.le_refl _)).old hb1 (Nat.le_refl _))
  go_wp2_with (fail)
  refine (right_any A n c vs _ _ hnc hc hr1).mono ?_
  rintro e w2 ⟨rfl, rfl⟩
  rw [HR.out]
  go_wp2_with (fail)
  · have hck : c = k := by assumption
    have hr2 := HC.out
    rw [if_pos hck] at hr2
    have hnk : n ≤ k := by omega
    have hkm : k ≤ 9223372036854775807 := by omega
    clear hck
    refine (maj_any A A n k (n - k) 0 vs (vs.drop k) _ hnk hkm (by omega) hr1 hr2 HD.out).mono ?_
    rintro e w3 ⟨rfl, hb3⟩
    rw [HM.out]
    cases r
    all_goals
      go_wp2
      go_ret
      exact ⟨rfl, hb1.trans (hb3.mono hb1.size)⟩
  · have hck : ¬ c = k := by assumption
    have hr2 := HC.out
    rw [if_neg hck] at hr2
    clear hck
    refine (maj_any A _ n c (n - k) (c - k) vs (vs.drop k) _ hnc hc (by omega) hr1 hr2 HD.out).mono ?_
    rintro e w3 ⟨rfl, hb3⟩
    rw [HM.out]
    cases r
    all_goals
      go_wp2
      go_ret
      exact ⟨rfl, hb1.trans (hb3.mono hb1.size)⟩

set_option maxHeartbeats 1000000 in
theorem missing_out (A : Option Addr) (n c : Nat) (k : Int) (vs : List Int) (W : World) (hnc : n ≤ c) (hc : c ≤ 9223372036854775807) (hr : ∀ g, W.heap.size ≤ g → Reads W g A n (zints vs))
    (h : Hid (rightB vs = false) ∨ Hid (rightB vs = true) ∧ (k < 0 ∨ (0 ≤ k ∧ (n : Int) < k) ∨ (0 ≤ k ∧ k ≤ n ∧ n = 0))) :
    Calls Try.prog 10 #[.slice A n c, .int .i64 k] W (Says true W) := by
  rcases h with HR | ⟨HR, h | ⟨h, h2⟩ | ⟨h, h2, rfl⟩⟩
  all_goals
    go_enter Try.func10, Try.ntmps10
    go_wp2_with (fail)
    refine (anchor_any W).mono ?_
    rintro e w1 ⟨rfl, hb1⟩
    have hr1 := (hr W.heap.size (Nat.le_refl _)).old hb1 hb1.size
    go_wp2_with (fail)
    refine (right_any A _ c vs _ _ hnc hc hr1).mono ?_
    rintro e w2 ⟨rfl, rfl⟩
    rw [HR.out]
    go_wp2
    go_ret
    exact ⟨rfl, hb1⟩

theorem missing_any (A : Option Addr) (n c : Nat) (k : Int) (vs : List Int) (W : World) (hnc : n ≤ c) (hc : c ≤ 9223372036854775807) (hr : ∀ g, W.heap.size ≤ g → Reads W g A n (zints vs)) :
    Calls Try.prog 10 #[.slice A n c, .int .i64 k] W (Says true W) := by
  by_cases h : rightB vs = true
  · by_cases hk : 0 ≤ k ∧ k ≤ n ∧ 0 < n
    · obtain ⟨k', rfl⟩ := Int.eq_ofNat_of_zero_le hk.1
      have hl := zlen (hr _ (Nat.le_refl _))
      refine missing_in (decide (2 * (k' : Int) < n)) A n c k' vs W hnc hc hr (by omega) hk.2.2 h (Lib.hid ?_) rfl
      rw [maj_drop h, hl, decide_eq_decide]
      omega
    · exact missing_out A n c k vs W hnc hc hr (.inr ⟨Lib.hid h, by omega⟩)
  · exact missing_out A n c k vs W hnc hc hr (.inl (Lib.hid (by simpa using h)))

theorem missing_lifted (os : Os) (started : os.Started) (H : Type) (enc : TypeId × Value → H) :
    ReturnsInHanded {} Try.checked os 10 .any (Rows.quorumMissingSpec.pre6 enc Try.prog Try.f10 Rows.quorumMissingRow.domain false) (Rows.quorumMissingSpec.post enc Try.prog Try.f10 false true false false) := by
  refine returnsInHanded_of_change (C := Try.checked) own started (by kernel_rfl) Try.func10
    (ChangeSpec.witness6 (enc := enc) (C := Try.checked) false ⟨#[], #[.slice none 0 0, .int .i64 0], []⟩ 8 (by kernel_rfl) (by kernel_rfl) (by kernel_rfl) (by kernel_rfl)) ?_
  intro W base args ds gs before hval0 hW _ _
  have hval : ∀ (j : Nat) t v, Try.f10.params[j]? = some t → args[j]? = some v → Value.okWide Try.prog W .any base t v := hval0
  have hW' := hW
  obtain ⟨p, q, hA0, hV, rfl, _, _⟩ := hW
  have hA : DataW.TrodAll enc Try.prog W 0 (fun _ => true) true Try.f10.params.toList args.toList ds p := hA0
  rw [Try.params10] at hA hval
  obtain ⟨v0, vs0, d0, ds0, p0, q0, hargs, rfl, rfl, h0, r0⟩ := trodAll_cons hA
  obtain ⟨v1, vs1, d1, ds1, p1, q1, rfl, rfl, rfl, h1, r1⟩ := trodAll_cons r0
  obtain ⟨rfl, rfl, rfl⟩ := trodAll_nil r1
  obtain rfl : args = #[v0, v1] := by cases args; simp_all
  obtain ⟨rfl, rfl⟩ := trodVars_none hV
  obtain ⟨A0, n0, c0, l0, rfl, hl0, hc0, hm0, hr0, hz0⟩ := open_zints Try.underlying25 Try.underlying3 cells_int (hval 0 25 v0 rfl rfl) h0
  obtain ⟨z1, rfl, rfl, rfl, wz1⟩ := open_int Try.underlying3 (hval 1 3 v1 rfl rfl) h1
  clear hA0
  have hk := missing_any A0 n0 c0 z1 l0 W hc0 hm0 hr0
  exact hk.mono fun e W' ⟨he, hb⟩ => ⟨_, he, law_post laid_ok (by kernel_rfl) rfl Try.underlying4 rfl hW' rfl hb⟩

theorem missing_holds : Rows.QuorumMissingSaid :=
  OpenClaim.holds_of_wide 10 Try.f10 rfl rfl rfl rfl rfl rfl rfl ⟨rfl, rfl, rfl, rfl, rfl⟩ rfl rfl rfl rfl rfl (by kernel_rfl) Try.func10 (by kernel_rfl)
    (of_decide_eq_true (by kernel_rfl)) (by unfold Func.isWrapper; first | (rw [if_pos (by decide +kernel)]; kernel_rfl) | (rw [if_neg (by decide +kernel)]; exact ⟨rfl, rfl⟩))
    (fun os started H enc _ => missing_lifted os started H enc)

end Go.Proofs.Ytacljdpmcndhdaa
