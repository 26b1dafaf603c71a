/-
  WHAT IS PROVED: the law NetOnce returns true at every input. No condition beyond those of the given row.
-/
import Derived.Test.YtblmfjndemfkjaaOnce
import Derived.Test.YtblmfjndemfkjaaArgs
namespace Go.Proofs.Ytblmfjndemfkjaa
open Go.RowKit Go.Lib Go.ChangeShapes Go.WideShapes Go.ChangeAt Go.WideElems

set_option maxRecDepth 100000 in
set_option maxHeartbeats 2000000 in
theorem once_out (A B : Option Addr) (N c P d : Nat) (W : World) (h : 60 < N ∨ (N ≤ 60 ∧ 100 < P)) :
    Calls Try.prog 5 #[.slice A N c, .slice B P d] W (Says true W) := by
  rcases h with h | ⟨h1, h⟩
  all_goals
    go_enter Try.func5, Try.ntmps5
    go_wp2_with (fail)
    refine (anchor_any _).mono ?_
    rintro e w0 ⟨rfl, hb0⟩
    have HB0 := Lib.hid hb0
    clear hb0
    go_wp2
    go_ret
    exact ⟨rfl, HB0.out⟩
theorem once_any (A B : Option Addr) (N c P d : Nat) (l : List Ms) (zs : List Int) (W : World) (hr : Rd W no 3 A N (flatM l)) (hz : Rd W no 1 B P (zints zs)) (hg : ∀ m ∈ l, Ms.ok W m) :
    Calls Try.prog 5 #[.slice A N c, .slice B P d] W (Says true W) := by
  by_cases hN : N ≤ 60
  · by_cases hP : P ≤ 100
    · exact once_in A B N c P d l zs W hr hz hg hN hP
    · exact once_out A B N c P d W (.inr ⟨hN, by omega⟩)
  · exact once_out A B N c P d W (.inl (by omega))

set_option maxRecDepth 100000 in
theorem once_lifted (os : Os) (started : os.Started) (H : Type) (enc : TypeId × Value → H) :
    ReturnsInHanded {} Try.checked os 5 .any (Rows.netOnceSpec.pre6 enc Try.prog Try.f5 Rows.netOnceRow.domain false) (Rows.netOnceSpec.post enc Try.prog Try.f5 false true false false) := by
  refine returnsInHanded_of_change (C := Try.checked) own started (by kernel_rfl) Try.func5
    (ChangeSpec.witness6 (enc := enc) (C := Try.checked) false ⟨#[], #[.slice none 0 0, .slice none 0 0], []⟩ 8 (by kernel_rfl) (by kernel_rfl) (by kernel_rfl) (by kernel_rfl)) ?_
  intro W base args ds gs before hval0 hW _ _
  have hval : ∀ (j : Nat) t v, Try.f5.params[j]? = some t → args[j]? = some v → Value.okWide Try.prog W .any base t v := hval0
  have hW' := hW
  obtain ⟨p, q, hA0, hV, rfl, _, _⟩ := hW
  have hA : DataW.TrodAll enc Try.prog W 0 (fun _ => true) true Try.f5.params.toList args.toList ds p := hA0
  rw [Try.params5] at hA hval
  obtain ⟨v0, vs0, d0, ds0, p0, q0, hargs, rfl, rfl, h0, r0⟩ := trodAll_cons hA
  obtain ⟨v1, vs1, d1, ds1, p1, q1, rfl, rfl, rfl, h1, r1⟩ := trodAll_cons r0
  obtain ⟨rfl, rfl, rfl⟩ := trodAll_nil r1
  obtain rfl : args = #[v0, v1] := by cases args; simp_all
  obtain ⟨rfl, rfl⟩ := trodVars_none hV
  obtain ⟨A0, n0, c0, l0, rfl, hc0, hm0, hr0, hg0⟩ := open_rows encM (fun W m => Ms.ok W m) (by omega) (fun _ => rfl) Try.underlying26 cells_msg open_mcells (hval 0 26 v0 rfl rfl) h0
  obtain ⟨A1, n1, c1, l1, rfl, hc1, hm1, hr1⟩ := open_nums (hval 1 43 v1 rfl rfl) h1
  clear hA0
  have hk := once_any A0 A1 n0 c0 n1 c1 l0 l1 W hr0 hr1 hg0
  exact hk.mono fun e W' ⟨he, hb⟩ => ⟨_, he, law_post laid_ok (by kernel_rfl) rfl Try.underlying4 rfl hW' rfl hb⟩

set_option maxRecDepth 100000 in
theorem once_holds : Rows.NetOnceSaid :=
  OpenClaim.holds_of_wide 5 Try.f5 rfl rfl rfl rfl rfl rfl rfl ⟨rfl, rfl, rfl, rfl, rfl⟩ rfl rfl rfl rfl rfl (by kernel_rfl) Try.func5 (by kernel_rfl)
    (of_decide_eq_true (by kernel_rfl)) (by unfold Func.isWrapper; first | (rw [if_pos (by decide +kernel)]; kernel_rfl) | (rw [if_neg (by decide +kernel)]; exact ⟨rfl, rfl⟩))
    (fun os started H enc _ => once_lifted os started H enc)
end Go.Proofs.Ytblmfjndemfkjaa
