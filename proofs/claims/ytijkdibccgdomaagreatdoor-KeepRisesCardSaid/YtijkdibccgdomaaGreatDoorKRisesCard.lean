/-
  WHAT IS PROVED: the tied card of the law KeepRises: it answers true for all arguments, which read behind the call as before it: where each state that is saved carries the one ahead of it, what is loaded behind any crash carries what was loaded ahead of it. Conditions: those of the given row and card: the listed package-level variables hold what the program's text lays there.
-/
import Derived.Test.YtijkdibccgdomaaGreatDoorKRises
import Derived.Test.YtijkdibccgdomaaGreatDoorKOpen
import Derived.Test.YtijkdibccgdomaaGreatDoorTie
import Derived.Test.YtijkdibccgdomaaGreatDoorCards
import Derived.SevenTiedAt
namespace Go.Proofs.YtijkdibccgdomaaGreatDoor
open Go.RowKit Go.ChangeShapes Go.WideShapes Go.ChangeAt Go.WideElems C

set_option maxRecDepth 100000 in
theorem keeprises_lifted (os : Os) (started : os.Started) (H : Type) (enc : TypeId × Value → H) :
    ReturnsInHanded {} Tryz.checked os 9 .any (fun w args => (Rows.keepRisesSpec.pre enc Tryz.prog Tryz.f9 [] false w args ∧ laidMetH Tryz.prog laidL w) ∧ sizedMet enc Tryz.prog Tryz.f9 (OpenSpec.ofChange Rows.keepRisesSpec) false w args)
      (Rows.keepRisesSpec.post enc Tryz.prog Tryz.f9 false true false false) := by
  refine returns_shaped_and (C := Tryz.checked) (X := fun w _ => laidMetH Tryz.prog laidL w) (fun _ _ _ hh h => h.of_heap hh) own started (by kernel_rfl) Tryz.func9
    (ChangeSpec.witness_shaped (enc := enc) (C := Tryz.checked) (os := os) (X := fun w _ => laidMetH Tryz.prog laidL w) false (World.doorLaid Tryz.prog 400 os) #[.slice none 0 0, .slice none 0 0, .slice none 0 0] 8 rfl (World.shaped_of_RefB (by kernel_rfl) (by kernel_rfl)) (by kernel_rfl) (by kernel_rfl) (by kernel_rfl) (door_met os _)) ?_
  intro W base args ds gs before hval0 hW hL hSh
  have hE := env_of_laid hL hSh
  have hval : ∀ (j : Nat) t v, Tryz.f9.params[j]? = some t → args[j]? = some v → Value.okWide Tryz.prog W .any base t v := hval0
  have hW' := hW
  obtain ⟨p, q, hA0, hV, rfl, _, _⟩ := hW
  have hA : DataW.TrodAll enc Tryz.prog W 0 (fun _ => true) true Tryz.f9.params.toList args.toList ds p := hA0
  rw [Tryz.params9] at hA hval
  obtain ⟨v0, vs0, d0, ds0, p0, q0, hargs, rfl, rfl, h0, r0⟩ := trodAll_cons hA
  obtain ⟨v1, vs1, d1, ds1, p1, q1, rfl, rfl, rfl, h1, r1⟩ := trodAll_cons r0
  obtain ⟨v2, vs2, d2, ds2, p2, q2, rfl, rfl, rfl, h2, r2⟩ := trodAll_cons r1
  obtain ⟨rfl, rfl, rfl⟩ := trodAll_nil r2
  obtain rfl : args = #[v0, v1, v2] := by cases args; simp_all
  obtain ⟨rfl, rfl⟩ := trodVars_none hV
  obtain ⟨A0, n0, c0, L0, rfl, hnc0, hcm0, hs0⟩ := Dsk.open_sts (hval 0 46 v0 rfl rfl) h0
  obtain ⟨A1, n1, c1, z1, rfl, hl1, hnc1, hcm1, hr1, hz1⟩ := C.open_zints Tryz.underlying52 Tryz.underlying3 cells_int (hval 1 52 v1 rfl rfl) h1
  obtain ⟨A2, n2, c2, z2, rfl, hl2, hnc2, hcm2, hr2, hz2⟩ := C.open_zints Tryz.underlying52 Tryz.underlying3 cells_int (hval 2 52 v2 rfl rfl) h2
  clear hA0
  have hk := Dsk.rises_any A0 n0 c0 L0 A1 n1 c1 z1 A2 n2 c2 z2 W hE hs0 hnc0 hcm0 (hr1 W.heap.size (Nat.le_refl _)) hz1 hnc2 hcm2 (hr2 W.heap.size (Nat.le_refl _))
  exact hk.mono fun e W' ⟨he, hb⟩ => ⟨_, he, law_post laid_ok (by kernel_rfl) rfl Tryz.underlying4 rfl hW' rfl hb⟩

theorem keeprises_holds : Rows.KeepRisesSaid :=
  OpenClaim.holds_of_wide 9 Tryz.f9 rfl rfl rfl rfl rfl rfl rfl ⟨rfl, rfl, rfl, rfl, rfl⟩ rfl rfl rfl rfl rfl (by kernel_rfl) Tryz.func9 (by kernel_rfl)
    (of_decide_eq_true (by kernel_rfl)) (by unfold Func.isWrapper; first | (rw [if_pos (by decide +kernel)]; kernel_rfl) | (rw [if_neg (by decide +kernel)]; exact ⟨rfl, rfl⟩))
    (fun os started H enc _ => keeprises_lifted os started H enc)

theorem keeprises_card : Rows.KeepRisesCardSaid :=
  Claim7.holds_tied_plain_at .later [] [.data, .data, .data, .sentinel, .sentinel] true _ true
    keeprises_holds (fun _ h => by cases h) (by kernel_rfl) (fun _ h => by cases h) keepRises_row_tie rfl ⟨rfl, rfl⟩ (by kernel_rfl) rfl
    (fun f fn hf hfn => by
      obtain rfl : f = 9 := Option.some.inj ((show Tryz.prog.funcNamed "grapevine/grapevinelaw14.KeepRises" = some 9 by kernel_rfl).symm.trans hf) |>.symm
      obtain rfl : fn = Tryz.f9 := (Option.some.inj (Tryz.func9.symm.trans hfn)).symm
      exact ⟨by kernel_rfl, fun j t ht => by
        rw [Tryz.params9] at ht
        have hm : t ∈ [46, 52, 52] := by simpa using Array.mem_of_getElem? ht
        have hall : ([46, 52, 52].all fun u => !Tryz.prog.wantsStandIn u) = true := by kernel_rfl
        exact (show Tryz.prog.wantsStandIn t = false by simpa using List.all_eq_true.1 hall t hm)⟩)
    (by kernel_rfl)
end Go.Proofs.YtijkdibccgdomaaGreatDoor
