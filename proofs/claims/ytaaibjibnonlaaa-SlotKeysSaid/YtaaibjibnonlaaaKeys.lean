/-
  WHAT IS PROVED: the law SlotKeys answers true for every key, and the key reads behind the call as before it: what counts of a key, and its slot, are the document's. Condition: none.
-/
import Derived.Test.YtaaibjibnonlaaaLaw
namespace Go.Proofs.Ytaaibjibnonlaaa
open Go.RowKit Go.ChangeShapes Go.WideShapes Go.ChangeAt Go.WideElems

set_option maxRecDepth 100000 in
set_option maxHeartbeats 1000000 in
theorem keys_walk (l : List UInt8) (w : World) : Calls Try.prog 4 #[.string (str l)] w (Says true w) := by
  have hsz : (str l).size = l.length := rfl
  by_cases hlen : 2000 < l.length
  · go_enter Try.func4, Try.ntmps4
    go_wp2_with (go_at_call 11; refine (anchor_any _).mono ?_; rintro e w1 ⟨rfl, hb1⟩)
    go_ret
    exact ⟨rfl, hb1⟩
  · have hl : l.length ≤ 4611686018427387904 := by omega
    go_enter Try.func4, Try.ntmps4
    go_wp2_with (go_at_call 11; refine (anchor_any _).mono ?_; rintro e w1 ⟨rfl, hb1⟩)
    refine (new_any w1).mono ?_
    rintro e w2 ⟨rfl, hx2, hb2⟩
    go_wp2_with (fail)
    refine (tag_any l _ hl).mono ?_
    rintro e w' ⟨rfl, n, rfl⟩
    go_wp2_with (fail)
    refine (reftag_any l _ hl).mono ?_
    rintro e w' ⟨rfl, rfl⟩
    go_wp2_with (fail)
    refine (slot_any w1.heap.size l _ hl (hx2.grown (only_drewN (World.grownBy.refl _ none) _) (by simp))).mono ?_
    rintro e w3 ⟨rfl, h3, hg3⟩
    go_wp2_with (fail)
    refine (refslot_any l _ hl).mono ?_
    rintro e w4 ⟨rfl, hb4⟩
    go_wp2
    go_ret
    have hle1 : w.heap.size ≤ w1.heap.size := hb1.size
    have hle2 : w1.heap.size ≤ w2.heap.size := hb2.size
    have hb3 : Below w.heap.size (w2.drewN n) w3 := below_of_only hg3 (by show w.heap.size ≤ w2.heap.size; omega) hle1
    have hsz3 : w2.heap.size ≤ w3.heap.size := hg3.size
    exact ⟨rfl, (((hb1.trans (hb2.mono hle1)).trans (below_drewN (Below.refl _ _) n)).trans hb3).trans (hb4.mono (by omega))⟩

theorem keys_lifted (os : Os) (started : os.Started) (H : Type) (enc : TypeId × Value → H) :
    ReturnsInHanded {} Try.checked os 4 .any (Rows.slotKeysSpec.pre6 enc Try.prog Try.f4 Rows.slotKeysRow.domain false) (Rows.slotKeysSpec.post enc Try.prog Try.f4 false true false false) := by
  refine returnsInHanded_of_change (C := Try.checked) own started (by kernel_rfl) Try.func4
    (ChangeSpec.witness6 (enc := enc) (C := Try.checked) false ⟨#[], #[.string ⟨#[]⟩], []⟩ 8 (by kernel_rfl) (by kernel_rfl) (by kernel_rfl) (by kernel_rfl)) ?_
  intro W base args ds gs before hval0 hW _ _
  have hval : ∀ (j : Nat) t v, Try.f4.params[j]? = some t → args[j]? = some v → Value.okWide Try.prog W .any base t v := hval0
  have hW' := hW
  obtain ⟨p, q, hA0, hV, rfl, _, _⟩ := hW
  have hA : DataW.TrodAll enc Try.prog W 0 (fun _ => true) true Try.f4.params.toList args.toList ds p := hA0
  rw [Try.params4] at hA hval
  obtain ⟨v0, vs0, d0, ds0, p0, q0, hargs, rfl, rfl, h0, r0⟩ := trodAll_cons hA
  obtain ⟨rfl, rfl, rfl⟩ := trodAll_nil r0
  obtain rfl : args = #[v0] := by cases args; simp_all
  obtain ⟨rfl, rfl⟩ := trodVars_none hV
  obtain ⟨s, rfl, rfl, rfl, ws⟩ := ChangeMaps.open_string Try.underlying9 (hval 0 9 v0 rfl rfl) h0
  clear hA0
  have e : (Value.string s) = .string (str s.data.toList) := congrArg Value.string (str_data s)
  have hk := keys_walk s.data.toList W
  rw [← e] at hk
  exact hk.mono fun e W' ⟨he, hb⟩ => ⟨_, he, law_post laid_ok (by kernel_rfl) rfl Try.underlying4 rfl hW' rfl hb⟩

theorem keys_holds : Rows.SlotKeysSaid :=
  OpenClaim.holds_of_wide 4 Try.f4 rfl rfl rfl rfl rfl rfl rfl ⟨rfl, rfl, rfl, rfl, rfl⟩ rfl rfl rfl rfl rfl (by kernel_rfl) Try.func4 (by kernel_rfl)
    (of_decide_eq_true (by kernel_rfl)) (by unfold Func.isWrapper; first | (rw [if_pos (by decide +kernel)]; kernel_rfl) | (rw [if_neg (by decide +kernel)]; exact ⟨rfl, rfl⟩))
    (fun os started H enc _ => keys_lifted os started H enc)
end Go.Proofs.Ytaaibjibnonlaaa
