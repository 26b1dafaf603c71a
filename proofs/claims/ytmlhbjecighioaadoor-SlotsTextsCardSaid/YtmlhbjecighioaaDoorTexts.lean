/-
  WHAT IS PROVED: the walk of the law SlotsTexts. Condition: strconv's errors hold errors.
-/
import Derived.Test.YtmlhbjecighioaaDoorLaid
import Derived.Test.YtmlhbjecighioaaDoorRefText
namespace Go.Proofs.YtmlhbjecighioaaDoor
open Go.RowKit

theorem set_wf {z : Int} (h : (Lit.int .u64 z).wf = true) : ∃ s : Nat, z = (s : Int) ∧ s < 18446744073709551616 := by
  have h1 : IntKind.u64.min = 0 := rfl
  have h2 : IntKind.u64.max = 18446744073709551615 := rfl
  simp only [Lit.wf, Bool.and_eq_true, decide_eq_true_eq] at h
  exact ⟨z.toNat, by omega, by omega⟩

set_option maxRecDepth 100000 in
set_option maxHeartbeats 2000000 in
theorem texts_in (s : Nat) (hs : s < 18446744073709551616) (w : World) (hE : Errs w) : Calls Tryd.prog 4 #[.int .u64 (s : Int)] w (Says true w) := by
  have la := txt_len hs
  have HP := Lib.hid (parse_txt hs)
  have HT : Hid (∀ W, Calls Tryd.prog 16 #[.int .u64 (s : Int)] W fun e w' => e = .returned (.string (str (txt s))) ∧ Below W.heap.size W w') := fun W => text_any s hs W
  have HR : Hid (∀ W, Calls Tryd.prog 17 #[.agg (fl s)] W fun e w' => e = .returned (.string (str (txt s))) ∧ Below W.heap.size W w') := fun W => reftext_any s hs W
  generalize txt s = a at *
  have k1 : ((str a).toList == (str a).toList) = true := by simp
  go_enter Tryd.func4, Tryd.ntmps4
  go_wp2_with (fail)
  refine (anchor_any w hE).mono ?_
  rintro e w1 ⟨rfl, hb1⟩
  go_wp2_with (fail)
  refine (HT.out w1).mono ?_
  rintro e w2 ⟨rfl, hb2⟩
  have hb2' := hb1.trans (hb2.mono hb1.size)
  clear hb1 hb2
  go_wp2_with (fail)
  refine (parse_any a (by omega) w2 (hE.below hb2')).mono ?_
  rintro e w3 ⟨rfl, hb3⟩
  rw [HP.out]
  have hb3' := hb2'.trans (hb3.mono hb2'.size)
  clear hb2' hb3
  go_wp2_with (fail)
  refine (HT.out w3).mono ?_
  rintro e w4 ⟨rfl, hb4⟩
  have hb4' := hb3'.trans (hb4.mono hb3'.size)
  clear hb3' hb4
  go_wp2_with (fail)
  refine (flags_any s hs w4).mono ?_
  rintro e w5 ⟨rfl, hb5⟩
  have hb5' := hb4'.trans (hb5.mono hb4'.size)
  clear hb4' hb5
  go_wp2_with (fail)
  refine (HR.out w5).mono ?_
  rintro e w6 ⟨rfl, hb6⟩
  have hb6' := hb5'.trans (hb6.mono hb5'.size)
  clear hb5' hb6
  go_wp2
  go_ret
  exact ⟨by simp, hb6'⟩
theorem texts_walk (x : Int) (w : World) (hE : Errs w) (hx : (Lit.int .u64 x).wf = true) : Calls Tryd.prog 4 #[.int .u64 x] w (Says true w) := by
  obtain ⟨s, rfl, hs⟩ := set_wf hx
  exact texts_in s hs w hE
end Go.Proofs.YtmlhbjecighioaaDoor
