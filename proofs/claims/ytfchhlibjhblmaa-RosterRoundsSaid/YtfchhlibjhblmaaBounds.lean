/-
  WHAT IS PROVED: the law RosterBounds answers true for all arguments: there are never more than fifteen members; one more is refused, and nothing is changed by that. No condition beyond those of the given row.
-/
import Derived.Test.YtfchhlibjhblmaaArgs
namespace Go.Proofs.Ytfchhlibjhblmaa
open Go.RowKit Go.Lib Go.Maps

theorem add_ways {R : Ro} (h : Good R) (x t : Int) : (addE R x t = 0 ∧ (addR R x t).L.length = R.L.length + 1) ∨ (addE R x t = 10 ∧ addR R x t = R) ∨ (addE R x t = 33 ∧ addR R x t = R) ∨ (addE R x t = 32 ∧ addR R x t = R) ∨ (addE R x t = 34 ∧ addR R x t = R) ∨ (addE R x t = 31 ∧ addR R x t = R ∧ R.L.length = 15) := by
  by_cases he : addE R x t = 0
  · refine .inl ⟨he, ?_⟩
    rw [addR_ok he]
    show (insL R.L _).length = _
    rw [len_ins h.up]
    show (if hasL R.L x = true then _ else _) = _
    rw [(addE_zero he).2.1]
    rfl
  · have hr := addR_no he
    rcases chk_cases R.s x t with ⟨hc, _⟩ | ⟨hc, _⟩ | ⟨hc, _⟩
    · cases hq : hasL R.L x
      · cases hb : banB R.B x t
        · by_cases h15 : R.L.length = 15
          · exact .inr (.inr (.inr (.inr (.inr ⟨addE_full hc hq hb h15, hr, h15⟩))))
          · exact absurd (addE_ok hc hq hb h15) he
        · exact .inr (.inr (.inr (.inr (.inl ⟨addE_ban hc hq hb, hr⟩))))
      · exact .inr (.inr (.inr (.inl ⟨addE_known hc hq, hr⟩)))
    · exact .inr (.inl ⟨by rw [addE_chk (by rw [hc]; decide), hc], hr⟩)
    · exact .inr (.inr (.inl ⟨by rw [addE_chk (by rw [hc]; decide), hc], hr⟩))
theorem id1 : isIdB 1 = true := by decide

set_option maxRecDepth 100000 in
set_option maxHeartbeats 8000000 in
theorem bounds_in (A : Option Addr) (n c : Nat) (l : List Int) (W : World) (hn : n ≤ 100) (hr : Reads W W.heap.size A n (zints l)) :
    Calls Try.prog 4 #[.slice A n c] W (Says true W) := by
  have d0 : (n : Int) ≤ 100 := by omega
  have HR := Lib.hid hr
  clear hr
  go_enter Try.func4, Try.ntmps4
  go_wp2_with (fail)
  refine (anchor_any _).mono ?_
  rintro e w0 ⟨rfl, hb0⟩
  have HB0 := Lib.hid hb0
  clear hb0
  go_wp2_with (fail)
  refine (new_yes 1 _ id1).mono ?_
  rintro e w1 ⟨g, F, rfl, k1, hb1⟩
  have K1 := Lib.hid (k1.low HB0.out.size)
  have HB1 := Lib.hid (HB0.out.trans (hb1.mono HB0.out.size))
  clear k1 hb1
  go_wp2
  go_loopw [27] (fun i wr => ∃ (k : Nat) (F : Nat → Prop) (R : Ro), k ≤ n ∧ i = .int .i64 k ∧ Rs wr W.heap.size g F R ∧ Below W.heap.size W wr) (fun i _ => n - (RowKit.intOf i).toNat)
  case atStart => exact ⟨0, F, _, by omega, rfl, K1.out, HB1.out⟩
  case round =>
    obtain ⟨w3, rfl⟩ : ∃ w3, w3 = wr := ⟨_, rfl⟩
    obtain ⟨k, F, R, hk, rfl, hwt, hbw⟩ := hrel
    have HK := Lib.hid hwt
    have HW := Lib.hid hbw
    clear hwt hbw
    by_cases hlt : k < n
    · obtain ⟨ad, u, rfl, hu, hcx⟩ := (HR.out.old HW.out HW.out.size).at_ hlt
      obtain ⟨x, _, rfl⟩ := zints_at hu
      obtain ⟨a, ha⟩ : ∃ a, R.L.length = a := ⟨_, rfl⟩
      have HLA := Lib.hid ha
      have ha15 : a ≤ 15 := by rw [← ha]; exact HK.out.good.len
      obtain ⟨er, HE⟩ : ∃ er, Hid (addE R x 0 = er) := ⟨_, Lib.hid rfl⟩
      obtain ⟨R5, HR5⟩ : ∃ y, Hid (addR R x 0 = y) := ⟨_, Lib.hid rfl⟩
      have hways := add_ways HK.out.good x 0
      rw [HE.out, HR5.out, ha] at hways
      have HWS := Lib.hid hways
      clear hu hways ha
      go_wp2_with (fail)
      refine (list_any _ g F R _ HK.out).mono ?_
      rintro e w4 ⟨hb4, v4, rfl, ho4⟩
      rw [HLA.out] at ho4
      obtain ⟨A4, c4, rfl, hc4, hcm4⟩ := own_form ho4
      have K4 := Lib.hid (HK.out.below hb4)
      have HB4 := Lib.hid (HW.out.trans (hb4.mono HW.out.size))
      clear hb4 ho4
      go_wp2_with (fail)
      refine (add_any _ g F R _ K4.out x 0).mono ?_
      rintro e w5 ⟨rfl, F5, k5, t5, _⟩
      rw [HE.out]
      rw [HR5.out] at k5
      have K5 := Lib.hid k5
      have HB5 := Lib.hid (K4.out.go HB4.out t5)
      have h15 : R5.L.length ≤ 15 := k5.good.len
      clear k5 t5
      rcases HWS.out with ⟨rfl, h5⟩ | ⟨rfl, h5⟩ | ⟨rfl, h5⟩ | ⟨rfl, h5⟩ | ⟨rfl, h5⟩ | ⟨rfl, h5, ha⟩
      · have HL5 := Lib.hid h5
        have hm1 : a + 1 ≤ 15 := by omega
        clear h5
        go_wp2_with (fail)
        refine (list_any _ g F5 R5 _ K5.out).mono ?_
        rintro e w6 ⟨hb6, v6, rfl, ho6⟩
        rw [HL5.out] at ho6
        obtain ⟨A6, c6, rfl, hc6, hcm6⟩ := own_form ho6
        have K6 := Lib.hid (K5.out.below hb6)
        have HB6 := Lib.hid (HB5.out.trans (hb6.mono HB5.out.size))
        clear hb6 ho6
        go_wp2
        go_roundw
        case rel => exact ⟨k + 1, F5, R5, by omega, by go_num, K6.out, HB6.out⟩
        case measure => simp [RowKit.intOf]; omega
      all_goals
        have HL5 : Hid (R5.L.length = a) := Lib.hid (by rw [h5]; exact HLA.out)
        (try subst ha)
        clear h5
        go_wp2_with (fail)
        refine (list_any _ g F5 R5 _ K5.out).mono ?_
        rintro e w6 ⟨hb6, v6, rfl, ho6⟩
        rw [HL5.out] at ho6
        obtain ⟨A6, c6, rfl, hc6, hcm6⟩ := own_form ho6
        have K6 := Lib.hid (K5.out.below hb6)
        have HB6 := Lib.hid (HB5.out.trans (hb6.mono HB5.out.size))
        clear hb6 ho6
        go_wp2
        go_roundw
        case rel => exact ⟨k + 1, F5, R5, by omega, by go_num, K6.out, HB6.out⟩
        case measure => simp [RowKit.intOf]; omega
    · obtain rfl : k = n := by omega
      go_wp2
      go_ret
      exact ⟨rfl, HW.out⟩
theorem bounds_any (A : Option Addr) (n c : Nat) (l : List Int) (W : World) (hr : ∀ g, W.heap.size ≤ g → Reads W g A n (zints l)) :
    Calls Try.prog 4 #[.slice A n c] W (Says true W) := by
  by_cases hn : n ≤ 100
  · exact bounds_in A n c l W hn (hr _ (Nat.le_refl _))
  · have hn2 : 100 < n := by omega
    clear hn hr
    go_enter Try.func4, Try.ntmps4
    go_wp2_with (fail)
    refine (anchor_any _).mono ?_
    rintro e w0 ⟨rfl, hb0⟩
    have HB0 := Lib.hid hb0
    clear hb0
    go_wp2_with (fail)
    refine (new_yes 1 _ id1).mono ?_
    rintro e w1 ⟨g, F, rfl, k1, hb1⟩
    have HB1 := Lib.hid (HB0.out.trans (hb1.mono HB0.out.size))
    clear k1 hb1
    go_wp2
    go_ret
    exact ⟨rfl, HB1.out⟩
end Go.Proofs.Ytfchhlibjhblmaa
