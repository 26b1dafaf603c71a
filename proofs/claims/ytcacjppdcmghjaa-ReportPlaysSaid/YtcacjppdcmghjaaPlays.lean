/-
  WHAT IS PROVED: the law ReportPlays answers true for all arguments: after each step of a play the book and a plain list of its reports answer alike. No condition beyond those of the given row.
-/
import Derived.Test.YtcacjppdcmghjaaFails
import Derived.Test.YtcacjppdcmghjaaDropped
namespace Go.Proofs.Ytcacjppdcmghjaa
open Go.RowKit Go.Lib Go.Maps

theorem keep_two (a b t win : Int) (L : List Rp) : keepL 2 a b t win L = dropL L a b := rfl
theorem keep_three (a b t win : Int) (L : List Rp) : keepL 3 a b t win L = L.filter fun r => !ofB a r := rfl
theorem keep_four (a b t win : Int) (L : List Rp) : keepL 4 a b t win L = L.filter fun r => !staleB win t r := rfl

set_option maxRecDepth 100000 in
set_option maxHeartbeats 16000000 in
theorem plays_in (win : Int) (A : Option Addr) (n c : Nat) (l : List St) (about now : Int) (W : World) (hw1 : 1 ≤ win) (hw2 : win ≤ 1073741824) (hn : n ≤ 80) (hr : ActsAt W A n l) (hfit : ∀ x ∈ l, x.fits) (h0 : -1125899906842624 ≤ now) (h1 : now ≤ 1125899906842624) :
    Calls Try.prog 3 #[.int .i64 win, .slice A n c, .int .i64 about, .int .i64 now] W (Says true W) := by
  have d0 : (n : Int) ≤ 80 := by omega
  have HR := Lib.hid hr
  have HL := Lib.hid hr.1
  have HFT := Lib.hid hfit
  clear hr hfit
  go_enter Try.func3, Try.ntmps3
  go_wp2_with (fail)
  refine (anchor_any _).mono ?_
  rintro e w0 ⟨rfl, hb0⟩
  have HB0 := Lib.hid hb0
  clear hb0
  go_wp2_with (fail)
  refine (new_yes win _ hw1 hw2).mono ?_
  rintro e w1 ⟨g, b, rfl, k1, hb1, hg, hb⟩
  have K1 := Lib.hid k1
  have HB1 := Lib.hid (HB0.out.trans (hb1.mono HB0.out.size))
  have HBb : Hid (W.heap.size ≤ b) := Lib.hid (Nat.le_trans HB0.out.size hb)
  clear k1 hb1 hg hb
  go_wp2
  go_loopw [11, 52] (fun vl i wr => ∃ (k : Nat) (L : List Rp) (A9 : Option Addr) (n9 c9 : Nat), k ≤ n ∧ i = .int .i64 k ∧ vl = .slice A9 n9 c9 ∧ n9 ≤ c9 ∧ c9 ≤ 9223372036854775807 ∧ L.length ≤ k ∧ RpsAt wr A9 n9 L ∧ Bk wr g b win L ∧ Below W.heap.size W wr) (fun _ i _ => n - (intOf i).toNat)
  case atStart => exact ⟨0, [], none, 0, 0, by omega, rfl, rfl, by omega, by omega, by simp, RpsAt.nil_ _ _, K1.out, HB1.out⟩
  case round =>
    obtain ⟨w3, rfl⟩ : ∃ w3, w3 = wr := ⟨_, rfl⟩
    obtain ⟨k, L, A9, n9, c9, hk, rfl, rfl, hc9, hcm9, hlk, hrp, hbk, hbw⟩ := hrel
    have HK := Lib.hid hbk
    have HW := Lib.hid hbw
    have HRP := Lib.hid hrp
    have HLK := Lib.hid hlk
    have hn9 : n9 ≤ 80 := by have := hrp.1; omega
    clear hbk hbw hrp hlk
    by_cases hlt : k < n
    · obtain ⟨ad, x, rfl, hx, hbl, f0, f1, f2, f3⟩ := (HR.out.below HW.out).at_ hlt
      have HXF := Lib.hid (HFT.out x (List.mem_of_getElem? hx))
      obtain ⟨ho, xa, xb, xt⟩ := x
      simp only at f0 f1 f2 f3
      clear hx
      by_cases ht : xt < -1125899906842624
      · go_wp2
        go_ret
        exact ⟨rfl, HW.out.alloc HW.out.size _⟩
      · by_cases ht2 : 1125899906842624 < xt
        · have ht' : decide (xt < -1125899906842624) = false := by simpa using ht
          clear ht
          go_wp2
          go_ret
          exact ⟨rfl, HW.out.alloc HW.out.size _⟩
        · have t1 : -1125899906842624 ≤ xt := by omega
          have t2 : xt ≤ 1125899906842624 := by omega
          have HAL : Hid (Below w3.heap.size w3 (w3.alloc (.cells #[.int .i64 ho, .int .i64 xa, .int .i64 xb, .int .i64 xt] 30))) := Lib.hid ((Below.refl _ _).alloc (Nat.le_refl _) _)
          have HWA := Lib.hid (HW.out.alloc HW.out.size (.cells #[.int .i64 ho, .int .i64 xa, .int .i64 xb, .int .i64 xt] 30))
          have HKA := Lib.hid (HK.out.below HAL.out)
          have HPA := Lib.hid (HRP.out.below HAL.out)
          have HSA := Lib.hid (Sx.new w3 ⟨ho, xa, xb, xt⟩)
          have HBL3 : Hid (b < w3.heap.size) := Lib.hid HK.out.ltb
          clear ht ht2
          by_cases x1 : ho = 1
          · subst x1
            obtain ⟨er, HE⟩ : ∃ er : Int, Hid (noteE xa xb xt = er) := ⟨_, Lib.hid rfl⟩
            go_wp2_with (fail)
            refine (rnote_any A9 n9 c9 L ⟨1, xa, xb, xt⟩ _ (by omega) hc9 hcm9 HPA.out).mono ?_
            rintro e w4 ⟨AT, nT, cT, rfl, hrp4, hcT, hcmT, hb4⟩
            simp only at hrp4 ⊢
            rw [HE.out]
            have HP4 := Lib.hid hrp4
            have HS4 := Lib.hid (HSA.out.below hb4)
            have HK4 := Lib.hid (HKA.out.below hb4)
            have HB4 := Lib.hid (HWA.out.trans (hb4.mono HWA.out.size))
            have hs4 : w3.heap.size < w4.heap.size := HS4.out.lt
            obtain ⟨a0, a1, a2, a3⟩ := HS4.out.cells
            simp only at a0 a1 a2 a3
            clear hrp4 hb4
            go_wp2_with (fail)
            refine (note_any g b _ _ xa xb xt _ HK4.out (by have := HLK.out; omega)).mono ?_
            rintro e wt ⟨rfl, k5, hg5⟩
            rw [HE.out]
            have KT0 := Lib.hid k5
            have HBT := Lib.hid (HK4.out.grownB HB4.out HBb.out hg5)
            have PT0 := Lib.hid (HP4.out.kept HK4.out.map hg5)
            obtain ⟨LT, HLL⟩ : ∃ y, Hid (noteL L xa xb xt = y) := ⟨_, Lib.hid rfl⟩
            have HLT : Hid (LT.length ≤ k + 1) := Lib.hid (by rw [← HLL.out]; have := len_note_le L xa xb xt; have := HLK.out; omega)
            have KT : Hid (Bk wt g b win LT) := Lib.hid (by rw [← HLL.out]; exact KT0.out)
            have PT : Hid (RpsAt wt AT nT LT) := Lib.hid (by rw [← HLL.out]; exact PT0.out)
            clear k5 hg5 KT0 PT0
            obtain ⟨bl, HBL⟩ : ∃ y, Hid (byL LT about now win = y) := ⟨_, Lib.hid rfl⟩
            have HSM := Lib.hid (same_yes (rfl : bl = bl))
            have HNT : Hid (LT.length = nT) := Lib.hid PT.out.1
            have hnT : nT ≤ 80 := by have := HNT.out; have := HLT.out; omega
            have hbl : bl.length ≤ 80 := by have h := HLT.out; have h1 := by_le LT about now win; rw [HBL.out] at h1; omega
            go_wp2_with (fail)
            refine (len_any g b _ _ _ KT.out).mono ?_
            rintro e wl ⟨rfl, rfl⟩
            rw [HNT.out]
            go_wp2_with (fail)
            refine (by_any g b _ _ about now _ KT.out (by have := HLT.out; omega)).mono ?_
            rintro e wa ⟨hba, va, rfl, howna⟩
            rw [HBL.out] at howna
            obtain ⟨Aa, ca, rfl, hca, hcma⟩ := own_slice howna
            have PA := Lib.hid (PT.out.below hba)
            have KA := Lib.hid (KT.out.below hba)
            have HBA := Lib.hid (HBT.out.trans (hba.mono HBT.out.size))
            have HOA := Lib.hid howna
            clear hba howna
            go_wp2_with (fail)
            refine (rby_any AT nT cT LT about now win _ (by omega) PA.out KT.out.good.2 ⟨hw1, hw2⟩ ⟨by omega, by omega⟩).mono ?_
            rintro e wb ⟨hbb, vb, rfl, hownb⟩
            rw [HBL.out] at hownb
            obtain ⟨Ab, cb, rfl, hcb, hcmb⟩ := own_slice hownb
            have PB := Lib.hid (PA.out.below hbb)
            have KB := Lib.hid (KA.out.below hbb)
            have HBB := Lib.hid (HBA.out.trans (hbb.mono HBA.out.size))
            have HRA := Lib.hid (own_read (own_below HOA.out hbb) _ (.inl (Nat.le_refl _)))
            have HRB := Lib.hid (own_read hownb _ (.inl (Nat.le_refl _)))
            clear hbb hownb
            go_wp2_with (fail)
            refine (same_any Aa Ab _ ca _ cb bl bl _ _ _ (by omega) (by omega) HRA.out HRB.out).mono ?_
            rintro e wz ⟨rfl, rfl⟩
            rw [HSM.out]
            go_wp2
            go_roundw
            case rel => exact ⟨k + 1, LT, AT, nT, cT, by omega, by go_num, rfl, hcT, hcmT, HLT.out, PB.out, KB.out, HBB.out⟩
            case measure => simp [intOf]; omega
          · have y1 : (ho == 1) = false := by simpa using x1
            have hle4 := keep_le ho xa xb xt win L
            by_cases x2 : ho = 2
            · subst x2
              obtain ⟨m, HM⟩ : ∃ m : Int, Hid ((L.length : Int) - ((keepL 2 xa xb xt win L).length : Int) = m) := ⟨_, Lib.hid rfl⟩
              go_wp2_with (fail)
              refine (without_any A9 n9 c9 L ⟨2, xa, xb, xt⟩ win _ (by omega) hc9 hcm9 HPA.out HK.out.good.2 ⟨hw1, hw2⟩ HXF.out.2.2.2).mono ?_
              rintro e w4 ⟨AT, nT, cT, rfl, hrp4, hcT, hcmT, hb4⟩
              simp only at hrp4 ⊢
              rw [HM.out]
              have HP4 := Lib.hid hrp4
              have HS4 := Lib.hid (HSA.out.below hb4)
              have HK4 := Lib.hid (HKA.out.below hb4)
              have HB4 := Lib.hid (HWA.out.trans (hb4.mono HWA.out.size))
              have hs4 : w3.heap.size < w4.heap.size := HS4.out.lt
              obtain ⟨a0, a1, a2, a3⟩ := HS4.out.cells
              simp only at a0 a1 a2 a3
              clear hrp4 hb4
              go_wp2_with (fail)
              refine (clear_any g b _ _ xa xb _ HK4.out HXF.out.2.1 HXF.out.2.2.1).mono ?_
              rintro e wt ⟨rfl, k5, hg5⟩
              have KT0 := Lib.hid k5
              have HBT := Lib.hid (HK4.out.grownB HB4.out HBb.out hg5)
              have PT0 := Lib.hid (HP4.out.kept HK4.out.map hg5)
              have hway : (decide ((dropL L xa xb).length < L.length) = true ∧ m = 1) ∨ (decide ((dropL L xa xb).length < L.length) = false ∧ m = 0) := by
                have hm := HM.out
                rw [keep_two] at hm
                cases hh : hasL L xa xb
                · right
                  have h2 := drop_none hh
                  rw [h2] at hm ⊢
                  exact ⟨by simp, by omega⟩
                · left
                  have h2 := drop_one HK.out.good.1 hh
                  exact ⟨by simp; omega, by omega⟩
              obtain ⟨LT, HLL⟩ : ∃ y, Hid (dropL L xa xb = y) := ⟨_, Lib.hid rfl⟩
              have HLT : Hid (LT.length ≤ k + 1) := Lib.hid (by rw [← HLL.out]; have := HLK.out; rw [keep_two] at hle4; omega)
              have KT : Hid (Bk wt g b win LT) := Lib.hid (by rw [← HLL.out]; exact KT0.out)
              have PT : Hid (RpsAt wt AT nT LT) := Lib.hid (by rw [← HLL.out]; exact PT0.out)
              clear k5 hg5 KT0 PT0
              rcases hway with ⟨z1, rfl⟩ | ⟨z1, rfl⟩
              all_goals
                rw [z1]
                clear z1
                obtain ⟨bl, HBL⟩ : ∃ y, Hid (byL LT about now win = y) := ⟨_, Lib.hid rfl⟩
                have HSM := Lib.hid (same_yes (rfl : bl = bl))
                have HNT : Hid (LT.length = nT) := Lib.hid PT.out.1
                have hnT : nT ≤ 80 := by have := HNT.out; have := HLT.out; omega
                have hbl : bl.length ≤ 80 := by have h := HLT.out; have h1 := by_le LT about now win; rw [HBL.out] at h1; omega
                go_wp2_with (fail)
                refine (len_any g b _ _ _ KT.out).mono ?_
                rintro e wl ⟨rfl, rfl⟩
                rw [HNT.out]
                go_wp2_with (fail)
                refine (by_any g b _ _ about now _ KT.out (by have := HLT.out; omega)).mono ?_
                rintro e wa ⟨hba, va, rfl, howna⟩
                rw [HBL.out] at howna
                obtain ⟨Aa, ca, rfl, hca, hcma⟩ := own_slice howna
                have PA := Lib.hid (PT.out.below hba)
                have KA := Lib.hid (KT.out.below hba)
                have HBA := Lib.hid (HBT.out.trans (hba.mono HBT.out.size))
                have HOA := Lib.hid howna
                clear hba howna
                go_wp2_with (fail)
                refine (rby_any AT nT cT LT about now win _ (by omega) PA.out KT.out.good.2 ⟨hw1, hw2⟩ ⟨by omega, by omega⟩).mono ?_
                rintro e wb ⟨hbb, vb, rfl, hownb⟩
                rw [HBL.out] at hownb
                obtain ⟨Ab, cb, rfl, hcb, hcmb⟩ := own_slice hownb
                have PB := Lib.hid (PA.out.below hbb)
                have KB := Lib.hid (KA.out.below hbb)
                have HBB := Lib.hid (HBA.out.trans (hbb.mono HBA.out.size))
                have HRA := Lib.hid (own_read (own_below HOA.out hbb) _ (.inl (Nat.le_refl _)))
                have HRB := Lib.hid (own_read hownb _ (.inl (Nat.le_refl _)))
                clear hbb hownb
                go_wp2_with (fail)
                refine (same_any Aa Ab _ ca _ cb bl bl _ _ _ (by omega) (by omega) HRA.out HRB.out).mono ?_
                rintro e wz ⟨rfl, rfl⟩
                rw [HSM.out]
                go_wp2
                go_roundw
                case rel => exact ⟨k + 1, LT, AT, nT, cT, by omega, by go_num, rfl, hcT, hcmT, HLT.out, PB.out, KB.out, HBB.out⟩
                case measure => simp [intOf]; omega
            · have y2 : (ho == 2) = false := by simpa using x2
              by_cases x3 : ho = 3
              · subst x3
                obtain ⟨m, HM⟩ : ∃ m : Int, Hid ((L.length : Int) - ((keepL 3 xa xb xt win L).length : Int) = m) := ⟨_, Lib.hid rfl⟩
                go_wp2_with (fail)
                refine (without_any A9 n9 c9 L ⟨3, xa, xb, xt⟩ win _ (by omega) hc9 hcm9 HPA.out HK.out.good.2 ⟨hw1, hw2⟩ HXF.out.2.2.2).mono ?_
                rintro e w4 ⟨AT, nT, cT, rfl, hrp4, hcT, hcmT, hb4⟩
                simp only at hrp4 ⊢
                rw [HM.out]
                have HP4 := Lib.hid hrp4
                have HS4 := Lib.hid (HSA.out.below hb4)
                have HK4 := Lib.hid (HKA.out.below hb4)
                have HB4 := Lib.hid (HWA.out.trans (hb4.mono HWA.out.size))
                have hs4 : w3.heap.size < w4.heap.size := HS4.out.lt
                obtain ⟨a0, a1, a2, a3⟩ := HS4.out.cells
                simp only at a0 a1 a2 a3
                clear hrp4 hb4
                go_wp2_with (fail)
                refine (forget_any g b _ _ xa _ HK4.out (by have := HLK.out; omega)).mono ?_
                rintro e wt ⟨rfl, k5, hg5⟩
                have HM3 : Hid ((L.length : Int) - ((L.filter fun r => !ofB xa r).length : Int) = m) := Lib.hid HM.out
                rw [HM3.out]
                have KT0 := Lib.hid k5
                have HBT := Lib.hid (HK4.out.grownB HB4.out HBb.out hg5)
                have PT0 := Lib.hid (HP4.out.kept HK4.out.map hg5)
                obtain ⟨LT, HLL⟩ : ∃ y, Hid ((L.filter fun r => !ofB xa r) = y) := ⟨_, Lib.hid rfl⟩
                have HLT : Hid (LT.length ≤ k + 1) := Lib.hid (by rw [← HLL.out]; have := HLK.out; rw [keep_three] at hle4; omega)
                have KT : Hid (Bk wt g b win LT) := Lib.hid (by rw [← HLL.out]; exact KT0.out)
                have PT : Hid (RpsAt wt AT nT LT) := Lib.hid (by rw [← HLL.out]; exact PT0.out)
                clear k5 hg5 KT0 PT0
                obtain ⟨bl, HBL⟩ : ∃ y, Hid (byL LT about now win = y) := ⟨_, Lib.hid rfl⟩
                have HSM := Lib.hid (same_yes (rfl : bl = bl))
                have HNT : Hid (LT.length = nT) := Lib.hid PT.out.1
                have hnT : nT ≤ 80 := by have := HNT.out; have := HLT.out; omega
                have hbl : bl.length ≤ 80 := by have h := HLT.out; have h1 := by_le LT about now win; rw [HBL.out] at h1; omega
                go_wp2_with (fail)
                refine (len_any g b _ _ _ KT.out).mono ?_
                rintro e wl ⟨rfl, rfl⟩
                rw [HNT.out]
                go_wp2_with (fail)
                refine (by_any g b _ _ about now _ KT.out (by have := HLT.out; omega)).mono ?_
                rintro e wa ⟨hba, va, rfl, howna⟩
                rw [HBL.out] at howna
                obtain ⟨Aa, ca, rfl, hca, hcma⟩ := own_slice howna
                have PA := Lib.hid (PT.out.below hba)
                have KA := Lib.hid (KT.out.below hba)
                have HBA := Lib.hid (HBT.out.trans (hba.mono HBT.out.size))
                have HOA := Lib.hid howna
                clear hba howna
                go_wp2_with (fail)
                refine (rby_any AT nT cT LT about now win _ (by omega) PA.out KT.out.good.2 ⟨hw1, hw2⟩ ⟨by omega, by omega⟩).mono ?_
                rintro e wb ⟨hbb, vb, rfl, hownb⟩
                rw [HBL.out] at hownb
                obtain ⟨Ab, cb, rfl, hcb, hcmb⟩ := own_slice hownb
                have PB := Lib.hid (PA.out.below hbb)
                have KB := Lib.hid (KA.out.below hbb)
                have HBB := Lib.hid (HBA.out.trans (hbb.mono HBA.out.size))
                have HRA := Lib.hid (own_read (own_below HOA.out hbb) _ (.inl (Nat.le_refl _)))
                have HRB := Lib.hid (own_read hownb _ (.inl (Nat.le_refl _)))
                clear hbb hownb
                go_wp2_with (fail)
                refine (same_any Aa Ab _ ca _ cb bl bl _ _ _ (by omega) (by omega) HRA.out HRB.out).mono ?_
                rintro e wz ⟨rfl, rfl⟩
                rw [HSM.out]
                go_wp2
                go_roundw
                case rel => exact ⟨k + 1, LT, AT, nT, cT, by omega, by go_num, rfl, hcT, hcmT, HLT.out, PB.out, KB.out, HBB.out⟩
                case measure => simp [intOf]; omega
              · have y3 : (ho == 3) = false := by simpa using x3
                by_cases x4 : ho = 4
                · subst x4
                  obtain ⟨m, HM⟩ : ∃ m : Int, Hid ((L.length : Int) - ((keepL 4 xa xb xt win L).length : Int) = m) := ⟨_, Lib.hid rfl⟩
                  go_wp2_with (fail)
                  refine (without_any A9 n9 c9 L ⟨4, xa, xb, xt⟩ win _ (by omega) hc9 hcm9 HPA.out HK.out.good.2 ⟨hw1, hw2⟩ HXF.out.2.2.2).mono ?_
                  rintro e w4 ⟨AT, nT, cT, rfl, hrp4, hcT, hcmT, hb4⟩
                  simp only at hrp4 ⊢
                  rw [HM.out]
                  have HP4 := Lib.hid hrp4
                  have HS4 := Lib.hid (HSA.out.below hb4)
                  have HK4 := Lib.hid (HKA.out.below hb4)
                  have HB4 := Lib.hid (HWA.out.trans (hb4.mono HWA.out.size))
                  have hs4 : w3.heap.size < w4.heap.size := HS4.out.lt
                  obtain ⟨a0, a1, a2, a3⟩ := HS4.out.cells
                  simp only at a0 a1 a2 a3
                  clear hrp4 hb4
                  go_wp2_with (fail)
                  refine (expire_any g b _ _ xt _ HK4.out (by have := HLK.out; omega)).mono ?_
                  rintro e wt ⟨rfl, k5, hg5⟩
                  have HM3 : Hid ((L.length : Int) - ((L.filter fun r => !staleB win xt r).length : Int) = m) := Lib.hid HM.out
                  rw [HM3.out]
                  have KT0 := Lib.hid k5
                  have HBT := Lib.hid (HK4.out.grownB HB4.out HBb.out hg5)
                  have PT0 := Lib.hid (HP4.out.kept HK4.out.map hg5)
                  obtain ⟨LT, HLL⟩ : ∃ y, Hid ((L.filter fun r => !staleB win xt r) = y) := ⟨_, Lib.hid rfl⟩
                  have HLT : Hid (LT.length ≤ k + 1) := Lib.hid (by rw [← HLL.out]; have := HLK.out; rw [keep_four] at hle4; omega)
                  have KT : Hid (Bk wt g b win LT) := Lib.hid (by rw [← HLL.out]; exact KT0.out)
                  have PT : Hid (RpsAt wt AT nT LT) := Lib.hid (by rw [← HLL.out]; exact PT0.out)
                  clear k5 hg5 KT0 PT0
                  obtain ⟨bl, HBL⟩ : ∃ y, Hid (byL LT about now win = y) := ⟨_, Lib.hid rfl⟩
                  have HSM := Lib.hid (same_yes (rfl : bl = bl))
                  have HNT : Hid (LT.length = nT) := Lib.hid PT.out.1
                  have hnT : nT ≤ 80 := by have := HNT.out; have := HLT.out; omega
                  have hbl : bl.length ≤ 80 := by have h := HLT.out; have h1 := by_le LT about now win; rw [HBL.out] at h1; omega
                  go_wp2_with (fail)
                  refine (len_any g b _ _ _ KT.out).mono ?_
                  rintro e wl ⟨rfl, rfl⟩
                  rw [HNT.out]
                  go_wp2_with (fail)
                  refine (by_any g b _ _ about now _ KT.out (by have := HLT.out; omega)).mono ?_
                  rintro e wa ⟨hba, va, rfl, howna⟩
                  rw [HBL.out] at howna
                  obtain ⟨Aa, ca, rfl, hca, hcma⟩ := own_slice howna
                  have PA := Lib.hid (PT.out.below hba)
                  have KA := Lib.hid (KT.out.below hba)
                  have HBA := Lib.hid (HBT.out.trans (hba.mono HBT.out.size))
                  have HOA := Lib.hid howna
                  clear hba howna
                  go_wp2_with (fail)
                  refine (rby_any AT nT cT LT about now win _ (by omega) PA.out KT.out.good.2 ⟨hw1, hw2⟩ ⟨by omega, by omega⟩).mono ?_
                  rintro e wb ⟨hbb, vb, rfl, hownb⟩
                  rw [HBL.out] at hownb
                  obtain ⟨Ab, cb, rfl, hcb, hcmb⟩ := own_slice hownb
                  have PB := Lib.hid (PA.out.below hbb)
                  have KB := Lib.hid (KA.out.below hbb)
                  have HBB := Lib.hid (HBA.out.trans (hbb.mono HBA.out.size))
                  have HRA := Lib.hid (own_read (own_below HOA.out hbb) _ (.inl (Nat.le_refl _)))
                  have HRB := Lib.hid (own_read hownb _ (.inl (Nat.le_refl _)))
                  clear hbb hownb
                  go_wp2_with (fail)
                  refine (same_any Aa Ab _ ca _ cb bl bl _ _ _ (by omega) (by omega) HRA.out HRB.out).mono ?_
                  rintro e wz ⟨rfl, rfl⟩
                  rw [HSM.out]
                  go_wp2
                  go_roundw
                  case rel => exact ⟨k + 1, LT, AT, nT, cT, by omega, by go_num, rfl, hcT, hcmT, HLT.out, PB.out, KB.out, HBB.out⟩
                  case measure => simp [intOf]; omega
                · have y4 : (ho == 4) = false := by simpa using x4
                  obtain ⟨LT, HLL⟩ : ∃ y, Hid (L = y) := ⟨_, Lib.hid rfl⟩
                  obtain ⟨AT, rfl⟩ : ∃ y, y = A9 := ⟨_, rfl⟩
                  obtain ⟨nT, rfl⟩ : ∃ y, y = n9 := ⟨_, rfl⟩
                  obtain ⟨cT, rfl⟩ : ∃ y, y = c9 := ⟨_, rfl⟩
                  have hcT := hc9
                  have hcmT := hcm9
                  have HLT : Hid (LT.length ≤ k + 1) := Lib.hid (by rw [← HLL.out]; have := HLK.out; omega)
                  have KT : Hid (Bk (w3.alloc (.cells #[.int .i64 ho, .int .i64 xa, .int .i64 xb, .int .i64 xt] 30)) g b win LT) := Lib.hid (by rw [← HLL.out]; exact HKA.out)
                  have PT : Hid (RpsAt (w3.alloc (.cells #[.int .i64 ho, .int .i64 xa, .int .i64 xb, .int .i64 xt] 30)) AT nT LT) := Lib.hid (by rw [← HLL.out]; exact HPA.out)
                  have HBT := HWA
                  obtain ⟨bl, HBL⟩ : ∃ y, Hid (byL LT about now win = y) := ⟨_, Lib.hid rfl⟩
                  have HSM := Lib.hid (same_yes (rfl : bl = bl))
                  have HNT : Hid (LT.length = nT) := Lib.hid PT.out.1
                  have hnT : nT ≤ 80 := by have := HNT.out; have := HLT.out; omega
                  have hbl : bl.length ≤ 80 := by have h := HLT.out; have h1 := by_le LT about now win; rw [HBL.out] at h1; omega
                  go_wp2_with (fail)
                  refine (len_any g b _ _ _ KT.out).mono ?_
                  rintro e wl ⟨rfl, rfl⟩
                  rw [HNT.out]
                  go_wp2_with (fail)
                  refine (by_any g b _ _ about now _ KT.out (by have := HLT.out; omega)).mono ?_
                  rintro e wa ⟨hba, va, rfl, howna⟩
                  rw [HBL.out] at howna
                  obtain ⟨Aa, ca, rfl, hca, hcma⟩ := own_slice howna
                  have PA := Lib.hid (PT.out.below hba)
                  have KA := Lib.hid (KT.out.below hba)
                  have HBA := Lib.hid (HBT.out.trans (hba.mono HBT.out.size))
                  have HOA := Lib.hid howna
                  clear hba howna
                  go_wp2_with (fail)
                  refine (rby_any AT nT cT LT about now win _ (by omega) PA.out KT.out.good.2 ⟨hw1, hw2⟩ ⟨by omega, by omega⟩).mono ?_
                  rintro e wb ⟨hbb, vb, rfl, hownb⟩
                  rw [HBL.out] at hownb
                  obtain ⟨Ab, cb, rfl, hcb, hcmb⟩ := own_slice hownb
                  have PB := Lib.hid (PA.out.below hbb)
                  have KB := Lib.hid (KA.out.below hbb)
                  have HBB := Lib.hid (HBA.out.trans (hbb.mono HBA.out.size))
                  have HRA := Lib.hid (own_read (own_below HOA.out hbb) _ (.inl (Nat.le_refl _)))
                  have HRB := Lib.hid (own_read hownb _ (.inl (Nat.le_refl _)))
                  clear hbb hownb
                  go_wp2_with (fail)
                  refine (same_any Aa Ab _ ca _ cb bl bl _ _ _ (by omega) (by omega) HRA.out HRB.out).mono ?_
                  rintro e wz ⟨rfl, rfl⟩
                  rw [HSM.out]
                  go_wp2
                  go_roundw
                  case rel => exact ⟨k + 1, LT, AT, nT, cT, by omega, by go_num, rfl, hcT, hcmT, HLT.out, PB.out, KB.out, HBB.out⟩
                  case measure => simp [intOf]; omega
    · obtain rfl : k = n := by omega
      go_wp2
      go_ret
      exact ⟨rfl, HW.out⟩

set_option maxHeartbeats 2000000 in
theorem plays_any (win : Int) (A : Option Addr) (n c : Nat) (l : List St) (about now : Int) (W : World) (hr : ActsAt W A n l) (hfit : ∀ x ∈ l, x.fits) :
    Calls Try.prog 3 #[.int .i64 win, .slice A n c, .int .i64 about, .int .i64 now] W (Says true W) := by
  by_cases hw : 1 ≤ win ∧ win ≤ 1073741824
  · obtain ⟨hw1, hw2⟩ := hw
    by_cases hok : n ≤ 80 ∧ -1125899906842624 ≤ now ∧ now ≤ 1125899906842624
    · exact plays_in win A n c l about now W hw1 hw2 hok.1 hr hfit hok.2.1 hok.2.2
    · have hc : (80 : Int) < n ∨ (decide ((80 : Int) < n) = false ∧ now < -1125899906842624) ∨ (decide ((80 : Int) < n) = false ∧ decide (now < -1125899906842624) = false ∧ 1125899906842624 < now) := by simp; omega
      clear hok hr hfit
      rcases hc with h1 | ⟨h1, h2⟩ | ⟨h1, h2, h3⟩
      all_goals
        go_enter Try.func3, Try.ntmps3
        go_wp2_with (fail)
        refine (anchor_any _).mono ?_
        rintro e w0 ⟨rfl, hb0⟩
        have HB0 := Lib.hid hb0
        clear hb0
        go_wp2_with (fail)
        refine (new_yes win _ hw1 hw2).mono ?_
        rintro e w1 ⟨g, b, rfl, k1, hb1, hg, hb⟩
        have HB1 := Lib.hid (HB0.out.trans (hb1.mono HB0.out.size))
        clear k1 hb1 hg hb
        go_wp2
        go_ret
        exact ⟨rfl, HB1.out⟩
  · have hc : win < 1 ∨ (decide (win < 1) = false ∧ 1073741824 < win) := by simp; omega
    clear hr hfit
    rcases hc with h1 | ⟨h1, h2⟩
    all_goals
      go_enter Try.func3, Try.ntmps3
      go_wp2_with (fail)
      refine (anchor_any _).mono ?_
      rintro e w0 ⟨rfl, hb0⟩
      have HB0 := Lib.hid hb0
      clear hb0
      go_wp2_with (fail)
      refine (new_no win _ (by omega)).mono ?_
      rintro e w1 ⟨rfl, rfl⟩
      go_wp2
      go_ret
      exact ⟨rfl, HB0.out⟩
end Go.Proofs.Ytcacjppdcmghjaa
