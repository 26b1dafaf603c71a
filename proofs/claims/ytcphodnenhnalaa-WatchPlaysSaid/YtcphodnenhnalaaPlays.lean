/-
  WHAT IS PROVED: the law WatchPlays answers true for all arguments: after each step of a play the watch and a plain list of its peers answer alike. No condition beyond those of the given row.
-/
import Derived.Test.YtcphodnenhnalaaLike
import Derived.Test.YtcphodnenhnalaaAnchor
namespace Go.Proofs.Ytcphodnenhnalaa
open Go.RowKit Go.Lib Go.Maps

theorem Good.addL {L : List Pr} (h : Good L) (x t : Int) : Good (addL L x t) := by
  by_cases he : addE L x t = 0
  · rw [addL_ok he]; exact h.add he
  · rw [addL_no he]; exact h

set_option maxRecDepth 100000 in
set_option maxHeartbeats 16000000 in
theorem plays_in (T : Int) (A : Option Addr) (n c : Nat) (l : List St) (now : Int) (W : World) (hT1 : 2 ≤ T) (hT2 : T ≤ 1073741824) (hn : n ≤ 80) (hr : ActsAt W A n l) (hfit : ∀ x ∈ l, x.fits) (h0 : -1125899906842624 ≤ now) (h1 : now ≤ 1125899906842624) :
    Calls Try.prog 3 #[.int .i64 T, .slice A n c, .int .i64 now] W (Says true W) := by
  have d0 : (n : Int) ≤ 80 := by omega
  have HNO : Hid (inInt now) := Lib.hid ⟨by omega, by omega⟩
  have HR := Lib.hid hr
  have HL := Lib.hid hr.1
  have HFT := Lib.hid hfit
  clear hr hfit
  go_enter Try.func3, Try.ntmps3
  go_wp2_with (fail)
  refine (anchor_any _).mono ?_
  rintro e w0 ⟨rfl, hb0⟩
  have HB0 := Lib.hid hb0
  clear hb0
  go_wp2_with (fail)
  refine (new_yes T _ hT1 hT2).mono ?_
  rintro e w1 ⟨g, b, rfl, k1, hb1, hg, hb⟩
  have K1 := Lib.hid k1
  have HB1 := Lib.hid (HB0.out.trans (hb1.mono HB0.out.size))
  have HBb : Hid (W.heap.size ≤ b) := Lib.hid (Nat.le_trans HB0.out.size hb)
  clear k1 hb1 hg hb
  go_wp2
  go_loopw [9, 53] (fun vl i wr => ∃ (k : Nat) (L : List Pr) (A9 : Option Addr) (n9 c9 : Nat), k ≤ n ∧ i = .int .i64 k ∧ vl = .slice A9 n9 c9 ∧ n9 ≤ c9 ∧ c9 ≤ 9223372036854775807 ∧ PrsAt wr A9 n9 L ∧ Wt wr g b T L ∧ Below W.heap.size W wr) (fun _ i _ => n - (intOf i).toNat)
  case atStart => exact ⟨0, [], Option.none, 0, 0, by omega, rfl, rfl, by omega, by omega, PrsAt.nil_ _ _, K1.out, HB1.out⟩
  case round =>
    obtain ⟨w3, rfl⟩ : ∃ w3, w3 = wr := ⟨_, rfl⟩
    obtain ⟨k, L, A9, n9, c9, hk, rfl, rfl, hc9, hcm9, hrp, hwt, hbw⟩ := hrel
    have HK := Lib.hid hwt
    have HW := Lib.hid hbw
    have HRP := Lib.hid hrp
    have hn9 : n9 ≤ 100 := by have h1 := hrp.1; have h2 := hwt.good.len; omega
    clear hwt hbw hrp
    by_cases hlt : k < n
    · obtain ⟨ad, x, rfl, hx, hbl, f0, f1, f2⟩ := (HR.out.below HW.out).at_ hlt
      have HXF := Lib.hid (HFT.out x (List.mem_of_getElem? hx))
      obtain ⟨ho, xi, xt⟩ := x
      simp only at f0 f1 f2
      clear hx
      have HAL : Hid (Below w3.heap.size w3 (w3.alloc (.cells #[.int .i64 ho, .int .i64 xi, .int .i64 xt] 30))) := Lib.hid ((Below.refl _ _).alloc (Nat.le_refl _) _)
      have HWA := Lib.hid (HW.out.alloc HW.out.size (.cells #[.int .i64 ho, .int .i64 xi, .int .i64 xt] 30))
      have HKA := Lib.hid (HK.out.below HAL.out)
      have HPA := Lib.hid (HRP.out.below HAL.out)
      have HSA := Lib.hid (Sx.new w3 ⟨ho, xi, xt⟩)
      have HBL3 : Hid (b < w3.heap.size) := Lib.hid HK.out.ltb
      by_cases x1 : ho = 1
      · subst x1
        obtain ⟨er, HE⟩ : ∃ er : Int, Hid (addE L xi xt = er) := ⟨_, Lib.hid rfl⟩
        go_wp2_with (fail)
        refine (step_add A9 n9 c9 L xi xt _ hn9 hc9 hcm9 HPA.out HK.out.good.up).mono ?_
        rintro e w4 ⟨AT, nT, cT, rfl, hrp4, hcT, hcmT, hb4⟩
        rw [HE.out]
        have HP4 := Lib.hid hrp4
        have HS4 := Lib.hid (HSA.out.below hb4)
        have HK4 := Lib.hid (HKA.out.below hb4)
        have HB4 := Lib.hid (HWA.out.trans (hb4.mono HWA.out.size))
        have hs4 : w3.heap.size < w4.heap.size := HS4.out.lt
        obtain ⟨a0, a1, a2⟩ := HS4.out.cells
        simp only at a0 a1 a2
        clear hrp4 hb4
        go_wp2_with (fail)
        refine (add_any g b _ _ xi xt _ HK4.out).mono ?_
        rintro e wt ⟨rfl, k5, hg5⟩
        rw [HE.out]
        have HS5 : Hid (Sx wt w3.heap.size ⟨1, xi, xt⟩) := Lib.hid (HS4.out.kept hg5 (by have := HBL3.out; simp; omega))
        have HBT := Lib.hid (HK4.out.grownB HB4.out HBb.out hg5)
        have PT0 := Lib.hid (HP4.out.kept HK4.out.map hg5)
        have KT0 := Lib.hid k5
        obtain ⟨LT, HLL⟩ : ∃ y, Hid (addL L xi xt = y) := ⟨_, Lib.hid rfl⟩
        have KT : Hid (Wt wt g b T LT) := Lib.hid (by rw [← HLL.out]; exact KT0.out)
        have PT : Hid (PrsAt wt AT nT LT) := Lib.hid (by rw [← HLL.out]; exact PT0.out)
        have hnT : nT ≤ 100 := by have h1 := PT.out.1; have h2 := KT.out.good.len; omega
        obtain ⟨c0, c1, c2⟩ := HS5.out.cells
        simp only at c0 c1 c2
        clear k5 hg5 KT0 PT0 a0 a1 a2
        go_wp2_with (fail)
        refine (like_any g b T now AT nT cT LT _ hnT KT.out PT.out HNO.out).mono ?_
        rintro e wa ⟨rfl, hba⟩
        have HSA2 := Lib.hid (HS5.out.below hba)
        have KA := Lib.hid (KT.out.below hba)
        have PA := Lib.hid (PT.out.below hba)
        have HBA := Lib.hid (HBT.out.trans (hba.mono HBT.out.size))
        obtain ⟨e0, e1, e2⟩ := HSA2.out.cells
        simp only at e0 e1 e2
        clear hba c0 c1 c2
        go_wp2_with (fail)
        refine (like_any g b T xt AT nT cT LT _ hnT KA.out PA.out HXF.out.2.2).mono ?_
        rintro e wb ⟨rfl, hbb⟩
        have KB := Lib.hid (KA.out.below hbb)
        have PB := Lib.hid (PA.out.below hbb)
        have HBB := Lib.hid (HBA.out.trans (hbb.mono HBA.out.size))
        clear hbb
        go_wp2
        go_roundw
        case rel => exact ⟨k + 1, LT, AT, nT, cT, by omega, by go_num, rfl, hcT, hcmT, PB.out, KB.out, HBB.out⟩
        case measure => simp [intOf]; omega
      · by_cases x2 : ho = 2
        · subst x2
          obtain ⟨q, HQ⟩ : ∃ q, Hid (hasL L xi = q) := ⟨_, Lib.hid rfl⟩
          obtain ⟨er, HE⟩ : ∃ er : Int, Hid ((if hasL L xi = true then (1 : Int) else 0) = er) := ⟨_, Lib.hid rfl⟩
          go_wp2_with (fail)
          refine (step_remove A9 n9 c9 L xi xt _ hn9 hc9 hcm9 HPA.out HK.out.good.up).mono ?_
          rintro e w4 ⟨AT, nT, cT, rfl, hrp4, hcT, hcmT, hb4⟩
          rw [HE.out]
          have HP4 := Lib.hid hrp4
          have HS4 := Lib.hid (HSA.out.below hb4)
          have HK4 := Lib.hid (HKA.out.below hb4)
          have HB4 := Lib.hid (HWA.out.trans (hb4.mono HWA.out.size))
          have hs4 : w3.heap.size < w4.heap.size := HS4.out.lt
          obtain ⟨a0, a1, a2⟩ := HS4.out.cells
          simp only at a0 a1 a2
          clear hrp4 hb4
          go_wp2_with (fail)
          refine (remove_any g b _ _ xi _ HK4.out HXF.out.2.1).mono ?_
          rintro e wt ⟨rfl, k5, hg5⟩
          rw [HQ.out]
          have HS5 : Hid (Sx wt w3.heap.size ⟨2, xi, xt⟩) := Lib.hid (HS4.out.kept hg5 (by have := HBL3.out; simp; omega))
          have HBT := Lib.hid (HK4.out.grownB HB4.out HBb.out hg5)
          have PT0 := Lib.hid (HP4.out.kept HK4.out.map hg5)
          have KT0 := Lib.hid k5
          obtain ⟨LT, HLL⟩ : ∃ y, Hid (delL L xi = y) := ⟨_, Lib.hid rfl⟩
          have KT : Hid (Wt wt g b T LT) := Lib.hid (by rw [← HLL.out]; exact KT0.out)
          have PT : Hid (PrsAt wt AT nT LT) := Lib.hid (by rw [← HLL.out]; exact PT0.out)
          have hnT : nT ≤ 100 := by have h1 := PT.out.1; have h2 := KT.out.good.len; omega
          obtain ⟨c0, c1, c2⟩ := HS5.out.cells
          simp only at c0 c1 c2
          clear k5 hg5 KT0 PT0 a0 a1 a2
          have hway : (q = true ∧ er = 1) ∨ (q = false ∧ er = 0) := by
            have hm := HE.out
            rw [HQ.out] at hm
            cases q
            · exact .inr ⟨rfl, by rw [← hm]; rfl⟩
            · exact .inl ⟨rfl, by rw [← hm]; rfl⟩
          rcases hway with ⟨rfl, rfl⟩ | ⟨rfl, rfl⟩
          all_goals
            go_wp2_with (fail)
            refine (like_any g b T now AT nT cT LT _ hnT KT.out PT.out HNO.out).mono ?_
            rintro e wa ⟨rfl, hba⟩
            have HSA2 := Lib.hid (HS5.out.below hba)
            have KA := Lib.hid (KT.out.below hba)
            have PA := Lib.hid (PT.out.below hba)
            have HBA := Lib.hid (HBT.out.trans (hba.mono HBT.out.size))
            obtain ⟨e0, e1, e2⟩ := HSA2.out.cells
            simp only at e0 e1 e2
            clear hba c0 c1 c2
            go_wp2_with (fail)
            refine (like_any g b T xt AT nT cT LT _ hnT KA.out PA.out HXF.out.2.2).mono ?_
            rintro e wb ⟨rfl, hbb⟩
            have KB := Lib.hid (KA.out.below hbb)
            have PB := Lib.hid (PA.out.below hbb)
            have HBB := Lib.hid (HBA.out.trans (hbb.mono HBA.out.size))
            clear hbb
            go_wp2
            go_roundw
            case rel => exact ⟨k + 1, LT, AT, nT, cT, by omega, by go_num, rfl, hcT, hcmT, PB.out, KB.out, HBB.out⟩
            case measure => simp [intOf]; omega
        · by_cases x3 : ho = 3
          · subst x3
            obtain ⟨er, HE⟩ : ∃ er : Int, Hid (metE L xi xt = er) := ⟨_, Lib.hid rfl⟩
            go_wp2_with (fail)
            refine (step_ping A9 n9 c9 L xi xt _ hn9 hc9 hcm9 HPA.out HK.out.good.up).mono ?_
            rintro e w4 ⟨AT, nT, cT, rfl, hrp4, hcT, hcmT, hb4⟩
            rw [HE.out]
            have HP4 := Lib.hid hrp4
            have HS4 := Lib.hid (HSA.out.below hb4)
            have HK4 := Lib.hid (HKA.out.below hb4)
            have HB4 := Lib.hid (HWA.out.trans (hb4.mono HWA.out.size))
            have hs4 : w3.heap.size < w4.heap.size := HS4.out.lt
            obtain ⟨a0, a1, a2⟩ := HS4.out.cells
            simp only at a0 a1 a2
            clear hrp4 hb4
            go_wp2_with (fail)
            refine (ping_any g b _ _ xi xt _ HK4.out).mono ?_
            rintro e wt ⟨rfl, k5, hg5⟩
            rw [HE.out]
            have HS5 : Hid (Sx wt w3.heap.size ⟨3, xi, xt⟩) := Lib.hid (HS4.out.kept hg5 (by have := HBL3.out; simp; omega))
            have HBT := Lib.hid (HK4.out.grownB HB4.out HBb.out hg5)
            have PT0 := Lib.hid (HP4.out.kept HK4.out.map hg5)
            have KT0 := Lib.hid k5
            obtain ⟨LT, HLL⟩ : ∃ y, Hid (pingL L xi xt = y) := ⟨_, Lib.hid rfl⟩
            have KT : Hid (Wt wt g b T LT) := Lib.hid (by rw [← HLL.out]; exact KT0.out)
            have PT : Hid (PrsAt wt AT nT LT) := Lib.hid (by rw [← HLL.out]; exact PT0.out)
            have hnT : nT ≤ 100 := by have h1 := PT.out.1; have h2 := KT.out.good.len; omega
            obtain ⟨c0, c1, c2⟩ := HS5.out.cells
            simp only at c0 c1 c2
            clear k5 hg5 KT0 PT0 a0 a1 a2
            go_wp2_with (fail)
            refine (like_any g b T now AT nT cT LT _ hnT KT.out PT.out HNO.out).mono ?_
            rintro e wa ⟨rfl, hba⟩
            have HSA2 := Lib.hid (HS5.out.below hba)
            have KA := Lib.hid (KT.out.below hba)
            have PA := Lib.hid (PT.out.below hba)
            have HBA := Lib.hid (HBT.out.trans (hba.mono HBT.out.size))
            obtain ⟨e0, e1, e2⟩ := HSA2.out.cells
            simp only at e0 e1 e2
            clear hba c0 c1 c2
            go_wp2_with (fail)
            refine (like_any g b T xt AT nT cT LT _ hnT KA.out PA.out HXF.out.2.2).mono ?_
            rintro e wb ⟨rfl, hbb⟩
            have KB := Lib.hid (KA.out.below hbb)
            have PB := Lib.hid (PA.out.below hbb)
            have HBB := Lib.hid (HBA.out.trans (hbb.mono HBA.out.size))
            clear hbb
            go_wp2
            go_roundw
            case rel => exact ⟨k + 1, LT, AT, nT, cT, by omega, by go_num, rfl, hcT, hcmT, PB.out, KB.out, HBB.out⟩
            case measure => simp [intOf]; omega
          · by_cases x4 : ho = 4
            · subst x4
              obtain ⟨er, HE⟩ : ∃ er : Int, Hid (metE L xi xt = er) := ⟨_, Lib.hid rfl⟩
              go_wp2_with (fail)
              refine (step_pong A9 n9 c9 L xi xt _ hn9 hc9 hcm9 HPA.out HK.out.good.up).mono ?_
              rintro e w4 ⟨AT, nT, cT, rfl, hrp4, hcT, hcmT, hb4⟩
              rw [HE.out]
              have HP4 := Lib.hid hrp4
              have HS4 := Lib.hid (HSA.out.below hb4)
              have HK4 := Lib.hid (HKA.out.below hb4)
              have HB4 := Lib.hid (HWA.out.trans (hb4.mono HWA.out.size))
              have hs4 : w3.heap.size < w4.heap.size := HS4.out.lt
              obtain ⟨a0, a1, a2⟩ := HS4.out.cells
              simp only at a0 a1 a2
              clear hrp4 hb4
              go_wp2_with (fail)
              refine (pong_any g b _ _ xi xt _ HK4.out).mono ?_
              rintro e wt ⟨rfl, k5, hg5⟩
              rw [HE.out]
              have HS5 : Hid (Sx wt w3.heap.size ⟨4, xi, xt⟩) := Lib.hid (HS4.out.kept hg5 (by have := HBL3.out; simp; omega))
              have HBT := Lib.hid (HK4.out.grownB HB4.out HBb.out hg5)
              have PT0 := Lib.hid (HP4.out.kept HK4.out.map hg5)
              have KT0 := Lib.hid k5
              obtain ⟨LT, HLL⟩ : ∃ y, Hid (pongL L xi xt = y) := ⟨_, Lib.hid rfl⟩
              have KT : Hid (Wt wt g b T LT) := Lib.hid (by rw [← HLL.out]; exact KT0.out)
              have PT : Hid (PrsAt wt AT nT LT) := Lib.hid (by rw [← HLL.out]; exact PT0.out)
              have hnT : nT ≤ 100 := by have h1 := PT.out.1; have h2 := KT.out.good.len; omega
              obtain ⟨c0, c1, c2⟩ := HS5.out.cells
              simp only at c0 c1 c2
              clear k5 hg5 KT0 PT0 a0 a1 a2
              go_wp2_with (fail)
              refine (like_any g b T now AT nT cT LT _ hnT KT.out PT.out HNO.out).mono ?_
              rintro e wa ⟨rfl, hba⟩
              have HSA2 := Lib.hid (HS5.out.below hba)
              have KA := Lib.hid (KT.out.below hba)
              have PA := Lib.hid (PT.out.below hba)
              have HBA := Lib.hid (HBT.out.trans (hba.mono HBT.out.size))
              obtain ⟨e0, e1, e2⟩ := HSA2.out.cells
              simp only at e0 e1 e2
              clear hba c0 c1 c2
              go_wp2_with (fail)
              refine (like_any g b T xt AT nT cT LT _ hnT KA.out PA.out HXF.out.2.2).mono ?_
              rintro e wb ⟨rfl, hbb⟩
              have KB := Lib.hid (KA.out.below hbb)
              have PB := Lib.hid (PA.out.below hbb)
              have HBB := Lib.hid (HBA.out.trans (hbb.mono HBA.out.size))
              clear hbb
              go_wp2
              go_roundw
              case rel => exact ⟨k + 1, LT, AT, nT, cT, by omega, by go_num, rfl, hcT, hcmT, PB.out, KB.out, HBB.out⟩
              case measure => simp [intOf]; omega
            · have t1 : (ho == 1) = false := by simpa using x1
              have t2 : (ho == 2) = false := by simpa using x2
              have t3 : (ho == 3) = false := by simpa using x3
              have t4 : (ho == 4) = false := by simpa using x4
              obtain ⟨m, hstep⟩ := step_rest A9 n9 c9 L xi xt (w3.alloc (.cells #[.int .i64 ho, .int .i64 xi, .int .i64 xt] 30)) hn9 hc9 hcm9 HPA.out HK.out.good.up ho t1 t2 t3 t4
              have HST := Lib.hid hstep
              clear hstep
              go_wp2_with (fail)
              refine HST.out.mono ?_
              rintro e w4 ⟨AT, nT, cT, rfl, hrp4, hcT, hcmT, hb4⟩
              have HP4 := Lib.hid hrp4
              have HS4 := Lib.hid (HSA.out.below hb4)
              have HB5 := Lib.hid hb4
              have HK4 := Lib.hid (HKA.out.below hb4)
              have HB4 := Lib.hid (HWA.out.trans (hb4.mono HWA.out.size))
              have hs4 : w3.heap.size < w4.heap.size := HS4.out.lt
              obtain ⟨a0, a1, a2⟩ := HS4.out.cells
              simp only at a0 a1 a2
              clear hrp4 hb4
              go_wp2
              go_roundw
              case rel => exact ⟨k + 1, L, A9, n9, c9, by omega, by go_num, rfl, hc9, hcm9, HRP.out.below (HAL.out.trans (HB5.out.mono (by simp))), HK4.out, HB4.out⟩
              case measure => simp [intOf]; omega
    · obtain rfl : k = n := by omega
      go_wp2
      go_ret
      exact ⟨rfl, HW.out⟩

set_option maxRecDepth 100000 in
set_option maxHeartbeats 2000000 in
theorem plays_out (T : Int) (A : Option Addr) (n c : Nat) (now : Int) (W : World) (h : (T < 2 ∨ 1073741824 < T) ∨ (2 ≤ T ∧ T ≤ 1073741824 ∧ (80 < n ∨ (n ≤ 80 ∧ (now < -1125899906842624 ∨ 1125899906842624 < now))))) :
    Calls Try.prog 3 #[.int .i64 T, .slice A n c, .int .i64 now] W (Says true W) := by
  rcases h with h | ⟨hT1, hT2, h⟩
  · have HH := Lib.hid h
    rcases h with h | h
    all_goals
      go_enter Try.func3, Try.ntmps3
      go_wp2_with (fail)
      refine (anchor_any _).mono ?_
      rintro e w0 ⟨rfl, hb0⟩
      have HB0 := Lib.hid hb0
      clear hb0
      go_wp2_with (fail)
      refine (new_no T _ HH.out).mono ?_
      rintro e w1 ⟨rfl, rfl⟩
      go_wp2
      go_ret
      exact ⟨rfl, HB0.out⟩
  · rcases h with h | ⟨h, h2 | h2⟩
    all_goals
      go_enter Try.func3, Try.ntmps3
      go_wp2_with (fail)
      refine (anchor_any _).mono ?_
      rintro e w0 ⟨rfl, hb0⟩
      have HB0 := Lib.hid hb0
      clear hb0
      go_wp2_with (fail)
      refine (new_yes T _ hT1 hT2).mono ?_
      rintro e w1 ⟨g, b, rfl, k1, hb1, hg, hb⟩
      have HB1 := Lib.hid (HB0.out.trans (hb1.mono HB0.out.size))
      clear k1 hb1 hg hb
      go_wp2
      go_ret
      exact ⟨rfl, HB1.out⟩
theorem plays_any (T : Int) (A : Option Addr) (n c : Nat) (l : List St) (now : Int) (W : World) (hr : ActsAt W A n l) (hfit : ∀ x ∈ l, x.fits) :
    Calls Try.prog 3 #[.int .i64 T, .slice A n c, .int .i64 now] W (Says true W) := by
  by_cases h1 : 2 ≤ T ∧ T ≤ 1073741824
  · by_cases h2 : n ≤ 80
    · by_cases h3 : -1125899906842624 ≤ now ∧ now ≤ 1125899906842624
      · exact plays_in T A n c l now W h1.1 h1.2 h2 hr hfit h3.1 h3.2
      · exact plays_out T A n c now W (.inr ⟨h1.1, h1.2, .inr ⟨h2, by omega⟩⟩)
    · exact plays_out T A n c now W (.inr ⟨h1.1, h1.2, .inl (by omega)⟩)
  · exact plays_out T A n c now W (.inl (by omega))
end Go.Proofs.Ytcphodnenhnalaa
