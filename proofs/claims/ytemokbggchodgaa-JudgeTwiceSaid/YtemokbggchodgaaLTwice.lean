/-
  WHAT IS PROVED: the law JudgeTwice answers true for all events. Condition: they are there.
-/
import Derived.Test.YtemokbggchodgaaAnchor
namespace Go.Proofs.Ytemokbggchodgaa
open Go.RowKit Go.Lib
set_option maxRecDepth 100000

set_option maxHeartbeats 4000000 in
theorem ltwice_in (W : World) (A : Option Addr) (N c : Nat) (l : List Ev) (hr : Rd W no 5 A N (flatE l)) (hg : ∀ e ∈ l, OkE W no e) (hnc : N ≤ c) (hcm : c ≤ 9223372036854775807) :
    Calls Try.prog 3 #[.slice A N c] W (Says true W) := by
  have HR := Lib.hid hr
  have HG := Lib.hid hg
  have HL := Lib.hid hr.lenE
  clear hr hg
  go_enter Try.func3, Try.ntmps3
  go_wp2_with (fail)
  refine (anchor_any _).mono ?_
  rintro e w1 ⟨rfl, hb1⟩
  have HB1 := Lib.hid hb1
  have HR1 := Lib.hid (HR.out.below hb1)
  clear hb1
  go_wp2_with (fail)
  refine (small_any _ no A N c l HR1.out hnc hcm).mono ?_
  rintro e w2 ⟨⟨b, rfl, hsm⟩, hb2⟩
  have HB2 := Lib.hid (HB1.out.trans (hb2.mono HB1.out.size))
  clear hb2 HR1 HB1
  cases b
  · clear hsm
    go_wp2
    go_ret
    exact ⟨rfl, HB2.out⟩
  · obtain ⟨hN, _⟩ := hsm rfl
    clear hsm
    have HE0 : Hid (firstF (hitT l) (N - N) N = -1) := Lib.hid (firstF_end _ _)
    go_wp2
    go_loopw [3, 4] (fun v i wr => ∃ (j : Nat) (z x : Int), j ≤ N ∧ i = .int .i64 z ∧ z = (j : Int) - 1 ∧ v = .int .i64 x ∧ firstF (hitT l) (N - j) j = x ∧ Below W.heap.size W wr) (fun _ i _ => (RowKit.intOf i + 1).toNat)
    case atStart => exact ⟨N, _, _, Nat.le_refl _, rfl, rfl, rfl, HE0.out, HB2.out⟩
    case round =>
      obtain ⟨w3, rfl⟩ : ∃ w3, w3 = wr := ⟨_, rfl⟩
      obtain ⟨j, z, x, hj, rfl, hz, rfl, hx, hb3⟩ := hrel
      have HB3 := Lib.hid hb3
      have HX := Lib.hid hx
      clear hb3 hx
      by_cases hj0 : 0 < j
      · obtain ⟨m, rfl⟩ : ∃ m, j = m + 1 := ⟨j - 1, by omega⟩
        obtain rfl : ((m : Nat) : Int) = z := by omega
        clear hz hj0
        have hR3 := HR.out.below HB3.out
        obtain ⟨ad, e, rfl, he, hbl, _, d0, d1, d2, d3, d4⟩ := hR3.atE (k := m) (by omega)
        have HT := Lib.hid (hitT_at he)
        have HS := Lib.hid (did_same (l := l.take m) (e := e))
        obtain ⟨mk, mb, ma, me, mA, mn, mc, mw⟩ := e
        dsimp only at d0 d1 d2 d3 d4
        have D0 := Lib.hid d0
        have D1 := Lib.hid d1
        have D3 := Lib.hid d3
        clear he hbl d0 d1 d2 d3 d4 hR3
        have hmc : (m : Int) ≤ (c : Int) := by omega
        have hm0 : (0 : Int) ≤ (m : Int) := by omega
        have hmN : (m : Int) < (N : Int) := by omega
        go_wp2
        go_loopw [3, 23] (fun v i wr => ∃ (k : Nat) (y : Int), k ≤ m ∧ i = .int .i64 k ∧ v = .int .i64 y ∧ y = (if (l.take k).any (fun o => sameT o ⟨mk, mb, ma, me, mA, mn, mc, mw⟩) then (m : Int) else x) ∧ Below w3.heap.size w3 wr) (fun _ i _ => m - (RowKit.intOf i).toNat)
        case atStart => exact ⟨0, x, by omega, rfl, rfl, by simp, Below.refl _ _⟩
        case round =>
          obtain ⟨w5, rfl⟩ : ∃ w5, w5 = wr := ⟨_, rfl⟩
          obtain ⟨k, y, hk, rfl, rfl, hy, hb5⟩ := hrel
          have HY := Lib.hid hy
          have HB5 := Lib.hid hb5
          clear hy hb5
          by_cases hlt : k < m
          · have hb35 := HB3.out.trans (HB5.out.mono HB3.out.size)
            obtain ⟨ad', o, had, ho, hbl, _, c0, c1, c2, c3, c4⟩ := (HR.out.below hb35).atE (k := k) (by omega)
            injection had with had
            subst had
            have hta : (l.take (k + 1)).any (fun o => sameT o ⟨mk, mb, ma, me, mA, mn, mc, mw⟩) = ((l.take k).any (fun o => sameT o ⟨mk, mb, ma, me, mA, mn, mc, mw⟩) || sameT o ⟨mk, mb, ma, me, mA, mn, mc, mw⟩) := by
              rw [take_more ho, List.any_append]; simp
            have HTA := Lib.hid hta
            obtain ⟨ok, ob, oa, oe, oA, on, oc, ow⟩ := o
            dsimp only at c0 c1 c2 c3 c4
            obtain ⟨w6, hw6⟩ : ∃ x, w5.alloc (.cells #[.int .i64 ok, .int .i64 ob, .int .i64 oa, .int .i64 oe, .slice oA on oc] 27) = x := ⟨_, rfl⟩
            have hb6 : Below w5.heap.size w5 w6 := by rw [← hw6]; exact (Below.refl _ _).alloc (Nat.le_refl _) _
            have hx6 : Bx w6 w5.heap.size ⟨ok, ob, oa, oe, oA, on, oc, ow⟩ := by rw [← hw6]; exact Bx.new w5 ⟨ok, ob, oa, oe, oA, on, oc, ow⟩
            obtain ⟨x0, x1, x2, x3, x4⟩ := hx6.cells
            dsimp only at x0 x1 x2 x3 x4
            have hb36 := HB5.out.trans (hb6.mono HB5.out.size)
            have HB6 := Lib.hid hb36
            have d0 := (hb36.cell (lt_of_cell D0.out)).trans D0.out
            have d1 := (hb36.cell (lt_of_cell D1.out)).trans D1.out
            have d3 := (hb36.cell (lt_of_cell D3.out)).trans D3.out
            have hs6 : sameT ⟨ok, ob, oa, oe, oA, on, oc, ow⟩ ⟨mk, mb, ma, me, mA, mn, mc, mw⟩ = ((ok == mk) && ((ob == mb) && ((oe == me) && ((ok == 1) || (ok == 3))))) := rfl
            obtain ⟨s, hs⟩ : ∃ s, sameT ⟨ok, ob, oa, oe, oA, on, oc, ow⟩ ⟨mk, mb, ma, me, mA, mn, mc, mw⟩ = s := ⟨_, rfl⟩
            have HSS := Lib.hid hs
            have hways : (s = false ∧ ((ok == mk) = false ∨ (ok == mk) = true ∧ ((ob == mb) = false ∨ (ob == mb) = true ∧ ((oe == me) = false ∨ (oe == me) = true ∧ (ok == 1) = false ∧ (ok == 3) = false)))) ∨
                (s = true ∧ (ok == mk) = true ∧ (ob == mb) = true ∧ (oe == me) = true ∧ ((ok == 1) = true ∨ (ok == 1) = false ∧ (ok == 3) = true)) := by
              rw [← hs, hs6]
              cases (ok == mk) <;> cases (ob == mb) <;> cases (oe == me) <;> cases (ok == 1) <;> cases (ok == 3) <;> simp
            have hkN : (k : Int) < (m : Int) := by omega
            clear ho hta hbl hb35 hb6 hx6 hb36 hs6 hs D0 D1 D3
            rcases hways with ⟨rfl, hways⟩ | ⟨rfl, t1, t2, t3, hways⟩
            · rcases hways with t1 | ⟨t1, t2 | ⟨t2, t3 | ⟨t3, t4, t5⟩⟩⟩
              all_goals
                go_wp2
                go_quiet (fail)
                have HB7 := Lib.hid (below_drewN HB6.out nq)
                go_wp2
                go_roundw
                case rel => exact ⟨k + 1, y, by omega, by go_num, rfl, by rw [HTA.out, HSS.out, Bool.or_false]; exact HY.out, HB7.out⟩
                case measure => simp [RowKit.intOf]; omega
            · rcases hways with t4 | ⟨t4, t5⟩
              all_goals
                go_wp2
                go_quiet (fail)
                have HB7 := Lib.hid (below_drewN HB6.out nq)
                go_wp2
                go_roundw
                case rel => exact ⟨k + 1, _, by omega, by go_num, rfl, by rw [HTA.out, HSS.out, Bool.or_true]; rfl, HB7.out⟩
                case measure => simp [RowKit.intOf]; omega
          · obtain rfl : k = m := by omega
            have HF : Hid (firstF (hitT l) (N - k) k = y) := Lib.hid (by
              have h1 := HT.out
              have h2 := HS.out
              have hy := HY.out
              rw [h2, ← h1] at hy
              cases hh : hitT l k
              · rw [hh] at hy
                rw [firstF_no (by omega) hh, HX.out, hy]
                rfl
              · rw [hh] at hy
                rw [firstF_yes (by omega) hh, hy]
                rfl)
            go_wp2
            go_roundw
            case rel => exact ⟨k, _, y, by omega, rfl, rfl, rfl, HF.out, HB3.out.trans (HB5.out.mono HB3.out.size)⟩
            case measure => simp [RowKit.intOf]
      · obtain rfl : j = 0 := by omega
        have hzn : z < 0 := by omega
        have hzd : decide ((0 : Int) ≤ z) = false := by simp; omega
        have tx : (x == x) = true := by simp
        have HX0 : Hid (firstF (hitT l) N 0 = x) := HX
        go_wp2_with (fail)
        refine (twice_any w3 no A N c l (HR.out.below HB3.out) (fun e he => (HG.out e he).below HB3.out) (by omega)).mono ?_
        rintro e w4 ⟨rfl, hb4⟩
        rw [HX0.out]
        have HB4 := Lib.hid (HB3.out.trans (hb4.mono HB3.out.size))
        clear hb4
        go_wp2
        go_ret
        exact ⟨rfl, HB4.out⟩
end Go.Proofs.Ytemokbggchodgaa
