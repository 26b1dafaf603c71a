/-
  WHAT IS PROVED: the law JudgeFounds answers true for all events. Condition: they are there.
-/
import Derived.Test.YtemokbggchodgaaAnchor
import Derived.Test.YtemokbggchodgaaFound
namespace Go.Proofs.Ytemokbggchodgaa
open Go.RowKit Go.Lib
set_option maxRecDepth 100000

theorem boxE {w w' : World} {e : Ev} (h : w.alloc (.cells (rowE e) 27) = w') : Below w.heap.size w w' ∧ Bx w' w.heap.size e := by
  rw [← h]
  exact ⟨(Below.refl _ _).alloc (Nat.le_refl _) _, Bx.new w e⟩
set_option maxHeartbeats 4000000 in
theorem lfounds_in (W : World) (A : Option Addr) (N c : Nat) (l : List Ev) (hr : Rd W no 5 A N (flatE l)) (hg : ∀ e ∈ l, OkE W no e) (hnc : N ≤ c) (hcm : c ≤ 9223372036854775807) :
    Calls Try.prog 4 #[.slice A N c] W (Says true W) := by
  have HR := Lib.hid hr
  have HG := Lib.hid hg
  clear hr hg
  go_enter Try.func4, Try.ntmps4
  go_wp2_with (fail)
  refine (anchor_any _).mono ?_
  rintro e w1 ⟨rfl, hb1⟩
  have HB1 := Lib.hid hb1
  have HR1 := Lib.hid (HR.out.below hb1)
  clear hb1
  go_wp2_with (fail)
  refine (small_any _ no A N c l HR1.out hnc hcm).mono ?_
  rintro e w2 ⟨⟨b, rfl, hsm⟩, hb2⟩
  have HB2 := Lib.hid (HB1.out.trans (hb2.mono HB1.out.size))
  clear hb2 HR1 HB1
  cases b
  · clear hsm
    go_wp2
    go_ret
    exact ⟨rfl, HB2.out⟩
  · obtain ⟨hN, hn30⟩ := hsm rfl
    have HN30 := Lib.hid hn30
    clear hsm hn30
    go_wp2_with (fail)
    refine (unfounded_any w2 no A N c l (HR.out.below HB2.out) (fun e he => (HG.out e he).below HB2.out) (by omega)).mono ?_
    rintro e w3 ⟨rfl, hb3⟩
    have HB3 := Lib.hid (HB2.out.trans (hb3.mono HB2.out.size))
    obtain ⟨X, hX⟩ : ∃ x, firstF (badW l) N 0 = x := ⟨_, rfl⟩
    have HX := Lib.hid hX
    rw [hX]
    clear hb3 hX HB2
    go_wp2
    go_loopw [21] (fun i wr => ∃ (k : Nat), k ≤ N ∧ i = .int .i64 k ∧ X = firstF (badW l) (N - k) k ∧ Below W.heap.size W wr) (fun i _ => N - (RowKit.intOf i).toNat)
    case atStart => exact ⟨0, by omega, rfl, HX.out.symm, HB3.out⟩
    case round =>
      obtain ⟨w4, rfl⟩ : ∃ w4, w4 = wr := ⟨_, rfl⟩
      obtain ⟨k, hk, rfl, hx4, hb4⟩ := hrel
      have HX4 := Lib.hid hx4
      have HB4 := Lib.hid hb4
      clear hx4 hb4 HX HB3
      by_cases hlt : k < N
      · obtain ⟨ad, e, rfl, he, hbl, _, c0, c1, c2, c3, c4⟩ := (HR.out.below HB4.out).atE hlt
        have hge := HG.out e (List.mem_of_getElem? he)
        have hel := hge.len
        have he30 := HN30.out e (List.mem_of_getElem? he)
        have HG4 := Lib.hid (hge.below HB4.out)
        have HH := Lib.hid (badW_at he)
        obtain ⟨ek, eb, ea, ee, eA, en, ec, ew⟩ := e
        dsimp only at c0 c1 c2 c3 c4 hel he30
        obtain ⟨w5, hw5⟩ : ∃ x, w4.alloc (.cells #[.int .i64 ek, .int .i64 eb, .int .i64 ea, .int .i64 ee, .slice eA en ec] 27) = x := ⟨_, rfl⟩
        obtain ⟨hb5, hx5⟩ := boxE (e := ⟨ek, eb, ea, ee, eA, en, ec, ew⟩) hw5
        obtain ⟨x0, x1, x2, x3, x4⟩ := hx5.cells
        dsimp only at x0 x1 x2 x3 x4
        have HB5 := Lib.hid (HB4.out.trans (hb5.mono HB4.out.size))
        have HG5 := Lib.hid (HG4.out.below hb5)
        have HX5 := Lib.hid hx5
        have HEL := Lib.hid hel
        clear he hbl hge hb5 hx5 hel
        by_cases h3 : ek = 3
        · have e3 : (ek != 3) = false := by simpa using h3
          have e3' : (ek == 3) = true := by simpa using h3
          have HH3 : Hid (badW l k = decide (2 * cntV (l.take k) ⟨ek, eb, ea, ee, eA, en, ec, ew⟩ en ≤ en)) := Lib.hid (by rw [HH.out]; dsimp only; rw [e3', Bool.true_and, HEL.out])
          clear h3 e3' HH
          have hkc : (k : Int) ≤ (c : Int) := by omega
          have hk0 : (0 : Int) ≤ (k : Int) := by omega
          have hkN : (k : Int) < (N : Int) := by omega
          have H0 : Hid (cntV (l.take k) ⟨ek, eb, ea, ee, eA, en, ec, ew⟩ 0 = 0) := Lib.hid (by unfold cntV; simp)
          go_wp2
          go_loopw [6, 32] (fun n i wr => ∃ (m q : Nat), m ≤ en ∧ q ≤ m ∧ n = .int .i64 q ∧ i = .int .i64 m ∧ cntV (l.take k) ⟨ek, eb, ea, ee, eA, en, ec, ew⟩ m = q ∧ Below w5.heap.size w5 wr) (fun _ i _ => en - (RowKit.intOf i).toNat)
          case atStart => exact ⟨0, 0, by omega, by omega, rfl, rfl, H0.out, Below.refl _ _⟩
          case round =>
            obtain ⟨w6, rfl⟩ : ∃ w6, w6 = wr := ⟨_, rfl⟩
            obtain ⟨m, q, hm, hqm, rfl, rfl, hq, hb6⟩ := hrel
            have HQ := Lib.hid hq
            have HB6 := Lib.hid hb6
            have HX6 := Lib.hid (HX5.out.later hb6)
            have HG6 := Lib.hid (HG5.out.below hb6)
            clear hq hb6 x0 x1 x2 x3 x4
            obtain ⟨x0, x1, x2, x3, x4⟩ := HX6.out.cells
            dsimp only at x0 x1 x2 x3 x4
            by_cases hlt2 : m < en
            · obtain ⟨vd, v, hA, hv, hbl, _, e0⟩ := HG6.out.rd.atZ hlt2
              dsimp only at hA hv
              subst hA
              have HC := Lib.hid (cntV_more (l := l.take k) (e := ⟨ek, eb, ea, ee, some vd, en, ec, ew⟩) hv)
              dsimp only at HC
              have hme : (m : Int) < (en : Int) := by omega
              clear hv hbl
              go_wp2
              go_loopw [9, 40] (fun b i wr => ∃ (p : Nat) (s : Bool), p ≤ k ∧ i = .int .i64 p ∧ b = .bool s ∧ s = gaveB (l.take p) v eb ee ∧ Below w6.heap.size w6 wr) (fun _ i _ => k - (RowKit.intOf i).toNat)
              case atStart => exact ⟨0, false, by omega, rfl, rfl, rfl, Below.refl _ _⟩
              case round =>
                obtain ⟨w7, rfl⟩ : ∃ w7, w7 = wr := ⟨_, rfl⟩
                obtain ⟨p, s, hp, rfl, rfl, hs, hb7⟩ := hrel
                have HS := Lib.hid hs
                have HB7 := Lib.hid hb7
                have HX7 := Lib.hid (HX6.out.later hb7)
                clear hs hb7 x0 x1 x2 x3 x4
                obtain ⟨x0, x1, x2, x3, x4⟩ := HX7.out.cells
                dsimp only at x0 x1 x2 x3 x4
                by_cases hlt3 : p < k
                · have hb57 := HB5.out.trans ((HB6.out.trans (HB7.out.mono HB6.out.size)).mono HB5.out.size)
                  obtain ⟨ad', o, had, ho, hbl, _, d0, d1, d2, d3, d4⟩ := (HR.out.below hb57).atE (k := p) (by omega)
                  injection had with had
                  subst had
                  have HM := Lib.hid (gaveB_more ho v eb ee)
                  obtain ⟨ok, ob, oa, oe, oA, on, oc, ow⟩ := o
                  dsimp only at d0 d1 d2 d3 d4
                  obtain ⟨w8, hw8⟩ : ∃ x, w7.alloc (.cells #[.int .i64 ok, .int .i64 ob, .int .i64 oa, .int .i64 oe, .slice oA on oc] 27) = x := ⟨_, rfl⟩
                  obtain ⟨hb8, hx8⟩ := boxE (e := ⟨ok, ob, oa, oe, oA, on, oc, ow⟩) hw8
                  obtain ⟨y0, y1, y2, y3, y4⟩ := hx8.cells
                  dsimp only at y0 y1 y2 y3 y4
                  have HB8 := Lib.hid (HB7.out.trans (hb8.mono HB7.out.size))
                  have hx58 := HX7.out.later hb8
                  clear x0 x1 x2 x3 x4
                  obtain ⟨x0, x1, x2, x3, x4⟩ := hx58.cells
                  dsimp only at x0 x1 x2 x3 x4
                  have hpk : (p : Int) < (k : Int) := by omega
                  obtain ⟨t, ht⟩ : ∃ t, ((ok == 1) && ((ob == v) && ((oa == eb) && (oe == ee)))) = t := ⟨_, rfl⟩
                  have HT := Lib.hid ht
                  have hways : s = true ∨ s = false ∧ ((t = false ∧ ((ok == 1) = false ∨ (ok == 1) = true ∧ ((ob == v) = false ∨ (ob == v) = true ∧ ((oa == eb) = false ∨ (oa == eb) = true ∧ (oe == ee) = false)))) ∨ (t = true ∧ (ok == 1) = true ∧ (ob == v) = true ∧ (oa == eb) = true ∧ (oe == ee) = true)) := by
                    rw [← ht]
                    cases s <;> cases (ok == 1) <;> cases (ob == v) <;> cases (oa == eb) <;> cases (oe == ee) <;> simp
                  clear ht ho hbl hb57 hb8 hx8 hx58
                  rcases hways with rfl | ⟨rfl, ⟨rfl, t1 | ⟨t1, t2 | ⟨t2, t3 | ⟨t3, t4⟩⟩⟩⟩ | ⟨rfl, t1, t2, t3, t4⟩⟩
                  all_goals
                    go_wp2
                    go_roundw
                    case rel => exact ⟨p + 1, _, by omega, by go_num, rfl, by rw [HM.out, ← HS.out]; first | rfl | (dsimp only; rw [HT.out]; rfl), HB8.out⟩
                    case measure => simp [RowKit.intOf]; omega
                · obtain rfl : p = k := by omega
                  cases s
                  · go_wp2
                    go_roundw
                    case rel => exact ⟨m + 1, q, by omega, by omega, rfl, by go_num, by rw [HC.out, ← HS.out, HQ.out]; rfl, HB6.out.trans (HB7.out.mono HB6.out.size)⟩
                    case measure => simp [RowKit.intOf]; omega
                  · go_wp2
                    go_roundw
                    case rel => exact ⟨m + 1, q + 1, by omega, by omega, by go_num, by go_num, by rw [HC.out, ← HS.out, HQ.out]; rfl, HB6.out.trans (HB7.out.mono HB6.out.size)⟩
                    case measure => simp [RowKit.intOf]; omega
            · obtain rfl : m = en := by omega
              have HB6' := Lib.hid (HB5.out.trans (HB6.out.mono HB5.out.size))
              obtain ⟨Q, hQ⟩ : ∃ Q, 2 * q = Q := ⟨_, rfl⟩
              have hwr : IntKind.i64.wrap (2 * (q : Int)) = (Q : Int) := by rw [IntKind.wrap_i64]; omega
              by_cases hbad : Q ≤ m
              · have hy : badW l k = true := by rw [HH3.out, HQ.out, hQ]; simpa using hbad
                have HN := Lib.hid (firstF_yes hlt hy)
                have tX : (X == (k : Int)) = true := by rw [HX4.out, HN.out]; simp
                have d1 : decide ((Q : Int) ≤ (m : Int)) = true := by simp; omega
                clear hy
                go_wp2
                go_ret
                exact ⟨by first | rfl | (rw [tX]; rfl), HB6'.out⟩
              · have hy : badW l k = false := by rw [HH3.out, HQ.out, hQ]; simpa using hbad
                have HN := Lib.hid (firstF_no hlt hy)
                have d1 : decide ((Q : Int) ≤ (m : Int)) = false := by simp; omega
                clear hy
                go_wp2
                go_roundw
                case rel => exact ⟨k + 1, by omega, by go_num, HX4.out.trans HN.out, HB6'.out⟩
                case measure => simp [RowKit.intOf]; omega
        · have e3 : (ek != 3) = true := by simpa using h3
          have hy : badW l k = false := by
            rw [HH.out]
            have : (ek == 3) = false := by simpa using h3
            dsimp only
            rw [this]; rfl
          have HN := Lib.hid (firstF_no hlt hy)
          clear h3 hy
          go_wp2
          go_roundw
          case rel => exact ⟨k + 1, by omega, by go_num, HX4.out.trans HN.out, HB5.out⟩
          case measure => simp [RowKit.intOf]; omega
      · obtain rfl : k = N := by omega
        have tX : (X == (-1 : Int)) = true := by rw [HX4.out, firstF_end]; rfl
        go_wp2
        go_ret
        exact ⟨by first | rfl | (rw [tX]; rfl), HB4.out⟩
end Go.Proofs.Ytemokbggchodgaa
