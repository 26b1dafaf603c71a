/-
  WHAT IS PROVED: the law JudgeClashes answers true for all events. Conditions: they are there; the library's table of powers is laid.
-/
import Derived.Test.YtemokbggchodgaaDoorAnchor
import Derived.Test.YtemokbggchodgaaDoorClash
namespace Go.Proofs.YtemokbggchodgaaDoor
open Go.RowKit Go.Lib
set_option maxRecDepth 100000

theorem boxE {w w' : World} {e : Ev} (h : w.alloc (.cells (rowE e) 29) = w') : Below w.heap.size w w' ∧ Bx w' w.heap.size e := by
  rw [← h]
  exact ⟨(Below.refl _ _).alloc (Nat.le_refl _) _, Bx.new w e⟩
set_option maxHeartbeats 4000000 in
theorem ints_any (w : World) (F G : Nat → Prop) (A B : Option Addr) (n m c d : Nat) (l k : List Int) (hl : Rd w F 1 A n (zints l)) (hk : Rd w G 1 B m (zints k)) (hn : n ≤ 9223372036854775807) (hm : m ≤ 9223372036854775807) :
    Calls Tryd.prog 8 #[.slice A n c, .slice B m d] w fun e w' => e = .returned (.bool (l == k)) ∧ Below w.heap.size w w' := by
  have HA := Lib.hid hl
  have HB := Lib.hid hk
  have hl1 := hl.lenZ
  have hk1 := hk.lenZ
  by_cases hnm : n = m
  · subst hnm
    have t0 : ((n : Int) != (n : Int)) = false := by simp
    have HLL := Lib.hid hl1
    have HKL := Lib.hid hk1
    clear hl hk hl1 hk1 hm
    go_enter Tryd.func8, Tryd.ntmps8
    go_wp2
    go_loopw [14] (fun i wr => ∃ j : Nat, j ≤ n ∧ i = .int .i64 j ∧ l.take j = k.take j ∧ Below w.heap.size w wr) (fun i _ => n - (RowKit.intOf i).toNat)
    case atStart => exact ⟨0, by omega, rfl, by simp, Below.refl _ _⟩
    case round =>
      obtain ⟨w3, rfl⟩ : ∃ w3, w3 = wr := ⟨_, rfl⟩
      obtain ⟨j, hj, rfl, htk, hb3⟩ := hrel
      have HTK := Lib.hid htk
      have HB3 := Lib.hid hb3
      by_cases hlt : j < n
      · obtain ⟨ad, x, rfl, hx, _, _, c0⟩ := (HA.out.below hb3).atZ hlt
        obtain ⟨bd, y, rfl, hy, _, _, d0⟩ := (HB.out.below hb3).atZ hlt
        have HX := Lib.hid hx
        have HY := Lib.hid hy
        have hj1 : (j : Int) < (n : Int) := by omega
        have hj0 : (0 : Int) ≤ (j : Int) := by omega
        clear htk hb3 hx hy
        by_cases hxy : x = y
        · have t1 : (x != y) = false := by simpa using hxy
          have HXY := Lib.hid hxy
          clear hxy
          go_wp2
          go_roundw
          case rel => exact ⟨j + 1, by omega, by go_num, by rw [List.take_add_one, List.take_add_one, HX.out, HY.out, HTK.out, HXY.out], HB3.out⟩
          case measure => simp [RowKit.intOf]; omega
        · have t1 : (x != y) = true := by simpa using hxy
          have HN : Hid ((l == k) = false) := Lib.hid (by
            rw [beq_eq_false_iff_ne]
            intro e
            have h1 := HX.out
            rw [e, HY.out] at h1
            injection h1 with h1
            exact hxy h1.symm)
          clear hxy
          go_wp2
          go_ret
          exact ⟨by rw [HN.out]; rfl, HB3.out⟩
      · obtain rfl : j = n := by omega
        have HN : Hid ((l == k) = true) := Lib.hid (by
          rw [beq_iff_eq]
          have h1 : l.take j = l := List.take_of_length_le (by rw [HLL.out]; exact Nat.le_refl _)
          have h2 : k.take j = k := List.take_of_length_le (by rw [HKL.out]; exact Nat.le_refl _)
          rw [← h1, ← h2]
          exact htk)
        clear htk hb3
        go_wp2
        go_ret
        exact ⟨by rw [HN.out]; rfl, HB3.out⟩
  · have t0 : ((n : Int) != (m : Int)) = true := by simp; omega
    have HN : Hid ((l == k) = false) := Lib.hid (by
      rw [beq_eq_false_iff_ne]
      intro e
      rw [e, hk1] at hl1
      exact hnm hl1.symm)
    clear hl hk hl1 hk1 hnm
    go_enter Tryd.func8, Tryd.ntmps8
    go_wp2
    go_ret
    exact ⟨by rw [HN.out]; rfl, Below.refl _ _⟩
set_option maxHeartbeats 8000000 in
theorem lclashes_in (W : World) (A : Option Addr) (N c : Nat) (l : List Ev) (hr : Rd W no 5 A N (flatE l)) (hg : ∀ e ∈ l, OkE W no e) (hnc : N ≤ c) (hcm : c ≤ 9223372036854775807) (hE : Env W) :
    Calls Tryd.prog 3 #[.slice A N c] W (Says true W) := by
  have HR := Lib.hid hr
  have HL := Lib.hid hr.lenE
  have HG := Lib.hid hg
  have HE := Lib.hid hE
  clear hr hg hE
  go_enter Tryd.func3, Tryd.ntmps3
  go_wp2_with (fail)
  refine (anchor_any _).mono ?_
  rintro e w1 ⟨rfl, hb1⟩
  have HB1 := Lib.hid hb1
  have HR1 := Lib.hid (HR.out.below hb1)
  clear hb1
  go_wp2_with (fail)
  refine (small_any _ no A N c l HR1.out hnc hcm).mono ?_
  rintro e w2 ⟨⟨b, rfl, hsm⟩, hb2⟩
  have HB2 := Lib.hid (HB1.out.trans (hb2.mono HB1.out.size))
  clear hb2 HR1 HB1
  cases b
  · clear hsm
    go_wp2
    go_ret
    exact ⟨rfl, HB2.out⟩
  · obtain ⟨hN, hn30⟩ := hsm rfl
    have HN30 := Lib.hid hn30
    clear hsm
    go_wp2_with (fail)
    refine (clash_any w2 no A N c l (HR.out.below HB2.out) (fun e he => (HG.out e he).below HB2.out) (by omega) hn30 (HE.out.below HB2.out)).mono ?_
    rintro e w3 ⟨rfl, hb3⟩
    have HB3 := Lib.hid (HB2.out.trans (hb3.mono HB2.out.size))
    obtain ⟨X, hX⟩ : ∃ x, ansA l N = x := ⟨_, rfl⟩
    obtain ⟨Y, hY⟩ : ∃ x, ansB l N = x := ⟨_, rfl⟩
    have HX := Lib.hid hX
    have HY := Lib.hid hY
    rw [hX, hY]
    clear hb3 hX hY HB2 hn30
    go_wp2
    go_loopw [21] (fun i wr => ∃ (b : Nat), b ≤ N ∧ i = .int .i64 b ∧ (∀ i, i < b → cl l i = false) ∧ Below W.heap.size W wr) (fun i _ => N - (RowKit.intOf i).toNat)
    case atStart => exact ⟨0, by omega, rfl, (fun i hi => by omega), HB3.out⟩
    case round =>
      obtain ⟨w4, rfl⟩ : ∃ w4, w4 = wr := ⟨_, rfl⟩
      obtain ⟨b, hb, rfl, hno, hb4⟩ := hrel
      have HNO := Lib.hid hno
      have HB4 := Lib.hid hb4
      clear hno hb4 HB3
      by_cases hlt : b < N
      · obtain ⟨ad, e, rfl, he, hbl, _, c0, c1, c2, c3, c4⟩ := (HR.out.below HB4.out).atE hlt
        have hge := HG.out e (List.mem_of_getElem? he)
        have hel := hge.len
        have he30 := HN30.out e (List.mem_of_getElem? he)
        have HG4 := Lib.hid (hge.below HB4.out)
        have HE' := Lib.hid he
        obtain ⟨ek, eb, ea, ee, eA, en, ec, ew⟩ := e
        dsimp only at c0 c1 c2 c3 c4 hel he30
        obtain ⟨w5, hw5⟩ : ∃ x, w4.alloc (.cells #[.int .i64 ek, .int .i64 eb, .int .i64 ea, .int .i64 ee, .slice eA en ec] 29) = x := ⟨_, rfl⟩
        obtain ⟨hb5, hx5⟩ := boxE (e := ⟨ek, eb, ea, ee, eA, en, ec, ew⟩) hw5
        obtain ⟨x0, x1, x2, x3, x4⟩ := hx5.cells
        dsimp only at x0 x1 x2 x3 x4
        have HB5 := Lib.hid (HB4.out.trans (hb5.mono HB4.out.size))
        have HG5 := Lib.hid (HG4.out.below hb5)
        have HX5 := Lib.hid hx5
        clear he hbl hge hb5 hx5 hel
        have hbc : (b : Int) ≤ (c : Int) := by omega
        have hb0 : (0 : Int) ≤ (b : Int) := by omega
        have hbN : (b : Int) < (N : Int) := by omega
        go_wp2
        go_loopw [30] (fun i wr => ∃ (a : Nat), a ≤ b ∧ i = .int .i64 a ∧ (∀ i q, i < a → l[i]? = some q → clB q ⟨ek, eb, ea, ee, eA, en, ec, ew⟩ = false) ∧ Below w5.heap.size w5 wr) (fun i _ => b - (RowKit.intOf i).toNat)
        case atStart => exact ⟨0, by omega, rfl, (fun i q hi => by omega), Below.refl _ _⟩
        case round =>
          obtain ⟨w6, rfl⟩ : ∃ w6, w6 = wr := ⟨_, rfl⟩
          obtain ⟨a, ha, rfl, hna, hb6⟩ := hrel
          have HNA := Lib.hid hna
          have HB6 := Lib.hid hb6
          have HX6 := Lib.hid (HX5.out.later hb6)
          have HG6 := Lib.hid (HG5.out.below hb6)
          clear hna hb6 x0 x1 x2 x3 x4
          by_cases hlt2 : a < b
          · have hb56 := HB5.out.trans (HB6.out.mono HB5.out.size)
            obtain ⟨ad', o, had, ho, hbl, _, d0, d1, d2, d3, d4⟩ := (HR.out.below hb56).atE (k := a) (by omega)
            injection had with had
            subst had
            have hgo := (HG.out o (List.mem_of_getElem? ho)).below hb56
            have hon30 := HN30.out o (List.mem_of_getElem? ho)
            have HOO := Lib.hid ho
            have HGO := Lib.hid hgo
            obtain ⟨ok, ob, oa, oe, oA, on, oc, ow⟩ := o
            dsimp only at d0 d1 d2 d3 d4 hon30
            obtain ⟨w7, hw7⟩ : ∃ x, w6.alloc (.cells #[.int .i64 ok, .int .i64 ob, .int .i64 oa, .int .i64 oe, .slice oA on oc] 29) = x := ⟨_, rfl⟩
            obtain ⟨hb7, hx7⟩ := boxE (e := ⟨ok, ob, oa, oe, oA, on, oc, ow⟩) hw7
            obtain ⟨y0, y1, y2, y3, y4⟩ := hx7.cells
            dsimp only at y0 y1 y2 y3 y4
            obtain ⟨x0, x1, x2, x3, x4⟩ := (HX6.out.later hb7).cells
            dsimp only at x0 x1 x2 x3 x4
            have HB7 := Lib.hid (HB6.out.trans (hb7.mono HB6.out.size))
            have HRE := Lib.hid ((HG6.out.below hb7).rd)
            have HRO := Lib.hid ((HGO.out.below hb7).rd)
            have hc0 : clB ⟨ok, ob, oa, oe, oA, on, oc, ow⟩ ⟨ek, eb, ea, ee, eA, en, ec, ew⟩ = ((ek == 3) && ((ok == 3) && ((ee == oe) && ((eb != ob) && (ew == ow))))) := rfl
            obtain ⟨s, hs⟩ : ∃ s, (ew == ow) = s := ⟨_, rfl⟩
            have HS := Lib.hid hs
            obtain ⟨t, ht⟩ : ∃ t, clB ⟨ok, ob, oa, oe, oA, on, oc, ow⟩ ⟨ek, eb, ea, ee, eA, en, ec, ew⟩ = t := ⟨_, rfl⟩
            have HT := Lib.hid ht
            have hways : (t = false ∧ ((ek == 3) = false ∨ (ek == 3) = true ∧ ((ok == 3) = false ∨ (ok == 3) = true ∧ ((ee == oe) = false ∨ (ee == oe) = true ∧ (eb != ob) = false)))) ∨ (t = s ∧ (ek == 3) = true ∧ (ok == 3) = true ∧ (ee == oe) = true ∧ (eb != ob) = true) := by
              rw [← ht, hc0, hs]
              cases (ek == 3) <;> cases (ok == 3) <;> cases (ee == oe) <;> cases (eb != ob) <;> simp
            have haN : (a : Int) < (b : Int) := by omega
            clear ho hbl hb56 hb7 hx7 hgo hc0 ht hs
            rcases hways with ⟨rfl, hways⟩ | ⟨rfl, t1, t2, t3, t4⟩
            · rcases hways with t1 | ⟨t1, t2 | ⟨t2, t3 | ⟨t3, t4⟩⟩⟩
              all_goals
                go_wp2
                go_roundw
                case rel => exact ⟨a + 1, by omega, by go_num, (fun i q hi hq => by
                  by_cases hia : i = a
                  · rw [hia, HOO.out] at hq
                    injection hq with hq
                    rw [← hq]
                    exact HT.out
                  · exact HNA.out i q (by omega) hq), HB7.out⟩
                case measure => simp [RowKit.intOf]; omega
            · go_wp2_with (fail)
              refine (ints_any w7 _ _ eA oA en on ec oc ew ow HRE.out HRO.out (by omega) (by omega)).mono ?_
              rintro r w8 ⟨rfl, hb8⟩
              rw [HS.out]
              have HB8 := Lib.hid (HB7.out.trans (hb8.mono HB7.out.size))
              clear hb8
              cases t
              · go_wp2
                go_roundw
                case rel => exact ⟨a + 1, by omega, by go_num, (fun i q hi hq => by
                  by_cases hia : i = a
                  · rw [hia, HOO.out] at hq
                    injection hq with hq
                    rw [← hq]
                    exact HT.out
                  · exact HNA.out i q (by omega) hq), HB8.out⟩
                case measure => simp [RowKit.intOf]; omega
              · obtain ⟨hB, hA⟩ := ans_hit hlt HE'.out HOO.out hlt2 HNO.out HNA.out HT.out HL.out
                have tX : (X == (a : Int)) = true := by rw [← HX.out, hA]; simp
                have tY : (Y == (b : Int)) = true := by rw [← HY.out, hB]; simp
                have HBF := Lib.hid (HB5.out.trans (HB8.out.mono HB5.out.size))
                clear hA hB
                go_wp2
                go_ret
                exact ⟨by first | rfl | (rw [tY]; rfl), HBF.out⟩
          · obtain rfl : a = b := by omega
            have HCL : Hid (cl l a = false) := Lib.hid (by
              rw [cl_at HE'.out, Bool.eq_false_iff]
              intro hc
              obtain ⟨i, q, hi, hq, hc⟩ := any_take.1 hc
              rw [HNA.out i q hi hq] at hc
              cases hc)
            go_wp2
            go_roundw
            case rel => exact ⟨a + 1, by omega, by go_num, (fun i hi => by
              by_cases hia : i = a
              · rw [hia]; exact HCL.out
              · exact HNO.out i (by omega)), HB5.out.trans (HB6.out.mono HB5.out.size)⟩
            case measure => simp [RowKit.intOf]; omega
      · obtain rfl : b = N := by omega
        obtain ⟨hB, hA⟩ := ans_miss HNO.out
        have tX : (X == (-1 : Int)) = true := by rw [← HX.out, hA]; rfl
        have tY : (Y == (-1 : Int)) = true := by rw [← HY.out, hB]; rfl
        clear hA hB
        go_wp2
        go_ret
        exact ⟨by first | rfl | (rw [tY]; rfl), HB4.out⟩
end Go.Proofs.YtemokbggchodgaaDoor
