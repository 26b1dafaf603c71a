/-
  WHAT IS PROVED: the law BallotPlays answers true: every play of stands, votes that come and votes that are given is the document's. No condition beyond those of the given row.
-/
import Derived.Test.YtmjbacmaafbdlaaPlaysB
import Derived.Test.YtmjbacmaafbdlaaTstand
import Derived.Deep.CutRange
import Derived.Deep.CutBlock
namespace Go.Proofs.Ytmjbacmaafbdlaa
open Go.RowKit Go.Lib Go.Maps

set_option maxRecDepth 100000 in
set_option maxHeartbeats 8000000 in
theorem plays_in (T : Int) (A : Option Addr) (n c : Nat) (L : List Ac) (ask now : Int) (W : World) (h1 : 2 ≤ T) (h2 : T ≤ 1073741824) (hn : n ≤ 100) (h3 : -1125899906842624 ≤ now) (h4 : now ≤ 1125899906842624) (hask : Mp.inInt ask) (hR : ActsAt W A n L) (hF : ∀ s ∈ L, s.fits) :
    Calls Try.prog 3 #[.int .i64 T, .slice A n c, .int .i64 ask, .int .i64 now] W (Says true W) := by
  have HT : Hid (2 ≤ T ∧ T ≤ 1073741824) := Lib.hid ⟨h1, h2⟩
  have HNOW : Hid (-1125899906842624 ≤ now ∧ now ≤ 1125899906842624) := Lib.hid ⟨h3, h4⟩
  have HASK := Lib.hid hask
  have HR := Lib.hid hR
  have HFT := Lib.hid hF
  clear hask hR hF
  go_enter Try.func3, Try.ntmps3
  go_wp2_with (fail)
  refine (anchor_any _).mono ?_
  rintro e w0 ⟨rfl, hb0⟩
  have HB0 := Lib.hid hb0
  clear hb0
  go_wp2_with (fail)
  refine (bnew_yes T _ HT.out.1 HT.out.2).mono ?_
  rintro e w1 ⟨g, F0, rfl, k1, hb1⟩
  have HP0 := Lib.hid (Pl.new (k1.low HB0.out.size) (HB0.out.trans (hb1.mono HB0.out.size)))
  obtain ⟨x, hx⟩ : ∃ x, w1.heap.size = x := ⟨_, rfl⟩
  have HX := Lib.hid hx
  have HP1 : Hid (∃ FT, Pl W (w1.alloc (.cells #[.bool false, .int .i64 0, .int .i64 0, .slice none 0 0, .slice none 0 0, .slice none 0 0, .slice none 0 0] 31)) g x F0 FT T Bst.zero Bst.zero) := Lib.hid ⟨_, by rw [← HX.out]; exact HP0.out⟩
  clear k1 hb1 HP0 hx
  go_wp2_with (fail)
  rw [HX.out]
  go_loopw [63] (fun i wr => ∃ (k : Nat) (F FT : Nat → Prop) (s : Bst), k ≤ n ∧ i = .int .i64 k ∧ Pl W wr g x F FT T s s ∧ s.G.length ≤ k) (fun i _ => n - (RowKit.intOf i).toNat)
  case atStart =>
    obtain ⟨FT0, hp0⟩ := HP1.out
    exact ⟨0, F0, FT0, Bst.zero, by omega, rfl, hp0, Nat.le_refl _⟩
  case round =>
    clear HP1 HX
    obtain ⟨k, F, FT, s, hk, rfl, hp, hgl⟩ := hrel
    obtain ⟨w3, rfl⟩ : ∃ w3, w3 = wr := ⟨_, rfl⟩
    have HP := Lib.hid hp
    have HGL : Hid (s.G.length ≤ k ∧ k ≤ 100) := Lib.hid ⟨hgl, by omega⟩
    clear hp hgl
    by_cases hlt : k < n
    · obtain ⟨ad, r, rfl, hs, hbl, hok, a0, a1, a2, a3, a4⟩ := HR.out.get HP.out.bel hlt
      have HXF := Lib.hid (HFT.out r (List.mem_of_getElem? hs))
      have HOK := Lib.hid hok
      obtain ⟨ho, ep, id, nw, B, m, d, vs⟩ := r
      simp only at a0 a1 a2 a3 a4
      have HAL : Hid (Below w3.heap.size w3 (w3.alloc (.cells #[.int .i64 ho, .int .i64 ep, .int .i64 id, .int .i64 nw, .slice B m d] 33))) := Lib.hid ((Below.refl _ _).alloc (Nat.le_refl _) _)
      have P := Lib.hid (HP.out.below HAL.out)
      have HY : Hid (Blk (w3.alloc (.cells #[.int .i64 ho, .int .i64 ep, .int .i64 id, .int .i64 nw, .slice B m d] 33)) w3.heap.size 33 #[.int .i64 ho, .int .i64 ep, .int .i64 id, .int .i64 nw, .slice B m d]) := Lib.hid (Blk.new _ _ _)
      have HNF : Hid (¬ F w3.heap.size ∧ ¬ FT w3.heap.size) := Lib.hid ⟨fun h => by have := HP.out.b.lt _ h; omega, fun h => by have := HP.out.t.lt _ h; omega⟩
      clear hs hok HP
      by_cases hm : m ≤ 100
      · go_upto_block 2 with (fail)
        have c0 := HY.out.cell 0
        have c1 := HY.out.cell 1
        have c2 := HY.out.cell 2
        have c3 := HY.out.cell 3
        have c4 := HY.out.cell 4
        simp at c0 c1 c2 c3 c4
        clear a0 a1 a2 a3 a4
        go_cut [14, 15, 16] from 71 to 126 (fun _ _ _ wx => ∃ (F' FT' : Nat → Prop) (s' : Bst), Pl W wx g x F' FT' T s' s' ∧ s'.G.length ≤ k + 1)
        case first =>
          by_cases x1 : ho = 1
          · subst x1
            obtain ⟨er, HE⟩ : ∃ er, Hid (standE T s ep vs nw = er) := ⟨_, Lib.hid rfl⟩
            go_wp2_with (fail)
            refine (tstand_any W.heap.size x FT T s _ P.out.t P.out.b.fine 1 ep id nw B m d vs HOK.out.1 HOK.out.2.1 (fun w' hb => HOK.out.2.2.now (P.out.bel.trans (hb.mono P.out.bel.size))) hm).mono ?_
            rw [HE.out]
            rintro e w4 ⟨rfl, FT4, k4, t4, u4⟩
            have P4 := Lib.hid (P.out.twin k4 t4 u4)
            have HY4 := Lib.hid (HY.out.turn t4 HNF.out.2)
            clear k4 t4 u4 c0 c1 c2 c3 c4
            have c1 := HY4.out.cell 1
            have c3 := HY4.out.cell 3
            have c4 := HY4.out.cell 4
            simp at c1 c3 c4
            go_wp2_with (fail)
            refine (stand_any W.heap.size g F T s _ P4.out.b ep B m d vs nw HOK.out.1 HOK.out.2.1 (HOK.out.2.2.now P4.out.bel)).mono ?_
            rw [HE.out]
            rintro e w5 ⟨rfl, F5, k5, t5, u5⟩
            have P5 := Lib.hid (P4.out.bal k5 t5 u5)
            clear k5 t5 u5 c1 c3 c4
            go_wp2
            go_meet
            exact ⟨F5, FT4, _, P5.out, by rw [standS_G]; have := HGL.out; omega⟩
          have q1 : (ho == 1) = false := by simpa using x1
          by_cases x2 : ho = 2
          · subst x2
            obtain ⟨er, HE⟩ : ∃ er, Hid (ackB T s id ep nw = er) := ⟨_, Lib.hid rfl⟩
            clear x1 q1
            go_wp2_with (fail)
            refine (tack_any W.heap.size x FT T s _ P.out.t P.out.b.fine 2 ep id nw B m d).mono ?_
            rw [HE.out]
            rintro e w4 ⟨rfl, FT4, k4, t4, u4⟩
            have P4 := Lib.hid (P.out.twin k4 t4 u4)
            have HY4 := Lib.hid (HY.out.turn t4 HNF.out.2)
            clear k4 t4 u4 c0 c1 c2 c3 c4
            have c1 := HY4.out.cell 1
            have c2 := HY4.out.cell 2
            have c3 := HY4.out.cell 3
            simp at c1 c2 c3
            go_wp2_with (fail)
            refine (ack_any W.heap.size g F T s _ P4.out.b id ep nw HXF.out.2.2.1).mono ?_
            rw [HE.out]
            rintro e w5 ⟨rfl, F5, k5, t5, u5⟩
            have P5 := Lib.hid (P4.out.bal k5 t5 u5)
            clear k5 t5 u5 c1 c2 c3
            go_wp2
            go_meet
            exact ⟨F5, FT4, _, P5.out, by rw [ackS_G]; have := HGL.out; omega⟩
          have q2 : (ho == 2) = false := by simpa using x2
          by_cases x3 : ho = 3
          · subst x3
            clear x1 x2 q1 q2
            go_wp2_with (fail)
            refine (stop_any W.heap.size g F T s _ P.out.b).mono ?_
            rintro e w4 ⟨rfl, F4, k4, t4, u4⟩
            have P4 := Lib.hid (P.out.bal k4 t4 u4)
            clear k4 t4 u4 c0 c1 c2 c3 c4
            obtain ⟨un, AV, cV, z0, z1, z2, z3, hun, hrv, hcv, hmv, f0⟩ := P4.out.t.look
            clear z1 z2 z3 hun hrv hcv hmv
            obtain ⟨FT5, hp5⟩ := P4.out.stop
            have P5 := Lib.hid hp5
            clear hp5
            go_wp2
            go_meet
            exact ⟨F4, FT5, _, P5.out, by show s.G.length ≤ k + 1; have := HGL.out; omega⟩
          have q3 : (ho == 3) = false := by simpa using x3
          by_cases x4 : ho = 4
          · subst x4
            obtain ⟨er, HE⟩ : ∃ er, Hid (gaveE id nw = er) := ⟨_, Lib.hid rfl⟩
            clear x1 x2 x3 q1 q2 q3
            go_wp2_with (fail)
            refine (tgave_any W.heap.size x FT T s _ P.out.t id nw (by have := HGL.out; omega)).mono ?_
            rw [HE.out]
            rintro e w4 ⟨rfl, FT4, k4, t4, u4⟩
            have P4 := Lib.hid (P.out.twin k4 t4 u4)
            have HY4 := Lib.hid (HY.out.turn t4 HNF.out.2)
            clear k4 t4 u4 c0 c1 c2 c3 c4
            have c2 := HY4.out.cell 2
            have c3 := HY4.out.cell 3
            simp at c2 c3
            go_wp2_with (fail)
            refine (gave_any W.heap.size g F T s _ P4.out.b id nw HXF.out.2.2.1 (by have := HGL.out; omega)).mono ?_
            rw [HE.out]
            rintro e w5 ⟨rfl, F5, k5, t5, u5⟩
            have P5 := Lib.hid (P4.out.bal k5 t5 u5)
            clear k5 t5 u5 c2 c3
            go_wp2
            go_meet
            exact ⟨F5, FT4, _, P5.out, by have h1 := HGL.out; have h2 := gaveS_G (s := s) (m := id) (now := nw); omega⟩
          have q4 : (ho == 4) = false := by simpa using x4
          clear x1 x2 x3 x4
          go_wp2
          go_meet
          exact ⟨F, FT, s, P.out, by have := HGL.out; omega⟩
        case rest =>
          obtain ⟨F5, FT5, s5, hp5, hg5⟩ := hcut
          obtain ⟨w5, rfl⟩ : ∃ w5, w5 = wc := ⟨_, rfl⟩
          have P5 := Lib.hid hp5
          have HG5 : Hid (s5.G.length ≤ k + 1 ∧ s5.G.length ≤ 1000) := Lib.hid ⟨hg5, by have := HGL.out; omega⟩
          clear hp5 hg5 P HY HNF HAL c0 c1 c2 c3 c4
          obtain ⟨un, AV, cV, z0, z1, z2, z3, hun, hrv, hcv, hmv, f0⟩ := P5.out.t.look
          have HRV := Lib.hid hrv
          have hxl := P5.out.t.lt x P5.out.t.fx
          have HXL := Lib.hid hxl
          have hND : s5.vs.Nodup := (right_iff.1 P5.out.b.fine.right).2.1
          have HND := Lib.hid hND
          obtain ⟨N, hN⟩ : ∃ N, s5.vs.length = N := ⟨_, rfl⟩
          have HN := Lib.hid hN
          have HNL : Hid (N ≤ 16) := Lib.hid (by rw [← hN]; exact (right_iff.1 P5.out.b.fine.right).1)
          rw [hN] at z3 hcv
          obtain ⟨mb, HMB⟩ : ∃ mb, Hid (mayB T s5 ask now = mb) := ⟨_, Lib.hid rfl⟩
          have hd : (s5.on = false ∧ stB T s5 now = false) ∨ (s5.on = true ∧ decide (now ≤ un) = true ∧ stB T s5 now = true) ∨ (s5.on = true ∧ decide (now ≤ un) = false ∧ stB T s5 now = false) := by
            unfold stB lastB
            cases hon : s5.on with
            | false => exact .inl ⟨rfl, rfl⟩
            | true =>
              have e := hun hon
              rw [← e]
              by_cases hl : now ≤ un
              · exact .inr (.inl ⟨rfl, decide_eq_true hl, by rw [decide_eq_true hl]; rfl⟩)
              · exact .inr (.inr ⟨rfl, decide_eq_false hl, by rw [decide_eq_false hl]; rfl⟩)
          have HHD := Lib.hid hd
          clear hd hun hrv hND hN f0 hxl
          rcases HHD.out with ⟨hon, hst⟩ | ⟨hon, hl, hst⟩ | ⟨hon, hl, hst⟩
          · skip
            rw [hon] at z0
            have HST := Lib.hid hst
            have HON := Lib.hid hon
            clear hon hst
            go_wp2_with (fail)
            refine (standing_any W.heap.size g F5 T s5 _ P5.out.b now).mono ?_
            rw [HST.out]
            simp only [Bool.false_eq_true, if_false]
            rintro e w6 ⟨rfl, rfl⟩
            go_wp2_with (fail)
            refine (may_any W.heap.size g F5 T s5 _ P5.out.b ask now HASK.out).mono ?_
            rw [HMB.out]
            rintro e w6 ⟨rfl, rfl⟩
            go_wp2_with (fail)
            refine (tmay_any W.heap.size x FT5 T s5 _ P5.out.t P5.out.b.fine ask now HNOW.out HG5.out.2).mono ?_
            rw [HMB.out]
            rintro e w6 ⟨rfl, rfl⟩
            obtain ⟨TL, HTL⟩ : ∃ l, Hid ((if s5.on = true then sorted s5.vs else []) = l) := ⟨_, Lib.hid rfl⟩
            obtain ⟨NT, hNT⟩ : ∃ NT, TL.length = NT := ⟨_, rfl⟩
            have HNT := Lib.hid hNT
            have HNV : Hid (NT = 0) := Lib.hid (by rw [← hNT, ← HTL.out, told_len, HON.out]; rfl)
            have hnt : NT ≤ 16 := by have h1 := HNV.out; have h2 := HNL.out; omega
            have q5 : decide ((0 : Int) < (NT : Int)) = false := by rw [HNV.out]; rfl
            go_wp2_with (fail)
            refine (bvoters_any W.heap.size g F5 T s5 _ P5.out.b).mono ?_
            rw [HTL.out]
            rintro e w6 ⟨hb6, AT, cT, rfl, hcT, hmT, hrT⟩
            rw [hNT] at hcT hrT ⊢
            have HB6 := Lib.hid hb6
            have P6 := Lib.hid (P5.out.below hb6)
            have HRT := Lib.hid (hrT w6.heap.size (.inl (Nat.le_refl _)))
            have HRV6 := Lib.hid (HRV.out.old hb6 hb6.size)
            have y0 := (hb6.cell (p := ⟨x, 0, none⟩) HXL.out).trans z0
            have y3 := (hb6.cell (p := ⟨x, 3, none⟩) HXL.out).trans z3
            clear hb6 hrT hNT z0 z1 z2 z3
            go_wp2_with (fail)
            go_loop [209] (fun i => ∃ j : Nat, j ≤ NT ∧ i = .int .i64 j) (fun i => NT - (RowKit.intOf i).toNat)
            case atStart => exact ⟨0, by omega, rfl⟩
            case round =>
              obtain ⟨j, hj, rfl⟩ := hrel
              by_cases hjl : j < NT
              · exact absurd hjl (by have := HNV.out; omega)
              · obtain rfl : NT = j := by omega
                go_wp2
                go_roundw
                case rel => exact ⟨k + 1, F5, FT5, s5, by omega, by go_num, P6.out, HG5.out.1⟩
                case measure => simp [RowKit.intOf]; omega
          · skip
            rw [hon] at z0
            have HST := Lib.hid hst
            have HON := Lib.hid hon
            clear hon hst
            go_wp2_with (fail)
            refine (standing_any W.heap.size g F5 T s5 _ P5.out.b now).mono ?_
            rw [HST.out]
            simp only [if_true]
            rintro e w6 ⟨rfl, rfl⟩
            go_wp2_with (fail)
            refine (may_any W.heap.size g F5 T s5 _ P5.out.b ask now HASK.out).mono ?_
            rw [HMB.out]
            rintro e w6 ⟨rfl, rfl⟩
            go_wp2_with (fail)
            refine (tmay_any W.heap.size x FT5 T s5 _ P5.out.t P5.out.b.fine ask now HNOW.out HG5.out.2).mono ?_
            rw [HMB.out]
            rintro e w6 ⟨rfl, rfl⟩
            obtain ⟨TL, HTL⟩ : ∃ l, Hid ((if s5.on = true then sorted s5.vs else []) = l) := ⟨_, Lib.hid rfl⟩
            obtain ⟨NT, hNT⟩ : ∃ NT, TL.length = NT := ⟨_, rfl⟩
            have HNT := Lib.hid hNT
            have HNV : Hid (NT = N) := Lib.hid (by rw [← hNT, ← HTL.out, told_len, HON.out]; exact HN.out)
            have hnt : NT ≤ 16 := by have h1 := HNV.out; have h2 := HNL.out; omega
            have q5 : ((NT : Int) != (N : Int)) = false := by rw [HNV.out]; simp
            go_wp2_with (fail)
            refine (bvoters_any W.heap.size g F5 T s5 _ P5.out.b).mono ?_
            rw [HTL.out]
            rintro e w6 ⟨hb6, AT, cT, rfl, hcT, hmT, hrT⟩
            rw [hNT] at hcT hrT ⊢
            have HB6 := Lib.hid hb6
            have P6 := Lib.hid (P5.out.below hb6)
            have HRT := Lib.hid (hrT w6.heap.size (.inl (Nat.le_refl _)))
            have HRV6 := Lib.hid (HRV.out.old hb6 hb6.size)
            have y0 := (hb6.cell (p := ⟨x, 0, none⟩) HXL.out).trans z0
            have y3 := (hb6.cell (p := ⟨x, 3, none⟩) HXL.out).trans z3
            clear hb6 hrT hNT z0 z1 z2 z3
            go_wp2_with (fail)
            go_loop [209] (fun i => ∃ j : Nat, j ≤ NT ∧ i = .int .i64 j) (fun i => NT - (RowKit.intOf i).toNat)
            case atStart => exact ⟨0, by omega, rfl⟩
            case round =>
              obtain ⟨j, hj, rfl⟩ := hrel
              by_cases hjl : j < NT
              · obtain ⟨adT, u, rfl, hu, hcu⟩ := HRT.out.at_ hjl
                obtain ⟨z, hz, rfl⟩ := zints_at hu
                have HH : Hid (hasB s5.vs z = true) := Lib.hid (told_at (k := j) (on := s5.on) (by rw [HTL.out]; exact hz))
                by_cases hj0 : j = 0
                · have w0 : decide ((0 : Int) < (j : Int)) = false := by rw [hj0]; rfl
                  have w1 : decide (0 < j) = false := by rw [hj0]; rfl
                  have w2 : ¬ 0 < j := by omega
                  clear hj0 hu hz
                  go_wp2_with (fail)
                  refine (has_any AV N cV s5.vs z _ _ (by have := HNL.out; omega) (by have := HRV6.out; rw [HN.out] at this; exact this)).mono ?_
                  rw [HH.out]
                  rintro e w7 ⟨rfl, rfl⟩
                  go_wp2
                  go_round
                  case rel => exact ⟨j + 1, by omega, by go_num⟩
                  case measure => simp [RowKit.intOf]; omega
                · obtain ⟨q, hq⟩ : ∃ q, j = q + 1 := ⟨j - 1, by omega⟩
                  have hql : q < NT := by omega
                  obtain ⟨adT2, u2, e2, hu2, hcu2⟩ := HRT.out.at_ hql
                  obtain ⟨y, hy, rfl⟩ := zints_at hu2
                  cases e2
                  have hyz : y < z := told_lt (on := s5.on) HND.out (by rw [HTL.out]; exact hy) (by rw [HTL.out, ← hq]; exact hz)
                  have wj : ((j : Int) - 1) = (q : Int) := by omega
                  have wj2 : IntKind.i64.wrap ((j : Int) - 1) = (q : Int) := by rw [IntKind.wrap_i64]; omega
                  have w0 : decide ((0 : Int) < (j : Int)) = true := decide_eq_true (by omega)
                  clear hj0 hu hz hu2 hy hq
                  go_wp2_with (fail)
                  refine (has_any AV N cV s5.vs z _ _ (by have := HNL.out; omega) (by have := HRV6.out; rw [HN.out] at this; exact this)).mono ?_
                  rw [HH.out]
                  rintro e w7 ⟨rfl, rfl⟩
                  go_wp2
                  go_round
                  case rel => exact ⟨j + 1, by omega, by go_num⟩
                  case measure => simp [RowKit.intOf]; omega
              · obtain rfl : NT = j := by omega
                go_wp2
                go_roundw
                case rel => exact ⟨k + 1, F5, FT5, s5, by omega, by go_num, P6.out, HG5.out.1⟩
                case measure => simp [RowKit.intOf]; omega
          · skip
            rw [hon] at z0
            have HST := Lib.hid hst
            have HON := Lib.hid hon
            clear hon hst
            go_wp2_with (fail)
            refine (standing_any W.heap.size g F5 T s5 _ P5.out.b now).mono ?_
            rw [HST.out]
            simp only [Bool.false_eq_true, if_false]
            rintro e w6 ⟨rfl, rfl⟩
            go_wp2_with (fail)
            refine (may_any W.heap.size g F5 T s5 _ P5.out.b ask now HASK.out).mono ?_
            rw [HMB.out]
            rintro e w6 ⟨rfl, rfl⟩
            go_wp2_with (fail)
            refine (tmay_any W.heap.size x FT5 T s5 _ P5.out.t P5.out.b.fine ask now HNOW.out HG5.out.2).mono ?_
            rw [HMB.out]
            rintro e w6 ⟨rfl, rfl⟩
            obtain ⟨TL, HTL⟩ : ∃ l, Hid ((if s5.on = true then sorted s5.vs else []) = l) := ⟨_, Lib.hid rfl⟩
            obtain ⟨NT, hNT⟩ : ∃ NT, TL.length = NT := ⟨_, rfl⟩
            have HNT := Lib.hid hNT
            have HNV : Hid (NT = N) := Lib.hid (by rw [← hNT, ← HTL.out, told_len, HON.out]; exact HN.out)
            have hnt : NT ≤ 16 := by have h1 := HNV.out; have h2 := HNL.out; omega
            have q5 : ((NT : Int) != (N : Int)) = false := by rw [HNV.out]; simp
            go_wp2_with (fail)
            refine (bvoters_any W.heap.size g F5 T s5 _ P5.out.b).mono ?_
            rw [HTL.out]
            rintro e w6 ⟨hb6, AT, cT, rfl, hcT, hmT, hrT⟩
            rw [hNT] at hcT hrT ⊢
            have HB6 := Lib.hid hb6
            have P6 := Lib.hid (P5.out.below hb6)
            have HRT := Lib.hid (hrT w6.heap.size (.inl (Nat.le_refl _)))
            have HRV6 := Lib.hid (HRV.out.old hb6 hb6.size)
            have y0 := (hb6.cell (p := ⟨x, 0, none⟩) HXL.out).trans z0
            have y3 := (hb6.cell (p := ⟨x, 3, none⟩) HXL.out).trans z3
            clear hb6 hrT hNT z0 z1 z2 z3
            go_wp2_with (fail)
            go_loop [209] (fun i => ∃ j : Nat, j ≤ NT ∧ i = .int .i64 j) (fun i => NT - (RowKit.intOf i).toNat)
            case atStart => exact ⟨0, by omega, rfl⟩
            case round =>
              obtain ⟨j, hj, rfl⟩ := hrel
              by_cases hjl : j < NT
              · obtain ⟨adT, u, rfl, hu, hcu⟩ := HRT.out.at_ hjl
                obtain ⟨z, hz, rfl⟩ := zints_at hu
                have HH : Hid (hasB s5.vs z = true) := Lib.hid (told_at (k := j) (on := s5.on) (by rw [HTL.out]; exact hz))
                by_cases hj0 : j = 0
                · have w0 : decide ((0 : Int) < (j : Int)) = false := by rw [hj0]; rfl
                  have w1 : decide (0 < j) = false := by rw [hj0]; rfl
                  have w2 : ¬ 0 < j := by omega
                  clear hj0 hu hz
                  go_wp2_with (fail)
                  refine (has_any AV N cV s5.vs z _ _ (by have := HNL.out; omega) (by have := HRV6.out; rw [HN.out] at this; exact this)).mono ?_
                  rw [HH.out]
                  rintro e w7 ⟨rfl, rfl⟩
                  go_wp2
                  go_round
                  case rel => exact ⟨j + 1, by omega, by go_num⟩
                  case measure => simp [RowKit.intOf]; omega
                · obtain ⟨q, hq⟩ : ∃ q, j = q + 1 := ⟨j - 1, by omega⟩
                  have hql : q < NT := by omega
                  obtain ⟨adT2, u2, e2, hu2, hcu2⟩ := HRT.out.at_ hql
                  obtain ⟨y, hy, rfl⟩ := zints_at hu2
                  cases e2
                  have hyz : y < z := told_lt (on := s5.on) HND.out (by rw [HTL.out]; exact hy) (by rw [HTL.out, ← hq]; exact hz)
                  have wj : ((j : Int) - 1) = (q : Int) := by omega
                  have wj2 : IntKind.i64.wrap ((j : Int) - 1) = (q : Int) := by rw [IntKind.wrap_i64]; omega
                  have w0 : decide ((0 : Int) < (j : Int)) = true := decide_eq_true (by omega)
                  clear hj0 hu hz hu2 hy hq
                  go_wp2_with (fail)
                  refine (has_any AV N cV s5.vs z _ _ (by have := HNL.out; omega) (by have := HRV6.out; rw [HN.out] at this; exact this)).mono ?_
                  rw [HH.out]
                  rintro e w7 ⟨rfl, rfl⟩
                  go_wp2
                  go_round
                  case rel => exact ⟨j + 1, by omega, by go_num⟩
                  case measure => simp [RowKit.intOf]; omega
              · obtain rfl : NT = j := by omega
                go_wp2
                go_roundw
                case rel => exact ⟨k + 1, F5, FT5, s5, by omega, by go_num, P6.out, HG5.out.1⟩
                case measure => simp [RowKit.intOf]; omega
      · have q : (100 : Int) < (m : Int) := by omega
        go_wp2
        go_ret
        exact ⟨rfl, P.out.bel⟩
    · obtain rfl : n = k := by omega
      go_wp2
      go_ret
      exact ⟨rfl, HP.out.bel⟩
end Go.Proofs.Ytmjbacmaafbdlaa
