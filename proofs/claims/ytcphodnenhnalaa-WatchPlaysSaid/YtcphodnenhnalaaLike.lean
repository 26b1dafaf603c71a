/-
  WHAT IS PROVED: the document's own comparison answers true where the watch's peers are the list's. Conditions: the object is a watch; the times are ints.
-/
import Derived.Test.YtcphodnenhnalaaTriple
namespace Go.Proofs.Ytcphodnenhnalaa
open Go.RowKit Go.Lib Go.Maps

/-- the ways of the document's two tests: what is asked, and what comes of it -/
theorem due_ways (T now : Int) (p : Pr) (hT : 2 ≤ T) : (dueB T now p = false ∧ now < p.last) ∨ (dueB T now p = false ∧ p.last ≤ now ∧ now - p.last < T / 2) ∨ (dueB T now p = true ∧ p.last ≤ now ∧ T / 2 ≤ now - p.last) := by
  by_cases h1 : p.last ≤ now
  · by_cases h2 : T / 2 ≤ now - p.last
    · exact .inr (.inr ⟨by unfold dueB; simp; omega, h1, h2⟩)
    · exact .inr (.inl ⟨by unfold dueB; simp; omega, h1, by omega⟩)
  · exact .inl ⟨by unfold dueB; simp; omega, by omega⟩
theorem late_ways (T now i l s : Int) (hT : 2 ≤ T) : (lateB T now ⟨i, l, true, s⟩ = false ∧ now ≤ s) ∨ (lateB T now ⟨i, l, true, s⟩ = false ∧ s < now ∧ now - s ≤ T) ∨ (lateB T now ⟨i, l, true, s⟩ = true ∧ s < now ∧ T < now - s) := by
  by_cases h1 : s < now
  · by_cases h2 : T < now - s
    · exact .inr (.inr ⟨by unfold lateB; simp; omega, h1, h2⟩)
    · exact .inr (.inl ⟨by unfold lateB; simp; omega, h1, by omega⟩)
  · exact .inl ⟨by unfold lateB; simp; omega, by omega⟩
theorem ids_take {L : List Pr} {k : Nat} {p : Pr} (hp : L[k]? = some p) : (L.take (k + 1)).map Pr.id = (L.take k).map Pr.id ++ [p.id] := by rw [take_snoc_ hp, List.map_append]; rfl

set_option maxRecDepth 100000 in
set_option maxHeartbeats 8000000 in
theorem like_any (g b : Nat) (T now : Int) (A : Option Addr) (n c : Nat) (L : List Pr) (W : World) (hn : n ≤ 100) (h : Wt W g b T L) (hr : PrsAt W A n L) (hno : inInt now) :
    Calls Try.prog 15 #[.pointer (some ⟨g, 0, none⟩), .slice A n c, .int .i64 T, .int .i64 now] W (Says true W) := by
  have HH := Lib.hid h
  have HR := Lib.hid hr
  have HL := Lib.hid hr.1
  obtain ⟨t1, t2⟩ := h.to
  obtain ⟨n1, n2⟩ := hno
  have htd : T.tdiv 2 = T / 2 := Int.tdiv_eq_ediv_of_nonneg (by omega)
  have HNO : Hid (inInt now) := Lib.hid ⟨n1, n2⟩
  have HN0 := Lib.hid (Trio.new W)
  clear h hr
  go_enter Try.func15, Try.ntmps15
  go_wp2
  go_loopw [9, 10, 11, 18] (fun va vb vc i wr => ∃ k : Nat, k ≤ n ∧ i = .int .i64 k ∧ Below W.heap.size W wr ∧ Trio wr W.heap.size wr.heap.size va vb vc ((L.take k).map Pr.id) (whoL (L.take k) (dueB T now)) (whoL (L.take k) (lateB T now))) (fun _ _ _ i _ => n - (intOf i).toNat)
  case atStart => exact ⟨0, by omega, rfl, Below.refl _ _, by simpa [whoL] using HN0.out⟩
  case round =>
    obtain ⟨k, hk, rfl, hbw, htr⟩ := hrel
    have HB := Lib.hid hbw
    have HT := Lib.hid htr
    have hle1 : ((L.take k).map Pr.id).length ≤ 1000 := by rw [List.length_map, List.length_take]; omega
    have hle2 : (whoL (L.take k) (dueB T now)).length ≤ 1000 := by have := who_le (L.take k) (dueB T now); rw [List.length_take] at this; omega
    have hle3 : (whoL (L.take k) (lateB T now)).length ≤ 1000 := by have := who_le (L.take k) (lateB T now); rw [List.length_take] at this; omega
    clear hbw htr
    by_cases hlt : k < n
    · obtain ⟨ad, p, rfl, hp, hbl, d0, d1, d2, d3⟩ := (HR.out.below HB.out).at_ hlt
      obtain ⟨xs, HXS⟩ : ∃ y, Hid ((L.take k).map Pr.id = y) := ⟨_, Lib.hid rfl⟩
      obtain ⟨ys, HYS⟩ : ∃ y, Hid (whoL (L.take k) (dueB T now) = y) := ⟨_, Lib.hid rfl⟩
      obtain ⟨zs, HZS⟩ : ∃ y, Hid (whoL (L.take k) (lateB T now) = y) := ⟨_, Lib.hid rfl⟩
      have HXN := Lib.hid (ids_take hp)
      rw [HXS.out] at HXN
      rw [HXS.out] at hle1
      rw [HYS.out] at hle2
      rw [HZS.out] at hle3
      rw [HXS.out, HYS.out, HZS.out] at HT
      have HPL := Lib.hid hp
      have hok := HH.out.good.ok p (List.mem_of_getElem? hp)
      have HGP := Lib.hid (get_of HH.out.good.up (List.mem_of_getElem? hp))
      have HIN := Lib.hid (ok_in hok)
      have HYY := fun q (hq : dueB T now p = q) => hq
      obtain ⟨i, l, s, e⟩ := p
      obtain ⟨_, ⟨o1, o2⟩, ⟨o3, o4⟩, o5⟩ := hok
      simp only at o1 o2 o3 o4 o5 d0 d1 d2 d3
      have HO5 := Lib.hid o5
      clear hp o5 HYY
      have HP1 := Lib.hid (Px.new wr ⟨i, l, s, e⟩)
      have HB1 := Lib.hid (HB.out.alloc HB.out.size (.cells #[.int .i64 i, .int .i64 e, .int .i64 l, .bool s] 50))
      have HT1 := Lib.hid (HT.out.move.below ((Below.refl _ wr).alloc (Nat.le_refl _) (.cells #[.int .i64 i, .int .i64 e, .int .i64 l, .bool s] 50)))
      have hbx : W.heap.size ≤ wr.heap.size := HB.out.size
      obtain ⟨x0, x1, x2, x3⟩ := HP1.out.cells
      simp only at x0 x1 x2 x3
      have HDW := Lib.hid (due_ways T now ⟨i, l, s, e⟩ t1)
      rcases HDW.out with ⟨hd, d5⟩ | ⟨hd, d5, d6⟩ | ⟨hd, d5, d6⟩
      all_goals
        have HD := Lib.hid hd
        simp only at d5
        try simp only at d6
        clear hd HDW
      · cases s
        · have HLT : Hid (lateB T now ⟨i, l, false, e⟩ = false) := Lib.hid rfl
          obtain rfl : e = 0 := HO5.out rfl
          go_wp2_with (first | (at_builtin; refine wpList_snoc _ rfl (.tmp 22) (.tmp 25) rfl u9 W.heap.size (wr.heap.size + 1) xs i rfl HT1.out.ra rfl (by simp) hle1 (by have := HB1.out.size; omega) ?_; intro v1 w1 ho hg hv; have HT2 := Lib.hid (HT1.out.snocA ho hg hv); have HP2 := Lib.hid (HP1.out.kept hg HT1.out.oa); have HB2 := Lib.hid (below_own HB1.out HT1.out.ra hg); obtain ⟨y0, y1, y2, y3⟩ := HP2.out.cells; have y4 : wr.heap.size < w1.heap.size := HP2.out.lt; simp only at y0 y1 y2 y3; clear ho hg hv))
          refine (waits_any g b T L i _ (HH.out.below HB2.out) HIN.out).mono ?_
          rintro r w9 ⟨rfl, hb9⟩
          rw [show getL L i = ⟨i, l, false, 0⟩ from HGP.out]
          have HP9 := Lib.hid (HP2.out.below hb9)
          have HB9 := Lib.hid (HB2.out.trans (hb9.mono HB2.out.size))
          have HT9 := Lib.hid ((HT2.out.below hb9).move)
          obtain ⟨a0, a1, a2, a3⟩ := HP9.out.cells
          simp only at a0 a1 a2 a3 ⊢
          clear hb9
          go_wp2
          go_roundw
          case rel => exact ⟨k + 1, by omega, by go_num, HB9.out, by rw [HXN.out, who_take_no HPL.out HD.out, who_take_no HPL.out HLT.out, HYS.out, HZS.out]; exact HT9.out⟩
          case measure => simp [intOf]; omega
        · rcases late_ways T now i l e t1 with ⟨hl, d7⟩ | ⟨hl, d7, d8⟩ | ⟨hl, d7, d8⟩
          · have HLT := Lib.hid hl
            clear hl
            go_wp2_with (first | (at_builtin; refine wpList_snoc _ rfl (.tmp 22) (.tmp 25) rfl u9 W.heap.size (wr.heap.size + 1) xs i rfl HT1.out.ra rfl (by simp) hle1 (by have := HB1.out.size; omega) ?_; intro v1 w1 ho hg hv; have HT2 := Lib.hid (HT1.out.snocA ho hg hv); have HP2 := Lib.hid (HP1.out.kept hg HT1.out.oa); have HB2 := Lib.hid (below_own HB1.out HT1.out.ra hg); obtain ⟨y0, y1, y2, y3⟩ := HP2.out.cells; have y4 : wr.heap.size < w1.heap.size := HP2.out.lt; simp only at y0 y1 y2 y3; clear ho hg hv))
            refine (waits_any g b T L i _ (HH.out.below HB2.out) HIN.out).mono ?_
            rintro r w9 ⟨rfl, hb9⟩
            rw [show getL L i = ⟨i, l, true, e⟩ from HGP.out]
            have HP9 := Lib.hid (HP2.out.below hb9)
            have HB9 := Lib.hid (HB2.out.trans (hb9.mono HB2.out.size))
            have HT9 := Lib.hid ((HT2.out.below hb9).move)
            obtain ⟨a0, a1, a2, a3⟩ := HP9.out.cells
            simp only at a0 a1 a2 a3 ⊢
            clear hb9
            go_wp2
            go_roundw
            case rel => exact ⟨k + 1, by omega, by go_num, HB9.out, by rw [HXN.out, who_take_no HPL.out HD.out, who_take_no HPL.out HLT.out, HYS.out, HZS.out]; exact HT9.out⟩
            case measure => simp [intOf]; omega
          · have HLT := Lib.hid hl
            clear hl
            go_wp2_with (first | (at_builtin; refine wpList_snoc _ rfl (.tmp 22) (.tmp 25) rfl u9 W.heap.size (wr.heap.size + 1) xs i rfl HT1.out.ra rfl (by simp) hle1 (by have := HB1.out.size; omega) ?_; intro v1 w1 ho hg hv; have HT2 := Lib.hid (HT1.out.snocA ho hg hv); have HP2 := Lib.hid (HP1.out.kept hg HT1.out.oa); have HB2 := Lib.hid (below_own HB1.out HT1.out.ra hg); obtain ⟨y0, y1, y2, y3⟩ := HP2.out.cells; have y4 : wr.heap.size < w1.heap.size := HP2.out.lt; simp only at y0 y1 y2 y3; clear ho hg hv))
            refine (waits_any g b T L i _ (HH.out.below HB2.out) HIN.out).mono ?_
            rintro r w9 ⟨rfl, hb9⟩
            rw [show getL L i = ⟨i, l, true, e⟩ from HGP.out]
            have HP9 := Lib.hid (HP2.out.below hb9)
            have HB9 := Lib.hid (HB2.out.trans (hb9.mono HB2.out.size))
            have HT9 := Lib.hid ((HT2.out.below hb9).move)
            obtain ⟨a0, a1, a2, a3⟩ := HP9.out.cells
            simp only at a0 a1 a2 a3 ⊢
            clear hb9
            go_wp2
            go_roundw
            case rel => exact ⟨k + 1, by omega, by go_num, HB9.out, by rw [HXN.out, who_take_no HPL.out HD.out, who_take_no HPL.out HLT.out, HYS.out, HZS.out]; exact HT9.out⟩
            case measure => simp [intOf]; omega
          · have HLT := Lib.hid hl
            clear hl
            go_wp2_with (first | (at_builtin; refine wpList_snoc _ rfl (.tmp 22) (.tmp 25) rfl u9 W.heap.size (wr.heap.size + 1) xs i rfl HT1.out.ra rfl (by simp) hle1 (by have := HB1.out.size; omega) ?_; intro v1 w1 ho hg hv; have HT2 := Lib.hid (HT1.out.snocA ho hg hv); have HP2 := Lib.hid (HP1.out.kept hg HT1.out.oa); have HB2 := Lib.hid (below_own HB1.out HT1.out.ra hg); obtain ⟨y0, y1, y2, y3⟩ := HP2.out.cells; have y4 : wr.heap.size < w1.heap.size := HP2.out.lt; simp only at y0 y1 y2 y3; clear ho hg hv) | (at_builtin; refine wpList_snoc _ rfl (.tmp 61) (.tmp 64) rfl u11 W.heap.size w1.heap.size zs i rfl HT2.out.rc rfl (by simp) hle3 (by have := HB2.out.size; omega) ?_; intro v3 w3 ho hg hv; have HT3 := Lib.hid (HT2.out.snocC ho hg hv); have HP3 := Lib.hid (HP2.out.kept hg HT2.out.oc); have HB3 := Lib.hid (below_own HB2.out HT2.out.rc hg); obtain ⟨q0, q1, q2, q3⟩ := HP3.out.cells; have q4 : wr.heap.size < w3.heap.size := HP3.out.lt; simp only at q0 q1 q2 q3; clear ho hg hv))
            refine (waits_any g b T L i _ (HH.out.below HB3.out) HIN.out).mono ?_
            rintro r w9 ⟨rfl, hb9⟩
            rw [show getL L i = ⟨i, l, true, e⟩ from HGP.out]
            have HP9 := Lib.hid (HP3.out.below hb9)
            have HB9 := Lib.hid (HB3.out.trans (hb9.mono HB3.out.size))
            have HT9 := Lib.hid ((HT3.out.below hb9).move)
            obtain ⟨a0, a1, a2, a3⟩ := HP9.out.cells
            simp only at a0 a1 a2 a3 ⊢
            clear hb9
            go_wp2
            go_roundw
            case rel => exact ⟨k + 1, by omega, by go_num, HB9.out, by rw [HXN.out, who_take_no HPL.out HD.out, who_take_yes HPL.out HLT.out, HYS.out, HZS.out]; exact HT9.out⟩
            case measure => simp [intOf]; omega
      · cases s
        · have HLT : Hid (lateB T now ⟨i, l, false, e⟩ = false) := Lib.hid rfl
          obtain rfl : e = 0 := HO5.out rfl
          go_wp2_with (first | (at_builtin; refine wpList_snoc _ rfl (.tmp 22) (.tmp 25) rfl u9 W.heap.size (wr.heap.size + 1) xs i rfl HT1.out.ra rfl (by simp) hle1 (by have := HB1.out.size; omega) ?_; intro v1 w1 ho hg hv; have HT2 := Lib.hid (HT1.out.snocA ho hg hv); have HP2 := Lib.hid (HP1.out.kept hg HT1.out.oa); have HB2 := Lib.hid (below_own HB1.out HT1.out.ra hg); obtain ⟨y0, y1, y2, y3⟩ := HP2.out.cells; have y4 : wr.heap.size < w1.heap.size := HP2.out.lt; simp only at y0 y1 y2 y3; clear ho hg hv))
          refine (waits_any g b T L i _ (HH.out.below HB2.out) HIN.out).mono ?_
          rintro r w9 ⟨rfl, hb9⟩
          rw [show getL L i = ⟨i, l, false, 0⟩ from HGP.out]
          have HP9 := Lib.hid (HP2.out.below hb9)
          have HB9 := Lib.hid (HB2.out.trans (hb9.mono HB2.out.size))
          have HT9 := Lib.hid ((HT2.out.below hb9).move)
          obtain ⟨a0, a1, a2, a3⟩ := HP9.out.cells
          simp only at a0 a1 a2 a3 ⊢
          clear hb9
          go_wp2
          go_roundw
          case rel => exact ⟨k + 1, by omega, by go_num, HB9.out, by rw [HXN.out, who_take_no HPL.out HD.out, who_take_no HPL.out HLT.out, HYS.out, HZS.out]; exact HT9.out⟩
          case measure => simp [intOf]; omega
        · rcases late_ways T now i l e t1 with ⟨hl, d7⟩ | ⟨hl, d7, d8⟩ | ⟨hl, d7, d8⟩
          · have HLT := Lib.hid hl
            clear hl
            go_wp2_with (first | (at_builtin; refine wpList_snoc _ rfl (.tmp 22) (.tmp 25) rfl u9 W.heap.size (wr.heap.size + 1) xs i rfl HT1.out.ra rfl (by simp) hle1 (by have := HB1.out.size; omega) ?_; intro v1 w1 ho hg hv; have HT2 := Lib.hid (HT1.out.snocA ho hg hv); have HP2 := Lib.hid (HP1.out.kept hg HT1.out.oa); have HB2 := Lib.hid (below_own HB1.out HT1.out.ra hg); obtain ⟨y0, y1, y2, y3⟩ := HP2.out.cells; have y4 : wr.heap.size < w1.heap.size := HP2.out.lt; simp only at y0 y1 y2 y3; clear ho hg hv))
            refine (waits_any g b T L i _ (HH.out.below HB2.out) HIN.out).mono ?_
            rintro r w9 ⟨rfl, hb9⟩
            rw [show getL L i = ⟨i, l, true, e⟩ from HGP.out]
            have HP9 := Lib.hid (HP2.out.below hb9)
            have HB9 := Lib.hid (HB2.out.trans (hb9.mono HB2.out.size))
            have HT9 := Lib.hid ((HT2.out.below hb9).move)
            obtain ⟨a0, a1, a2, a3⟩ := HP9.out.cells
            simp only at a0 a1 a2 a3 ⊢
            clear hb9
            go_wp2
            go_roundw
            case rel => exact ⟨k + 1, by omega, by go_num, HB9.out, by rw [HXN.out, who_take_no HPL.out HD.out, who_take_no HPL.out HLT.out, HYS.out, HZS.out]; exact HT9.out⟩
            case measure => simp [intOf]; omega
          · have HLT := Lib.hid hl
            clear hl
            go_wp2_with (first | (at_builtin; refine wpList_snoc _ rfl (.tmp 22) (.tmp 25) rfl u9 W.heap.size (wr.heap.size + 1) xs i rfl HT1.out.ra rfl (by simp) hle1 (by have := HB1.out.size; omega) ?_; intro v1 w1 ho hg hv; have HT2 := Lib.hid (HT1.out.snocA ho hg hv); have HP2 := Lib.hid (HP1.out.kept hg HT1.out.oa); have HB2 := Lib.hid (below_own HB1.out HT1.out.ra hg); obtain ⟨y0, y1, y2, y3⟩ := HP2.out.cells; have y4 : wr.heap.size < w1.heap.size := HP2.out.lt; simp only at y0 y1 y2 y3; clear ho hg hv))
            refine (waits_any g b T L i _ (HH.out.below HB2.out) HIN.out).mono ?_
            rintro r w9 ⟨rfl, hb9⟩
            rw [show getL L i = ⟨i, l, true, e⟩ from HGP.out]
            have HP9 := Lib.hid (HP2.out.below hb9)
            have HB9 := Lib.hid (HB2.out.trans (hb9.mono HB2.out.size))
            have HT9 := Lib.hid ((HT2.out.below hb9).move)
            obtain ⟨a0, a1, a2, a3⟩ := HP9.out.cells
            simp only at a0 a1 a2 a3 ⊢
            clear hb9
            go_wp2
            go_roundw
            case rel => exact ⟨k + 1, by omega, by go_num, HB9.out, by rw [HXN.out, who_take_no HPL.out HD.out, who_take_no HPL.out HLT.out, HYS.out, HZS.out]; exact HT9.out⟩
            case measure => simp [intOf]; omega
          · have HLT := Lib.hid hl
            clear hl
            go_wp2_with (first | (at_builtin; refine wpList_snoc _ rfl (.tmp 22) (.tmp 25) rfl u9 W.heap.size (wr.heap.size + 1) xs i rfl HT1.out.ra rfl (by simp) hle1 (by have := HB1.out.size; omega) ?_; intro v1 w1 ho hg hv; have HT2 := Lib.hid (HT1.out.snocA ho hg hv); have HP2 := Lib.hid (HP1.out.kept hg HT1.out.oa); have HB2 := Lib.hid (below_own HB1.out HT1.out.ra hg); obtain ⟨y0, y1, y2, y3⟩ := HP2.out.cells; have y4 : wr.heap.size < w1.heap.size := HP2.out.lt; simp only at y0 y1 y2 y3; clear ho hg hv) | (at_builtin; refine wpList_snoc _ rfl (.tmp 61) (.tmp 64) rfl u11 W.heap.size w1.heap.size zs i rfl HT2.out.rc rfl (by simp) hle3 (by have := HB2.out.size; omega) ?_; intro v3 w3 ho hg hv; have HT3 := Lib.hid (HT2.out.snocC ho hg hv); have HP3 := Lib.hid (HP2.out.kept hg HT2.out.oc); have HB3 := Lib.hid (below_own HB2.out HT2.out.rc hg); obtain ⟨q0, q1, q2, q3⟩ := HP3.out.cells; have q4 : wr.heap.size < w3.heap.size := HP3.out.lt; simp only at q0 q1 q2 q3; clear ho hg hv))
            refine (waits_any g b T L i _ (HH.out.below HB3.out) HIN.out).mono ?_
            rintro r w9 ⟨rfl, hb9⟩
            rw [show getL L i = ⟨i, l, true, e⟩ from HGP.out]
            have HP9 := Lib.hid (HP3.out.below hb9)
            have HB9 := Lib.hid (HB3.out.trans (hb9.mono HB3.out.size))
            have HT9 := Lib.hid ((HT3.out.below hb9).move)
            obtain ⟨a0, a1, a2, a3⟩ := HP9.out.cells
            simp only at a0 a1 a2 a3 ⊢
            clear hb9
            go_wp2
            go_roundw
            case rel => exact ⟨k + 1, by omega, by go_num, HB9.out, by rw [HXN.out, who_take_no HPL.out HD.out, who_take_yes HPL.out HLT.out, HYS.out, HZS.out]; exact HT9.out⟩
            case measure => simp [intOf]; omega
      · cases s
        · have HLT : Hid (lateB T now ⟨i, l, false, e⟩ = false) := Lib.hid rfl
          obtain rfl : e = 0 := HO5.out rfl
          go_wp2_with (first | (at_builtin; refine wpList_snoc _ rfl (.tmp 22) (.tmp 25) rfl u9 W.heap.size (wr.heap.size + 1) xs i rfl HT1.out.ra rfl (by simp) hle1 (by have := HB1.out.size; omega) ?_; intro v1 w1 ho hg hv; have HT2 := Lib.hid (HT1.out.snocA ho hg hv); have HP2 := Lib.hid (HP1.out.kept hg HT1.out.oa); have HB2 := Lib.hid (below_own HB1.out HT1.out.ra hg); obtain ⟨y0, y1, y2, y3⟩ := HP2.out.cells; have y4 : wr.heap.size < w1.heap.size := HP2.out.lt; simp only at y0 y1 y2 y3; clear ho hg hv) | (at_builtin; refine wpList_snoc _ rfl (.tmp 40) (.tmp 43) rfl u10 W.heap.size w1.heap.size ys i rfl HT2.out.rb rfl (by simp) hle2 (by have := HB2.out.size; omega) ?_; intro v2 w2 ho hg hv; have HT3 := Lib.hid (HT2.out.snocB ho hg hv); have HP3 := Lib.hid (HP2.out.kept hg HT2.out.ob); have HB3 := Lib.hid (below_own HB2.out HT2.out.rb hg); obtain ⟨z0, z1, z2, z3⟩ := HP3.out.cells; have z4 : wr.heap.size < w2.heap.size := HP3.out.lt; simp only at z0 z1 z2 z3; clear ho hg hv))
          refine (waits_any g b T L i _ (HH.out.below HB3.out) HIN.out).mono ?_
          rintro r w9 ⟨rfl, hb9⟩
          rw [show getL L i = ⟨i, l, false, 0⟩ from HGP.out]
          have HP9 := Lib.hid (HP3.out.below hb9)
          have HB9 := Lib.hid (HB3.out.trans (hb9.mono HB3.out.size))
          have HT9 := Lib.hid ((HT3.out.below hb9).move)
          obtain ⟨a0, a1, a2, a3⟩ := HP9.out.cells
          simp only at a0 a1 a2 a3 ⊢
          clear hb9
          go_wp2
          go_roundw
          case rel => exact ⟨k + 1, by omega, by go_num, HB9.out, by rw [HXN.out, who_take_yes HPL.out HD.out, who_take_no HPL.out HLT.out, HYS.out, HZS.out]; exact HT9.out⟩
          case measure => simp [intOf]; omega
        · rcases late_ways T now i l e t1 with ⟨hl, d7⟩ | ⟨hl, d7, d8⟩ | ⟨hl, d7, d8⟩
          · have HLT := Lib.hid hl
            clear hl
            go_wp2_with (first | (at_builtin; refine wpList_snoc _ rfl (.tmp 22) (.tmp 25) rfl u9 W.heap.size (wr.heap.size + 1) xs i rfl HT1.out.ra rfl (by simp) hle1 (by have := HB1.out.size; omega) ?_; intro v1 w1 ho hg hv; have HT2 := Lib.hid (HT1.out.snocA ho hg hv); have HP2 := Lib.hid (HP1.out.kept hg HT1.out.oa); have HB2 := Lib.hid (below_own HB1.out HT1.out.ra hg); obtain ⟨y0, y1, y2, y3⟩ := HP2.out.cells; have y4 : wr.heap.size < w1.heap.size := HP2.out.lt; simp only at y0 y1 y2 y3; clear ho hg hv) | (at_builtin; refine wpList_snoc _ rfl (.tmp 40) (.tmp 43) rfl u10 W.heap.size w1.heap.size ys i rfl HT2.out.rb rfl (by simp) hle2 (by have := HB2.out.size; omega) ?_; intro v2 w2 ho hg hv; have HT3 := Lib.hid (HT2.out.snocB ho hg hv); have HP3 := Lib.hid (HP2.out.kept hg HT2.out.ob); have HB3 := Lib.hid (below_own HB2.out HT2.out.rb hg); obtain ⟨z0, z1, z2, z3⟩ := HP3.out.cells; have z4 : wr.heap.size < w2.heap.size := HP3.out.lt; simp only at z0 z1 z2 z3; clear ho hg hv))
            refine (waits_any g b T L i _ (HH.out.below HB3.out) HIN.out).mono ?_
            rintro r w9 ⟨rfl, hb9⟩
            rw [show getL L i = ⟨i, l, true, e⟩ from HGP.out]
            have HP9 := Lib.hid (HP3.out.below hb9)
            have HB9 := Lib.hid (HB3.out.trans (hb9.mono HB3.out.size))
            have HT9 := Lib.hid ((HT3.out.below hb9).move)
            obtain ⟨a0, a1, a2, a3⟩ := HP9.out.cells
            simp only at a0 a1 a2 a3 ⊢
            clear hb9
            go_wp2
            go_roundw
            case rel => exact ⟨k + 1, by omega, by go_num, HB9.out, by rw [HXN.out, who_take_yes HPL.out HD.out, who_take_no HPL.out HLT.out, HYS.out, HZS.out]; exact HT9.out⟩
            case measure => simp [intOf]; omega
          · have HLT := Lib.hid hl
            clear hl
            go_wp2_with (first | (at_builtin; refine wpList_snoc _ rfl (.tmp 22) (.tmp 25) rfl u9 W.heap.size (wr.heap.size + 1) xs i rfl HT1.out.ra rfl (by simp) hle1 (by have := HB1.out.size; omega) ?_; intro v1 w1 ho hg hv; have HT2 := Lib.hid (HT1.out.snocA ho hg hv); have HP2 := Lib.hid (HP1.out.kept hg HT1.out.oa); have HB2 := Lib.hid (below_own HB1.out HT1.out.ra hg); obtain ⟨y0, y1, y2, y3⟩ := HP2.out.cells; have y4 : wr.heap.size < w1.heap.size := HP2.out.lt; simp only at y0 y1 y2 y3; clear ho hg hv) | (at_builtin; refine wpList_snoc _ rfl (.tmp 40) (.tmp 43) rfl u10 W.heap.size w1.heap.size ys i rfl HT2.out.rb rfl (by simp) hle2 (by have := HB2.out.size; omega) ?_; intro v2 w2 ho hg hv; have HT3 := Lib.hid (HT2.out.snocB ho hg hv); have HP3 := Lib.hid (HP2.out.kept hg HT2.out.ob); have HB3 := Lib.hid (below_own HB2.out HT2.out.rb hg); obtain ⟨z0, z1, z2, z3⟩ := HP3.out.cells; have z4 : wr.heap.size < w2.heap.size := HP3.out.lt; simp only at z0 z1 z2 z3; clear ho hg hv))
            refine (waits_any g b T L i _ (HH.out.below HB3.out) HIN.out).mono ?_
            rintro r w9 ⟨rfl, hb9⟩
            rw [show getL L i = ⟨i, l, true, e⟩ from HGP.out]
            have HP9 := Lib.hid (HP3.out.below hb9)
            have HB9 := Lib.hid (HB3.out.trans (hb9.mono HB3.out.size))
            have HT9 := Lib.hid ((HT3.out.below hb9).move)
            obtain ⟨a0, a1, a2, a3⟩ := HP9.out.cells
            simp only at a0 a1 a2 a3 ⊢
            clear hb9
            go_wp2
            go_roundw
            case rel => exact ⟨k + 1, by omega, by go_num, HB9.out, by rw [HXN.out, who_take_yes HPL.out HD.out, who_take_no HPL.out HLT.out, HYS.out, HZS.out]; exact HT9.out⟩
            case measure => simp [intOf]; omega
          · have HLT := Lib.hid hl
            clear hl
            go_wp2_with (first | (at_builtin; refine wpList_snoc _ rfl (.tmp 22) (.tmp 25) rfl u9 W.heap.size (wr.heap.size + 1) xs i rfl HT1.out.ra rfl (by simp) hle1 (by have := HB1.out.size; omega) ?_; intro v1 w1 ho hg hv; have HT2 := Lib.hid (HT1.out.snocA ho hg hv); have HP2 := Lib.hid (HP1.out.kept hg HT1.out.oa); have HB2 := Lib.hid (below_own HB1.out HT1.out.ra hg); obtain ⟨y0, y1, y2, y3⟩ := HP2.out.cells; have y4 : wr.heap.size < w1.heap.size := HP2.out.lt; simp only at y0 y1 y2 y3; clear ho hg hv) | (at_builtin; refine wpList_snoc _ rfl (.tmp 40) (.tmp 43) rfl u10 W.heap.size w1.heap.size ys i rfl HT2.out.rb rfl (by simp) hle2 (by have := HB2.out.size; omega) ?_; intro v2 w2 ho hg hv; have HT3 := Lib.hid (HT2.out.snocB ho hg hv); have HP3 := Lib.hid (HP2.out.kept hg HT2.out.ob); have HB3 := Lib.hid (below_own HB2.out HT2.out.rb hg); obtain ⟨z0, z1, z2, z3⟩ := HP3.out.cells; have z4 : wr.heap.size < w2.heap.size := HP3.out.lt; simp only at z0 z1 z2 z3; clear ho hg hv) | (at_builtin; refine wpList_snoc _ rfl (.tmp 61) (.tmp 64) rfl u11 W.heap.size w2.heap.size zs i rfl HT3.out.rc rfl (by simp) hle3 (by have := HB3.out.size; omega) ?_; intro v3 w3 ho hg hv; have HT4 := Lib.hid (HT3.out.snocC ho hg hv); have HP4 := Lib.hid (HP3.out.kept hg HT3.out.oc); have HB4 := Lib.hid (below_own HB3.out HT3.out.rc hg); obtain ⟨q0, q1, q2, q3⟩ := HP4.out.cells; have q4 : wr.heap.size < w3.heap.size := HP4.out.lt; simp only at q0 q1 q2 q3; clear ho hg hv))
            refine (waits_any g b T L i _ (HH.out.below HB4.out) HIN.out).mono ?_
            rintro r w9 ⟨rfl, hb9⟩
            rw [show getL L i = ⟨i, l, true, e⟩ from HGP.out]
            have HP9 := Lib.hid (HP4.out.below hb9)
            have HB9 := Lib.hid (HB4.out.trans (hb9.mono HB4.out.size))
            have HT9 := Lib.hid ((HT4.out.below hb9).move)
            obtain ⟨a0, a1, a2, a3⟩ := HP9.out.cells
            simp only at a0 a1 a2 a3 ⊢
            clear hb9
            go_wp2
            go_roundw
            case rel => exact ⟨k + 1, by omega, by go_num, HB9.out, by rw [HXN.out, who_take_yes HPL.out HD.out, who_take_yes HPL.out HLT.out, HYS.out, HZS.out]; exact HT9.out⟩
            case measure => simp [intOf]; omega
    · obtain rfl : k = n := by omega
      have HTK : Hid (L.take k = L) := Lib.hid (List.take_of_length_le (by rw [HL.out]; exact Nat.le_refl _))
      rw [HTK.out] at HT hle1 hle2 hle3
      obtain ⟨xs, HXS⟩ : ∃ y, Hid (L.map Pr.id = y) := ⟨_, Lib.hid rfl⟩
      obtain ⟨ys, HYS⟩ : ∃ y, Hid (whoL L (dueB T now) = y) := ⟨_, Lib.hid rfl⟩
      obtain ⟨zs, HZS⟩ : ∃ y, Hid (whoL L (lateB T now) = y) := ⟨_, Lib.hid rfl⟩
      rw [HXS.out] at hle1
      rw [HYS.out] at hle2
      rw [HZS.out] at hle3
      rw [HXS.out, HYS.out, HZS.out] at HT
      have HSX := Lib.hid (same_yes (rfl : xs = xs))
      have HSY := Lib.hid (same_yes (rfl : ys = ys))
      have HSZ := Lib.hid (same_yes (rfl : zs = zs))
      obtain ⟨AA, ca, rfl, hca, hcma⟩ := own_slice HT.out.ra
      obtain ⟨AB, cb, rfl, hcb, hcmb⟩ := own_slice HT.out.rb
      obtain ⟨AC, cc, rfl, hcc, hcmc⟩ := own_slice HT.out.rc
      go_wp2_with (fail)
      refine (peers_any g b T L _ (HH.out.below HB.out)).mono ?_
      rintro r w1 ⟨hb1, v1, rfl, hown1⟩
      rw [HXS.out] at hown1
      obtain ⟨A1, c1, rfl, hc1, hcm1⟩ := own_slice hown1
      have HT1 := Lib.hid (HT.out.below hb1)
      have HB1 := Lib.hid (HB.out.trans (hb1.mono HB.out.size))
      have HR1 := Lib.hid (own_read hown1 _ (.inl (Nat.le_refl _)))
      have HQ1 := Lib.hid (own_read HT1.out.ra _ (.inl (Nat.le_refl _)))
      clear hb1 hown1
      go_wp2_with (fail)
      refine (same_any A1 AA _ c1 _ ca xs xs _ _ _ (by omega) (by omega) HR1.out HQ1.out).mono ?_
      rintro r w2 ⟨rfl, rfl⟩
      rw [HSX.out]
      go_wp2_with (fail)
      refine (due_any g b T L now _ (HH.out.below HB1.out)).mono ?_
      rintro r w3 ⟨hb3, v3, rfl, hown3⟩
      rw [HYS.out] at hown3
      obtain ⟨A3, c3, rfl, hc3, hcm3⟩ := own_slice hown3
      have HT3 := Lib.hid (HT1.out.below hb3)
      have HB3 := Lib.hid (HB1.out.trans (hb3.mono HB1.out.size))
      have HR3 := Lib.hid (own_read hown3 _ (.inl (Nat.le_refl _)))
      have HQ3 := Lib.hid (own_read HT3.out.rb _ (.inl (Nat.le_refl _)))
      clear hb3 hown3
      go_wp2_with (fail)
      refine (same_any A3 AB _ c3 _ cb ys ys _ _ _ (by omega) (by omega) HR3.out HQ3.out).mono ?_
      rintro r w4 ⟨rfl, rfl⟩
      rw [HSY.out]
      go_wp2_with (fail)
      refine (late_any g b T L now _ (HH.out.below HB3.out)).mono ?_
      rintro r w5 ⟨hb5, v5, rfl, hown5⟩
      rw [HZS.out] at hown5
      obtain ⟨A5, c5, rfl, hc5, hcm5⟩ := own_slice hown5
      have HT5 := Lib.hid (HT3.out.below hb5)
      have HB5 := Lib.hid (HB3.out.trans (hb5.mono HB3.out.size))
      have HR5 := Lib.hid (own_read hown5 _ (.inl (Nat.le_refl _)))
      have HQ5 := Lib.hid (own_read HT5.out.rc _ (.inl (Nat.le_refl _)))
      clear hb5 hown5
      go_wp2_with (fail)
      refine (same_any A5 AC _ c5 _ cc zs zs _ _ _ (by omega) (by omega) HR5.out HQ5.out).mono ?_
      rintro r w6 ⟨rfl, rfl⟩
      rw [HSZ.out]
      go_wp2
      go_ret
      exact ⟨rfl, HB5.out⟩
end Go.Proofs.Ytcphodnenhnalaa
