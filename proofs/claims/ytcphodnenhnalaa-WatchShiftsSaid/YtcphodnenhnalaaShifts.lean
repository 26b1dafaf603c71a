/-
  WHAT IS PROVED: the law WatchShifts answers true for all arguments: with all times later by as much who is due and who is late is the same. No condition beyond those of the given row.
-/
import Derived.Test.YtcphodnenhnalaaAnchor
namespace Go.Proofs.Ytcphodnenhnalaa
open Go.RowKit Go.Lib Go.Maps

/-- a peer, all of whose times are later by d -/
def shP (d : Int) (p : Pr) : Pr := ⟨p.id, p.last + d, p.waits, if p.waits = true then p.since + d else p.since⟩
def shL (d : Int) (L : List Pr) : List Pr := L.map (shP d)
theorem sh_id (d : Int) (p : Pr) : (shP d p).id = p.id := rfl
theorem sh_has (d : Int) (L : List Pr) (x : Int) : hasL (shL d L) x = hasL L x := by
  unfold hasL shL; rw [List.any_map]; rfl
theorem sh_get (d : Int) : ∀ {L : List Pr} {x : Int}, hasL L x = true → getL (shL d L) x = shP d (getL L x)
  | [], _, h => by simp [hasL] at h
  | p :: l, x, h => by
    show (if p.id = x then _ else _) = shP d (if p.id = x then _ else _)
    by_cases e : p.id = x
    · rw [if_pos e, if_pos e]
    · have : hasL l x = true := by
        obtain ⟨q, hq, e2⟩ := hasL_iff.1 h
        rcases List.mem_cons.1 hq with f | hq'
        · subst f; exact absurd e2 e
        · exact hasL_iff.2 ⟨q, hq', e2⟩
      rw [if_neg e, if_neg e]
      exact sh_get d this
theorem sh_ins (d : Int) : ∀ (L : List Pr) (q : Pr), insL (shL d L) (shP d q) = shL d (insL L q)
  | [], _ => rfl
  | p :: l, q => by
    show (if p.id < q.id then _ else if p.id = q.id then _ else _) = shL d (if p.id < q.id then _ else if p.id = q.id then _ else _)
    by_cases h1 : p.id < q.id
    · rw [if_pos h1, if_pos h1]
      show shP d p :: insL (shL d l) (shP d q) = shP d p :: shL d (insL l q)
      rw [sh_ins d l q]
    · by_cases h2 : p.id = q.id
      · rw [if_neg h1, if_pos h2, if_neg h1, if_pos h2]; rfl
      · rw [if_neg h1, if_neg h2, if_neg h1, if_neg h2]; rfl
theorem sh_del (d : Int) (L : List Pr) (x : Int) : delL (shL d L) x = shL d (delL L x) := by
  unfold delL shL; rw [List.filter_map]; rfl
theorem sh_len (d : Int) (L : List Pr) : (shL d L).length = L.length := List.length_map _
theorem sh_add {d t : Int} {L : List Pr} {x : Int} (h1 : isTimeB t = true) (h2 : isTimeB (t + d) = true) : addE (shL d L) x (t + d) = addE L x t ∧ addL (shL d L) x (t + d) = shL d (addL L x t) := by
  have he : addE (shL d L) x (t + d) = addE L x t := by unfold addE; rw [h1, h2, sh_has, sh_len]
  refine ⟨he, ?_⟩
  unfold addL
  rw [he]
  split
  · exact sh_ins d L ⟨x, t, false, 0⟩
  · rfl
theorem sh_met {d t : Int} {L : List Pr} {x : Int} (h1 : isTimeB t = true) (h2 : isTimeB (t + d) = true) : metE (shL d L) x (t + d) = metE L x t := by unfold metE; rw [h1, h2, sh_has]
theorem sh_pingP (d t : Int) (p : Pr) : pingP (shP d p) (t + d) = shP d (pingP p t) := by
  refine Pr.ext_ rfl ?_ rfl ?_
  · show max (p.last + d) (t + d) = max p.last t + d; omega
  · show (if p.waits = true then (if p.waits = true then p.since + d else p.since) else t + d) = (if p.waits = true then p.since else t) + d
    split <;> rfl
theorem sh_pongP (d t : Int) (p : Pr) : pongP (shP d p) (t + d) = shP d (pongP p t) := by
  refine Pr.ext_ rfl ?_ rfl rfl
  show max (p.last + d) (t + d) = max p.last t + d; omega
theorem sh_ping {d t : Int} {L : List Pr} {x : Int} (h1 : isTimeB t = true) (h2 : isTimeB (t + d) = true) : pingL (shL d L) x (t + d) = shL d (pingL L x t) := by
  unfold pingL
  rw [sh_met h1 h2]
  split
  · rename_i he
    rw [sh_get d (metE_zero he).2.2, sh_pingP, sh_ins]
  · rfl
theorem sh_pong {d t : Int} {L : List Pr} {x : Int} (h1 : isTimeB t = true) (h2 : isTimeB (t + d) = true) : pongL (shL d L) x (t + d) = shL d (pongL L x t) := by
  unfold pongL
  rw [sh_met h1 h2]
  split
  · rename_i he
    rw [sh_get d (metE_zero he).2.2, sh_pongP, sh_ins]
  · rfl
theorem sh_who {d : Int} {L : List Pr} {f h : Pr → Bool} (hi : ∀ p, f (shP d p) = h p) : whoL (shL d L) f = whoL L h := by
  unfold whoL shL
  rw [List.filter_map, List.map_map]
  rw [show (f ∘ shP d) = h from funext hi]
  rfl
theorem sh_due (d : Int) (L : List Pr) (T now : Int) : whoL (shL d L) (dueB T (now + d)) = whoL L (dueB T now) := sh_who fun p => by
  unfold dueB
  rw [decide_eq_decide]
  show p.last + d + T / 2 ≤ now + d ↔ _
  omega
theorem sh_late (d : Int) (L : List Pr) (T now : Int) : whoL (shL d L) (lateB T (now + d)) = whoL L (lateB T now) := sh_who fun p => by
  unfold lateB
  show (p.waits && decide ((if p.waits = true then p.since + d else p.since) + T < now + d)) = (p.waits && decide (p.since + T < now))
  cases p.waits
  · rfl
  · rw [if_pos rfl, Bool.true_and, Bool.true_and, decide_eq_decide]
    omega
theorem sh_ids (d : Int) (L : List Pr) : (shL d L).map Pr.id = L.map Pr.id := by unfold shL; rw [List.map_map]; rfl

set_option maxRecDepth 100000 in
set_option maxHeartbeats 16000000 in
theorem shifts_in (T : Int) (A : Option Addr) (n c : Nat) (l : List St) (now d : Int) (W : World) (hT1 : 2 ≤ T) (hT2 : T ≤ 1073741824) (hn : n ≤ 60) (hr : ActsAt W A n l) (hfit : ∀ x ∈ l, x.fits) (h0 : 0 ≤ now) (h1 : now ≤ 274877906944) (h2 : 0 ≤ d) (h3 : d ≤ 274877906944) :
    Calls Try.prog 6 #[.int .i64 T, .slice A n c, .int .i64 now, .int .i64 d] W (Says true W) := by
  have d0 : (n : Int) ≤ 60 := by omega
  have HR := Lib.hid hr
  have HFT := Lib.hid hfit
  clear hr hfit
  go_enter Try.func6, Try.ntmps6
  go_wp2_with (fail)
  refine (anchor_any _).mono ?_
  rintro e w0 ⟨rfl, hb0⟩
  have HB0 := Lib.hid hb0
  clear hb0
  go_wp2_with (fail)
  refine (new_yes T _ hT1 hT2).mono ?_
  rintro e w1 ⟨g, b, rfl, k1, hb1, hg, hb⟩
  have K1 := Lib.hid k1
  have HB1 := Lib.hid (HB0.out.trans (hb1.mono HB0.out.size))
  have HBb : Hid (W.heap.size ≤ b) := Lib.hid (Nat.le_trans HB0.out.size hb)
  clear k1 hb1 hg hb
  go_wp2_with (fail)
  refine (new_yes T _ hT1 hT2).mono ?_
  rintro e w2 ⟨g2, b2, rfl, k2, hb2, hg2, hbb2⟩
  have K2 := Lib.hid k2
  have KA := Lib.hid (K1.out.below hb2)
  have HB2 := Lib.hid (HB1.out.trans (hb2.mono HB1.out.size))
  have HBc : Hid (W.heap.size ≤ b2) := Lib.hid (Nat.le_trans HB1.out.size hbb2)
  have HNE : Hid (b ≠ b2) := Lib.hid (by have := K1.out.ltb; omega)
  clear k2 hb2 hg2 hbb2
  go_wp2
  go_loopw [56] (fun i wr => ∃ (k : Nat) (L : List Pr), k ≤ n ∧ i = .int .i64 k ∧ Wt wr g b T L ∧ Wt wr g2 b2 T (shL d L) ∧ Below W.heap.size W wr) (fun i _ => n - (intOf i).toNat)
  case atStart => exact ⟨0, [], by omega, rfl, KA.out, K2.out, HB2.out⟩
  case round =>
    obtain ⟨w3, rfl⟩ : ∃ w3, w3 = wr := ⟨_, rfl⟩
    obtain ⟨k, L, hk, rfl, hwa, hwb, hbw⟩ := hrel
    have HKA := Lib.hid hwa
    have HKB := Lib.hid hwb
    have HW := Lib.hid hbw
    clear hwa hwb hbw
    by_cases hlt : k < n
    · obtain ⟨ad, x, rfl, hx, hbl, f0, f1, f2⟩ := (HR.out.below HW.out).at_ hlt
      have HXF := Lib.hid (HFT.out x (List.mem_of_getElem? hx))
      obtain ⟨ho, xi, xt⟩ := x
      simp only at f0 f1 f2
      clear hx
      have HAL : Hid (Below w3.heap.size w3 (w3.alloc (.cells #[.int .i64 ho, .int .i64 xi, .int .i64 xt] 30))) := Lib.hid ((Below.refl _ _).alloc (Nat.le_refl _) _)
      have HWA := Lib.hid (HW.out.alloc HW.out.size (.cells #[.int .i64 ho, .int .i64 xi, .int .i64 xt] 30))
      have HKA1 := Lib.hid (HKA.out.below HAL.out)
      have HKB1 := Lib.hid (HKB.out.below HAL.out)
      have HSA := Lib.hid (Sx.new w3 ⟨ho, xi, xt⟩)
      have HBL3 : Hid (b < w3.heap.size) := Lib.hid HKA.out.ltb
      have HBM3 : Hid (b2 < w3.heap.size) := Lib.hid HKB.out.ltb
      obtain ⟨a0, a1, a2⟩ := HSA.out.cells
      simp only at a0 a1 a2
      by_cases ht0 : xt < 0
      · go_wp2
        go_ret
        exact ⟨rfl, HWA.out⟩
      · by_cases ht1 : 274877906944 < xt
        · have ht2 : 0 ≤ xt := by omega
          clear ht0
          go_wp2
          go_ret
          exact ⟨rfl, HWA.out⟩
        · have ht2 : 0 ≤ xt := by omega
          have ht3 : xt ≤ 274877906944 := by omega
          have HT1 : Hid (isTimeB xt = true) := Lib.hid (time_in ⟨ht2, by omega⟩)
          have HT2 : Hid (isTimeB (xt + d) = true) := Lib.hid (time_in ⟨by omega, by omega⟩)
          clear ht0 ht1
          by_cases x1 : ho = 1
          · subst x1
            have HEQ : Hid (addL (shL d L) xi (xt + d) = shL d (addL L xi xt)) := Lib.hid ((sh_add HT1.out HT2.out).2)
            go_wp2_with (fail)
            refine (add_any g b _ _ xi xt _ HKA1.out).mono ?_
            rintro e w4 ⟨rfl, k4, hg4⟩
            have K4 := Lib.hid k4
            have KB4 := Lib.hid (HKB1.out.other HKA1.out (fun e => HNE.out e.symm) hg4)
            have HB4 := Lib.hid (HKA1.out.grownB HWA.out HBb.out hg4)
            have HS4 : Hid (Sx w4 w3.heap.size ⟨1, xi, xt⟩) := Lib.hid (HSA.out.kept hg4 (by have := HBL3.out; simp; omega))
            obtain ⟨c0, c1, c2⟩ := HS4.out.cells
            simp only at c0 c1 c2
            clear k4 hg4 a0 a1 a2
            go_wp2_with (fail)
            refine (add_any g2 b2 _ _ xi (xt + d) _ KB4.out).mono ?_
            rintro e w5 ⟨rfl, k5, hg5⟩
            rw [HEQ.out] at k5
            have K5 := Lib.hid k5
            have KA5 := Lib.hid (K4.out.other KB4.out HNE.out hg5)
            have HB5 := Lib.hid (KB4.out.grownB HB4.out HBc.out hg5)
            clear k5 hg5
            go_wp2
            go_roundw
            case rel => exact ⟨k + 1, addL L xi xt, by omega, by go_num, KA5.out, K5.out, HB5.out⟩
            case measure => simp [intOf]; omega
          · by_cases x2 : ho = 2
            · subst x2
              have HEQ : Hid (delL (shL d L) xi = shL d (delL L xi)) := Lib.hid (sh_del d L xi)
              go_wp2_with (fail)
              refine (remove_any g b _ _ xi _ HKA1.out HXF.out.2.1).mono ?_
              rintro e w4 ⟨rfl, k4, hg4⟩
              have K4 := Lib.hid k4
              have KB4 := Lib.hid (HKB1.out.other HKA1.out (fun e => HNE.out e.symm) hg4)
              have HB4 := Lib.hid (HKA1.out.grownB HWA.out HBb.out hg4)
              have HS4 : Hid (Sx w4 w3.heap.size ⟨2, xi, xt⟩) := Lib.hid (HSA.out.kept hg4 (by have := HBL3.out; simp; omega))
              obtain ⟨c0, c1, c2⟩ := HS4.out.cells
              simp only at c0 c1 c2
              clear k4 hg4 a0 a1 a2
              go_wp2_with (fail)
              refine (remove_any g2 b2 _ _ xi _ KB4.out HXF.out.2.1).mono ?_
              rintro e w5 ⟨rfl, k5, hg5⟩
              rw [HEQ.out] at k5
              have K5 := Lib.hid k5
              have KA5 := Lib.hid (K4.out.other KB4.out HNE.out hg5)
              have HB5 := Lib.hid (KB4.out.grownB HB4.out HBc.out hg5)
              clear k5 hg5
              go_wp2
              go_roundw
              case rel => exact ⟨k + 1, delL L xi, by omega, by go_num, KA5.out, K5.out, HB5.out⟩
              case measure => simp [intOf]; omega
            · by_cases x3 : ho = 3
              · subst x3
                have HEQ : Hid (pingL (shL d L) xi (xt + d) = shL d (pingL L xi xt)) := Lib.hid (sh_ping HT1.out HT2.out)
                go_wp2_with (fail)
                refine (ping_any g b _ _ xi xt _ HKA1.out).mono ?_
                rintro e w4 ⟨rfl, k4, hg4⟩
                have K4 := Lib.hid k4
                have KB4 := Lib.hid (HKB1.out.other HKA1.out (fun e => HNE.out e.symm) hg4)
                have HB4 := Lib.hid (HKA1.out.grownB HWA.out HBb.out hg4)
                have HS4 : Hid (Sx w4 w3.heap.size ⟨3, xi, xt⟩) := Lib.hid (HSA.out.kept hg4 (by have := HBL3.out; simp; omega))
                obtain ⟨c0, c1, c2⟩ := HS4.out.cells
                simp only at c0 c1 c2
                clear k4 hg4 a0 a1 a2
                go_wp2_with (fail)
                refine (ping_any g2 b2 _ _ xi (xt + d) _ KB4.out).mono ?_
                rintro e w5 ⟨rfl, k5, hg5⟩
                rw [HEQ.out] at k5
                have K5 := Lib.hid k5
                have KA5 := Lib.hid (K4.out.other KB4.out HNE.out hg5)
                have HB5 := Lib.hid (KB4.out.grownB HB4.out HBc.out hg5)
                clear k5 hg5
                go_wp2
                go_roundw
                case rel => exact ⟨k + 1, pingL L xi xt, by omega, by go_num, KA5.out, K5.out, HB5.out⟩
                case measure => simp [intOf]; omega
              · by_cases x4 : ho = 4
                · subst x4
                  have HEQ : Hid (pongL (shL d L) xi (xt + d) = shL d (pongL L xi xt)) := Lib.hid (sh_pong HT1.out HT2.out)
                  go_wp2_with (fail)
                  refine (pong_any g b _ _ xi xt _ HKA1.out).mono ?_
                  rintro e w4 ⟨rfl, k4, hg4⟩
                  have K4 := Lib.hid k4
                  have KB4 := Lib.hid (HKB1.out.other HKA1.out (fun e => HNE.out e.symm) hg4)
                  have HB4 := Lib.hid (HKA1.out.grownB HWA.out HBb.out hg4)
                  have HS4 : Hid (Sx w4 w3.heap.size ⟨4, xi, xt⟩) := Lib.hid (HSA.out.kept hg4 (by have := HBL3.out; simp; omega))
                  obtain ⟨c0, c1, c2⟩ := HS4.out.cells
                  simp only at c0 c1 c2
                  clear k4 hg4 a0 a1 a2
                  go_wp2_with (fail)
                  refine (pong_any g2 b2 _ _ xi (xt + d) _ KB4.out).mono ?_
                  rintro e w5 ⟨rfl, k5, hg5⟩
                  rw [HEQ.out] at k5
                  have K5 := Lib.hid k5
                  have KA5 := Lib.hid (K4.out.other KB4.out HNE.out hg5)
                  have HB5 := Lib.hid (KB4.out.grownB HB4.out HBc.out hg5)
                  clear k5 hg5
                  go_wp2
                  go_roundw
                  case rel => exact ⟨k + 1, pongL L xi xt, by omega, by go_num, KA5.out, K5.out, HB5.out⟩
                  case measure => simp [intOf]; omega
                · have t1 : (ho == 1) = false := by simpa using x1
                  have t2 : (ho == 2) = false := by simpa using x2
                  have t3 : (ho == 3) = false := by simpa using x3
                  have t4 : (ho == 4) = false := by simpa using x4
                  go_wp2
                  go_roundw
                  case rel => exact ⟨k + 1, L, by omega, by go_num, HKA1.out, HKB1.out, HWA.out⟩
                  case measure => simp [intOf]; omega
    · obtain rfl : k = n := by omega
      have HE1 := Lib.hid (sh_due d L T now)
      have HE2 := Lib.hid (sh_late d L T now)
      have HE3 := Lib.hid (sh_ids d L)
      obtain ⟨ds, HDS⟩ : ∃ y, Hid (whoL L (dueB T now) = y) := ⟨_, Lib.hid rfl⟩
      obtain ⟨ls, HLS⟩ : ∃ y, Hid (whoL L (lateB T now) = y) := ⟨_, Lib.hid rfl⟩
      obtain ⟨ps, HPS⟩ : ∃ y, Hid (L.map Pr.id = y) := ⟨_, Lib.hid rfl⟩
      rw [HDS.out] at HE1
      rw [HLS.out] at HE2
      rw [HPS.out] at HE3
      have HSD := Lib.hid (same_yes (rfl : ds = ds))
      have HSL := Lib.hid (same_yes (rfl : ls = ls))
      have HSP := Lib.hid (same_yes (rfl : ps = ps))
      go_wp2_with (fail)
      refine (due_any g b T L now _ HKA.out).mono ?_
      rintro e w4 ⟨hb4, v4, rfl, hown4⟩
      rw [HDS.out] at hown4
      obtain ⟨A4, c4, rfl, hc4, hcm4⟩ := own_slice hown4
      have KA4 := Lib.hid (HKA.out.below hb4)
      have KB4 := Lib.hid (HKB.out.below hb4)
      have HB4 := Lib.hid (HW.out.trans (hb4.mono HW.out.size))
      have HO4 := Lib.hid hown4
      have HD4 := Lib.hid hb4
      clear hb4 hown4
      go_wp2_with (fail)
      refine (due_any g2 b2 T (shL d L) (now + d) _ KB4.out).mono ?_
      rintro e w5 ⟨hb5, v5, rfl, hown5⟩
      rw [HE1.out] at hown5
      obtain ⟨A5, c5, rfl, hc5, hcm5⟩ := own_slice hown5
      have KA5 := Lib.hid (KA4.out.below hb5)
      have KB5 := Lib.hid (KB4.out.below hb5)
      have HB5 := Lib.hid (HB4.out.trans (hb5.mono HB4.out.size))
      have HO5 := Lib.hid hown5
      have HD5 := Lib.hid hb5
      clear hb5 hown5
      go_wp2_with (fail)
      refine (same_any A4 A5 _ c4 _ c5 ds ds _ _ _ (by omega) (by omega) (own_read (own_below HO4.out HD5.out) _ (.inl (Nat.le_refl _))) (own_read HO5.out _ (.inl (Nat.le_refl _)))).mono ?_
      rintro e w6 ⟨rfl, rfl⟩
      rw [HSD.out]
      go_wp2_with (fail)
      refine (late_any g b T L now _ KA5.out).mono ?_
      rintro e w7 ⟨hb7, v7, rfl, hown7⟩
      rw [HLS.out] at hown7
      obtain ⟨A7, c7, rfl, hc7, hcm7⟩ := own_slice hown7
      have KA7 := Lib.hid (KA5.out.below hb7)
      have KB7 := Lib.hid (KB5.out.below hb7)
      have HB7 := Lib.hid (HB5.out.trans (hb7.mono HB5.out.size))
      have HO7 := Lib.hid hown7
      have HD7 := Lib.hid hb7
      clear hb7 hown7
      go_wp2_with (fail)
      refine (late_any g2 b2 T (shL d L) (now + d) _ KB7.out).mono ?_
      rintro e w8 ⟨hb8, v8, rfl, hown8⟩
      rw [HE2.out] at hown8
      obtain ⟨A8, c8, rfl, hc8, hcm8⟩ := own_slice hown8
      have KA8 := Lib.hid (KA7.out.below hb8)
      have KB8 := Lib.hid (KB7.out.below hb8)
      have HB8 := Lib.hid (HB7.out.trans (hb8.mono HB7.out.size))
      have HO8 := Lib.hid hown8
      have HD8 := Lib.hid hb8
      clear hb8 hown8
      go_wp2_with (fail)
      refine (same_any A7 A8 _ c7 _ c8 ls ls _ _ _ (by omega) (by omega) (own_read (own_below HO7.out HD8.out) _ (.inl (Nat.le_refl _))) (own_read HO8.out _ (.inl (Nat.le_refl _)))).mono ?_
      rintro e w9 ⟨rfl, rfl⟩
      rw [HSL.out]
      go_wp2_with (fail)
      refine (peers_any g b T L _ KA8.out).mono ?_
      rintro e w10 ⟨hb10, v10, rfl, hown10⟩
      rw [HPS.out] at hown10
      obtain ⟨A10, c10, rfl, hc10, hcm10⟩ := own_slice hown10
      have KA10 := Lib.hid (KA8.out.below hb10)
      have KB10 := Lib.hid (KB8.out.below hb10)
      have HB10 := Lib.hid (HB8.out.trans (hb10.mono HB8.out.size))
      have HO10 := Lib.hid hown10
      have HD10 := Lib.hid hb10
      clear hb10 hown10
      go_wp2_with (fail)
      refine (peers_any g2 b2 T (shL d L) _ KB10.out).mono ?_
      rintro e w11 ⟨hb11, v11, rfl, hown11⟩
      rw [HE3.out] at hown11
      obtain ⟨A11, c11, rfl, hc11, hcm11⟩ := own_slice hown11
      have KA11 := Lib.hid (KA10.out.below hb11)
      have KB11 := Lib.hid (KB10.out.below hb11)
      have HB11 := Lib.hid (HB10.out.trans (hb11.mono HB10.out.size))
      have HO11 := Lib.hid hown11
      have HD11 := Lib.hid hb11
      clear hb11 hown11
      go_wp2_with (fail)
      refine (same_any A10 A11 _ c10 _ c11 ps ps _ _ _ (by omega) (by omega) (own_read (own_below HO10.out HD11.out) _ (.inl (Nat.le_refl _))) (own_read HO11.out _ (.inl (Nat.le_refl _)))).mono ?_
      rintro e w12 ⟨rfl, rfl⟩
      rw [HSP.out]
      go_wp2
      go_ret
      exact ⟨rfl, HB11.out⟩

set_option maxRecDepth 100000 in
set_option maxHeartbeats 4000000 in
theorem shifts_out (T : Int) (A : Option Addr) (n c : Nat) (now d : Int) (W : World) (h : (T < 2 ∨ 1073741824 < T) ∨ (2 ≤ T ∧ T ≤ 1073741824 ∧ (60 < n ∨ (n ≤ 60 ∧ (now < 0 ∨ (0 ≤ now ∧ (274877906944 < now ∨ (now ≤ 274877906944 ∧ (d < 0 ∨ (0 ≤ d ∧ 274877906944 < d)))))))))) :
    Calls Try.prog 6 #[.int .i64 T, .slice A n c, .int .i64 now, .int .i64 d] W (Says true W) := by
  rcases h with h | ⟨hT1, hT2, h⟩
  · have HH := Lib.hid h
    clear h
    go_enter Try.func6, Try.ntmps6
    go_wp2_with (fail)
    refine (anchor_any _).mono ?_
    rintro e w0 ⟨rfl, hb0⟩
    have HB0 := Lib.hid hb0
    clear hb0
    go_wp2_with (fail)
    refine (new_no T _ HH.out).mono ?_
    rintro e w1 ⟨rfl, rfl⟩
    go_wp2_with (fail)
    refine (new_no T _ HH.out).mono ?_
    rintro e w2 ⟨rfl, rfl⟩
    go_wp2
    go_ret
    exact ⟨rfl, HB0.out⟩
  · rcases h with h | ⟨h, h | ⟨h3, h | ⟨h4, h | ⟨h5, h6⟩⟩⟩⟩
    all_goals
      go_enter Try.func6, Try.ntmps6
      go_wp2_with (fail)
      refine (anchor_any _).mono ?_
      rintro e w0 ⟨rfl, hb0⟩
      have HB0 := Lib.hid hb0
      clear hb0
      go_wp2_with (fail)
      refine (new_yes T _ hT1 hT2).mono ?_
      rintro e w1 ⟨g, b, rfl, k1, hb1, hg, hb⟩
      have HB1 := Lib.hid (HB0.out.trans (hb1.mono HB0.out.size))
      clear k1 hb1 hg hb
      go_wp2_with (fail)
      refine (new_yes T _ hT1 hT2).mono ?_
      rintro e w2 ⟨g2, b2, rfl, k2, hb2, hg2, hbb2⟩
      have HB2 := Lib.hid (HB1.out.trans (hb2.mono HB1.out.size))
      clear k2 hb2 hg2 hbb2
      go_wp2
      go_ret
      exact ⟨rfl, HB2.out⟩
theorem shifts_any (T : Int) (A : Option Addr) (n c : Nat) (l : List St) (now d : Int) (W : World) (hr : ActsAt W A n l) (hfit : ∀ x ∈ l, x.fits) :
    Calls Try.prog 6 #[.int .i64 T, .slice A n c, .int .i64 now, .int .i64 d] W (Says true W) := by
  by_cases h : 2 ≤ T ∧ T ≤ 1073741824 ∧ n ≤ 60 ∧ 0 ≤ now ∧ now ≤ 274877906944 ∧ 0 ≤ d ∧ d ≤ 274877906944
  · obtain ⟨h1, h2, h3, h4, h5, h6, h7⟩ := h
    exact shifts_in T A n c l now d W h1 h2 h3 hr hfit h4 h5 h6 h7
  · exact shifts_out T A n c now d W (by omega)
end Go.Proofs.Ytcphodnenhnalaa
