/-
  WHAT IS PROVED: the law KeepLasts answers true: through any saves that are cut off at any call what is loaded is the state that was saved last, or the one that was being saved. Conditions: the library's variables hold what is laid there; the arguments lie in memory.
-/
import Derived.Test.YtijkdibccgdomaaGreatDoorKStep
namespace Go.Proofs.YtijkdibccgdomaaGreatDoor.Dsk
set_option maxRecDepth 100000
open Go.RowKit Go.Lib C

set_option maxHeartbeats 8000000 in
theorem lasts_any (A0 : Option Addr) (n0 c0 : Nat) (L : List Ar) (A1 : Option Addr) (n1 c1 : Nat) (arms : List Int) (A2 : Option Addr) (n2 c2 : Nat) (keeps : List Int) (w : World) (hE : Env w) (hs : StsAt w A0 n0 L) (hnc0 : n0 ≤ c0) (hcm0 : c0 ≤ 9223372036854775807)
    (hr1 : Reads w w.heap.size A1 n1 (zs arms)) (hz1 : ∀ z ∈ arms, -9223372036854775808 ≤ z ∧ z ≤ 9223372036854775807)
    (hnc2 : n2 ≤ c2) (hcm2 : c2 ≤ 9223372036854775807) (hr2 : Reads w w.heap.size A2 n2 (zs keeps)) :
    Calls Tryz.prog 6 #[.slice A0 n0 c0, .slice A1 n1 c1, .slice A2 n2 c2] w (Says true w) := by
  have HE := Lib.hid hE
  have HS := Lib.hid hs
  have HR1 := Lib.hid hr1
  have HR2 := Lib.hid hr2
  have HZ1 := Lib.hid hz1
  clear hE hs hr1 hr2 hz1
  go_enter Tryz.func6, Tryz.ntmps6
  go_wp2_with (fail)
  refine (anchor14_any w HE.out).mono ?_
  rintro e w1 ⟨rfl, hb1⟩
  have HB1 := Lib.hid hb1
  have hs1 := hb1.size
  have HS1 := Lib.hid (HS.out.below hb1)
  clear hb1
  go_wp2_with (fail)
  refine (small_any A0 n0 c0 L 12 w1 HS1.out hnc0 hcm0).mono ?_
  obtain ⟨sb, HSB⟩ : ∃ b, Hid (smallB L 12 = b) := ⟨_, Lib.hid rfl⟩
  rw [HSB.out]
  rintro e w1 ⟨rfl, hb1⟩
  have HB2 := Lib.hid (HB1.out.trans (hb1.mono hs1))
  have hs2 := HB2.out.size
  clear hb1 HB1 HS1 hs1
  cases sb
  · go_wp2
    go_ret
    exact ⟨rfl, HB2.out⟩
  by_cases h20 : n1 ≤ 20
  rotate_left 1
  · have q1 : decide (20 < (n1 : Int)) = true := by simp; omega
    go_wp2
    go_ret
    exact ⟨rfl, HB2.out⟩
  have q1 : decide (20 < (n1 : Int)) = false := by simp; omega
  by_cases h50 : n2 ≤ 50
  rotate_left 1
  · have q2 : decide (50 < (n2 : Int)) = true := by simp; omega
    go_wp2
    go_ret
    exact ⟨rfl, HB2.out⟩
  have q2 : decide (50 < (n2 : Int)) = false := by simp; omega
  go_wp2_with (fail)
  refine (new_ok 65536 _ (by omega) (by omega)).mono ?_
  rintro e w2 ⟨d, g, rfl, hk2, hd, hg, hb2⟩
  have HK2 : Hid (Dk w2 d g (N0 65536)) := Lib.hid hk2
  have HB3 := Lib.hid (HB2.out.trans (hb2.mono hs2))
  have hs3 := HB3.out.size
  have hdl := hk2.lt
  have hdw : w.heap.size ≤ d := by omega
  have hgw : w.heap.size ≤ g := by omega
  clear hk2 hb2 q1 q2
  have HLP : Hid (Lp w (w2.alloc (.cells (stv (mkS Dt.zero none 0 0)) 29)) d g w2.heap.size false (N0 65536) Dt.zero none 0 0) := Lib.hid ⟨HB3.out.alloc hs3 _, HK2.out.alloc _, inv_nil, rfl, rfl, rfl, fun h => (by cases h), StAt.new w2 _, KnAt.nil_ _ _, by omega⟩
  obtain ⟨bl, hbl⟩ : ∃ b, w2.heap.size = b := ⟨_, rfl⟩
  go_wp2_with (first | refine st_alloc rfl ?_)
  rw [hbl] at HLP
  have nd : bl ≠ d := by omega
  have ng : bl ≠ g := by omega
  have hblw : w.heap.size ≤ bl := by omega
  obtain ⟨w3, hw3⟩ : ∃ w3, w2.alloc (.cells (stv Sv.zero) 29) = w3 := ⟨_, rfl⟩
  have HLP' : Hid (Lp w w3 d g bl false (N0 65536) Dt.zero none 0 0) := by rw [← hw3]; exact HLP
  rw [hw3]
  clear HLP hw3 hbl hd hg hdl hs3 HK2 HB3 HB2 hs2
  go_loopw [37, 9] (fun i sv wr => ∃ (k : Nat) (saved : Bool) (S : Ds) (ld : Dt) (la : Option Addr) (ln lc : Nat), k ≤ n0 ∧ i = .int .i64 (k : Int) ∧ sv = .bool saved ∧ Hid (Lp w wr d g bl saved S ld la ln lc)) (fun i _ _ => n0 - (RowKit.intOf i).toNat)
  case atStart => exact ⟨0, false, N0 65536, Dt.zero, none, 0, 0, Nat.zero_le _, rfl, rfl, HLP'⟩
  case round =>
    obtain ⟨k, saved, S, ld, la, ln, lc, hk, rfl, rfl, HP⟩ := hrel
    by_cases hlt : k < n0
    · obtain ⟨ad, r, hA, hr, hltb, hlies, hkn, hrn⟩ := (HS.out.below HP.out.low).at_ hlt
      obtain ⟨hkw, _⟩ := HS.out.2.2 r (List.mem_of_getElem? hr)
      subst hA
      obtain ⟨rd, ra, rn, rc⟩ := r
      have hk1 : 0 ≤ (k : Int) := by omega
      have HLI : Hid (Lies wr (ad.add (k * 134)) (mkS rd ra rn rc)) := Lib.hid hlies
      have HKW : Hid (KnAt w ra rn rd.l) := Lib.hid hkw
      have HKR : Hid (KnAt wr ra rn rd.l) := Lib.hid hkn
      have hrn' : rn ≤ 9223372036854775807 := hrn
      have JB : Below wr.heap.size wr (wr.alloc (.cells (stv (mkS rd ra rn rc)) 29)) := (Below.refl _ _).alloc (Nat.le_refl _) _
      have J1 := Lib.hid (StAt.new wr (mkS rd ra rn rc))
      have JK := Lib.hid (HKR.out.below JB)
      have JD := Lib.hid (HP.out.dk.below JB)
      have JW := Lib.hid (HP.out.low.trans (JB.mono HP.out.low.size))
      obtain ⟨wA, hwA⟩ : ∃ x, wr.alloc (.cells (stv (mkS rd ra rn rc)) 29) = x := ⟨_, rfl⟩
      have hbs : wr.heap.size < wA.heap.size := by rw [← hwA]; simp
      have hdl := HP.out.dk.lt
      rw [hwA] at J1 JK JD JW
      clear hlies hkw hkn hrn hr JB
      obtain ⟨ok, HOK⟩ : ∃ b, Hid (okD rd = b) := ⟨_, Lib.hid rfl⟩
      go_wp2_with (first | ((with_reducible refine st_load_at (p := ad.add (k * 134)) (s := mkS rd ra rn rc) ?_ ?_ ?_ ?_); (rfl); (with_reducible exact HLI.out); (rfl)) | refine st_alloc rfl ?_ | ((with_reducible refine st_store_new (u := mkS rd ra rn rc) ?_ ?_ ?_ ?_); (rfl); (rfl); (rfl)) | (rw [hwA]; ((with_reducible refine st_load (b := wr.heap.size) (s := mkS rd ra rn rc) ?_ ?_ ?_ ?_); (rfl); (with_reducible exact J1.out); (rfl))))
      refine (right_dk rd ra rn rc _ JK.out hrn').mono ?_
      rw [HOK.out]
      rintro e v1 ⟨rfl, hb1⟩
      have T1 := Lib.hid (Turn.of_below hb1 (FD d g))
      have D1 := Lib.hid (JD.out.below hb1)
      have K1 := Lib.hid (J1.out.later hb1)
      clear hb1 HLI
      cases ok
      · have HN : Hid (Lp w v1 d g bl saved S ld la ln lc) := Lib.hid (HP.out.same (o := .cells (stv (mkS rd ra rn rc)) 29) (by rw [hwA]; exact T1.out) D1.out nd ng hdw hgw)
        go_wp2
        go_roundw
        case rel => exact ⟨k + 1, saved, S, ld, la, ln, lc, by omega, by go_num, rfl, HN⟩
        case measure => simp [RowKit.intOf]; omega
      by_cases hka : k < n1
      · obtain ⟨ad1, u, hA1, hu, hcu⟩ := HR1.out.at_ hka
        subst hA1
        have hq : decide ((k : Int) < (n1 : Int)) = true := by simp; omega
        have hq' : decide (k < n1) = true := by simp; omega
        obtain ⟨z, hz, rfl⟩ := zsk_at2 hu
        have hzb := HZ1.out z (List.mem_of_getElem? hz)
        have hcz : v1.cell? (ad1.add k) = some (.int .i64 z) := (((JW.out.trans (T1.out.low hdw hgw JW.out.size)).cell (by rw [block_of_add]; obtain ⟨x, e, hx, _⟩ := HR1.out.2 (by omega); cases e; exact hx)).trans hcu)
        clear hu hz hcu
        go_wp2_with (fail)
        refine (arm_any d g S z v1 D1.out hzb).mono ?_
        rintro e v2 ⟨rfl, hk2, ht2⟩
        have D2 := Lib.hid hk2
        have T2 := Lib.hid (T1.out.fd ht2)
        have K2 : Hid (StAt v2 wr.heap.size (mkS rd ra rn rc)) := Lib.hid (blk_turn K1.out ht2 (by omega) (by omega))
        clear hk2 ht2 D1 T1 K1 hcz hq hq' hzb
        have B2 := Lib.hid (JW.out.trans (T2.out.low hdw hgw JW.out.size))
        obtain ⟨l1, l2, l3⟩ := lasts_two (S := { S with left := z }) (saved := saved) (ld := ld) (d := rd) HP.out.kept HP.out.room HP.out.down HP.out.okl HOK.out
        obtain ⟨R, HR⟩ : ∃ r, Hid (saveD { S with left := z } rd = r) := ⟨_, Lib.hid rfl⟩
        rw [HR.out] at l1 l2 l3
        have HL1 := Lib.hid l1
        have HL2 := Lib.hid l2
        have HL3 := Lib.hid l3
        have HFS : Hid (S.fs.length < 1000) := Lib.hid (by have := HP.out.kept.two; omega)
        clear l1 l2 l3
        go_wp2_with (first | ((with_reducible refine st_load (b := wr.heap.size) (s := mkS rd ra rn rc) ?_ ?_ ?_ ?_); (rfl); (with_reducible exact K2.out); (rfl)))
        refine (save_any d g { S with left := z } rd ra rn rc v2 (HE.out.below B2.out) D2.out HFS.out (HKW.out.below B2.out) hrn').mono ?_
        rw [HR.out]
        rintro e v3 ⟨rfl, hk3, ht3⟩
        have D3 := Lib.hid hk3
        have T3 := Lib.hid (T2.out.fd ht3)
        have K3 : Hid (StAt v3 wr.heap.size (mkS rd ra rn rc)) := Lib.hid (blk_turn K2.out ht3 (by omega) (by omega))
        have B3 := Lib.hid (JW.out.trans (T3.out.low hdw hgw JW.out.size))
        clear hk3 ht3 D2 T2 K2 B2
        go_wp2_with (fail)
        refine (crash_any d g R.2 A2 n2 c2 keeps v3 D3.out (by have := HL1.out; omega) (rd_arg HR2.out B3.out hdw hgw) hnc2 hcm2).mono ?_
        rintro e v4 ⟨ns, rfl, hperm, hk4, ht4⟩
        have D4 := Lib.hid hk4
        have T4 := Lib.hid (T3.out.fd ht4)
        have K4 : Hid (StAt v4 wr.heap.size (mkS rd ra rn rc)) := Lib.hid (blk_turn K3.out ht4 (by omega) (by omega))
        have B4 := Lib.hid (JW.out.trans (T4.out.low hdw hgw JW.out.size))
        have HRM : Hid ((⟨crashG ns keeps R.2.fs, R.2.room, -1, false⟩ : Ds).room = 65536) := Lib.hid HL2.out
        have HCR : Hid ((R.1 = 0 ∧ Kept (crashG ns keeps R.2.fs) (some (txD rd))) ∨ (R.1 = 50 ∧ Kept (crashG ns keeps R.2.fs) (keptO saved ld))) := Lib.hid (HL3.out.imp (fun h => ⟨h.1, h.2.crash_perm hperm keeps⟩) (fun h => ⟨h.1, h.2.crash_perm hperm keeps⟩))
        clear hk4 ht4 hperm D3 T3 K3 B3 HL1 HL2 HL3 HR HFS
        obtain ⟨S3, HS3⟩ : ∃ s, Hid ((⟨crashG ns keeps R.2.fs, R.2.room, -1, false⟩ : Ds) = s) := ⟨_, Lib.hid rfl⟩
        have HLF : Hid (S3.left = -1 ∧ S3.down = false) := Lib.hid (by rw [← HS3.out]; exact ⟨rfl, rfl⟩)
        have HCR2 : Hid ((R.1 = 0 ∧ Kept S3.fs (some (txD rd))) ∨ (R.1 = 50 ∧ Kept S3.fs (keptO saved ld))) := Lib.hid (by rw [← HS3.out]; exact HCR.out)
        rw [HS3.out] at D4 HRM
        clear HCR HS3
        obtain ⟨re, rs⟩ := R
        simp only at HCR2
        go_wp2_with (fail)
        refine (load_any d g S3 v4 (HE.out.below B4.out) D4.out).mono ?_
        rintro e v5 ⟨hb5, hcase⟩
        have D5 := Lib.hid (D4.out.below hb5)
        have T5 := Lib.hid (T4.out.fd (Turn.of_below hb5 _))
        have K5 := Lib.hid (K4.out.later hb5)
        have B5 := Lib.hid (JW.out.trans (T5.out.low hdw hgw JW.out.size))
        have P5 : Hid (StAt v5 bl (mkS ld la ln lc)) := Lib.hid (blk_turn (show StAt wA bl (mkS ld la ln lc) by rw [← hwA]; exact HP.out.box.alloc _) T5.out nd ng)
        clear hb5 D4 T4 K4 B4
        rcases HCR2.out with ⟨rfl, hkp⟩ | ⟨rfl, hkp⟩
        · obtain ⟨d', hld, hlk⟩ := load_kept (S := S3) (d := rd) hkp HLF.out.2 HOK.out
          have HKP := Lib.hid hkp
          have HNOW : Hid (likeB d' rd = true) := Lib.hid (likeB_iff.2 hlk)
          rw [hld] at hcase
          rcases hcase with ⟨x, a, m, cap, hx, rfl, hka5, hma, _⟩ | ⟨hx, _, _⟩
          rotate_left 1
          · cases hx
          injection hx with _ hx
          injection hx with hx
          subst hx
          clear hld hlk hkp
          have hb5g : Below v5.heap.size v5 (v5.alloc (.cells (stv (mkS d' a m cap)) 29)) := (Below.refl _ _).alloc (Nat.le_refl _) _
          have GB := Lib.hid (B5.out.trans (hb5g.mono B5.out.size))
          have G1 := Lib.hid (StAt.new v5 (mkS d' a m cap))
          have GS := Lib.hid (K5.out.alloc (.cells (stv (mkS d' a m cap)) 29))
          have GP := Lib.hid (P5.out.alloc (.cells (stv (mkS d' a m cap)) 29))
          have GK := Lib.hid (hka5.below hb5g)
          clear hb5g hka5
          obtain ⟨qo, HQO⟩ : ∃ b, Hid (likeB d' ld = b) := ⟨_, Lib.hid rfl⟩
          cases saved
          · go_wp2_with (first | refine st_alloc rfl ?_ | ((with_reducible refine st_store_new (u := mkS d' a m cap) ?_ ?_ ?_ ?_); (rfl); (rfl); (rfl)) | ((with_reducible refine st_load (b := v5.heap.size) (s := mkS d' a m cap) ?_ ?_ ?_ ?_); (rfl); (with_reducible exact G1.out); (rfl)) | ((with_reducible refine st_load (b := wr.heap.size) (s := mkS rd ra rn rc) ?_ ?_ ?_ ?_); (rfl); (with_reducible exact GS.out); (rfl)) | ((with_reducible refine st_load (b := bl) (s := mkS ld la ln lc) ?_ ?_ ?_ ?_); (rfl); (with_reducible exact GP.out); (rfl)))
            refine (same_dk d' rd a ra m rn cap rc _ GK.out (HKW.out.below GB.out) (by omega)).mono ?_
            rw [HNOW.out]
            rintro e v6 ⟨rfl, hb6⟩
            have HN0 : Hid (Pre w (v5.alloc (.cells (stv (mkS d' a m cap)) 29)) d g bl S3 ld la ln lc) := Lib.hid (HP.out.pre (o := .cells (stv (mkS rd ra rn rc)) 29) (by rw [hwA]; exact T5.out) D5.out nd ng hdw hgw)
            have HN1 := Lib.hid ((HN0.out.later hb6))
            have XS := Lib.hid ((GS.out.later hb6))
            have XL := Lib.hid HN1.out.box
            have HN2 := Lib.hid (HN1.out.take (rc := rc) HKP.out HRM.out HLF.out.1 HLF.out.2 nd ng hblw HOK.out HKW.out hrn')
            go_wp2_with (first | ((with_reducible refine st_load (b := wr.heap.size) (s := mkS rd ra rn rc) ?_ ?_ ?_ ?_); (rfl); (with_reducible exact XS.out); (rfl)) | ((with_reducible refine st_store (b := bl) (s := mkS ld la ln lc) (u := mkS rd ra rn rc) ?_ ?_ ?_ ?_ ?_); (rfl); (rfl); (with_reducible exact XL.out); (rfl)))
            go_roundw
            case rel => exact ⟨k + 1, true, S3, rd, ra, rn, rc, by omega, by go_num, rfl, HN2⟩
            case measure => simp [RowKit.intOf]; omega
          · go_wp2_with (first | refine st_alloc rfl ?_ | ((with_reducible refine st_store_new (u := mkS d' a m cap) ?_ ?_ ?_ ?_); (rfl); (rfl); (rfl)) | ((with_reducible refine st_load (b := v5.heap.size) (s := mkS d' a m cap) ?_ ?_ ?_ ?_); (rfl); (with_reducible exact G1.out); (rfl)) | ((with_reducible refine st_load (b := wr.heap.size) (s := mkS rd ra rn rc) ?_ ?_ ?_ ?_); (rfl); (with_reducible exact GS.out); (rfl)) | ((with_reducible refine st_load (b := bl) (s := mkS ld la ln lc) ?_ ?_ ?_ ?_); (rfl); (with_reducible exact GP.out); (rfl)))
            refine (same_dk d' ld a la m ln cap lc _ GK.out (HP.out.knw.below GB.out) (by omega)).mono ?_
            rw [HQO.out]
            rintro e v6 ⟨rfl, hb6⟩
            have GB6 := Lib.hid (GB.out.trans (hb6.mono GB.out.size))
            have G16 := Lib.hid (G1.out.later hb6)
            have GS6 := Lib.hid (GS.out.later hb6)
            have GP6 := Lib.hid (GP.out.later hb6)
            have GK6 := Lib.hid (GK.out.below hb6)
            cases qo
            all_goals
              go_wp2_with (first | ((with_reducible refine st_load (b := v5.heap.size) (s := mkS d' a m cap) ?_ ?_ ?_ ?_); (rfl); (with_reducible exact G16.out); (rfl)) | ((with_reducible refine st_load (b := wr.heap.size) (s := mkS rd ra rn rc) ?_ ?_ ?_ ?_); (rfl); (with_reducible exact GS6.out); (rfl)) | ((with_reducible refine st_load (b := bl) (s := mkS ld la ln lc) ?_ ?_ ?_ ?_); (rfl); (with_reducible exact GP6.out); (rfl)))
              refine (same_dk d' rd a ra m rn cap rc _ GK6.out (HKW.out.below GB6.out) (by omega)).mono ?_
              rw [HNOW.out]
              rintro e v7 ⟨rfl, hb7⟩
              have HN0 : Hid (Pre w (v5.alloc (.cells (stv (mkS d' a m cap)) 29)) d g bl S3 ld la ln lc) := Lib.hid (HP.out.pre (o := .cells (stv (mkS rd ra rn rc)) 29) (by rw [hwA]; exact T5.out) D5.out nd ng hdw hgw)
              have HN1 := Lib.hid (((HN0.out.later hb6).later hb7))
              have XS := Lib.hid (((GS.out.later hb6).later hb7))
              have XL := Lib.hid HN1.out.box
              have HN2 := Lib.hid (HN1.out.take (rc := rc) HKP.out HRM.out HLF.out.1 HLF.out.2 nd ng hblw HOK.out HKW.out hrn')
              go_wp2_with (first | ((with_reducible refine st_load (b := wr.heap.size) (s := mkS rd ra rn rc) ?_ ?_ ?_ ?_); (rfl); (with_reducible exact XS.out); (rfl)) | ((with_reducible refine st_store (b := bl) (s := mkS ld la ln lc) (u := mkS rd ra rn rc) ?_ ?_ ?_ ?_ ?_); (rfl); (rfl); (with_reducible exact XL.out); (rfl)))
              go_roundw
              case rel => exact ⟨k + 1, true, S3, rd, ra, rn, rc, by omega, by go_num, rfl, HN2⟩
              case measure => simp [RowKit.intOf]; omega
        · cases saved
          · have hld := load_none (S := S3) hkp HLF.out.2
            have HKP := Lib.hid hkp
            rw [hld] at hcase
            rcases hcase with ⟨x, _, _, _, hx, _⟩ | ⟨_, _, rfl⟩
            · cases hx
            clear hld hkp
            have HN := Lib.hid (HP.out.next1 (o := .cells (stv (mkS rd ra rn rc)) 29) (o2 := .cells (stv Sv.zero) 29) (by rw [hwA]; exact T5.out) D5.out HKP.out HRM.out HLF.out.1 HLF.out.2 nd ng hdw hgw)
            go_wp2_with (first | refine st_alloc rfl ?_ | ((with_reducible refine st_store_new (u := Sv.zero) ?_ ?_ ?_ ?_); (rfl); (rfl); (rfl)))
            go_roundw
            case rel => exact ⟨k + 1, false, S3, ld, la, ln, lc, by omega, by go_num, rfl, HN⟩
            case measure => simp [RowKit.intOf]; omega
          · obtain ⟨d', hld, hlk⟩ := load_kept (S := S3) (d := ld) hkp HLF.out.2 (HP.out.okl rfl)
            have HKP := Lib.hid hkp
            have HOLD : Hid (likeB d' ld = true) := Lib.hid (likeB_iff.2 hlk)
            rw [hld] at hcase
            rcases hcase with ⟨x, a, m, cap, hx, rfl, hka5, hma, _⟩ | ⟨hx, _, _⟩
            rotate_left 1
            · cases hx
            injection hx with _ hx
            injection hx with hx
            subst hx
            clear hld hkp
            have hb5g : Below v5.heap.size v5 (v5.alloc (.cells (stv (mkS d' a m cap)) 29)) := (Below.refl _ _).alloc (Nat.le_refl _) _
            have GB := Lib.hid (B5.out.trans (hb5g.mono B5.out.size))
            have G1 := Lib.hid (StAt.new v5 (mkS d' a m cap))
            have GS := Lib.hid (K5.out.alloc (.cells (stv (mkS d' a m cap)) 29))
            have GP := Lib.hid (P5.out.alloc (.cells (stv (mkS d' a m cap)) 29))
            have GK := Lib.hid (hka5.below hb5g)
            clear hb5g hka5
            obtain ⟨qn, HQN⟩ : ∃ b, Hid (likeB d' rd = b) := ⟨_, Lib.hid rfl⟩
            go_wp2_with (first | refine st_alloc rfl ?_ | ((with_reducible refine st_store_new (u := mkS d' a m cap) ?_ ?_ ?_ ?_); (rfl); (rfl); (rfl)) | ((with_reducible refine st_load (b := v5.heap.size) (s := mkS d' a m cap) ?_ ?_ ?_ ?_); (rfl); (with_reducible exact G1.out); (rfl)) | ((with_reducible refine st_load (b := wr.heap.size) (s := mkS rd ra rn rc) ?_ ?_ ?_ ?_); (rfl); (with_reducible exact GS.out); (rfl)) | ((with_reducible refine st_load (b := bl) (s := mkS ld la ln lc) ?_ ?_ ?_ ?_); (rfl); (with_reducible exact GP.out); (rfl)))
            refine (same_dk d' ld a la m ln cap lc _ GK.out (HP.out.knw.below GB.out) (by omega)).mono ?_
            rw [HOLD.out]
            rintro e v6 ⟨rfl, hb6⟩
            have GB6 := Lib.hid (GB.out.trans (hb6.mono GB.out.size))
            have G16 := Lib.hid (G1.out.later hb6)
            have GS6 := Lib.hid (GS.out.later hb6)
            have GP6 := Lib.hid (GP.out.later hb6)
            have GK6 := Lib.hid (GK.out.below hb6)
            go_wp2_with (first | ((with_reducible refine st_load (b := v5.heap.size) (s := mkS d' a m cap) ?_ ?_ ?_ ?_); (rfl); (with_reducible exact G16.out); (rfl)) | ((with_reducible refine st_load (b := wr.heap.size) (s := mkS rd ra rn rc) ?_ ?_ ?_ ?_); (rfl); (with_reducible exact GS6.out); (rfl)) | ((with_reducible refine st_load (b := bl) (s := mkS ld la ln lc) ?_ ?_ ?_ ?_); (rfl); (with_reducible exact GP6.out); (rfl)))
            refine (same_dk d' rd a ra m rn cap rc _ GK6.out (HKW.out.below GB6.out) (by omega)).mono ?_
            rw [HQN.out]
            rintro e v7 ⟨rfl, hb7⟩
            cases qn
            · have HN := Lib.hid (HP.out.next1 (o := .cells (stv (mkS rd ra rn rc)) 29) (o2 := .cells (stv (mkS d' a m cap)) 29) (by rw [hwA]; exact T5.out) D5.out HKP.out HRM.out HLF.out.1 HLF.out.2 nd ng hdw hgw)
              have HN2 := Lib.hid ((HN.out.later hb6).later hb7)
              go_wp2
              go_roundw
              case rel => exact ⟨k + 1, true, S3, ld, la, ln, lc, by omega, by go_num, rfl, HN2⟩
              case measure => simp [RowKit.intOf]; omega
            · have HKP2 : Hid (Kept S3.fs (some (txD rd))) := Lib.hid (by
                have e : txD ld = txD rd := txD_congr (like_trans (like_sym hlk) (likeB_iff.1 HQN.out))
                rw [← e]; exact HKP.out)
              have HN0 : Hid (Pre w (v5.alloc (.cells (stv (mkS d' a m cap)) 29)) d g bl S3 ld la ln lc) := Lib.hid (HP.out.pre (o := .cells (stv (mkS rd ra rn rc)) 29) (by rw [hwA]; exact T5.out) D5.out nd ng hdw hgw)
              have HN1 := Lib.hid (((HN0.out.later hb6).later hb7))
              have XS := Lib.hid (((GS.out.later hb6).later hb7))
              have XL := Lib.hid HN1.out.box
              have HN2 := Lib.hid (HN1.out.take (rc := rc) HKP2.out HRM.out HLF.out.1 HLF.out.2 nd ng hblw HOK.out HKW.out hrn')
              go_wp2_with (first | ((with_reducible refine st_load (b := wr.heap.size) (s := mkS rd ra rn rc) ?_ ?_ ?_ ?_); (rfl); (with_reducible exact XS.out); (rfl)) | ((with_reducible refine st_store (b := bl) (s := mkS ld la ln lc) (u := mkS rd ra rn rc) ?_ ?_ ?_ ?_ ?_); (rfl); (rfl); (with_reducible exact XL.out); (rfl)))
              go_roundw
              case rel => exact ⟨k + 1, true, S3, rd, ra, rn, rc, by omega, by go_num, rfl, HN2⟩
              case measure => simp [RowKit.intOf]; omega
      · have hq : decide ((k : Int) < (n1 : Int)) = false := by simp; omega
        have hq' : decide (k < n1) = false := by simp; omega
        obtain ⟨z, hz⟩ : ∃ z : Int, z = -1 := ⟨_, rfl⟩
        have D2 : Hid (Dk v1 d g { S with left := z }) := Lib.hid (by rw [hz, ← HP.out.left]; exact D1.out)
        have T2 := T1
        have K2 := K1
        obtain ⟨v2, rfl⟩ : ∃ x, x = v1 := ⟨_, rfl⟩
        clear D1 T1 K1
        have B2 := Lib.hid (JW.out.trans (T2.out.low hdw hgw JW.out.size))
        obtain ⟨l1, l2, l3⟩ := lasts_two (S := { S with left := z }) (saved := saved) (ld := ld) (d := rd) HP.out.kept HP.out.room HP.out.down HP.out.okl HOK.out
        obtain ⟨R, HR⟩ : ∃ r, Hid (saveD { S with left := z } rd = r) := ⟨_, Lib.hid rfl⟩
        rw [HR.out] at l1 l2 l3
        have HL1 := Lib.hid l1
        have HL2 := Lib.hid l2
        have HL3 := Lib.hid l3
        have HFS : Hid (S.fs.length < 1000) := Lib.hid (by have := HP.out.kept.two; omega)
        clear l1 l2 l3
        go_wp2_with (first | ((with_reducible refine st_load (b := wr.heap.size) (s := mkS rd ra rn rc) ?_ ?_ ?_ ?_); (rfl); (with_reducible exact K2.out); (rfl)))
        refine (save_any d g { S with left := z } rd ra rn rc v2 (HE.out.below B2.out) D2.out HFS.out (HKW.out.below B2.out) hrn').mono ?_
        rw [HR.out]
        rintro e v3 ⟨rfl, hk3, ht3⟩
        have D3 := Lib.hid hk3
        have T3 := Lib.hid (T2.out.fd ht3)
        have K3 : Hid (StAt v3 wr.heap.size (mkS rd ra rn rc)) := Lib.hid (blk_turn K2.out ht3 (by omega) (by omega))
        have B3 := Lib.hid (JW.out.trans (T3.out.low hdw hgw JW.out.size))
        clear hk3 ht3 D2 T2 K2 B2
        go_wp2_with (fail)
        refine (crash_any d g R.2 A2 n2 c2 keeps v3 D3.out (by have := HL1.out; omega) (rd_arg HR2.out B3.out hdw hgw) hnc2 hcm2).mono ?_
        rintro e v4 ⟨ns, rfl, hperm, hk4, ht4⟩
        have D4 := Lib.hid hk4
        have T4 := Lib.hid (T3.out.fd ht4)
        have K4 : Hid (StAt v4 wr.heap.size (mkS rd ra rn rc)) := Lib.hid (blk_turn K3.out ht4 (by omega) (by omega))
        have B4 := Lib.hid (JW.out.trans (T4.out.low hdw hgw JW.out.size))
        have HRM : Hid ((⟨crashG ns keeps R.2.fs, R.2.room, -1, false⟩ : Ds).room = 65536) := Lib.hid HL2.out
        have HCR : Hid ((R.1 = 0 ∧ Kept (crashG ns keeps R.2.fs) (some (txD rd))) ∨ (R.1 = 50 ∧ Kept (crashG ns keeps R.2.fs) (keptO saved ld))) := Lib.hid (HL3.out.imp (fun h => ⟨h.1, h.2.crash_perm hperm keeps⟩) (fun h => ⟨h.1, h.2.crash_perm hperm keeps⟩))
        clear hk4 ht4 hperm D3 T3 K3 B3 HL1 HL2 HL3 HR HFS
        obtain ⟨S3, HS3⟩ : ∃ s, Hid ((⟨crashG ns keeps R.2.fs, R.2.room, -1, false⟩ : Ds) = s) := ⟨_, Lib.hid rfl⟩
        have HLF : Hid (S3.left = -1 ∧ S3.down = false) := Lib.hid (by rw [← HS3.out]; exact ⟨rfl, rfl⟩)
        have HCR2 : Hid ((R.1 = 0 ∧ Kept S3.fs (some (txD rd))) ∨ (R.1 = 50 ∧ Kept S3.fs (keptO saved ld))) := Lib.hid (by rw [← HS3.out]; exact HCR.out)
        rw [HS3.out] at D4 HRM
        clear HCR HS3
        obtain ⟨re, rs⟩ := R
        simp only at HCR2
        go_wp2_with (fail)
        refine (load_any d g S3 v4 (HE.out.below B4.out) D4.out).mono ?_
        rintro e v5 ⟨hb5, hcase⟩
        have D5 := Lib.hid (D4.out.below hb5)
        have T5 := Lib.hid (T4.out.fd (Turn.of_below hb5 _))
        have K5 := Lib.hid (K4.out.later hb5)
        have B5 := Lib.hid (JW.out.trans (T5.out.low hdw hgw JW.out.size))
        have P5 : Hid (StAt v5 bl (mkS ld la ln lc)) := Lib.hid (blk_turn (show StAt wA bl (mkS ld la ln lc) by rw [← hwA]; exact HP.out.box.alloc _) T5.out nd ng)
        clear hb5 D4 T4 K4 B4
        rcases HCR2.out with ⟨rfl, hkp⟩ | ⟨rfl, hkp⟩
        · obtain ⟨d', hld, hlk⟩ := load_kept (S := S3) (d := rd) hkp HLF.out.2 HOK.out
          have HKP := Lib.hid hkp
          have HNOW : Hid (likeB d' rd = true) := Lib.hid (likeB_iff.2 hlk)
          rw [hld] at hcase
          rcases hcase with ⟨x, a, m, cap, hx, rfl, hka5, hma, _⟩ | ⟨hx, _, _⟩
          rotate_left 1
          · cases hx
          injection hx with _ hx
          injection hx with hx
          subst hx
          clear hld hlk hkp
          have hb5g : Below v5.heap.size v5 (v5.alloc (.cells (stv (mkS d' a m cap)) 29)) := (Below.refl _ _).alloc (Nat.le_refl _) _
          have GB := Lib.hid (B5.out.trans (hb5g.mono B5.out.size))
          have G1 := Lib.hid (StAt.new v5 (mkS d' a m cap))
          have GS := Lib.hid (K5.out.alloc (.cells (stv (mkS d' a m cap)) 29))
          have GP := Lib.hid (P5.out.alloc (.cells (stv (mkS d' a m cap)) 29))
          have GK := Lib.hid (hka5.below hb5g)
          clear hb5g hka5
          obtain ⟨qo, HQO⟩ : ∃ b, Hid (likeB d' ld = b) := ⟨_, Lib.hid rfl⟩
          cases saved
          · go_wp2_with (first | refine st_alloc rfl ?_ | ((with_reducible refine st_store_new (u := mkS d' a m cap) ?_ ?_ ?_ ?_); (rfl); (rfl); (rfl)) | ((with_reducible refine st_load (b := v5.heap.size) (s := mkS d' a m cap) ?_ ?_ ?_ ?_); (rfl); (with_reducible exact G1.out); (rfl)) | ((with_reducible refine st_load (b := wr.heap.size) (s := mkS rd ra rn rc) ?_ ?_ ?_ ?_); (rfl); (with_reducible exact GS.out); (rfl)) | ((with_reducible refine st_load (b := bl) (s := mkS ld la ln lc) ?_ ?_ ?_ ?_); (rfl); (with_reducible exact GP.out); (rfl)))
            refine (same_dk d' rd a ra m rn cap rc _ GK.out (HKW.out.below GB.out) (by omega)).mono ?_
            rw [HNOW.out]
            rintro e v6 ⟨rfl, hb6⟩
            have HN0 : Hid (Pre w (v5.alloc (.cells (stv (mkS d' a m cap)) 29)) d g bl S3 ld la ln lc) := Lib.hid (HP.out.pre (o := .cells (stv (mkS rd ra rn rc)) 29) (by rw [hwA]; exact T5.out) D5.out nd ng hdw hgw)
            have HN1 := Lib.hid ((HN0.out.later hb6))
            have XS := Lib.hid ((GS.out.later hb6))
            have XL := Lib.hid HN1.out.box
            have HN2 := Lib.hid (HN1.out.take (rc := rc) HKP.out HRM.out HLF.out.1 HLF.out.2 nd ng hblw HOK.out HKW.out hrn')
            go_wp2_with (first | ((with_reducible refine st_load (b := wr.heap.size) (s := mkS rd ra rn rc) ?_ ?_ ?_ ?_); (rfl); (with_reducible exact XS.out); (rfl)) | ((with_reducible refine st_store (b := bl) (s := mkS ld la ln lc) (u := mkS rd ra rn rc) ?_ ?_ ?_ ?_ ?_); (rfl); (rfl); (with_reducible exact XL.out); (rfl)))
            go_roundw
            case rel => exact ⟨k + 1, true, S3, rd, ra, rn, rc, by omega, by go_num, rfl, HN2⟩
            case measure => simp [RowKit.intOf]; omega
          · go_wp2_with (first | refine st_alloc rfl ?_ | ((with_reducible refine st_store_new (u := mkS d' a m cap) ?_ ?_ ?_ ?_); (rfl); (rfl); (rfl)) | ((with_reducible refine st_load (b := v5.heap.size) (s := mkS d' a m cap) ?_ ?_ ?_ ?_); (rfl); (with_reducible exact G1.out); (rfl)) | ((with_reducible refine st_load (b := wr.heap.size) (s := mkS rd ra rn rc) ?_ ?_ ?_ ?_); (rfl); (with_reducible exact GS.out); (rfl)) | ((with_reducible refine st_load (b := bl) (s := mkS ld la ln lc) ?_ ?_ ?_ ?_); (rfl); (with_reducible exact GP.out); (rfl)))
            refine (same_dk d' ld a la m ln cap lc _ GK.out (HP.out.knw.below GB.out) (by omega)).mono ?_
            rw [HQO.out]
            rintro e v6 ⟨rfl, hb6⟩
            have GB6 := Lib.hid (GB.out.trans (hb6.mono GB.out.size))
            have G16 := Lib.hid (G1.out.later hb6)
            have GS6 := Lib.hid (GS.out.later hb6)
            have GP6 := Lib.hid (GP.out.later hb6)
            have GK6 := Lib.hid (GK.out.below hb6)
            cases qo
            all_goals
              go_wp2_with (first | ((with_reducible refine st_load (b := v5.heap.size) (s := mkS d' a m cap) ?_ ?_ ?_ ?_); (rfl); (with_reducible exact G16.out); (rfl)) | ((with_reducible refine st_load (b := wr.heap.size) (s := mkS rd ra rn rc) ?_ ?_ ?_ ?_); (rfl); (with_reducible exact GS6.out); (rfl)) | ((with_reducible refine st_load (b := bl) (s := mkS ld la ln lc) ?_ ?_ ?_ ?_); (rfl); (with_reducible exact GP6.out); (rfl)))
              refine (same_dk d' rd a ra m rn cap rc _ GK6.out (HKW.out.below GB6.out) (by omega)).mono ?_
              rw [HNOW.out]
              rintro e v7 ⟨rfl, hb7⟩
              have HN0 : Hid (Pre w (v5.alloc (.cells (stv (mkS d' a m cap)) 29)) d g bl S3 ld la ln lc) := Lib.hid (HP.out.pre (o := .cells (stv (mkS rd ra rn rc)) 29) (by rw [hwA]; exact T5.out) D5.out nd ng hdw hgw)
              have HN1 := Lib.hid (((HN0.out.later hb6).later hb7))
              have XS := Lib.hid (((GS.out.later hb6).later hb7))
              have XL := Lib.hid HN1.out.box
              have HN2 := Lib.hid (HN1.out.take (rc := rc) HKP.out HRM.out HLF.out.1 HLF.out.2 nd ng hblw HOK.out HKW.out hrn')
              go_wp2_with (first | ((with_reducible refine st_load (b := wr.heap.size) (s := mkS rd ra rn rc) ?_ ?_ ?_ ?_); (rfl); (with_reducible exact XS.out); (rfl)) | ((with_reducible refine st_store (b := bl) (s := mkS ld la ln lc) (u := mkS rd ra rn rc) ?_ ?_ ?_ ?_ ?_); (rfl); (rfl); (with_reducible exact XL.out); (rfl)))
              go_roundw
              case rel => exact ⟨k + 1, true, S3, rd, ra, rn, rc, by omega, by go_num, rfl, HN2⟩
              case measure => simp [RowKit.intOf]; omega
        · cases saved
          · have hld := load_none (S := S3) hkp HLF.out.2
            have HKP := Lib.hid hkp
            rw [hld] at hcase
            rcases hcase with ⟨x, _, _, _, hx, _⟩ | ⟨_, _, rfl⟩
            · cases hx
            clear hld hkp
            have HN := Lib.hid (HP.out.next1 (o := .cells (stv (mkS rd ra rn rc)) 29) (o2 := .cells (stv Sv.zero) 29) (by rw [hwA]; exact T5.out) D5.out HKP.out HRM.out HLF.out.1 HLF.out.2 nd ng hdw hgw)
            go_wp2_with (first | refine st_alloc rfl ?_ | ((with_reducible refine st_store_new (u := Sv.zero) ?_ ?_ ?_ ?_); (rfl); (rfl); (rfl)))
            go_roundw
            case rel => exact ⟨k + 1, false, S3, ld, la, ln, lc, by omega, by go_num, rfl, HN⟩
            case measure => simp [RowKit.intOf]; omega
          · obtain ⟨d', hld, hlk⟩ := load_kept (S := S3) (d := ld) hkp HLF.out.2 (HP.out.okl rfl)
            have HKP := Lib.hid hkp
            have HOLD : Hid (likeB d' ld = true) := Lib.hid (likeB_iff.2 hlk)
            rw [hld] at hcase
            rcases hcase with ⟨x, a, m, cap, hx, rfl, hka5, hma, _⟩ | ⟨hx, _, _⟩
            rotate_left 1
            · cases hx
            injection hx with _ hx
            injection hx with hx
            subst hx
            clear hld hkp
            have hb5g : Below v5.heap.size v5 (v5.alloc (.cells (stv (mkS d' a m cap)) 29)) := (Below.refl _ _).alloc (Nat.le_refl _) _
            have GB := Lib.hid (B5.out.trans (hb5g.mono B5.out.size))
            have G1 := Lib.hid (StAt.new v5 (mkS d' a m cap))
            have GS := Lib.hid (K5.out.alloc (.cells (stv (mkS d' a m cap)) 29))
            have GP := Lib.hid (P5.out.alloc (.cells (stv (mkS d' a m cap)) 29))
            have GK := Lib.hid (hka5.below hb5g)
            clear hb5g hka5
            obtain ⟨qn, HQN⟩ : ∃ b, Hid (likeB d' rd = b) := ⟨_, Lib.hid rfl⟩
            go_wp2_with (first | refine st_alloc rfl ?_ | ((with_reducible refine st_store_new (u := mkS d' a m cap) ?_ ?_ ?_ ?_); (rfl); (rfl); (rfl)) | ((with_reducible refine st_load (b := v5.heap.size) (s := mkS d' a m cap) ?_ ?_ ?_ ?_); (rfl); (with_reducible exact G1.out); (rfl)) | ((with_reducible refine st_load (b := wr.heap.size) (s := mkS rd ra rn rc) ?_ ?_ ?_ ?_); (rfl); (with_reducible exact GS.out); (rfl)) | ((with_reducible refine st_load (b := bl) (s := mkS ld la ln lc) ?_ ?_ ?_ ?_); (rfl); (with_reducible exact GP.out); (rfl)))
            refine (same_dk d' ld a la m ln cap lc _ GK.out (HP.out.knw.below GB.out) (by omega)).mono ?_
            rw [HOLD.out]
            rintro e v6 ⟨rfl, hb6⟩
            have GB6 := Lib.hid (GB.out.trans (hb6.mono GB.out.size))
            have G16 := Lib.hid (G1.out.later hb6)
            have GS6 := Lib.hid (GS.out.later hb6)
            have GP6 := Lib.hid (GP.out.later hb6)
            have GK6 := Lib.hid (GK.out.below hb6)
            go_wp2_with (first | ((with_reducible refine st_load (b := v5.heap.size) (s := mkS d' a m cap) ?_ ?_ ?_ ?_); (rfl); (with_reducible exact G16.out); (rfl)) | ((with_reducible refine st_load (b := wr.heap.size) (s := mkS rd ra rn rc) ?_ ?_ ?_ ?_); (rfl); (with_reducible exact GS6.out); (rfl)) | ((with_reducible refine st_load (b := bl) (s := mkS ld la ln lc) ?_ ?_ ?_ ?_); (rfl); (with_reducible exact GP6.out); (rfl)))
            refine (same_dk d' rd a ra m rn cap rc _ GK6.out (HKW.out.below GB6.out) (by omega)).mono ?_
            rw [HQN.out]
            rintro e v7 ⟨rfl, hb7⟩
            cases qn
            · have HN := Lib.hid (HP.out.next1 (o := .cells (stv (mkS rd ra rn rc)) 29) (o2 := .cells (stv (mkS d' a m cap)) 29) (by rw [hwA]; exact T5.out) D5.out HKP.out HRM.out HLF.out.1 HLF.out.2 nd ng hdw hgw)
              have HN2 := Lib.hid ((HN.out.later hb6).later hb7)
              go_wp2
              go_roundw
              case rel => exact ⟨k + 1, true, S3, ld, la, ln, lc, by omega, by go_num, rfl, HN2⟩
              case measure => simp [RowKit.intOf]; omega
            · have HKP2 : Hid (Kept S3.fs (some (txD rd))) := Lib.hid (by
                have e : txD ld = txD rd := txD_congr (like_trans (like_sym hlk) (likeB_iff.1 HQN.out))
                rw [← e]; exact HKP.out)
              have HN0 : Hid (Pre w (v5.alloc (.cells (stv (mkS d' a m cap)) 29)) d g bl S3 ld la ln lc) := Lib.hid (HP.out.pre (o := .cells (stv (mkS rd ra rn rc)) 29) (by rw [hwA]; exact T5.out) D5.out nd ng hdw hgw)
              have HN1 := Lib.hid (((HN0.out.later hb6).later hb7))
              have XS := Lib.hid (((GS.out.later hb6).later hb7))
              have XL := Lib.hid HN1.out.box
              have HN2 := Lib.hid (HN1.out.take (rc := rc) HKP2.out HRM.out HLF.out.1 HLF.out.2 nd ng hblw HOK.out HKW.out hrn')
              go_wp2_with (first | ((with_reducible refine st_load (b := wr.heap.size) (s := mkS rd ra rn rc) ?_ ?_ ?_ ?_); (rfl); (with_reducible exact XS.out); (rfl)) | ((with_reducible refine st_store (b := bl) (s := mkS ld la ln lc) (u := mkS rd ra rn rc) ?_ ?_ ?_ ?_ ?_); (rfl); (rfl); (with_reducible exact XL.out); (rfl)))
              go_roundw
              case rel => exact ⟨k + 1, true, S3, rd, ra, rn, rc, by omega, by go_num, rfl, HN2⟩
              case measure => simp [RowKit.intOf]; omega
    · obtain rfl : k = n0 := by omega
      go_wp2
      go_ret
      exact ⟨rfl, HP.out.low⟩
end Go.Proofs.YtijkdibccgdomaaGreatDoor.Dsk
