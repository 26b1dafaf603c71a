/-
  WHAT IS PROVED: the law DiskRooms answers true for all rooms and all steps, which read behind the call as before it. No condition beyond those of the given row.
-/
import Derived.Test.YtdoahbegcfhegaaSize
import Derived.Deep.CutRange
namespace Go.Proofs.Ytdoahbegcfhegaa
open Go.RowKit Go.Lib Go.Sort

set_option maxRecDepth 100000 in
set_option maxHeartbeats 16000000 in
theorem rooms_any (room : Int) (A3 : Option Addr) (n3 c3 : Nat) (l : List Oq) (w : World) (hr3 : OpsAt w no A3 n3 l) :
    Calls Try.prog 5 #[.int .i64 room, .slice A3 n3 c3] w (Says true w) := by
  have HR3 := Lib.hid hr3
  clear hr3
  by_cases hroom : room < 0 ∨ 65536 < room
  · have HRM := Lib.hid hroom
    clear hroom
    go_enter Try.func5, Try.ntmps5
    go_wp2_with (fail)
    refine (anchor_any w).mono ?_
    rintro e w1 ⟨rfl, hbb1⟩
    have HB1 := Lib.hid hbb1
    clear hbb1
    go_wp2_with (fail)
    refine (new_no room w1 HRM.out).mono ?_
    rintro e w2 ⟨rfl, rfl⟩
    go_wp2
    go_ret
    exact ⟨rfl, HB1.out.alloc HB1.out.size _⟩
  have r0 : 0 ≤ room := by omega
  have r1 : room ≤ 65536 := by omega
  clear hroom
  go_enter Try.func5, Try.ntmps5
  go_wp2_with (fail)
  refine (anchor_any w).mono ?_
  rintro e w1 ⟨rfl, hbb1⟩
  have HB1 := Lib.hid hbb1
  clear hbb1
  go_wp2_with (fail)
  refine (new_ok room w1 r0 r1).mono ?_
  rintro e w2 ⟨d, g, rfl, hk2, hd0, hg0, hbb2⟩
  have hd : w.heap.size ≤ d := by have := HB1.out.size; omega
  have hg : w.heap.size ≤ g := by have := HB1.out.size; omega
  have HB2 := Lib.hid (HB1.out.trans (hbb2.mono HB1.out.size))
  have HK2 := Lib.hid hk2
  clear hk2 hbb2 hd0 hg0
  go_upto_region 4 with (fail)
  have hpd : ¬ FD d g w2.heap.size := fun f => by have := HK2.out.lt; rcases f with f | f <;> omega
  have hB3 : Below w2.heap.size w2 (w2.alloc (.cells #[.pointer (some ⟨d, 0, none⟩)] 25)) := (Below.refl _ w2).alloc (Nat.le_refl _) _
  have hbx := Blk.new w2 25 #[.pointer (some ⟨d, 0, none⟩)]
  obtain ⟨w3, hw3⟩ : ∃ x, w2.alloc (.cells #[.pointer (some ⟨d, 0, none⟩)] 25) = x := ⟨_, rfl⟩
  rw [hw3] at hB3 hbx ⊢
  have HK3 := Lib.hid (HK2.out.below hB3)
  have HB3 := Lib.hid (HB2.out.trans (hB3.mono HB2.out.size))
  obtain ⟨p, hp⟩ : ∃ p, w2.heap.size = p := ⟨_, rfl⟩
  rw [hp] at hpd hbx ⊢
  have HBX3 := Lib.hid hbx
  have x0 := hbx.cell 0
  clear hw3 hB3 hbx hp HK2 HB2 HB1
  by_cases hb3 : (60 : Int) < (n3 : Int)
  · go_wp2
    go_ret
    exact ⟨rfl, HB3.out⟩
  go_wp2
  go_loopw [25] (fun i wr => ∃ (k : Nat) (S : Ds), k ≤ n3 ∧ i = .int .i64 (k : Int) ∧ Dk wr d g S ∧ Calm S room ∧ S.fs.length ≤ k ∧ Below w.heap.size w wr ∧ Blk wr p 25 #[.pointer (some ⟨d, 0, none⟩)]) (fun i _ => n3 - (intOf i).toNat)
  case atStart => exact ⟨0, _, by omega, rfl, HK3.out, ⟨rfl, rfl, rfl, r0⟩, by simp, HB3.out, HBX3.out⟩
  case round =>
    clear HK3 HB3 HBX3 x0
    obtain ⟨k, S, hk, rfl, hk1, hc1, hln, hb1, hbx1⟩ := hrel
    have HK1 := Lib.hid hk1
    have HC1 := Lib.hid hc1
    have HB1 := Lib.hid hb1
    have HBX1 := Lib.hid hbx1
    clear hk1 hc1 hb1 hbx1
    by_cases hkn : k < n3
    · obtain ⟨ad, o, A1, n1, c1, A2, n2, c2, rfl, hlk, h1, h2, k0, k1, k2, k3, k4, k5⟩ := (ops_arg HR3.out HB1.out hd hg).at_ hkn
      obtain ⟨kd, nm, tg, dt, nn, kp⟩ := o
      dsimp only at h1 h2 k0 k1 k2 k3 k4 k5
      have hB2 : Below wr.heap.size wr (wr.alloc (.cells #[.int .i64 kd, .string (str nm), .string (str tg), .slice A1 n1 c1, .int .i64 nn, .slice A2 n2 c2] 38)) := (Below.refl _ wr).alloc (Nat.le_refl _) _
      have hox := Blk.new wr 38 #[.int .i64 kd, .string (str nm), .string (str tg), .slice A1 n1 c1, .int .i64 nn, .slice A2 n2 c2]
      have q0 : (0 : Int) ≤ (k : Int) := by omega
      have q1 : (k : Int) < (n3 : Int) := by omega
      have H1 := Lib.hid h1
      clear hlk h1 h2
      go_upto_region 10 with (fail)
      obtain ⟨w2, hw2⟩ : ∃ x, wr.alloc (.cells #[.int .i64 kd, .string (str nm), .string (str tg), .slice A1 n1 c1, .int .i64 nn, .slice A2 n2 c2] 38) = x := ⟨_, rfl⟩
      rw [hw2] at hB2 hox ⊢
      obtain ⟨u, hu⟩ : ∃ u, wr.heap.size = u := ⟨_, rfl⟩
      have HUS : Hid (d < u ∧ g < u) := by show _ ∧ _; rw [← hu]; exact HK1.out.lt
      have b0 := hox.cell 0
      have b1 := hox.cell 1
      have b2 := hox.cell 2
      have b3 := hox.cell 3
      have HK2 := Lib.hid (HK1.out.below hB2)
      have HB2 := Lib.hid (HB1.out.trans (hB2.mono HB1.out.size))
      have HBX2 := Lib.hid (HBX1.out.below hB2 HBX1.out.lt)
      have HR1 := Lib.hid (H1.out.2.2.2.turn (Turn.of_below hB2 _) (sub_fd _ _ _))
      have HOX := Lib.hid hox
      rw [hu] at HOX b0 b1 b2 b3 ⊢
      obtain ⟨s1, hs1⟩ : ∃ n, (str nm).size = n := ⟨_, rfl⟩
      obtain ⟨s2, hs2⟩ : ∃ n, (str tg).size = n := ⟨_, rfl⟩
      have HS1 : Hid (nm.length = s1) := by show _ = _; rw [← hs1, str_size]
      have HS2 : Hid (tg.length = s2) := by show _ = _; rw [← hs2, str_size]
      clear hw2 hox hB2 hu k0 k1 k2 k3 k4 k5 q0 q1
      by_cases l1 : (500 : Int) < (n1 : Int)
      · go_wp2
        go_ret
        exact ⟨rfl, HB2.out⟩
      by_cases l3 : (100 : Int) < (s1 : Int)
      · go_wp2
        go_ret
        exact ⟨rfl, HB2.out⟩
      by_cases l4 : (100 : Int) < (s2 : Int)
      · go_wp2
        go_ret
        exact ⟨rfl, HB2.out⟩
      have hnm : nm.length ≤ 1000 := by rw [HS1.out]; omega
      have htg : tg.length ≤ 1000 := by rw [HS2.out]; omega
      obtain ⟨q, hq⟩ : ∃ q, sumF S.fs = q := ⟨_, rfl⟩
      have HQ := Lib.hid hq
      have hqr : ¬ room < (q : Int) := by have := HC1.out.sum; rw [hq] at this; omega
      clear hq
      go_wp2_with (fail)
      refine (size_any p d g S w2 HK2.out HBX2.out (by omega) HC1.out.down).mono ?_
      rw [HQ.out]
      rintro e w3 ⟨rfl, hb3'⟩
      have HK3 := Lib.hid (HK2.out.below hb3')
      have HBX3 := Lib.hid (HBX2.out.below hb3' HBX2.out.lt)
      have HB3 := Lib.hid (HB2.out.trans (hb3'.mono HB2.out.size))
      have hox3 := HOX.out.below hb3' HOX.out.lt
      have HR3' := Lib.hid (HR1.out.turn (Turn.of_below hb3' _) (sub_fd _ _ _))
      have b0 := hox3.cell 0
      have b1 := hox3.cell 1
      have b2 := hox3.cell 2
      have b3 := hox3.cell 3
      have HOX3 := Lib.hid hox3
      have x3 := HBX3.out.cell 0
      clear hb3' hox3
      by_cases d1 : kd = 1
      · subst d1
        rcases HC1.out.write nm dt with ⟨he, hc, hl2⟩ | ⟨he, hS⟩
        · have HE := Lib.hid he
          have HC := Lib.hid hc
          have HLN := Lib.hid hl2
          clear he hc hl2
          go_wp2_with (fail)
          refine (write_any d g S nm A1 n1 c1 dt w3 HK3.out (by omega) hnm HR3'.out (by omega)).mono ?_
          rintro e w4 ⟨rfl, hk4, ht4⟩
          have HBX4 := Lib.hid (HBX3.out.turn ht4 hpd)
          have HB4 := Lib.hid (HB3.out.trans (ht4.low hd hg HB3.out.size))
          rw [HE.out]
          obtain ⟨S', hS'⟩ : ∃ x, (writeD S nm dt).2 = x := ⟨_, rfl⟩
          rw [hS'] at hk4 HC HLN
          have HK4 := Lib.hid hk4
          have hox4 := HOX3.out.turn ht4 (fun f => by have := HUS.out; rcases f with f | f <;> omega)
          have b0 := hox4.cell 0
          obtain ⟨q', hq'⟩ : ∃ q', sumF S'.fs = q' := ⟨_, rfl⟩
          have HQ' := Lib.hid hq'
          have hqr' : ¬ room < (q' : Int) := by have := HC.out.sum; rw [hq'] at this; omega
          have HOX4 := Lib.hid hox4
          have hlS : S'.fs.length ≤ k + 1 := Nat.le_trans HLN.out (by omega)
          have hdS := Lib.hid HC.out.down
          have HLS := Lib.hid hlS
          clear hk4 ht4 hox4 hq' hS' hlS
          go_wp2_with (fail)
          refine (size_any p d g S' w4 HK4.out HBX4.out (Nat.le_trans HLS.out (by omega)) hdS.out).mono ?_
          rw [HQ'.out]
          rintro e w5 ⟨rfl, hb5⟩
          have HK5 := Lib.hid (HK4.out.below hb5)
          have HBX5 := Lib.hid (HBX4.out.below hb5 HBX4.out.lt)
          have HB5 := Lib.hid (HB4.out.trans (hb5.mono HB4.out.size))
          have hox5 := HOX4.out.below hb5 HOX4.out.lt
          have b0 := hox5.cell 0
          clear hb5 hox5
          go_wp2
          go_roundw
          case rel => exact ⟨k + 1, S', by omega, by go_num, HK5.out, HC.out, HLS.out, HB5.out, HBX5.out⟩
          case measure => simp [intOf]; omega
        · obtain ⟨e0, he0⟩ : ∃ z, (writeD S nm dt).1 = z := ⟨_, rfl⟩
          have HE0 := Lib.hid he0
          rw [he0] at he
          have heb : (e0 != 0) = true := by simpa using he
          have HSS := Lib.hid hS
          clear he he0 hS
          go_wp2_with (fail)
          refine (write_any d g S nm A1 n1 c1 dt w3 HK3.out (by omega) hnm HR3'.out (by omega)).mono ?_
          rintro e w4 ⟨rfl, hk4, ht4⟩
          have HBX4 := Lib.hid (HBX3.out.turn ht4 hpd)
          have HB4 := Lib.hid (HB3.out.trans (ht4.low hd hg HB3.out.size))
          rw [HE0.out]
          rw [HSS.out] at hk4
          have HK4 := Lib.hid hk4
          have hox4 := HOX3.out.turn ht4 (fun f => by have := HUS.out; rcases f with f | f <;> omega)
          have b0 := hox4.cell 0
          have HOX4 := Lib.hid hox4
          clear hk4 ht4 hox4
          go_wp2_with (fail)
          refine (size_any p d g S w4 HK4.out HBX4.out (by omega) HC1.out.down).mono ?_
          rw [HQ.out]
          rintro e w5 ⟨rfl, hb5⟩
          have HK5 := Lib.hid (HK4.out.below hb5)
          have HBX5 := Lib.hid (HBX4.out.below hb5 HBX4.out.lt)
          have HB5 := Lib.hid (HB4.out.trans (hb5.mono HB4.out.size))
          have hox5 := HOX4.out.below hb5 HOX4.out.lt
          have b0 := hox5.cell 0
          have HOX5 := Lib.hid hox5
          clear hb5 hox5
          go_wp2_with (fail)
          refine (size_any p d g S w5 HK5.out HBX5.out (by omega) HC1.out.down).mono ?_
          rw [HQ.out]
          rintro e w6 ⟨rfl, hb6⟩
          have HK6 := Lib.hid (HK5.out.below hb6)
          have HBX6 := Lib.hid (HBX5.out.below hb6 HBX5.out.lt)
          have HB6 := Lib.hid (HB5.out.trans (hb6.mono HB5.out.size))
          have hox6 := HOX5.out.below hb6 HOX5.out.lt
          have b0 := hox6.cell 0
          clear hb6 hox6
          go_wp2
          go_roundw
          case rel => exact ⟨k + 1, S, by omega, by go_num, HK6.out, HC1.out, by omega, HB6.out, HBX6.out⟩
          case measure => simp [intOf]; omega
      have d1b : (kd == 1) = false := by simpa using d1
      have d1c : (kd != 1) = true := by simpa using d1
      by_cases d2 : kd = 2
      · subst d2
        obtain ⟨hc, hl2, hsl⟩ := HC1.out.sync HK3.out.good nm
        have HC := Lib.hid hc
        have HLN := Lib.hid hl2
        have HSL := Lib.hid hsl
        clear hc hl2 hsl
        go_wp2_with (fail)
        refine (sync_any d g S nm w3 HK3.out (by omega) hnm).mono ?_
        rintro e w4 ⟨rfl, hk4, ht4⟩
        have HBX4 := Lib.hid (HBX3.out.turn ht4 hpd)
        have HB4 := Lib.hid (HB3.out.trans (ht4.low hd hg HB3.out.size))
        obtain ⟨S', hS'⟩ : ∃ x, (syncD S nm).2 = x := ⟨_, rfl⟩
        rw [hS'] at hk4 HC HLN HSL
        have HK4 := Lib.hid hk4
        have hox4 := HOX3.out.turn ht4 (fun f => by have := HUS.out; rcases f with f | f <;> omega)
        have b0 := hox4.cell 0
        have HOX4 := Lib.hid hox4
        obtain ⟨q', hq'⟩ : ∃ q', sumF S'.fs = q' := ⟨_, rfl⟩
        have HQ' := Lib.hid hq'
        have hqr' : ¬ room < (q' : Int) := by have := HC.out.sum; rw [hq'] at this; omega
        have hqq : ¬ (q : Int) < (q' : Int) := by have := HSL.out; rw [hq', HQ.out] at this; omega
        have hlS : S'.fs.length ≤ k + 1 := Nat.le_trans HLN.out (by omega)
        have hdS := Lib.hid HC.out.down
        have HLS := Lib.hid hlS
        clear hk4 ht4 hox4 hq' hS' hlS
        go_wp2_with (fail)
        refine (size_any p d g S' w4 HK4.out HBX4.out (Nat.le_trans HLS.out (by omega)) hdS.out).mono ?_
        rw [HQ'.out]
        rintro e w5 ⟨rfl, hb5⟩
        have HK5 := Lib.hid (HK4.out.below hb5)
        have HBX5 := Lib.hid (HBX4.out.below hb5 HBX4.out.lt)
        have HB5 := Lib.hid (HB4.out.trans (hb5.mono HB4.out.size))
        have hox5 := HOX4.out.below hb5 HOX4.out.lt
        have b0 := hox5.cell 0
        clear hb5 hox5
        go_wp2_with (fail)
        refine (size_any p d g S' w5 HK5.out HBX5.out (Nat.le_trans HLS.out (by omega)) hdS.out).mono ?_
        rw [HQ'.out]
        rintro e w6 ⟨rfl, hb6⟩
        have HK6 := Lib.hid (HK5.out.below hb6)
        have HBX6 := Lib.hid (HBX5.out.below hb6 HBX5.out.lt)
        have HB6 := Lib.hid (HB5.out.trans (hb6.mono HB5.out.size))
        clear hb6
        go_wp2
        go_roundw
        case rel => exact ⟨k + 1, S', by omega, by go_num, HK6.out, HC.out, HLS.out, HB6.out, HBX6.out⟩
        case measure => simp [intOf]; omega
      have d2b : (kd == 2) = false := by simpa using d2
      by_cases d3 : kd = 3
      · subst d3
        obtain ⟨hc, hl2, hsl⟩ := HC1.out.rename HK3.out.good nm tg
        have HC := Lib.hid hc
        have HLN := Lib.hid hl2
        have HSL := Lib.hid hsl
        clear hc hl2 hsl
        go_wp2_with (fail)
        refine (rename_any d g S nm tg w3 HK3.out (by omega) hnm htg).mono ?_
        rintro e w4 ⟨rfl, hk4, ht4⟩
        have HBX4 := Lib.hid (HBX3.out.turn ht4 hpd)
        have HB4 := Lib.hid (HB3.out.trans (ht4.low hd hg HB3.out.size))
        obtain ⟨S', hS'⟩ : ∃ x, (renameD S nm tg).2 = x := ⟨_, rfl⟩
        rw [hS'] at hk4 HC HLN HSL
        have HK4 := Lib.hid hk4
        have hox4 := HOX3.out.turn ht4 (fun f => by have := HUS.out; rcases f with f | f <;> omega)
        have b0 := hox4.cell 0
        have HOX4 := Lib.hid hox4
        obtain ⟨q', hq'⟩ : ∃ q', sumF S'.fs = q' := ⟨_, rfl⟩
        have HQ' := Lib.hid hq'
        have hqr' : ¬ room < (q' : Int) := by have := HC.out.sum; rw [hq'] at this; omega
        have hqq : ¬ (q : Int) < (q' : Int) := by have := HSL.out; rw [hq', HQ.out] at this; omega
        have hlS : S'.fs.length ≤ k + 1 := Nat.le_trans HLN.out (by omega)
        have hdS := Lib.hid HC.out.down
        have HLS := Lib.hid hlS
        clear hk4 ht4 hox4 hq' hS' hlS
        go_wp2_with (fail)
        refine (size_any p d g S' w4 HK4.out HBX4.out (Nat.le_trans HLS.out (by omega)) hdS.out).mono ?_
        rw [HQ'.out]
        rintro e w5 ⟨rfl, hb5⟩
        have HK5 := Lib.hid (HK4.out.below hb5)
        have HBX5 := Lib.hid (HBX4.out.below hb5 HBX4.out.lt)
        have HB5 := Lib.hid (HB4.out.trans (hb5.mono HB4.out.size))
        have hox5 := HOX4.out.below hb5 HOX4.out.lt
        have b0 := hox5.cell 0
        clear hb5 hox5
        go_wp2_with (fail)
        refine (size_any p d g S' w5 HK5.out HBX5.out (Nat.le_trans HLS.out (by omega)) hdS.out).mono ?_
        rw [HQ'.out]
        rintro e w6 ⟨rfl, hb6⟩
        have HK6 := Lib.hid (HK5.out.below hb6)
        have HBX6 := Lib.hid (HBX5.out.below hb6 HBX5.out.lt)
        have HB6 := Lib.hid (HB5.out.trans (hb6.mono HB5.out.size))
        clear hb6
        go_wp2
        go_roundw
        case rel => exact ⟨k + 1, S', by omega, by go_num, HK6.out, HC.out, HLS.out, HB6.out, HBX6.out⟩
        case measure => simp [intOf]; omega
      have d3b : (kd == 3) = false := by simpa using d3
      go_wp2_with (fail)
      refine (size_any p d g S w3 HK3.out HBX3.out (by omega) HC1.out.down).mono ?_
      rw [HQ.out]
      rintro e w4 ⟨rfl, hb4⟩
      have HK4 := Lib.hid (HK3.out.below hb4)
      have HBX4 := Lib.hid (HBX3.out.below hb4 HBX3.out.lt)
      have HB4 := Lib.hid (HB3.out.trans (hb4.mono HB3.out.size))
      have hox4 := HOX3.out.below hb4 HOX3.out.lt
      have b0 := hox4.cell 0
      clear hb4 hox4
      go_wp2_with (fail)
      refine (size_any p d g S w4 HK4.out HBX4.out (by omega) HC1.out.down).mono ?_
      rw [HQ.out]
      rintro e w5 ⟨rfl, hb5⟩
      have HK5 := Lib.hid (HK4.out.below hb5)
      have HBX5 := Lib.hid (HBX4.out.below hb5 HBX4.out.lt)
      have HB5 := Lib.hid (HB4.out.trans (hb5.mono HB4.out.size))
      clear hb5
      go_wp2
      go_roundw
      case rel => exact ⟨k + 1, S, by omega, by go_num, HK5.out, HC1.out, by omega, HB5.out, HBX5.out⟩
      case measure => simp [intOf]; omega
    · obtain rfl : k = n3 := by omega
      go_wp2
      go_ret
      exact ⟨rfl, HB1.out⟩
end Go.Proofs.Ytdoahbegcfhegaa
