/-
  WHAT IS PROVED: contract of the document's Decode where the frame is right. Condition: the bytes are there, at most a million.
-/
import Derived.Test.YtneanlffllejnaaRdec0
import Derived.Deep.RegionHeld3
import Derived.Deep.CutRange

namespace Go.Proofs.Ytneanlffllejnaa
open Go.RowKit Go.Lib Go.Shelf

set_option maxRecDepth 100000 in
set_option maxHeartbeats 4000000 in
theorem rdec_good (A : Option Addr) (n cap : Nat) (l : List UInt8) (w : World) (hl : l.length = n) (hc : n ≤ cap) (hcm : cap ≤ 9223372036854775807) (hn : n ≤ 1000000) (hr : Reads w w.heap.size A n (bs l)) (h : chk l = 0) :
    Calls Try.prog 19 #[.slice A n cap] w fun e w' => ∃ v, e = .returned (.tuple #[vP (dec l).1 v, .int .i64 (dec l).2]) ∧ w'.ownsRow w.heap.size 49 2 v (dec l).1.sec.length (flatR (dec l).1.sec) ∧ Below w.heap.size w w' := by
  obtain ⟨_, _, _, _, _, hc3, hln, _⟩ := chk_zero h
  have hn79 : 79 ≤ n := by omega
  have bk0 := Blk.new w 30 zcP
  have hB0 : Below w.heap.size w (w.alloc (.cells zcP 30)) := (Below.refl _ _).alloc (Nat.le_refl _) _
  have HL := Lib.hid hl
  have HCK := Lib.hid h
  have HLN := Lib.hid hln
  clear hl h hln
  go_enter Try.func19, Try.ntmps19
  go_wp2_with (fail)
  refine (frame_any A n cap l _ HL.out hc hcm hn (hr.old hB0 (by simp))).mono ?_
  rintro e w1 ⟨rfl, hb1⟩
  rw [HCK.out]
  have BK1 := Lib.hid (bk0.below hb1 bk0.lt)
  have HB1 := Lib.hid (hB0.trans (hb1.mono hB0.size))
  have hs1 : w.heap.size < w1.heap.size := BK1.out.lt
  have HR1 := Lib.hid (hr.old HB1.out HB1.out.size)
  have hbN : Blk (w1.alloc (.cells #[.int .u64 0, .int .u64 0, .int .u64 0, .int .u64 0, .int .u64 0, .int .u64 0, .int .u64 0, .int .u64 0, .int .u64 0] 50)) w1.heap.size 50 (na l 0) := by rw [na_none]; exact Blk.new _ _ _
  clear bk0 hB0 hb1 hr
  go_wp2
  go_loopw [6] (fun i wr => ∃ k : Nat, k ≤ 9 ∧ i = .int .i64 k ∧ Blk wr w1.heap.size 50 (na l k) ∧ Below w1.heap.size w1 wr ∧ ∀ i, i < k → i ≠ 4 → i ≠ 8 → numAt l (4 + 8 * i) < 9223372036854775808) (fun i _ => 9 - (intOf i).toNat)
  case atStart => exact ⟨0, by omega, rfl, hbN, (Below.refl _ _).alloc (Nat.le_refl _) _, fun i hi => absurd hi (Nat.not_lt_zero i)⟩
  case round =>
    obtain ⟨w2, rfl⟩ : ∃ w2, w2 = wr := ⟨_, rfl⟩
    obtain ⟨k, hk, rfl, hbk, hbw, hlow⟩ := hrel
    clear hbN
    have HLOW := Lib.hid hlow
    have HBW := Lib.hid hbw
    have HBK := Lib.hid hbk
    clear hlow
    by_cases hk9 : k < 9
    · obtain ⟨q, hq⟩ : ∃ q, q = 4 + 8 * k := ⟨_, rfl⟩
      have HQ := Lib.hid hq
      have q4 : (4 : Int) + 8 * (k : Int) = (q : Int) := by omega
      have hce : w2.cell? ⟨w1.heap.size, k, none⟩ = some (.int .u64 0) := by rw [hbk.cell]; exact na_old l k hk9
      have hfz := hbk.frozen k
      have HS := Lib.hid (na_set l k q hk9 hq)
      obtain ⟨z, hz⟩ : ∃ z, numAt l q = z := ⟨_, rfl⟩
      have HZ := Lib.hid hz
      have hb3 := hbk.set_ k (.int .u64 (z : Int))
      have hbn := hb3
      rw [← hz, HS.out] at hbn
      rw [hz] at hbn
      have hkn : k < (na l k).size := by simp [na]; omega
      have hce2 : (w2.setCell ⟨w1.heap.size, k, none⟩ (.int .u64 (z : Int))).cell? ⟨w1.heap.size, k, none⟩ = some (.int .u64 (z : Int)) := by rw [hb3.cell]; simp [hkn]
      have HBN := Lib.hid hbn
      have HBW3 := Lib.hid (hbw.setCell (p := ⟨w1.heap.size, k, none⟩) (Nat.le_refl _) (.int .u64 (z : Int)))
      have hqn : q + 8 ≤ n := by omega
      have HRD := Lib.hid (HR1.out.old hbw hbw.size)
      clear hq hz hb3 hbn hkn hbk hbw
      by_cases hbig : (9223372036854775807 : Int) < (z : Int)
      · by_cases h4 : k = 4
        · have e4 : ((k : Int) != 4) = false := by rw [bne_eq_false_iff_eq]; omega
          have HH := Lib.hid h4
          clear h4
          go_wp2_with (go_at_call 39; refine (number_any A n cap _ l q _ hqn hn HRD.out).mono ?_; rintro e w' ⟨rfl, rfl⟩; rw [HZ.out])
          go_roundw
          case rel =>
            refine ⟨k + 1, by omega, by go_num, HBN.out, HBW3.out, fun i hi a4 a8 => ?_⟩
            rcases Nat.lt_or_ge i k with h | h
            · exact HLOW.out i h a4 a8
            · have := HH.out; omega
          case measure => simp [intOf]; omega
        have e4 : ((k : Int) != 4) = true := by rw [bne_iff_ne]; omega
        by_cases h8 : k = 8
        · have e8 : ((k : Int) != 8) = false := by rw [bne_eq_false_iff_eq]; omega
          clear h4
          have HH := Lib.hid h8
          clear h8
          go_wp2_with (go_at_call 39; refine (number_any A n cap _ l q _ hqn hn HRD.out).mono ?_; rintro e w' ⟨rfl, rfl⟩; rw [HZ.out])
          go_roundw
          case rel =>
            refine ⟨k + 1, by omega, by go_num, HBN.out, HBW3.out, fun i hi a4 a8 => ?_⟩
            rcases Nat.lt_or_ge i k with h | h
            · exact HLOW.out i h a4 a8
            · have := HH.out; omega
          case measure => simp [intOf]; omega
        have HX : Hid (dec l = (zeroP, 10)) := by
          show _ = _
          refine dec_ten HCK.out ?_
          cases hok : okP (pkt l) with
          | false => rfl
          | true => have := dec_nums hok k hk9 h4 h8; rw [← HQ.out, HZ.out] at this; omega
        have e8 : ((k : Int) != 8) = true := by rw [bne_iff_ne]; omega
        have BK3 := Lib.hid (BK1.out.below HBW3.out hs1)
        have HB3 := Lib.hid (HB1.out.trans (HBW3.out.mono (Nat.le_of_lt hs1)))
        clear h4 h8
        obtain ⟨k0, k1, k2, k3, k4, k5, k6, k7, k8, k9, k10⟩ := pk_cells BK3.out
        obtain ⟨f0, f1, f2, f3, f4, f5, f6, f7, f8, f9, f10⟩ := fz_all BK3.out
        go_wp2_with (go_at_call 39; refine (number_any A n cap _ l q _ hqn hn HRD.out).mono ?_; rintro e w' ⟨rfl, rfl⟩; rw [HZ.out])
        refine bodyPost_ret (results_rp (p := 2) (u := 3) rfl _ _ w.heap.size zeroP (.slice none 0 0) rfl (pk_store BK3.out _ _ _ _ _ _ _ _ _ _ _)) rfl ⟨.slice none 0 0, by rw [HX.out]; rfl, ?_, below_store HB3.out (Nat.le_refl _) _ _ _ _ _ _ _ _ _ _ _⟩
        rw [HX.out]
        exact World.ownsRow_nil _ _ _ _
      · go_wp2_with (go_at_call 39; refine (number_any A n cap _ l q _ hqn hn HRD.out).mono ?_; rintro e w' ⟨rfl, rfl⟩; rw [HZ.out])
        go_roundw
        case rel =>
          refine ⟨k + 1, by omega, by go_num, HBN.out, HBW3.out, fun i hi h4 h8 => ?_⟩
          rcases Nat.lt_or_ge i k with h | h
          · exact HLOW.out i h h4 h8
          · obtain rfl : i = k := by omega
            rw [← HQ.out, HZ.out]; omega
        case measure => simp [intOf]; omega
    · obtain rfl : k = 9 := by omega
      rw [show ((9 : Nat) : Int) = (9 : Int) from rfl]
      rw [na_all] at hbk
      have hs2 : w1.heap.size < w2.heap.size := hbk.lt
      obtain ⟨ad, rfl, _, _, _, c3⟩ := cells4 (l := l) (by omega) (HR1.out.old hbw hbw.size)
      obtain ⟨b3, g3'⟩ : ∃ b, at_ l 3 = b := ⟨_, rfl⟩
      rw [g3'] at c3
      have hbl : ad.block < w2.heap.size := lt_of_cell (a := ⟨ad.block, ad.off + 3, none⟩) c3
      have lt3 : b3 < 256 := by rw [← g3']; exact UInt8.toNat_lt _
      have hw3 : IntKind.i64.wrap (b3 : Int) = (b3 : Int) := by rw [IntKind.wrap_i64]; omega
      obtain ⟨m0, g0⟩ : ∃ m, numAt l 4 = m := ⟨_, rfl⟩
      obtain ⟨m1, g1⟩ : ∃ m, numAt l 12 = m := ⟨_, rfl⟩
      obtain ⟨m2, g2⟩ : ∃ m, numAt l 20 = m := ⟨_, rfl⟩
      obtain ⟨m3, g3⟩ : ∃ m, numAt l 28 = m := ⟨_, rfl⟩
      obtain ⟨m4, g4⟩ : ∃ m, numAt l 36 = m := ⟨_, rfl⟩
      obtain ⟨m5, g5⟩ : ∃ m, numAt l 44 = m := ⟨_, rfl⟩
      obtain ⟨m6, g6⟩ : ∃ m, numAt l 52 = m := ⟨_, rfl⟩
      obtain ⟨m7, g7⟩ : ∃ m, numAt l 60 = m := ⟨_, rfl⟩
      obtain ⟨m8, g8⟩ : ∃ m, numAt l 68 = m := ⟨_, rfl⟩
      have bd0 : m0 < 9223372036854775808 := by rw [← g0]; exact HLOW.out 0 (by omega) (by omega) (by omega)
      have bd1 : m1 < 9223372036854775808 := by rw [← g1]; exact HLOW.out 1 (by omega) (by omega) (by omega)
      have bd2 : m2 < 9223372036854775808 := by rw [← g2]; exact HLOW.out 2 (by omega) (by omega) (by omega)
      have bd3 : m3 < 9223372036854775808 := by rw [← g3]; exact HLOW.out 3 (by omega) (by omega) (by omega)
      have bd5 : m5 < 9223372036854775808 := by rw [← g5]; exact HLOW.out 5 (by omega) (by omega) (by omega)
      have bd6 : m6 < 9223372036854775808 := by rw [← g6]; exact HLOW.out 6 (by omega) (by omega) (by omega)
      have bd7 : m7 < 9223372036854775808 := by rw [← g7]; exact HLOW.out 7 (by omega) (by omega) (by omega)
      have HPK : Hid (pkt0 l = ⟨(b3 : Int), (m0 : Int), (m1 : Int), (m2 : Int), (m3 : Int), (m4 : Int), (m5 : Int), (m6 : Int), (m7 : Int), (m8 : Int), []⟩) := by
        show _ = _
        unfold pkt0
        rw [g3', g0, g1, g2, g3, g4, g5, g6, g7, g8, toI_nat bd0, toI_nat bd1, toI_nat bd2, toI_nat bd3, toI_nat bd5, toI_nat bd6, toI_nat bd7]
      unfold nvL at hbk
      rw [g0, g1, g2, g3, g4, g5, g6, g7, g8] at hbk
      have y0 : IntKind.i64.wrap (m0 : Int) = (m0 : Int) := by rw [IntKind.wrap_i64]; omega
      have y1 : IntKind.i64.wrap (m1 : Int) = (m1 : Int) := by rw [IntKind.wrap_i64]; omega
      have y2 : IntKind.i64.wrap (m2 : Int) = (m2 : Int) := by rw [IntKind.wrap_i64]; omega
      have y3 : IntKind.i64.wrap (m3 : Int) = (m3 : Int) := by rw [IntKind.wrap_i64]; omega
      have y5 : IntKind.i64.wrap (m5 : Int) = (m5 : Int) := by rw [IntKind.wrap_i64]; omega
      have y6 : IntKind.i64.wrap (m6 : Int) = (m6 : Int) := by rw [IntKind.wrap_i64]; omega
      have y7 : IntKind.i64.wrap (m7 : Int) = (m7 : Int) := by rw [IntKind.wrap_i64]; omega
      have HN : Hid (∀ w' : World, Below w2.heap.size w2 w' → w'.cell? ⟨w1.heap.size, 0, none⟩ = some (.int .u64 (m0 : Int)) ∧ w'.cell? ⟨w1.heap.size, 1, none⟩ = some (.int .u64 (m1 : Int)) ∧ w'.cell? ⟨w1.heap.size, 2, none⟩ = some (.int .u64 (m2 : Int)) ∧ w'.cell? ⟨w1.heap.size, 3, none⟩ = some (.int .u64 (m3 : Int)) ∧ w'.cell? ⟨w1.heap.size, 4, none⟩ = some (.int .u64 (m4 : Int)) ∧ w'.cell? ⟨w1.heap.size, 5, none⟩ = some (.int .u64 (m5 : Int)) ∧ w'.cell? ⟨w1.heap.size, 6, none⟩ = some (.int .u64 (m6 : Int)) ∧ w'.cell? ⟨w1.heap.size, 7, none⟩ = some (.int .u64 (m7 : Int)) ∧ w'.cell? ⟨w1.heap.size, 8, none⟩ = some (.int .u64 (m8 : Int)) ∧ w'.cell? ⟨ad.block, ad.off + 3, none⟩ = some (.int .u8 (b3 : Int))) := fun w' hb => ⟨(hbk.below hb hbk.lt).cell 0, (hbk.below hb hbk.lt).cell 1, (hbk.below hb hbk.lt).cell 2, (hbk.below hb hbk.lt).cell 3, (hbk.below hb hbk.lt).cell 4, (hbk.below hb hbk.lt).cell 5, (hbk.below hb hbk.lt).cell 6, (hbk.below hb hbk.lt).cell 7, (hbk.below hb hbk.lt).cell 8, (hb.cell (p := ⟨ad.block, ad.off + 3, none⟩) hbl).trans c3⟩
      have HD0 : Below w2.heap.size w2 w2.drew := (Below.refl _ _).drew
      have HD1 : Below w2.heap.size w2 (w2.alloc (.cells zcP 30)).drew := ((Below.refl _ _).alloc (Nat.le_refl _) _).drew
      have HD2 : Below w2.heap.size w2 (w2.alloc (.cells #[.int .i64 (b3 : Int), .int .i64 (m0 : Int), .int .i64 (m1 : Int), .int .i64 (m2 : Int), .int .i64 (m3 : Int), .int .u64 (m4 : Int), .int .i64 (m5 : Int), .int .i64 (m6 : Int), .int .i64 (m7 : Int), .int .u64 (m8 : Int), .slice none 0 0] 30)).drew := ((Below.refl _ _).alloc (Nat.le_refl _) _).drew
      have bz := (Blk.new w2 30 zcP).drew
      obtain ⟨k0, k1, k2, k3, k4, k5, k6, k7, k8, k9, k10⟩ := pk_cells bz
      obtain ⟨f0, f1, f2, f3, f4, f5, f6, f7, f8, f9, f10⟩ := fz_all bz
      have HBZ := Lib.hid bz
      have hn3 : (3 : Int) < (n : Int) := by omega
      clear bz hbk hbw c3 g3' g0 g1 g2 g3 g4 g5 g6 g7 g8 bd0 bd1 bd2 bd3 bd5 bd6 bd7
      go_upto_region 11 with (fail)
      go_cut [7] from 40 to 69 (fun vx wx => ∃ bx, vx = .pointer (some ⟨bx, 0, none⟩) ∧ Blk wx bx 30 #[.int .i64 (b3 : Int), .int .i64 (m0 : Int), .int .i64 (m1 : Int), .int .i64 (m2 : Int), .int .i64 (m3 : Int), .int .u64 (m4 : Int), .int .i64 (m5 : Int), .int .i64 (m6 : Int), .int .i64 (m7 : Int), .int .u64 (m8 : Int), .slice none 0 0] ∧ Below w2.heap.size w2 wx ∧ w2.heap.size ≤ bx)
      case first =>
        go_region_held3 (fun w' => w'.cell? ⟨w1.heap.size, 0, none⟩ = some (.int .u64 (m0 : Int)) ∧ w'.cell? ⟨w1.heap.size, 1, none⟩ = some (.int .u64 (m1 : Int)) ∧ w'.cell? ⟨w1.heap.size, 2, none⟩ = some (.int .u64 (m2 : Int)) ∧ w'.cell? ⟨w1.heap.size, 3, none⟩ = some (.int .u64 (m3 : Int)) ∧ w'.cell? ⟨w1.heap.size, 4, none⟩ = some (.int .u64 (m4 : Int)) ∧ w'.cell? ⟨w1.heap.size, 5, none⟩ = some (.int .u64 (m5 : Int)) ∧ w'.cell? ⟨w1.heap.size, 6, none⟩ = some (.int .u64 (m6 : Int)) ∧ w'.cell? ⟨w1.heap.size, 7, none⟩ = some (.int .u64 (m7 : Int)) ∧ w'.cell? ⟨w1.heap.size, 8, none⟩ = some (.int .u64 (m8 : Int)) ∧ w'.cell? ⟨ad.block, ad.off + 3, none⟩ = some (.int .u8 (b3 : Int))) ((refine HN.out _ ?_; first | with_reducible exact HD0 | with_reducible exact HD1 | with_reducible exact HD2 | with_reducible exact HD0.alloc HD0.size _ | (with_reducible refine below_store HD1 ?_ _ _ _ _ _ _ _ _ _ _ _; exact Nat.le_refl _) | fail)) (first | fail)
        go_wp2_with fail
        go_meet
        exact ⟨w2.heap.size, rfl, (Blk.new w2 30 #[.int .i64 (b3 : Int), .int .i64 (m0 : Int), .int .i64 (m1 : Int), .int .i64 (m2 : Int), .int .i64 (m3 : Int), .int .u64 (m4 : Int), .int .i64 (m5 : Int), .int .i64 (m6 : Int), .int .i64 (m7 : Int), .int .u64 (m8 : Int), .slice none 0 0]).drew, HD2, Nat.le_refl _⟩
      case rest =>
        obtain ⟨bx, rfl, hP, hwc, hbx⟩ := hcut
        obtain ⟨c, hcc⟩ : ∃ c, at_ l 76 = c := ⟨_, rfl⟩
        have hNc : n = 79 + 9 * c := by have := HLN.out; have := HL.out; omega
        have hc3' : c ≤ 3 := by omega
        have hBc : Below w1.heap.size w1 wc := HBW.out.trans (hwc.mono (by omega))
        have hbxlt : bx < wc.heap.size := hP.lt
        have hw76 : IntKind.i64.wrap (c : Int) = (c : Int) := by rw [IntKind.wrap_i64]; omega
        have h76 : (76 : Int) < (n : Int) := by omega
        have HPX := Lib.hid hP
        have HBC := Lib.hid hBc
        have HCC := Lib.hid hcc
        have HNC := Lib.hid hNc
        obtain ⟨i0, hi0, hz0, hz1, hz2⟩ := info_parts ent_info2
        have HI0 := Lib.hid hi0
        have HZ0 := Lib.hid hz0
        have HZ1 := Lib.hid hz1
        have HZ2 := Lib.hid hz2
        clear hi0 hz0 hz1 hz2 hP hwc hBc hcc hNc HN HD0 HD1 HD2 HBZ k0 k1 k2 k3 k4 k5 k6 k7 k8 k9 k10 f0 f1 f2 f3 f4 f5 f6 f7 f8 f9 f10
        go_wp2
        go_loopw [8, 9] (fun i _ wr => ∃ k v, k ≤ c ∧ i = .int .i64 k ∧ Below w1.heap.size w1 wr ∧ wc.heap.size ≤ wr.heap.size ∧ Blk wr bx 30 #[.int .i64 (b3 : Int), .int .i64 (m0 : Int), .int .i64 (m1 : Int), .int .i64 (m2 : Int), .int .i64 (m3 : Int), .int .u64 (m4 : Int), .int .i64 (m5 : Int), .int .i64 (m6 : Int), .int .i64 (m7 : Int), .int .u64 (m8 : Int), v] ∧ wr.ownsRow wc.heap.size 49 2 v k (flatR ((List.range k).map (entAt l)))) (fun i _ _ => c - (intOf i).toNat)
        case atStart => exact ⟨0, .slice none 0 0, by omega, rfl, HBC.out, Nat.le_refl _, HPX.out, ⟨rfl, .inl ⟨rfl, rfl⟩⟩⟩
        case round =>
          obtain ⟨w4, rfl⟩ : ∃ x, x = wr := ⟨_, rfl⟩
          obtain ⟨k, v, hk, rfl, hb, hsz4, hbn, hown⟩ := hrel
          have HB4 := Lib.hid hb
          have HBN := Lib.hid hbn
          have HO4 := Lib.hid hown
          have c76 : w4.cell? ⟨ad.block, ad.off + 76, none⟩ = some (.int .u8 (c : Int)) := by rw [← HCC.out]; exact cell76 (by omega) (HR1.out.old hb hb.size)
          have HRD := Lib.hid (HR1.out.old hb hb.size)
          clear hb hbn hown
          by_cases hkc : k < c
          · obtain ⟨q, hq⟩ : ∃ q, q = 77 + 9 * k := ⟨_, rfl⟩
            obtain ⟨r, hr⟩ : ∃ r, r = 85 + 9 * k := ⟨_, rfl⟩
            have HQ := Lib.hid hq
            have HRR := Lib.hid hr
            have q4 : (77 : Int) + 9 * (k : Int) = (q : Int) := by omega
            have r4 : (85 : Int) + 9 * (k : Int) = (r : Int) := by omega
            have hqn : q + 8 ≤ n := by have := HNC.out; omega
            have hr0 : (0 : Int) ≤ (r : Int) := by omega
            have hrn : (r : Int) < (n : Int) := by have := HNC.out; omega
            obtain ⟨ad', ea, cr⟩ := byte_cell (l := l) (i := r) (by omega) HRD.out
            injection ea with ea
            subst ea
            obtain ⟨x, hx⟩ : ∃ x, at_ l r = x := ⟨_, rfl⟩
            obtain ⟨z, hz⟩ : ∃ z, numAt l q = z := ⟨_, rfl⟩
            rw [hx] at cr
            have hx256 : x < 256 := by rw [← hx]; exact UInt8.toNat_lt _
            have HX' := Lib.hid hx
            have HZ := Lib.hid hz
            clear hq hr hx hz
            by_cases hbig : (9223372036854775807 : Int) < (z : Int)
            · have HX : Hid (dec l = (zeroP, 10)) := by
                show _ = _
                refine dec_ten HCK.out ?_
                cases hok : okP (pkt l) with
                | false => rfl
                | true =>
                  obtain ⟨_, _, _, _, _, _, _, _, _, hes⟩ := ok_parts hok
                  have := (hes (entAt l k) (List.mem_map.2 ⟨k, List.mem_range.2 (by rw [HCC.out]; exact hkc), rfl⟩)).1
                  have h2 := (toI_pos (show 0 ≤ toI (numAt l (77 + 9 * k)) from Int.le_trans (by omega) this) (numAt_lt l _)).1
                  rw [← HQ.out, HZ.out] at h2
                  omega
              have BK3 := Lib.hid (BK1.out.below HB4.out hs1)
              have HB3 := Lib.hid (HB1.out.trans (HB4.out.mono (Nat.le_of_lt hs1)))
              obtain ⟨k0, k1, k2, k3, k4, k5, k6, k7, k8, k9, k10⟩ := pk_cells BK3.out
              obtain ⟨f0, f1, f2, f3, f4, f5, f6, f7, f8, f9, f10⟩ := fz_all BK3.out
              go_wp2_with (go_at_call 39; refine (number_any (some ad) n cap _ l q _ hqn hn HRD.out).mono ?_; rintro e w' ⟨rfl, rfl⟩; rw [HZ.out])
              refine bodyPost_ret (results_rp (p := 2) (u := 3) rfl _ _ w.heap.size zeroP (.slice none 0 0) rfl (pk_store BK3.out _ _ _ _ _ _ _ _ _ _ _)) rfl ⟨.slice none 0 0, by rw [HX.out]; rfl, ?_, below_store HB3.out (Nat.le_refl _) _ _ _ _ _ _ _ _ _ _ _⟩
              rw [HX.out]
              exact World.ownsRow_nil _ _ _ _
            · obtain ⟨A4, c4, rfl, hc4, hcm4, _⟩ := own_reps HO4.out
              have HEN : Hid ((List.range (k + 1)).map (entAt l) = (List.range k).map (entAt l) ++ [⟨(z : Int), (x : Int)⟩]) := by
                show _ = _
                rw [List.range_succ, List.map_append]
                show _ ++ [entAt l k] = _
                unfold entAt
                rw [← HQ.out, ← HRR.out, HZ.out, HX'.out, toI_nat (by omega)]
              have hwz : IntKind.i64.wrap (z : Int) = (z : Int) := by rw [IntKind.wrap_i64]; omega
              have hwx : IntKind.i64.wrap (x : Int) = (x : Int) := by rw [IntKind.wrap_i64]; omega
              have c10 := HBN.out.cell 10
              go_upto_region 18 with (go_at_call 39; refine (number_any (some ad) n cap _ l q _ hqn hn HRD.out).mono ?_; rintro e w' ⟨rfl, rfl⟩; rw [HZ.out])
              obtain ⟨u, hu⟩ : ∃ u : Nat, u = 9 * k := ⟨_, rfl⟩
              have v1 : IntKind.i64.wrap (9 * (k : Int)) = (u : Int) := by rw [IntKind.wrap_i64]; omega
              have v2 : IntKind.i64.wrap (85 + (u : Int)) = (r : Int) := by rw [IntKind.wrap_i64]; omega
              clear hu q4 r4
              have hlow : ∀ b, (Value.slice A4 k c4).ownBlock = some b → wc.heap.size ≤ b := fun b e => (World.ownsRow.lt HO4.out b e).1
              have hne : some bx ≠ (Value.slice A4 k c4).ownBlock := fun e => by have := hlow _ e.symm; omega
              have hn6 : k + 1 ≤ 1000000 := by omega
              have HA4 : Hid (Below w1.heap.size w1 (w4.drew.alloc (.cells #[.int .i64 (z : Int), .int .i64 (x : Int)] 49))) := HB4.out.drew.alloc HB4.out.drew.size _
              have hw1c : w1.heap.size ≤ wc.heap.size := HBC.out.size
              have HBX : Hid (w1.heap.size ≤ bx) := (show w1.heap.size ≤ bx from Nat.le_trans (Nat.le_of_lt hs2) hbx)
              have ho5' : (w4.drew.alloc (.cells #[.int .i64 (z : Int), .int .i64 (x : Int)] 49)).ownsRow wc.heap.size 49 2 (.slice A4 k c4) k (flatR ((List.range k).map (entAt l))) := World.ownsRow.alloc (show w4.drew.ownsRow _ _ _ _ _ _ from HO4.out) _
              have hr5' : EsAt (w4.drew.alloc (.cells #[.int .i64 (z : Int), .int .i64 (x : Int)] 49)) (some ⟨w4.heap.size, 0, none⟩) 1 [⟨(z : Int), (x : Int)⟩] := rent_lit w4.drew 49 z x
              have hs5' : wc.heap.size ≤ (w4.drew.alloc (.cells #[.int .i64 (z : Int), .int .i64 (x : Int)] 49)).heap.size := by simp; show wc.heap.size ≤ w4.heap.size + 1; omega
              have bn5' := (HBN.out.drew).alloc (.cells #[.int .i64 (z : Int), .int .i64 (x : Int)] 49)
              obtain ⟨v6, w6, hrun, ho6, hg6, _⟩ := run_append_reps (P := Try.prog) (w4.drew.alloc (.cells #[.int .i64 (z : Int), .int .i64 (x : Int)] 49)) wc.heap.size 28 28 49 i0 _ Try.underlying28 HI0.out HZ0.out HZ1.out HZ2.out rfl (.slice A4 k c4) k _ ho5' (some ⟨w4.heap.size, 0, none⟩) 1 1 [⟨(z : Int), (x : Int)⟩] hr5' hn6 hs5'
              rw [← HEN.out] at ho6
              obtain ⟨A6, c6, rfl, _, _, _⟩ := own_reps ho6
              have bn6 := bn5'.grown hg6 hne
              have hcq := bn6.cell 10
              have hfq := bn6.frozen 10
              have HB6 := Lib.hid (HA4.out.grown hg6 HA4.out.size (fun b e => Nat.le_trans hw1c (hlow b e)))
              have HREL : Hid (∃ (k' : Nat) (v' : Value), k' ≤ c ∧ Value.int .i64 ((k : Int) + 1) = .int .i64 (k' : Int) ∧ Below w1.heap.size w1 (w6.setCell ⟨bx, 10, none⟩ (.slice A6 (k + 1) c6)) ∧ wc.heap.size ≤ (w6.setCell ⟨bx, 10, none⟩ (.slice A6 (k + 1) c6)).heap.size ∧ Blk (w6.setCell ⟨bx, 10, none⟩ (.slice A6 (k + 1) c6)) bx 30 #[.int .i64 (b3 : Int), .int .i64 (m0 : Int), .int .i64 (m1 : Int), .int .i64 (m2 : Int), .int .i64 (m3 : Int), .int .u64 (m4 : Int), .int .i64 (m5 : Int), .int .i64 (m6 : Int), .int .i64 (m7 : Int), .int .u64 (m8 : Int), v'] ∧ (w6.setCell ⟨bx, 10, none⟩ (.slice A6 (k + 1) c6)).ownsRow wc.heap.size 49 2 v' k' (flatR ((List.range k').map (entAt l)))) :=
                ⟨k + 1, .slice A6 (k + 1) c6, by omega, by go_num, HB6.out.setCell (p := ⟨bx, 10, none⟩) HBX.out _, by simp; exact Nat.le_trans hs5' hg6.size, blk_set' bn6 _, own_kept' ho6 (only_setCell (World.grownBy.refl w6 (some bx)) (p := ⟨bx, 10, none⟩) (.inl rfl) (.slice A6 (k + 1) c6)) (fun b e => by injection e with e; omega)⟩
              have HRUN := Lib.hid hrun
              have had : (ad.add r).block < w1.heap.size := by obtain ⟨_, e, hlt, _⟩ := HR1.out.2 (by omega); cases e; rw [block_of_add]; exact hlt
              have hbl : (ad.add r).block < w4.drew.heap.size := Nat.lt_of_lt_of_le had HB4.out.size
              have d1 : w4.drew.cell? ⟨bx, 10, none⟩ = some (.slice A4 k c4) := c10
              have d2 : w4.drew.cell? (ad.add r) = some (.int .u8 (x : Int)) := cr
              have e1 : (w4.drew.alloc (.cells #[.int .i64 (z : Int), .int .i64 (x : Int)] 49)).cell? ⟨bx, 10, none⟩ = some (.slice A4 k c4) := bn5'.cell 10
              have e1b : (w4.alloc (.cells #[.int .i64 (z : Int), .int .i64 (x : Int)] 49)).drew.cell? ⟨bx, 10, none⟩ = some (.slice A4 k c4) := e1
              have e2 : (w4.drew.alloc (.cells #[.int .i64 (z : Int), .int .i64 (x : Int)] 49)).cell? (ad.add r) = some (.int .u8 (x : Int)) := (((Below.refl w4.drew.heap.size w4.drew).alloc (Nat.le_refl _) _).cell hbl).trans d2
              have g2 : w6.cell? (ad.add r) = some (.int .u8 (x : Int)) := (World.cell?_of_block (hg6.block (ad.add r).block (Nat.lt_of_lt_of_le hbl (by simp)) (fun e => by have := hlow _ e.symm; omega))).trans e2
              have h2 : (w6.setCell ⟨bx, 10, none⟩ (.slice A6 (k + 1) c6)).cell? (ad.add r) = some (.int .u8 (x : Int)) := (World.cell?_setCell_far _ _ _ _ (by show bx ≠ (ad.add r).block; have := HBX.out; omega)).trans g2
              clear ho5' hr5' hs5' bn5' hrun cr c10
              refine wp_region_held_drew (S := fun w' => w'.cell? (ad.add r) = some (.int .u8 (x : Int))) (by kernel_rfl) d2 (fun hHeld => ?_)
              refine wpAnyH_take (i := 0) (oi := ⟨some 86, .fieldAddr 30 (.tmp 7) 10, 0, "ref.go:156", _, none⟩) (v := .pointer (some ⟨bx, 10, none⟩)) rfl (by kernel_rfl) (by kernel_rfl) (by kernel_rfl) (fun _ _ _ h => h) (Or.inl ⟨by rfl, ?_⟩) (by assumption) ?_
              · (intro w' hSw; (try dsimp only at hSw); go_simp)
              try simp only [Act.put, List.setIfInBounds_toArray, List.set_cons_zero, List.set_cons_succ]
              refine wpAnyH_take (i := 2) (oi := ⟨some 88, .move (.tmp 9), 22, "ref.go:156", _, none⟩) (v := .int .u64 (z : Int)) rfl (by kernel_rfl) (by kernel_rfl) (by kernel_rfl) (fun _ _ _ h => h) (Or.inl ⟨by rfl, ?_⟩) (by assumption) ?_
              · (intro w' hSw; (try dsimp only at hSw); go_simp)
              try simp only [Act.put, List.setIfInBounds_toArray, List.set_cons_zero, List.set_cons_succ]
              refine wpAnyH_take (i := 3) (oi := ⟨some 89, .convert 22 3 (.tmp 88), 3, "ref.go:156", _, none⟩) (v := .int .i64 (z : Int)) rfl (by kernel_rfl) (by kernel_rfl) (by kernel_rfl) (fun _ _ _ h => h) (Or.inl ⟨by rfl, ?_⟩) (by assumption) ?_
              · (intro w' hSw; (try dsimp only at hSw); go_simp)
              try simp only [Act.put, List.setIfInBounds_toArray, List.set_cons_zero, List.set_cons_succ]
              refine wpAnyH_take (i := 4) (oi := ⟨some 90, .move (.tmp 0), 32, "ref.go:156", _, none⟩) (v := .slice (some ad) n cap) rfl (by kernel_rfl) (by kernel_rfl) (by kernel_rfl) (fun _ _ _ h => h) (Or.inl ⟨by rfl, ?_⟩) (by assumption) ?_
              · (intro w' hSw; (try dsimp only at hSw); go_simp)
              try simp only [Act.put, List.setIfInBounds_toArray, List.set_cons_zero, List.set_cons_succ]
              refine wpAnyH_take (i := 5) (oi := ⟨some 91, .move (.tmp 8), 3, "ref.go:156", _, none⟩) (v := .int .i64 (k : Int)) rfl (by kernel_rfl) (by kernel_rfl) (by kernel_rfl) (fun _ _ _ h => h) (Or.inl ⟨by rfl, ?_⟩) (by assumption) ?_
              · (intro w' hSw; (try dsimp only at hSw); go_simp)
              try simp only [Act.put, List.setIfInBounds_toArray, List.set_cons_zero, List.set_cons_succ]
              refine wpAnyH_take (i := 6) (oi := ⟨some 92, .binOp .mul 3 (.const (.int .i64 9)) (.tmp 91) 3, 3, "ref.go:156", _, none⟩) (v := .int .i64 (u : Int)) rfl (by kernel_rfl) (by kernel_rfl) (by kernel_rfl) (fun _ _ _ h => h) (Or.inl ⟨by rfl, ?_⟩) (by assumption) ?_
              · (intro w' hSw; (try dsimp only at hSw); go_simp)
              try simp only [Act.put, List.setIfInBounds_toArray, List.set_cons_zero, List.set_cons_succ]
              refine wpAnyH_take (i := 7) (oi := ⟨some 93, .binOp .add 3 (.const (.int .i64 85)) (.tmp 92) 3, 3, "ref.go:156", _, none⟩) (v := .int .i64 (r : Int)) rfl (by kernel_rfl) (by kernel_rfl) (by kernel_rfl) (fun _ _ _ h => h) (Or.inl ⟨by rfl, ?_⟩) (by assumption) ?_
              · (intro w' hSw; (try dsimp only at hSw); go_simp)
              try simp only [Act.put, List.setIfInBounds_toArray, List.set_cons_zero, List.set_cons_succ]
              refine wpAnyH_take (i := 8) (oi := ⟨some 94, .indexAddr 32 (.tmp 90) (.tmp 93), 0, "ref.go:156", _, none⟩) (v := .pointer (some (ad.add r))) rfl (by kernel_rfl) (by kernel_rfl) (by kernel_rfl) (fun _ _ _ h => h) (Or.inl ⟨by rfl, ?_⟩) (by assumption) ?_
              · (intro w' hSw; (try dsimp only at hSw); go_simp)
              try simp only [Act.put, List.setIfInBounds_toArray, List.set_cons_zero, List.set_cons_succ]
              refine wpAnyH_take (i := 9) (oi := ⟨some 95, .load 5 (.tmp 94), 5, "ref.go:156", _, none⟩) (v := .int .u8 (x : Int)) rfl (by kernel_rfl) (by kernel_rfl) (by kernel_rfl) (fun _ _ _ h => h) (Or.inl ⟨by rfl, ?_⟩) (by assumption) ?_
              · (intro w' hSw; (try dsimp only at hSw); go_simp)
              try simp only [Act.put, List.setIfInBounds_toArray, List.set_cons_zero, List.set_cons_succ]
              refine wpAnyH_take (i := 10) (oi := ⟨some 96, .convert 5 3 (.tmp 95), 3, "ref.go:156", _, none⟩) (v := .int .i64 (x : Int)) rfl (by kernel_rfl) (by kernel_rfl) (by kernel_rfl) (fun _ _ _ h => h) (Or.inl ⟨by rfl, ?_⟩) (by assumption) ?_
              · (intro w' hSw; (try dsimp only at hSw); go_simp)
              try simp only [Act.put, List.setIfInBounds_toArray, List.set_cons_zero, List.set_cons_succ]
              refine wpAnyH_take (i := 11) (oi := ⟨some 97, .build 49 #[(0, .tmp 89), (1, .tmp 96)], 49, "ref.go:156", _, none⟩) (v := .agg #[.int .i64 (z : Int), .int .i64 (x : Int)]) rfl (by kernel_rfl) (by kernel_rfl) (by kernel_rfl) (fun _ _ _ h => h) (Or.inl ⟨by rfl, ?_⟩) (by assumption) ?_
              · (intro w' hSw; (try dsimp only at hSw); go_simp)
              try simp only [Act.put, List.setIfInBounds_toArray, List.set_cons_zero, List.set_cons_succ]
              refine wpAnyH_ready (rs := [1, 12]) (by kernel_rfl) (by simp) ?_
              refine AllReadyH.cons rfl (fun K hK => ?_) (AllReadyH.cons rfl (fun K hK => ?_) AllReadyH.nil)
              · go_simp
                refine hK.out _ _ d2 (fun hHeld => ?_)
                clear hK K
                try simp only [Act.put, List.setIfInBounds_toArray, List.set_cons_zero, List.set_cons_succ]
                refine wpAnyH_ready (rs := [12]) (by kernel_rfl) (by simp) ?_
                refine AllReadyH.cons rfl (fun K hK => ?_) AllReadyH.nil
                go_simp
                refine hK.out _ _ e2 (fun hHeld => ?_)
                clear hK K
                try simp only [Act.put, List.setIfInBounds_toArray, List.set_cons_zero, List.set_cons_succ]
                refine wpAnyH_ready (rs := [13]) (by kernel_rfl) (by simp) ?_
                refine AllReadyH.cons rfl (fun K hK => ?_) AllReadyH.nil
                refine step_append_reps _ (by rfl) (.tmp 87) (.tmp 98) 28 (by rfl) _ _ 1 1 (by rfl) (by rfl) HRUN.out ?_
                refine hK.out _ _ g2 (fun hHeld => ?_)
                clear hK K
                try simp only [Act.put, List.setIfInBounds_toArray]
                refine wpAnyH_take (i := 14) (oi := ⟨some 100, .fieldAddr 30 (.tmp 7) 10, 0, "ref.go:156", _, none⟩) (v := .pointer (some ⟨bx, 10, none⟩)) rfl (by kernel_rfl) (by kernel_rfl) (by kernel_rfl) (fun _ _ _ h => h) (Or.inl ⟨by rfl, ?_⟩) (by assumption) ?_
                · (intro w' hSw; (try dsimp only at hSw); go_simp)
                try simp only [Act.put]
                refine wpAnyH_ready (rs := [15]) (by kernel_rfl) (by simp) ?_
                refine AllReadyH.cons rfl (fun K hK => ?_) AllReadyH.nil
                go_simp
                refine hK.out _ _ h2 (fun hHeld => ?_)
                clear hK K
                try simp only [Act.put, List.setIfInBounds_toArray, List.set_cons_zero, List.set_cons_succ]
                refine wpAnyH_done (by kernel_rfl) ?_ _
                clear hHeld
                go_wp2
                go_roundw
                case rel => exact HREL.out
                case measure => simp [intOf]; omega
              · go_simp
                refine hK.out _ _ e2 (fun hHeld => ?_)
                clear hK K
                try simp only [Act.put, List.setIfInBounds_toArray, List.set_cons_zero, List.set_cons_succ]
                refine wpAnyH_ready (rs := [1]) (by kernel_rfl) (by simp) ?_
                refine AllReadyH.cons rfl (fun K hK => ?_) AllReadyH.nil
                go_simp
                refine hK.out _ _ e2 (fun hHeld => ?_)
                clear hK K
                try simp only [Act.put, List.setIfInBounds_toArray, List.set_cons_zero, List.set_cons_succ]
                refine wpAnyH_ready (rs := [13]) (by kernel_rfl) (by simp) ?_
                refine AllReadyH.cons rfl (fun K hK => ?_) AllReadyH.nil
                refine step_append_reps _ (by rfl) (.tmp 87) (.tmp 98) 28 (by rfl) _ _ 1 1 (by rfl) (by rfl) HRUN.out ?_
                refine hK.out _ _ g2 (fun hHeld => ?_)
                clear hK K
                try simp only [Act.put, List.setIfInBounds_toArray]
                refine wpAnyH_take (i := 14) (oi := ⟨some 100, .fieldAddr 30 (.tmp 7) 10, 0, "ref.go:156", _, none⟩) (v := .pointer (some ⟨bx, 10, none⟩)) rfl (by kernel_rfl) (by kernel_rfl) (by kernel_rfl) (fun _ _ _ h => h) (Or.inl ⟨by rfl, ?_⟩) (by assumption) ?_
                · (intro w' hSw; (try dsimp only at hSw); go_simp)
                try simp only [Act.put]
                refine wpAnyH_ready (rs := [15]) (by kernel_rfl) (by simp) ?_
                refine AllReadyH.cons rfl (fun K hK => ?_) AllReadyH.nil
                go_simp
                refine hK.out _ _ h2 (fun hHeld => ?_)
                clear hK K
                try simp only [Act.put, List.setIfInBounds_toArray, List.set_cons_zero, List.set_cons_succ]
                refine wpAnyH_done (by kernel_rfl) ?_ _
                go_wp2
                go_roundw
                case rel => exact HREL.out
                case measure => simp [intOf]; omega
          · obtain rfl : c = k := by omega
            obtain ⟨es, hes⟩ : ∃ es, (List.range c).map (entAt l) = es := ⟨_, rfl⟩
            have hesl : es.length = c := by rw [← hes]; simp
            have hPK2 : pkt l = ⟨(b3 : Int), (m0 : Int), (m1 : Int), (m2 : Int), (m3 : Int), (m4 : Int), (m5 : Int), (m6 : Int), (m7 : Int), (m8 : Int), es⟩ := by unfold pkt; rw [HPK.out, HCC.out, hes]
            have hsets : Pk.sets ⟨(b3 : Int), (m0 : Int), (m1 : Int), (m2 : Int), (m3 : Int), (m4 : Int), (m5 : Int), (m6 : Int), (m7 : Int), (m8 : Int), es⟩ := by rw [← hPK2]; exact pkt_sets l
            have hown := HO4.out
            rw [hes] at hown
            obtain ⟨A9, c9, rfl, _, _, hE9⟩ := own_reps hown
            have hd : dec l = if okP (pkt l) then (pkt l, 0) else (zeroP, 10) := by unfold dec; rw [if_neg (by rw [HCK.out]; simp)]
            have HOWN := Lib.hid hown
            have HPK2 := Lib.hid hPK2
            have HDD := Lib.hid hd
            have HSE := Lib.hid hsets
            obtain ⟨k0, k1, k2, k3, k4, k5, k6, k7, k8, k9, k10⟩ := pk_cells HBN.out
            clear hown hPK2 hd hsets hes
            go_wp2_with (fail)
            refine (rright_any ⟨(b3 : Int), (m0 : Int), (m1 : Int), (m2 : Int), (m3 : Int), (m4 : Int), (m5 : Int), (m6 : Int), (m7 : Int), (m8 : Int), es⟩ A9 c c9 _ hesl hE9 HSE.out).mono ?_
            rintro e w9 ⟨rfl, hb9⟩
            have bk9 := HBN.out.below hb9 HBN.out.lt
            have hB9 := HB4.out.trans (hb9.mono HB4.out.size)
            have br9 := BK1.out.below hB9 hs1
            have hown9 : w9.ownsRow wc.heap.size 49 2 (.slice A9 c c9) c (flatR es) := own_kept' HOWN.out (only_of_below hb9 none) (fun b e => by cases e)
            obtain ⟨j0, j1, j2, j3, j4, j5, j6, j7, j8, j9, j10⟩ := pk_cells bk9
            obtain ⟨n0, n1, n2, n3, n4, n5, n6, n7, n8, n9, n10⟩ := pk_cells br9
            obtain ⟨f0, f1, f2, f3, f4, f5, f6, f7, f8, f9, f10⟩ := fz_all br9
            have BR9 := Lib.hid br9
            have HB9 := Lib.hid (HB1.out.trans (hB9.mono (Nat.le_of_lt hs1)))
            have HOWN9 := Lib.hid hown9
            have hwcs := HBC.out.size
            clear k0 k1 k2 k3 k4 k5 k6 k7 k8 k9 k10 bk9 br9 hB9 hown9 hb9 hE9
            cases hok : okP ⟨(b3 : Int), (m0 : Int), (m1 : Int), (m2 : Int), (m3 : Int), (m4 : Int), (m5 : Int), (m6 : Int), (m7 : Int), (m8 : Int), es⟩ with
            | true =>
              have HX : Hid (dec l = (⟨(b3 : Int), (m0 : Int), (m1 : Int), (m2 : Int), (m3 : Int), (m4 : Int), (m5 : Int), (m6 : Int), (m7 : Int), (m8 : Int), es⟩, 0)) := by show _ = _; rw [HDD.out, HPK2.out]; exact if_pos hok
              clear hok
              go_wp2
              refine bodyPost_ret (results_rp (p := 2) (u := 3) rfl _ _ w.heap.size ⟨(b3 : Int), (m0 : Int), (m1 : Int), (m2 : Int), (m3 : Int), (m4 : Int), (m5 : Int), (m6 : Int), (m7 : Int), (m8 : Int), es⟩ (.slice A9 c c9) rfl (pk_store BR9.out _ _ _ _ _ _ _ _ _ _ _)) rfl ⟨.slice A9 c c9, by rw [HX.out]; rfl, ?_, below_store HB9.out (Nat.le_refl _) _ _ _ _ _ _ _ _ _ _ _⟩
              rw [HX.out]
              show World.ownsRow _ w.heap.size _ 2 _ es.length (flatR es)
              rw [hesl]
              refine row_mono (B := wc.heap.size) ?_ (by omega)
              exact World.ownsRow.kept HOWN9.out (grown_store w9 w.heap.size _ _ _ _ _ _ _ _ _ _ _) (.inr fun e => by have := (HOWN9.out.lt _ e).1; omega)
            | false =>
              have HX : Hid (dec l = (zeroP, 10)) := by show _ = _; rw [HDD.out, HPK2.out]; exact if_neg (by rw [hok]; simp)
              clear hok
              go_wp2
              refine bodyPost_ret (results_rp (p := 2) (u := 3) rfl _ _ w.heap.size zeroP (.slice none 0 0) rfl (pk_store BR9.out _ _ _ _ _ _ _ _ _ _ _)) rfl ⟨.slice none 0 0, by rw [HX.out]; rfl, ?_, below_store HB9.out (Nat.le_refl _) _ _ _ _ _ _ _ _ _ _ _⟩
              rw [HX.out]
              exact World.ownsRow_nil _ _ _ _
/-- what the document's Decode comes to -/
theorem rdec_any (A : Option Addr) (n cap : Nat) (l : List UInt8) (w : World) (hl : l.length = n) (hc : n ≤ cap) (hcm : cap ≤ 9223372036854775807) (hn : n ≤ 1000000) (hr : Reads w w.heap.size A n (bs l)) :
    Calls Try.prog 19 #[.slice A n cap] w fun e w' => ∃ v, e = .returned (.tuple #[vP (dec l).1 v, .int .i64 (dec l).2]) ∧ w'.ownsRow w.heap.size 49 2 v (dec l).1.sec.length (flatR (dec l).1.sec) ∧ Below w.heap.size w w' := by
  by_cases h : chk l = 0
  · exact rdec_good A n cap l w hl hc hcm hn hr h
  · exact rdec_bad A n cap l w hl hc hcm hn hr h
end Go.Proofs.Ytneanlffllejnaa
