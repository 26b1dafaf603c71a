/-
  WHAT IS PROVED: the law NetPlays answers true for all arguments. Condition: the steps' bytes are there.
-/
import Derived.Test.YtblmfjndemfkjaaPl
import Derived.Deep.CutRange
import Derived.Deep.CutBlock
import Derived.Deep.RegionHeld3
import Derived.BigQuiet
import Derived.Deep.MidRow
namespace Go.Proofs.Ytblmfjndemfkjaa
open Go.RowKit Go.Lib
set_option maxRecDepth 100000

set_option maxHeartbeats 8000000 in
theorem plays_in (A : Option Addr) (N c : Nat) (as_ : List Ac) (x : Int) (W : World) (hr : Rd W no 5 A N (flatA as_)) (hg : ∀ a ∈ as_, a.ok W) (hN : N ≤ 100) :
    Calls Try.prog 3 #[.slice A N c, .int .i64 x] W (Says true W) := by
  obtain ⟨i0, hi0, hz0, hz1, hz2⟩ := info_parts msg_info
  have HI0 := Lib.hid hi0
  have HZ0 := Lib.hid hz0
  have HZ1 := Lib.hid hz1
  have HZ2 := Lib.hid hz2
  have HR := Lib.hid hr
  have HG := Lib.hid hg
  have d1 : decide ((100 : Int) < (N : Int)) = false := by simp; omega
  clear hr hg hi0 hz0 hz1 hz2
  go_enter Try.func3, Try.ntmps3
  go_wp2_with (fail)
  refine (anchor_any _).mono ?_
  rintro e w0 ⟨rfl, hb0⟩
  have HB0 := Lib.hid hb0
  clear hb0
  go_wp2_with (fail)
  refine (new_any w0).mono ?_
  rintro e w2 ⟨g, rfl, hn2, hb2⟩
  have P2 : Hid (Pl w0 w2 g no (.slice none 0 0) 0 [] []) := Lib.hid ⟨hn2, rfl, World.ownsRow_nil _ _ _ _, (fun b e => by simp [Value.ownBlock] at e), (fun _ hm => by cases hm), hb2⟩
  clear hn2 hb2
  go_wp2
  go_loopw [6, 31] (fun v i wr => ∃ (k r : Nat) (Lv : Option Addr) (cl : Nat) (U : Nat → Prop) (ys ls : List Ms), k ≤ N ∧ i = .int .i64 k ∧ v = .slice Lv r cl ∧ r ≤ k ∧ Pl w0 wr g U (.slice Lv r cl) r ys ls ∧ ls.map Ms.pl = ys.map Ms.pl) (fun _ i _ => N - (RowKit.intOf i).toNat)
  case atStart => exact ⟨0, 0, none, 0, no, [], [], by omega, rfl, rfl, by omega, P2.out, rfl⟩
  case round =>
    clear P2
    obtain ⟨w3, rfl⟩ : ∃ x, x = wr := ⟨_, rfl⟩
    obtain ⟨k, r, Lv, cl, U, ys, ls, hk, rfl, rfl, hrk, hp, hpy⟩ := hrel
    obtain ⟨A9, c9, e4, hrc, hcm⟩ := own_form hp.own
    injection e4 with e4 e5 e6
    subst e6
    clear e4 e5
    have P3 := Lib.hid hp
    have HPY := Lib.hid hpy
    have HLS : Hid (ls.length ≤ 100) := Lib.hid (by have h1 := congrArg List.length hpy; have h2 := hp.yl; simp at h1; omega)
    clear hp hpy
    by_cases hlt : k < N
    · obtain ⟨ad, p, rfl, hs, hbl, a0, a1, a2, a3, a4⟩ := (HR.out.below (HB0.out.trans (P3.out.bel.mono HB0.out.size))).atA hlt
      have hga := HG.out p (List.mem_of_getElem? hs)
      obtain ⟨ho, ai, mf, mt, mA, mn, mc, md⟩ := p
      unfold Ac.ok at hga
      dsimp only at a0 a1 a2 a3 a4 hga
      obtain ⟨w4, hw4⟩ : ∃ x, w3.alloc (.cells #[.int .i64 ho, .int .i64 ai, .int .i64 mf, .int .i64 mt, .slice mA mn mc] 31) = x := ⟨_, rfl⟩
      have hb4 : Below w3.heap.size w3 w4 := by rw [← hw4]; exact (Below.refl _ _).alloc (Nat.le_refl _) _
      have HYA : Hid (Blk w4 w3.heap.size 31 #[.int .i64 ho, .int .i64 ai, .int .i64 mf, .int .i64 mt, .slice mA mn mc]) := Lib.hid (by rw [← hw4]; exact Blk.new w3 _ _)
      have p4 := P3.out.grow hb4
      have HUA : Hid ((fun i => U i ∨ (w3.heap.size ≤ i ∧ i < w4.heap.size)) w3.heap.size) := Lib.hid (.inr ⟨Nat.le_refl _, HYA.out.lt⟩)
      have HB04 : Hid (Below W.heap.size W w4) := Lib.hid (HB0.out.trans (p4.bel.mono HB0.out.size))
      have HGA := Lib.hid hga
      obtain ⟨V, hV⟩ : ∃ V, (fun i => U i ∨ (w3.heap.size ≤ i ∧ i < w4.heap.size)) = V := ⟨_, rfl⟩
      rw [hV] at p4 HUA
      have P := Lib.hid p4
      clear hs hb4 p4 hV hga
      have c0 := HYA.out.cell 0
      have c1 := HYA.out.cell 1
      have c2 := HYA.out.cell 2
      have c3 := HYA.out.cell 3
      have c4 := HYA.out.cell 4
      simp at c0 c1 c2 c3 c4
      by_cases hm : mn ≤ 300
      · go_upto_region 12 with (fail)
        go_cut [9] from 40 to 50 (fun q9 wx => q9 = .bool (inB ls ai) ∧ wx = w4)
        case first =>
          obtain ⟨y, hy⟩ : ∃ y, decide (ai < (r : Int)) = y := ⟨_, rfl⟩
          have hlr : ls.length = r := by have h1 := congrArg List.length HPY.out; have h2 := P.out.yl; simp at h1; omega
          by_cases h0 : 0 ≤ ai
          · have h1 : decide (0 ≤ ai) = true := decide_eq_true h0
            have HI : Hid (inB ls ai = y) := Lib.hid (by rw [← hy]; unfold inB; rw [hlr]; simp [h0])
            clear h0 hlr
            go_wp2
            go_meet
            exact ⟨by rw [HI.out], rfl⟩
          · have h1 : decide (0 ≤ ai) = false := decide_eq_false h0
            have HI : Hid (inB ls ai = false) := Lib.hid (by unfold inB; simp [h0])
            clear h0 hlr
            go_wp2
            go_meet
            exact ⟨by rw [HI.out], rfl⟩
        case rest =>
          obtain ⟨rfl, hwc⟩ := hcut
          obtain rfl : w4 = wc := hwc.symm
          obtain ⟨bi, HBI⟩ : ∃ b, Hid (inB ls ai = b) := ⟨_, Lib.hid rfl⟩
          rw [HBI.out]
          clear a0 a1 a2 a3 a4
          go_upto_block 2 with (fail)
          go_cut [6, 10, 11, 12, 13] from 52 to 156 (fun q6 _ _ _ _ wx => ∃ (r' : Nat) (Lv' : Option Addr) (cl' : Nat) (V' : Nat → Prop) (ys' ls' : List Ms), q6 = .slice Lv' r' cl' ∧ r' ≤ k + 1 ∧ Pl w0 wx g V' (.slice Lv' r' cl') r' ys' ls' ∧ ls'.map Ms.pl = ys'.map Ms.pl)
          case first =>
            by_cases x1 : ho = 1
            · subst x1
              obtain ⟨w5, hw5⟩ : ∃ x, w4.alloc (.cells #[.int .i64 mf, .int .i64 mt, .slice mA mn mc] 29) = x := ⟨_, rfl⟩
              have hb45 : Below w4.heap.size w4 w5 := by rw [← hw5]; exact (Below.refl _ _).alloc (Nat.le_refl _) _
              have HS5 : Hid (w5.heap.size = w4.heap.size + 1) := Lib.hid (by rw [← hw5]; simp)
              have hbx5 : Bx w5 w4.heap.size ⟨mf, mt, mA, mn, mc, md⟩ := by rw [← hw5]; exact Bx.new w4 ⟨mf, mt, mA, mn, mc, md⟩
              have hal : Below w5.heap.size w5 (w5.alloc (.cells #[] 5)) := (Below.refl _ _).alloc (Nat.le_refl _) _
              have hbx6 := hbx5.later hal
              obtain ⟨b0, b1, b2⟩ := hbx6.cells
              dsimp only at b0 b1 b2
              have HB45 := Lib.hid hb45
              have HAL := Lib.hid hal
              have HBX6 := Lib.hid hbx6
              have HRD : Hid (Rd (w5.alloc (.cells #[] 5)) no 1 mA mn (bs md)) := Lib.hid (((HGA.out.1.below HB04.out).below hb45).below hal)
              have HMK : Hid ((w5.alloc (.cells #[] 5)).ownsRow w5.heap.size 5 1 (.slice (some ⟨w5.heap.size, 0, none⟩) 0 0) 0 []) := Lib.hid (World.ownsRow_made w5 #[] 0 (Nat.le_refl _) (Nat.zero_le _) rfl)
              clear hb45 hbx5 hal hbx6
              obtain ⟨i8, hi8, hz80, hz81, hz82⟩ := info_parts u8_info
              have HI8 := Lib.hid hi8
              have HZ80 := Lib.hid hz80
              have HZ81 := Lib.hid hz81
              have HZ82 := Lib.hid hz82
              clear hi8 hz80 hz81 hz82
              go_upto_region 17 with (at_builtin; refine wpList_append_rd _ rfl (.tmp 56) (.tmp 58) 27 rfl w5.heap.size 5 i8 _ 1 1 Try.underlying27 HI8.out HZ80.out HZ81.out HZ82.out rfl (by omega) (.slice (some ⟨w5.heap.size, 0, none⟩) 0 0) 0 [] rfl HMK.out no mA mn mc (bs md) rfl HRD.out (bs_one _) (by unfold maxLen; omega) (by omega) (by simp) ?_; intro v7 w7 ho7 hg7 _; rw [Nat.zero_add, List.nil_append] at ho7; obtain ⟨A7, c7, rfl, hc7, hcm7⟩ := own_form ho7; have HO7 := Lib.hid ho7; have HB57 : Hid (Below w5.heap.size w5 w7) := Lib.hid (HAL.out.grown hg7 HAL.out.size (fun k hk => by simp [Value.ownBlock] at hk; omega)); have hbx7 : Bx w7 w4.heap.size ⟨mf, mt, mA, mn, mc, md⟩ := Blk.grown HBX6.out hg7 (by simp [Value.ownBlock]; have := HS5.out; omega); obtain ⟨g0, g1, g2⟩ := hbx7.cells; dsimp only at g0 g1 g2; have k2 := hbx7.fz 2; have HBX7 := Lib.hid hbx7; clear ho7 hg7 hbx7 b0 b1 b2)
              obtain ⟨w8, hw8⟩ : ∃ x, w7.setCell ⟨w4.heap.size, 2, none⟩ (.slice A7 mn c7) = x := ⟨_, rfl⟩
              rw [hw8]
              have hb8 : Below w4.heap.size w4 w8 := by rw [← hw8]; exact below_set (HB45.out.trans (HB57.out.mono HB45.out.size)) (Nat.le_refl _) _
              have hbx8 : Bx w8 w4.heap.size ⟨mf, mt, A7, mn, c7, md⟩ := by rw [← hw8]; exact HBX7.out.set2 A7 mn c7 md
              have hod8 : OwnD w8 w5.heap.size ⟨mf, mt, A7, mn, c7, md⟩ := ⟨by rw [← hw8]; exact own_turn HO7.out (Turn.set_ (F := fun i => i = w4.heap.size) _ rfl) (fun k hk e => by have h1 := (HO7.out.lt k hk).1; have h2 := HS5.out; omega), hc7, hcm7, (by show mn ≤ 1000000; omega)⟩
              have P8 := Lib.hid (P.out.grow hb8)
              have HB8 := Lib.hid hb8
              have HBX8 := Lib.hid hbx8
              have HOD8 := Lib.hid hod8
              have HU8 : Hid (∀ i, w4.heap.size ≤ i → i < w8.heap.size → (fun i => V i ∨ (w4.heap.size ≤ i ∧ i < w8.heap.size)) i) := Lib.hid (fun i h1 h2 => .inr ⟨h1, h2⟩)
              obtain ⟨U8, hU8⟩ : ∃ V8, (fun i => V i ∨ (w4.heap.size ≤ i ∧ i < w8.heap.size)) = V8 := ⟨_, rfl⟩
              rw [hU8] at P8 HU8
              have HYA8 : Hid (Blk w8 w3.heap.size 31 #[.int .i64 1, .int .i64 ai, .int .i64 mf, .int .i64 mt, .slice mA mn mc]) := Lib.hid (HYA.out.below hb8 HYA.out.lt)
              have HUA8 : Hid (U8 w3.heap.size) := Lib.hid (by rw [← hU8]; exact .inl HUA.out)
              clear hb8 hbx8 hod8 hw8 hU8 g0 g1 g2 k2 c0 c1 c2 c3 c4 hw5
              obtain ⟨b0, b1, b2⟩ := HBX8.out.cells
              dsimp only at b0 b1 b2
              go_wp2_with (fail)
              refine (put_yes w0.heap.size g U8 ls 0 w8 P8.out.nt ⟨mf, mt, A7, mn, c7, md⟩ no (HOD8.out.good (fun _ f => f.elim)) (by have := HLS.out; omega)).mono ?_
              rintro e w9 ⟨m1, hm1, rfl, hn9, ht9⟩
              have P9 := Lib.hid (P8.out.net ht9 hn9)
              have HM1 := Lib.hid hm1
              have hin : ∀ i, w4.heap.size ≤ i → i < w8.heap.size → ¬ Vf w0.heap.size U8 i := fun i h1 h2 f => f.2 (HU8.out i h1 h2)
              have HBX9 : Hid (Bx w9 w4.heap.size ⟨mf, mt, A7, mn, c7, md⟩) := Lib.hid (HBX8.out.turn ht9 (hin _ (Nat.le_refl _) HBX8.out.lt))
              have HYA9 := Lib.hid (HYA8.out.turn ht9 (fun f => f.2 HUA8.out))
              have HOD9 : Hid (OwnD w9 w5.heap.size ⟨mf, mt, A7, mn, c7, md⟩) := Lib.hid ⟨own_turn HOD8.out.own ht9 (fun k hk => hin k (by have h1 := (HOD8.out.own.lt k hk).1; have h2 := HB45.out.size; omega) (HOD8.out.own.lt k hk).2), HOD8.out.nc, HOD8.out.cm, HOD8.out.sz⟩
              have HUB9 : Hid (∀ k, (Value.slice A7 mn c7).ownBlock = some k → U8 k ∧ w0.heap.size ≤ k ∧ k ≠ w4.heap.size ∧ k ≠ w3.heap.size) := Lib.hid (fun k hk => by
                have h1 := (HOD8.out.own.lt k hk).1
                have h2 := HB45.out.size
                have h3 := HS5.out
                have h4 := P.out.bel.size
                exact ⟨HU8.out k (by omega) (HOD8.out.own.lt k hk).2, by omega, by omega, by have := HYA.out.lt; omega⟩)
              clear hm1 hn9 ht9 hin b0 b1 b2
              obtain ⟨b0, b1, b2⟩ := HBX9.out.cells
              dsimp only at b0 b1 b2
              go_wp2
              go_loopw [68] (fun i wr => ∃ (j : Nat) (d' : List UInt8), j ≤ mn ∧ i = .int .i64 j ∧ Pl w0 wr g U8 (.slice Lv r cl) r ys (ls ++ [m1]) ∧ OwnD wr w5.heap.size ⟨mf, mt, A7, mn, c7, d'⟩ ∧ Bx wr w4.heap.size ⟨mf, mt, A7, mn, c7, md⟩ ∧ Blk wr w3.heap.size 31 #[.int .i64 1, .int .i64 ai, .int .i64 mf, .int .i64 mt, .slice mA mn mc] ∧ Below w0.heap.size w0 wr) (fun i _ => mn - (RowKit.intOf i).toNat)
              case atStart => exact ⟨0, md, by omega, rfl, P9.out, HOD9.out, HBX9.out, HYA9.out, P9.out.bel⟩
              case round =>
                clear P8 HBX8 HYA8 HOD8 P9 HBX9 HYA9 HOD9 b0 b1 b2
                obtain ⟨w10, rfl⟩ : ∃ x, x = wr := ⟨_, rfl⟩
                obtain ⟨j, d', hj, rfl, hp, hod, hbx, hya, hbe⟩ := hrel
                have P10 := Lib.hid hp
                have HOD10 := Lib.hid hod
                have HBX10 := Lib.hid hbx
                have HYA10 := Lib.hid hya
                obtain ⟨b0, b1, b2⟩ := hbx.cells
                dsimp only at b0 b1 b2
                clear hp hod hbx hya hbe
                by_cases hjl : j < mn
                · obtain ⟨bd, z, hA7, hlo, hhi, hob, hcell, hfz, hadd⟩ := HOD10.out.at_ (j := j) hjl
                  dsimp only at hA7 hob
                  have hub := HUB9.out bd hob
                  obtain ⟨d2, hod2⟩ := HOD10.out.byte bd j (z ^^^ 255)
                  have hrn := row_not_bytes HOD10.out P10.out.own hob
                  have HP2 := Lib.hid (P10.out.side (b := bd) (Turn.set_ (p := ⟨bd, j, none⟩) (.int .u8 ((z ^^^ 255).toNat : Int)) rfl) hub.1 hrn hub.2.1)
                  have HBX2 : Hid (Bx (w10.setCell ⟨bd, j, none⟩ (.int .u8 ((z ^^^ 255).toNat : Int))) w4.heap.size ⟨mf, mt, A7, mn, c7, md⟩) := Lib.hid (Blk.far HBX10.out (fun e => hub.2.2.1 e.symm) _)
                  have HYA2 := Lib.hid (Blk.far HYA10.out (p := ⟨bd, j, none⟩) (fun e => hub.2.2.2 e.symm) (.int .u8 ((z ^^^ 255).toNat : Int)))
                  have HOD2 := Lib.hid hod2
                  obtain ⟨zi, hzi⟩ : ∃ x : Int, ((z ^^^ 255).toNat : Int) = x := ⟨_, rfl⟩
                  have hfl := flip_bits z
                  rw [hzi] at hfl HP2 HBX2 HYA2 HOD2
                  obtain ⟨zz, hzz⟩ : ∃ x : Int, (z.toNat : Int) = x := ⟨_, rfl⟩
                  rw [hzz] at hfl hcell
                  have q1 : (j : Int) < (mn : Int) := by omega
                  have q0 : (0 : Int) ≤ (j : Int) := by omega
                  rw [hadd] at hcell hfz
                  subst hA7
                  clear hzi hzz hub hod2 hrn hlo hhi hob
                  go_wp2
                  go_roundw
                  case rel => exact ⟨j + 1, d2, by omega, by go_num, HP2.out, HOD2.out, HBX2.out, HYA2.out, HP2.out.bel⟩
                  case measure => simp [RowKit.intOf]; omega
                · obtain rfl : j = mn := by omega
                  have c2 := HYA10.out.cell 2
                  have c3 := HYA10.out.cell 3
                  have c4 := HYA10.out.cell 4
                  simp at c2 c3 c4
                  have hal : Below w10.heap.size w10 (w10.alloc (.cells #[.int .i64 mf, .int .i64 mt, .slice mA j mc] 29)) := (Below.refl _ _).alloc (Nat.le_refl _) _
                  have P11 := Lib.hid (P10.out.grow hal)
                  have HON := Lib.hid (rd_msg w10 ⟨mf, mt, mA, j, mc, md⟩)
                  simp only at HON
                  have hg4 : Good w4 no ⟨mf, mt, mA, j, mc, md⟩ := ⟨HGA.out.1.below HB04.out, HGA.out.2.1, HGA.out.2.2, by show j ≤ 1000000; omega⟩
                  have hgm : Good (w10.alloc (.cells #[.int .i64 mf, .int .i64 mt, .slice mA j mc] 29)) (fun i => w0.heap.size ≤ i) ⟨mf, mt, mA, j, mc, md⟩ := by
                    have hgw : Good w0 (fun i => w0.heap.size ≤ i) ⟨mf, mt, mA, j, mc, md⟩ := ⟨(HGA.out.1.below HB0.out).weak (fun i hi f => by omega), HGA.out.2.1, HGA.out.2.2, by show j ≤ 1000000; omega⟩
                    exact hgw.turn (Turn.of_below P11.out.bel _) (Sub.refl _ _)
                  have HGD : Hid (∀ m ∈ ys ++ [⟨mf, mt, mA, j, mc, md⟩], Good (w10.alloc (.cells #[.int .i64 mf, .int .i64 mt, .slice mA j mc] 29)) (fun i => w0.heap.size ≤ i) m) := Lib.hid (fun m hm => by
                    rcases List.mem_append.1 hm with hm | hm
                    · exact P11.out.gd m hm
                    · rw [List.mem_singleton.1 hm]; exact hgm)
                  have HBL := Lib.hid (Nat.le_trans P11.out.bel.size (Nat.le_refl _))
                  clear hal hg4 hgm
                  go_wp2_with (at_builtin; refine wpList_append_rd _ rfl (.tmp 79) (.tmp 82) 26 rfl w0.heap.size 29 i0 _ 3 40 Try.underlying26 HI0.out HZ0.out HZ1.out HZ2.out rfl (by omega) (.slice Lv r cl) r (flatM ys) rfl P11.out.own no (some ⟨w10.heap.size, 0, none⟩) 1 1 (flatM [⟨mf, mt, mA, j, mc, md⟩]) rfl HON.out (flatM_one _) (by unfold maxLen; omega) (by omega) HBL.out ?_; intro v12 w12 ho12 hg12 hat12; rw [← flatM_append] at ho12; have HP12 := Lib.hid (P11.out.relist hg12 ho12 (hat12.imp id (fun h b e => by rw [h] at e; injection e with e; omega)) (by rw [List.length_append, P11.out.yl]; rfl) HGD.out); obtain ⟨A12, c12, rfl, _, _⟩ := own_form ho12; clear ho12 hg12 hat12)
                  go_meet
                  exact ⟨r + 1, A12, c12, _, _, _, rfl, by omega, HP12.out, by rw [List.map_append, List.map_append, HPY.out]; show _ ++ [m1.pl] = _; rw [HM1.out]; rfl⟩

            have q1 : (ho == 1) = false := by simpa using x1
            by_cases x2 : ho = 2
            · subst x2
              clear x1 q1
              cases bi
              · go_wp2_with (fail)
                refine (take_no w0.heap.size g V ls 0 _ P.out.nt ai HBI.out).mono ?_
                rintro e w6 ⟨rfl, hb6⟩
                have hb67 : Below w6.heap.size w6 (w6.alloc (.cells #[.int .i64 0, .int .i64 0, .slice none 0 0] 29)) := (Below.refl _ _).alloc (Nat.le_refl _) _
                have hz7 : Bx (w6.alloc (.cells #[.int .i64 0, .int .i64 0, .slice none 0 0] 29)) w6.heap.size zM := Bx.new w6 zM
                have hb47 := hb6.trans (hb67.mono hb6.size)
                obtain ⟨r0, r1, r2⟩ := hz7.cells
                dsimp only [zM] at r0 r1 r2
                have R0 : ∀ q : Later (w6.alloc (.cells #[.int .i64 0, .int .i64 0, .slice none 0 0] 29)), q.now.cell? ⟨w6.heap.size, 0, none⟩ = some (.int .i64 0) := fun q => q.cell r0
                have R1 : ∀ q : Later (w6.alloc (.cells #[.int .i64 0, .int .i64 0, .slice none 0 0] 29)), q.now.cell? ⟨w6.heap.size, 1, none⟩ = some (.int .i64 0) := fun q => q.cell r1
                have R2 : ∀ q : Later (w6.alloc (.cells #[.int .i64 0, .int .i64 0, .slice none 0 0] 29)), q.now.cell? ⟨w6.heap.size, 2, none⟩ = some (.slice none 0 0) := fun q => q.cell r2
                have HB47 := Lib.hid hb47
                clear hb6 hb67 hz7 hb47 r0 r1 r2
                go_wp2
                refine wp_region_later (by kernel_rfl) (by kernel_rfl) ?_
                repeat (go_big_quiet_step (first | fail))
                refine wpQuiet_nil ?_
                intro _ hw'
                obtain ⟨pr, hw''⟩ := hw'
                subst hw''
                have HB48 := Lib.hid (HB47.out.trans (pr.below.mono HB47.out.size))
                go_wp2
                go_meet
                exact ⟨r, Lv, cl, _, ys, ls, rfl, by omega, P.out.grow HB48.out, HPY.out⟩
              · have hlr : ls.length = r := by have h1 := congrArg List.length HPY.out; have h2 := P.out.yl; simp at h1; omega
                obtain ⟨kk, hkr, rfl⟩ : ∃ kk : Nat, kk < r ∧ ai = (kk : Int) := by
                  have hq := HBI.out
                  unfold inB at hq
                  rw [hlr] at hq
                  simp at hq
                  exact ⟨ai.toNat, by omega, by omega⟩
                obtain ⟨mz, hmz⟩ : ∃ m, ls[kk]? = some m := ⟨_, List.getElem?_eq_getElem (by rw [hlr]; exact hkr)⟩
                obtain ⟨zf, zt, zA, zn, zc, zd⟩ := mz
                have HMZ := Lib.hid hmz
                have HLR := Lib.hid hlr
                clear hmz hlr HBI
                go_wp2_with (fail)
                refine (take_yes w0.heap.size g V ls 0 _ P.out.nt kk ⟨zf, zt, zA, zn, zc, zd⟩ HMZ.out).mono ?_
                rintro e w6 ⟨rfl, hn6, ht6, hg6⟩
                have p6 := P.out.net ht6 hn6
                have hya6 := HYA.out.turn ht6 (fun f => f.2 HUA.out)
                obtain ⟨w7, hw7⟩ : ∃ x, w6.alloc (.cells #[.int .i64 zf, .int .i64 zt, .slice zA zn zc] 29) = x := ⟨_, rfl⟩
                have hb67 : Below w6.heap.size w6 w7 := by rw [← hw7]; exact (Below.refl _ _).alloc (Nat.le_refl _) _
                have hz7 : Bx w7 w6.heap.size ⟨zf, zt, zA, zn, zc, zd⟩ := by rw [← hw7]; exact Bx.new w6 ⟨zf, zt, zA, zn, zc, zd⟩
                have P7 := Lib.hid (p6.grow hb67)
                have hya7 := hya6.below hb67 hya6.lt
                have c1 := hya7.cell 1
                simp at c1
                have hr7 : Rd w7 no 3 Lv r (flatM ys) := Rd.of_own P7.out.own rfl (fun _ _ f => f.elim)
                obtain ⟨ad2, p, hLv, hp, hbl2, _, e0, e1, e2⟩ := hr7.atM hkr
                subst hLv
                have hpl : (⟨zf, zt, zA, zn, zc, zd⟩ : Ms).pl = p.pl := by
                  have h1 : (ls.map Ms.pl)[kk]? = some (⟨zf, zt, zA, zn, zc, zd⟩ : Ms).pl := by rw [List.getElem?_map, HMZ.out]; rfl
                  have h2 : (ys.map Ms.pl)[kk]? = some p.pl := by rw [List.getElem?_map, hp]; rfl
                  rw [HPY.out, h2] at h1
                  injection h1 with h1
                  exact h1.symm
                have hsm := samB_pl hpl
                have hgz := hg6.below hb67
                have hgp := P7.out.gd p (List.mem_of_getElem? hp)
                obtain ⟨pf, pt, pA, pn, pc, pd⟩ := p
                dsimp only at e0 e1 e2
                obtain ⟨r0, r1, r2⟩ := hz7.cells
                dsimp only at r0 r1 r2
                have HSM : Hid (∀ p : Later w7, Calls Try.prog 10 #[.agg #[.int .i64 zf, .int .i64 zt, .slice zA zn zc], .agg #[.int .i64 pf, .int .i64 pt, .slice pA pn pc]] p.now fun e w' => e = .returned (.bool true) ∧ Below p.now.heap.size p.now w') :=
                  Lib.hid (fun p => (same_any ⟨zf, zt, zA, zn, zc, zd⟩ ⟨pf, pt, pA, pn, pc, pd⟩ _ _ _ (hgz.below p.below) (hgp.below p.below)).mono fun _ _ h => ⟨by rw [← hsm]; exact h.1, h.2⟩)
                have R0 : ∀ q : Later w7, q.now.cell? ⟨w6.heap.size, 0, none⟩ = some (.int .i64 zf) := fun q => q.cell r0
                have R1 : ∀ q : Later w7, q.now.cell? ⟨w6.heap.size, 1, none⟩ = some (.int .i64 zt) := fun q => q.cell r1
                have R2 : ∀ q : Later w7, q.now.cell? ⟨w6.heap.size, 2, none⟩ = some (.slice zA zn zc) := fun q => q.cell r2
                have C0 : ∀ q : Later w7, q.now.cell? (ad2.add (kk * 3)) = some (.int .i64 pf) := fun q => q.cell e0
                have C1 : ∀ q : Later w7, q.now.cell? ⟨(ad2.add (kk * 3)).block, (ad2.add (kk * 3)).off + 1, none⟩ = some (.int .i64 pt) := fun q => q.cell e1
                have C2 : ∀ q : Later w7, q.now.cell? ⟨(ad2.add (kk * 3)).block, (ad2.add (kk * 3)).off + 2, none⟩ = some (.slice pA pn pc) := fun q => q.cell e2
                have CI : ∀ q : Later w7, q.now.cell? ⟨w3.heap.size, 1, none⟩ = some (.int .i64 (kk : Int)) := fun q => q.cell c1
                have l1 : (kk : Int) < (r : Int) := by omega
                have l0 : (0 : Int) ≤ (kk : Int) := by omega
                clear hn6 ht6 hg6 p6 hya6 hb67 hz7 hr7 hp hpl hsm hgz hgp hbl2 r0 r1 r2 e0 e1 e2 c1
                go_wp2
                refine wp_region_later (by kernel_rfl) (by kernel_rfl) ?_
                repeat (go_big_quiet_step (first | (go_at_call 10; with_reducible exact Later.calls (HSM.out _)) | fail))
                refine wpQuiet_nil ?_
                intro _ hw'
                obtain ⟨pr, hw''⟩ := hw'
                subst hw''
                have hb8 := pr.below
                have c1 := CI pr
                generalize pr.now = w8 at *
                have P8 := Lib.hid (P7.out.grow hb8)
                have HCI : Hid (∀ w', Below w8.heap.size w8 w' → w'.cell? ⟨w3.heap.size, 1, none⟩ = some (.int .i64 (kk : Int))) := Lib.hid (fun w' hb => (hb.cell (lt_of_cell c1)).trans c1)
                have hr8 : Rd w8 no 3 (some ad2) r (flatM ys) := Rd.of_own P8.out.own rfl (fun _ _ f => f.elim)
                have HTK : Hid (∀ w', Below w8.heap.size w8 w' → Rd w' no 3 (some ad2) kk (flatM (ys.take kk))) := Lib.hid (fun w' hb => (hr8.below hb).takeM (by omega))
                have HDR : Hid (∀ w', Below w8.heap.size w8 w' → Rd w' no 3 (if cl = kk + 1 then some ad2 else (some ad2).map (·.add ((kk + 1) * 3))) (r - (kk + 1)) (flatM (ys.drop (kk + 1)))) := Lib.hid (fun w' hb => (hr8.below hb).dropM (by omega) hrc)
                have HW0 : Below w8.heap.size w8 w8.drew := (Below.refl _ _).drew
                have HW1 : Below w8.heap.size w8 (w8.drew.alloc (.cells #[] 29)) := ((Below.refl _ _).drew).alloc (Nat.le_refl _) _
                have HBB : Hid (∀ wx, (w8.drew.alloc (.cells #[] 29)).grownBy wx (some w8.heap.size) → Below w8.heap.size w8 wx) := Lib.hid (fun wx hg => HW1.grown hg HW1.size (fun k hk => by injection hk with hk; omega))
                have k1 : IntKind.i64.wrap ((kk : Int) + 1) = (kk : Int) + 1 := by rw [IntKind.wrap_i64]; omega
                have k2 : (kk : Int) + 1 ≤ (r : Int) := by omega
                have k3 : (kk : Int) ≤ (cl : Int) := by omega
                have k4 : (0 : Int) ≤ (kk : Int) + 1 := by omega
                have k5 : ((kk : Int) + 1).toNat = kk + 1 := by omega
                have k6 : (r : Int) ≤ (cl : Int) := by omega
                have k7 : ¬ cl = 0 := by omega
                have k8 : kk ≤ cl := by omega
                have k9 : kk ≤ r := by omega
                have k10 : (0 : Int) ≤ (cl : Int) := by omega
                have k11 : kk + 1 ≤ r := by omega
                have HWO : Hid ((without ys kk).length + 1 = r) := Lib.hid (by have h1 := without_len (l := ys) (i := kk) (by rw [P8.out.yl]; exact hkr); have h2 := P8.out.yl; omega)
                have HPW : Hid ((without ls kk).map Ms.pl = (without ys kk).map Ms.pl) := Lib.hid (by unfold without; rw [List.map_append, List.map_append, List.map_take, List.map_drop, List.map_take, List.map_drop, HPY.out])
                clear hb8 hr8 R0 R1 R2 C0 C1 C2 CI HSM c1
                by_cases hck : cl = kk + 1
                · have HDR0 : Hid (∀ w', Below w8.heap.size w8 w' → Rd w' no 3 (some ad2) 0 (flatM (ys.drop (kk + 1)))) := Lib.hid (fun w' hb => by have h1 := HDR.out w' hb; rw [if_pos hck, show r - (kk + 1) = 0 by omega] at h1; exact h1)
                  obtain ⟨q, hq⟩ : ∃ q, kk + 1 = q := ⟨_, rfl⟩
                  obtain rfl : r = q := by omega
                  obtain rfl : cl = r := by omega
                  have m1 : IntKind.i64.wrap ((kk : Int) + 1) = (cl : Int) := by rw [k1]; omega
                  have m2 : (kk : Int) ≤ (cl : Int) := by omega
                  rw [hq] at k11
                  clear k1 k2 k4 k5 k9
                  have HQ := Lib.hid hq
                  have HRN : Hid (kk + 0 = kk) := Lib.hid rfl
                  clear hq hck
                  go_wp2
                  go_region_held3 (fun w' => w'.cell? ⟨w3.heap.size, 1, none⟩ = some (.int .i64 (kk : Int))) (first | exact HCI.out _ HW0 | exact HCI.out _ HW1 | exact HCI.out _ HB4 | exact HCI.out _ HB5 | fail) (first | ((refine step_append_rd _ (by rfl) (.tmp 125) (.tmp 129) 26 (by rfl) w8.heap.size 29 i0 _ 3 40 Try.underlying26 HI0.out HZ0.out HZ1.out HZ2.out (by rfl) (by omega) _ 0 [] (by rfl) (World.ownsRow_made w8.drew #[] 0 (Nat.le_refl _) (Nat.zero_le _) rfl) no (some ad2) kk cl (flatM (ys.take kk)) (by rfl) (HTK.out _ HW1) (flatM_one _) (by unfold maxLen; omega) (by omega) (by simp) ?_; intro vx4 wx4 hown4 hg4 _; simp only [Nat.zero_add, List.nil_append] at hown4; have HO4 := Lib.hid hown4; have HB4 := HBB.out wx4 hg4; clear hown4 hg4)) | ((refine step_append_rd _ (by rfl) (.tmp 130) (.tmp 135) 26 (by rfl) w8.heap.size 29 i0 _ 3 40 Try.underlying26 HI0.out HZ0.out HZ1.out HZ2.out (by rfl) (by omega) _ kk _ (by rfl) HO4.out no (some ad2) 0 0 (flatM (ys.drop (kk + 1))) (by rfl) (HDR0.out _ HB4) (flatM_one _) (by unfold maxLen; omega) (by omega) HB4.size ?_; intro vx5 wx5 hown5 hg5 _; have HB5 : Below w8.heap.size w8 wx5 := HB4.grown hg5 HB4.size (fun j e => (HO4.out.lt j e).1); rw [← flatM_append, HRN.out] at hown5; obtain ⟨A5, c5, rfl, hc5, hcm5⟩ := own_form hown5; have HO5 := Lib.hid hown5; clear hown5 hg5)) | fail)
                  go_wp2
                  go_meet
                  exact ⟨kk, A5, c5, _, without ys kk, without ls kk, rfl, by have := HQ.out; omega, P8.out.newlist HB5 HO5.out (by have h1 := HWO.out; have h2 := HQ.out; omega) (fun m hm => P8.out.gd m (without_mem hm)), HPW.out⟩
                · rw [if_neg hck] at HDR
                  obtain ⟨q, hq⟩ : ∃ q, kk + (r - (kk + 1)) = q := ⟨_, rfl⟩
                  have HRN := Lib.hid hq
                  have HQ : Hid (q + 1 = r) := Lib.hid (by omega)
                  clear hq
                  go_wp2
                  go_region_held3 (fun w' => w'.cell? ⟨w3.heap.size, 1, none⟩ = some (.int .i64 (kk : Int))) (first | exact HCI.out _ HW0 | exact HCI.out _ HW1 | exact HCI.out _ HB4 | exact HCI.out _ HB5 | fail) (first | ((refine step_append_rd _ (by rfl) (.tmp 125) (.tmp 129) 26 (by rfl) w8.heap.size 29 i0 _ 3 40 Try.underlying26 HI0.out HZ0.out HZ1.out HZ2.out (by rfl) (by omega) _ 0 [] (by rfl) (World.ownsRow_made w8.drew #[] 0 (Nat.le_refl _) (Nat.zero_le _) rfl) no (some ad2) kk cl (flatM (ys.take kk)) (by rfl) (HTK.out _ HW1) (flatM_one _) (by unfold maxLen; omega) (by omega) (by simp) ?_; intro vx4 wx4 hown4 hg4 _; simp only [Nat.zero_add, List.nil_append] at hown4; have HO4 := Lib.hid hown4; have HB4 := HBB.out wx4 hg4; clear hown4 hg4)) | ((refine step_append_rd _ (by rfl) (.tmp 130) (.tmp 135) 26 (by rfl) w8.heap.size 29 i0 _ 3 40 Try.underlying26 HI0.out HZ0.out HZ1.out HZ2.out (by rfl) (by omega) _ kk _ (by rfl) HO4.out no (some (ad2.add ((kk + 1) * 3))) (r - (kk + 1)) (cl - (kk + 1)) (flatM (ys.drop (kk + 1))) (by rfl) (HDR.out _ HB4) (flatM_one _) (by unfold maxLen; omega) (by omega) HB4.size ?_; intro vx5 wx5 hown5 hg5 _; have HB5 : Below w8.heap.size w8 wx5 := HB4.grown hg5 HB4.size (fun j e => (HO4.out.lt j e).1); rw [← flatM_append, HRN.out] at hown5; obtain ⟨A5, c5, rfl, hc5, hcm5⟩ := own_form hown5; have HO5 := Lib.hid hown5; clear hown5 hg5)) | fail)
                  go_wp2
                  go_meet
                  exact ⟨q, A5, c5, _, without ys kk, without ls kk, rfl, by have := HQ.out; omega, P8.out.newlist HB5 HO5.out (by have h1 := HWO.out; have h2 := HQ.out; omega) (fun m hm => P8.out.gd m (without_mem hm)), HPW.out⟩

            have q2 : (ho == 2) = false := by simpa using x2
            by_cases x3 : ho = 3
            · subst x3
              clear x1 x2 q1 q2
              cases bi
              · go_wp2_with (fail)
                refine (double_no w0.heap.size g V ls 0 _ P.out.nt ai (.inl HBI.out)).mono ?_
                rintro e w6 ⟨rfl, rfl⟩
                go_wp2
                go_meet
                exact ⟨r, Lv, cl, V, ys, ls, rfl, by omega, P.out, HPY.out⟩
              · have hlr : ls.length = r := by have h1 := congrArg List.length HPY.out; have h2 := P.out.yl; simp at h1; omega
                obtain ⟨kk, hkr, rfl⟩ : ∃ kk : Nat, kk < r ∧ ai = (kk : Int) := by
                  have hq := HBI.out
                  unfold inB at hq
                  rw [hlr] at hq
                  simp at hq
                  exact ⟨ai.toNat, by omega, by omega⟩
                obtain ⟨mz, hmz⟩ : ∃ m, ls[kk]? = some m := ⟨_, List.getElem?_eq_getElem (by rw [hlr]; exact hkr)⟩
                have HMZ := Lib.hid hmz
                clear hmz hlr HBI
                go_wp2_with (fail)
                refine (double_yes w0.heap.size g V ls 0 _ P.out.nt kk mz HMZ.out (by have := HLS.out; omega)).mono ?_
                rintro e w6 ⟨m1, hm1, rfl, hn6, ht6⟩
                have P6 := Lib.hid (P.out.net ht6 hn6)
                have hya6 := HYA.out.turn ht6 (fun f => f.2 HUA.out)
                have c1 := hya6.cell 1
                simp at c1
                have hr6 : Rd w6 no 3 Lv r (flatM ys) := Rd.of_own P6.out.own rfl (fun _ _ f => f.elim)
                obtain ⟨ad2, p, hLv, hp, hbl2, _, e0, e1, e2⟩ := hr6.atM hkr
                subst hLv
                have hpl : m1.pl = p.pl := by
                  have h1 : (ls.map Ms.pl)[kk]? = some mz.pl := by rw [List.getElem?_map, HMZ.out]; rfl
                  have h2 : (ys.map Ms.pl)[kk]? = some p.pl := by rw [List.getElem?_map, hp]; rfl
                  rw [HPY.out, h2] at h1
                  injection h1 with h1
                  exact hm1.trans h1.symm
                have hgp := P6.out.gd p (List.mem_of_getElem? hp)
                obtain ⟨pf, pt, pA, pn, pc, pd⟩ := p
                dsimp only at e0 e1 e2
                have HPL := Lib.hid hpl
                have HGP : Hid (∀ m ∈ ys ++ [⟨pf, pt, pA, pn, pc, pd⟩], Good w6 (fun i => w0.heap.size ≤ i) m) := Lib.hid (fun m hm => by
                  rcases List.mem_append.1 hm with hm | hm
                  · exact P6.out.gd m hm
                  · rw [List.mem_singleton.1 hm]; exact hgp)
                have l1 : (kk : Int) < (r : Int) := by omega
                have l0 : (0 : Int) ≤ (kk : Int) := by omega
                have HCI : Hid (∀ w', Below w6.heap.size w6 w' → w'.cell? ⟨w3.heap.size, 1, none⟩ = some (.int .i64 (kk : Int)) ∧ w'.cell? (ad2.add (kk * 3)) = some (.int .i64 pf) ∧ w'.cell? ⟨(ad2.add (kk * 3)).block, (ad2.add (kk * 3)).off + 1, none⟩ = some (.int .i64 pt) ∧ w'.cell? ⟨(ad2.add (kk * 3)).block, (ad2.add (kk * 3)).off + 2, none⟩ = some (.slice pA pn pc)) := Lib.hid (fun w' hb => ⟨(hb.cell (lt_of_cell c1)).trans c1, (hb.cell (lt_of_cell e0)).trans e0, (hb.cell (lt_of_cell e1)).trans e1, (hb.cell (lt_of_cell e2)).trans e2⟩)
                have HRD : Hid (∀ w', Below w6.heap.size w6 w' → Rd w' no 3 (some ad2) r (flatM ys)) := Lib.hid (fun w' hb => hr6.below hb)
                have HW0 : Below w6.heap.size w6 w6.drew := (Below.refl _ _).drew
                have HW1 : Below w6.heap.size w6 (w6.drew.alloc (.cells #[] 29)) := HW0.alloc HW0.size _
                have HW2 : Below w6.heap.size w6 ((w6.drew.alloc (.cells #[] 29)).alloc (.cells #[.int .i64 pf, .int .i64 pt, .slice pA pn pc] 29)) := HW1.alloc HW1.size _
                have HW3 : Below w6.heap.size w6 (w6.drew.alloc (.cells #[.int .i64 pf, .int .i64 pt, .slice pA pn pc] 29)) := HW0.alloc HW0.size _
                have HW4 : Below w6.heap.size w6 ((w6.drew.alloc (.cells #[.int .i64 pf, .int .i64 pt, .slice pA pn pc] 29)).alloc (.cells #[] 29)) := HW3.alloc HW3.size _
                have HOWN : Hid ((w6.drew.alloc (.cells #[] 29)).ownsRow w6.heap.size 29 3 (.slice (some ⟨w6.heap.size, 0, none⟩) 0 0) 0 []) := Lib.hid (World.ownsRow_made w6.drew #[] 0 (Nat.le_refl _) (Nat.zero_le _) rfl)
                have HBB : Hid (∀ w', (w6.drew.alloc (.cells #[] 29)).grownBy w' (some w6.heap.size) → Below w6.heap.size w6 w') := Lib.hid (fun w' hg => HW1.grown hg HW1.size (fun j e => by injection e with e; omega))
                have HOWN2 : Hid (((w6.drew.alloc (.cells #[] 29)).alloc (.cells #[.int .i64 pf, .int .i64 pt, .slice pA pn pc] 29)).ownsRow w6.heap.size 29 3 (.slice (some ⟨w6.heap.size, 0, none⟩) 0 0) 0 []) := Lib.hid (own_below HOWN.out ((Below.refl _ _).alloc (Nat.le_refl _) _))
                have HONE : Hid (∀ w', ((w6.drew.alloc (.cells #[] 29)).alloc (.cells #[.int .i64 pf, .int .i64 pt, .slice pA pn pc] 29)).grownBy w' (some w6.heap.size) → Rd w' no 3 (some ⟨w6.heap.size + 1, 0, none⟩) 1 (flatM [⟨pf, pt, pA, pn, pc, pd⟩])) := Lib.hid (fun w' hg => by
                  have h := rd_msg_grown (w := w6.drew.alloc (.cells #[] 29)) ⟨pf, pt, pA, pn, pc, pd⟩ hg (by simp)
                  rwa [show (w6.drew.alloc (.cells #[] 29)).heap.size = w6.heap.size + 1 by simp] at h)
                have HBB2 : Hid (∀ w', ((w6.drew.alloc (.cells #[] 29)).alloc (.cells #[.int .i64 pf, .int .i64 pt, .slice pA pn pc] 29)).grownBy w' (some w6.heap.size) → Below w6.heap.size w6 w') := Lib.hid (fun w' hg => HW2.grown hg HW2.size (fun j e => by injection e with e; omega))
                have HOWN3 : Hid (((w6.drew.alloc (.cells #[.int .i64 pf, .int .i64 pt, .slice pA pn pc] 29)).alloc (.cells #[] 29)).ownsRow w6.heap.size 29 3 (.slice (some ⟨w6.heap.size + 1, 0, none⟩) 0 0) 0 []) := Lib.hid (by
                  have h : ((w6.drew.alloc (.cells #[.int .i64 pf, .int .i64 pt, .slice pA pn pc] 29)).alloc (.cells #[] 29)).ownsRow w6.heap.size 29 3 (.slice (some ⟨(w6.drew.alloc (.cells #[.int .i64 pf, .int .i64 pt, .slice pA pn pc] 29)).heap.size, 0, none⟩) 0 0) 0 [] := World.ownsRow_made (w6.drew.alloc (.cells #[.int .i64 pf, .int .i64 pt, .slice pA pn pc] 29)) #[] 0 (by simp) (Nat.zero_le _) rfl
                  rwa [show (w6.drew.alloc (.cells #[.int .i64 pf, .int .i64 pt, .slice pA pn pc] 29)).heap.size = w6.heap.size + 1 by simp] at h)
                have HONE3 : Hid (∀ w', ((w6.drew.alloc (.cells #[.int .i64 pf, .int .i64 pt, .slice pA pn pc] 29)).alloc (.cells #[] 29)).grownBy w' (some (w6.heap.size + 1)) → Rd w' no 3 (some ⟨w6.heap.size, 0, none⟩) 1 (flatM [⟨pf, pt, pA, pn, pc, pd⟩])) := Lib.hid (fun w' hg => by
                  refine rd_msg_grown (w := w6.drew) (row := w6.heap.size + 1) ⟨pf, pt, pA, pn, pc, pd⟩ ⟨hg.os, hg.tape, hg.output, Nat.le_trans (by simp) hg.size, fun i hi hn => ?_⟩ (by show w6.heap.size ≠ w6.heap.size + 1; omega)
                  exact (hg.block i (Nat.lt_of_lt_of_le hi (by simp)) hn).trans (Below.heap_alloc _ _ i hi))
                have HBB3 : Hid (∀ w', ((w6.drew.alloc (.cells #[.int .i64 pf, .int .i64 pt, .slice pA pn pc] 29)).alloc (.cells #[] 29)).grownBy w' (some (w6.heap.size + 1)) → Below w6.heap.size w6 w') := Lib.hid (fun w' hg => HW4.grown hg HW4.size (fun j e => by injection e with e; omega))
                clear hm1 hn6 ht6 hya6 hr6 hp hpl hgp hbl2 e0 e1 e2 c1
                go_wp2
                go_region_held3 (fun w' => w'.cell? ⟨w3.heap.size, 1, none⟩ = some (.int .i64 (kk : Int)) ∧ w'.cell? (ad2.add (kk * 3)) = some (.int .i64 pf) ∧ w'.cell? ⟨(ad2.add (kk * 3)).block, (ad2.add (kk * 3)).off + 1, none⟩ = some (.int .i64 pt) ∧ w'.cell? ⟨(ad2.add (kk * 3)).block, (ad2.add (kk * 3)).off + 2, none⟩ = some (.slice pA pn pc)) (first | assumption | exact HCI.out _ HW0 | exact HCI.out _ HW1 | exact HCI.out _ HW2 | exact HCI.out _ HW3 | exact HCI.out _ HW4 | exact HCI.out _ HB4 | exact HCI.out _ (HB4.alloc HB4.size _) | exact HCI.out _ HB5 | fail) (first | ((refine step_append_rd _ (by rfl) (.tmp 146) (.tmp 147) 26 (by rfl) w6.heap.size 29 i0 _ 3 40 Try.underlying26 HI0.out HZ0.out HZ1.out HZ2.out (by rfl) (by omega) _ 0 _ (by rfl) HOWN.out no (some ad2) r cl (flatM ys) (by rfl) (HRD.out _ HW1) (flatM_one _) (by unfold maxLen; omega) (by omega) HW1.size ?_; intro vx4 wx4 hown4 hg4 _; simp only [Nat.zero_add, List.nil_append] at hown4; have HO4 := Lib.hid hown4; have HB4 := HBB.out wx4 hg4; clear hown4 hg4)) | ((refine step_append_rd _ (by rfl) (.tmp 146) (.tmp 147) 26 (by rfl) w6.heap.size 29 i0 _ 3 40 Try.underlying26 HI0.out HZ0.out HZ1.out HZ2.out (by rfl) (by omega) _ 0 _ (by rfl) HOWN2.out no (some ad2) r cl (flatM ys) (by rfl) (HRD.out _ HW2) (flatM_one _) (by unfold maxLen; omega) (by omega) HW2.size ?_; intro vx4 wx4 hown4 hg4 _; simp only [Nat.zero_add, List.nil_append] at hown4; have HO4 := Lib.hid hown4; have HB4 := HBB2.out wx4 hg4; have HONE4 := Lib.hid (HONE.out wx4 hg4); clear hown4 hg4)) | ((refine step_append_rd _ (by rfl) (.tmp 146) (.tmp 147) 26 (by rfl) w6.heap.size 29 i0 _ 3 40 Try.underlying26 HI0.out HZ0.out HZ1.out HZ2.out (by rfl) (by omega) _ 0 _ (by rfl) HOWN3.out no (some ad2) r cl (flatM ys) (by rfl) (HRD.out _ HW4) (flatM_one _) (by unfold maxLen; omega) (by omega) HW4.size ?_; intro vx4 wx4 hown4 hg4 _; simp only [Nat.zero_add, List.nil_append] at hown4; have HO4 := Lib.hid hown4; have HB4 := HBB3.out wx4 hg4; have HONE4 := Lib.hid (HONE3.out wx4 hg4); clear hown4 hg4)) | ((refine step_append_rd _ (by rfl) (.tmp 148) (.tmp 154) 26 (by rfl) w6.heap.size 29 i0 _ 3 40 Try.underlying26 HI0.out HZ0.out HZ1.out HZ2.out (by rfl) (by omega) _ r _ (by rfl) (own_below HO4.out ((Below.refl _ wx4).alloc (Nat.le_refl _) _)) no _ 1 1 (flatM [⟨pf, pt, pA, pn, pc, pd⟩]) (by rfl) (rd_msg wx4 ⟨pf, pt, pA, pn, pc, pd⟩) (flatM_one _) (by unfold maxLen; omega) (by omega) (HB4.alloc HB4.size _).size ?_; intro vx5 wx5 hown5 hg5 _; have HB5 : Below w6.heap.size w6 wx5 := (HB4.alloc HB4.size _).grown hg5 (HB4.alloc HB4.size _).size (fun j e => (HO4.out.lt j e).1); rw [← flatM_append] at hown5; obtain ⟨A5, c5, rfl, hc5, hcm5⟩ := own_form hown5; have HO5 := Lib.hid hown5; clear hown5 hg5)) | ((refine step_append_rd _ (by rfl) (.tmp 148) (.tmp 154) 26 (by rfl) w6.heap.size 29 i0 _ 3 40 Try.underlying26 HI0.out HZ0.out HZ1.out HZ2.out (by rfl) (by omega) _ r _ (by rfl) HO4.out no _ 1 1 (flatM [⟨pf, pt, pA, pn, pc, pd⟩]) (by rfl) HONE4.out (flatM_one _) (by unfold maxLen; omega) (by omega) HB4.size ?_; intro vx5 wx5 hown5 hg5 _; have HB5 : Below w6.heap.size w6 wx5 := HB4.grown hg5 HB4.size (fun j e => (HO4.out.lt j e).1); rw [← flatM_append] at hown5; obtain ⟨A5, c5, rfl, hc5, hcm5⟩ := own_form hown5; have HO5 := Lib.hid hown5; clear hown5 hg5)) | fail)
                all_goals
                  go_wp2
                  go_meet
                  exact ⟨r + 1, A5, c5, _, ys ++ [⟨pf, pt, pA, pn, pc, pd⟩], ls ++ [m1], rfl, by omega, P6.out.newlist HB5 HO5.out (by rw [List.length_append, P6.out.yl]; rfl) HGP.out, by rw [List.map_append, List.map_append, HPY.out]; show _ ++ [m1.pl] = _; rw [HPL.out]; rfl⟩

            have q3 : (ho == 3) = false := by simpa using x3
            clear x1 x2 x3
            go_wp2
            go_meet
            exact ⟨r, Lv, cl, V, ys, ls, rfl, by omega, P.out, HPY.out⟩
          case rest =>
            obtain ⟨r', Lv', cl', V', ys', ls', rfl, hr', hp', hpy'⟩ := hcut
            obtain ⟨w5, rfl⟩ : ∃ x, x = wc := ⟨_, rfl⟩
            have P5 := Lib.hid hp'
            have HPY5 := Lib.hid hpy'
            clear hp' hpy' P HPY P3 HLS HYA HUA HGA HB04 HBI c0 c1 c2 c3 c4
            go_wp2_with (fail)
            refine (list_any w0.heap.size g V' ls' 0 _ P5.out.nt).mono ?_
            rintro e w6 ⟨hb6, Av, cv, xs, rfl, ho6, _, hod6, hcv, hcvm⟩
            obtain ⟨n6, hn6⟩ : ∃ n, xs.length = n := ⟨_, rfl⟩
            rw [hn6] at ho6 hcv ⊢
            have HXL := Lib.hid hn6
            have HO6 := Lib.hid ho6
            have HB6 := Lib.hid hb6
            have HOD6 := Lib.hid hod6
            clear hb6 ho6 hod6 hn6
            go_wp2
            go_loopw [159] (fun i wr => ∃ (j : Nat), j ≤ n6 ∧ i = .int .i64 j ∧ Below w5.heap.size w5 wr ∧ wr.ownsRow w5.heap.size 29 3 (.slice Av n6 cv) n6 (flatM xs) ∧ ∀ m ∈ xs, ∃ d', OwnD wr w5.heap.size ⟨m.f, m.t, m.A, m.n, m.c, d'⟩) (fun i _ => n6 - (RowKit.intOf i).toNat)
            case atStart => exact ⟨0, by omega, rfl, HB6.out, HO6.out, fun m hm => ⟨m.d, HOD6.out m hm⟩⟩
            case round =>
              clear HO6 HB6 HOD6
              obtain ⟨w7, rfl⟩ : ∃ x, x = wr := ⟨_, rfl⟩
              obtain ⟨j, hj, rfl, hb7, ho7, hod7⟩ := hrel
              have HB7 := Lib.hid hb7
              have HO7 := Lib.hid ho7
              have HOD7 := Lib.hid hod7
              clear hb7 ho7 hod7
              by_cases hjl : j < n6
              · obtain ⟨ae, p, rfl, hp, _, _, e0, e1, e2⟩ := (show Rd w7 no 3 Av n6 (flatM xs) from Rd.of_own HO7.out rfl (fun _ _ f => f)).atM hjl
                have HMP := Lib.hid (List.mem_of_getElem? hp)
                obtain ⟨pf, pt, pA, pn, pc, pd⟩ := p
                dsimp only at e0 e1 e2
                obtain ⟨w8, hw8⟩ : ∃ x, w7.alloc (.cells #[.int .i64 pf, .int .i64 pt, .slice pA pn pc] 29) = x := ⟨_, rfl⟩
                have hb78 : Below w7.heap.size w7 w8 := by rw [← hw8]; exact (Below.refl _ _).alloc (Nat.le_refl _) _
                have hz8 : Bx w8 w7.heap.size ⟨pf, pt, pA, pn, pc, pd⟩ := by rw [← hw8]; exact Bx.new w7 ⟨pf, pt, pA, pn, pc, pd⟩
                have HZ8 := Lib.hid hz8
                have HB8 := Lib.hid (HB7.out.trans (hb78.mono HB7.out.size))
                have HO8 := Lib.hid (own_below HO7.out hb78)
                have HOD8 : Hid (∀ m ∈ xs, ∃ d', OwnD w8 w5.heap.size ⟨m.f, m.t, m.A, m.n, m.c, d'⟩) := Lib.hid (fun m hm => by obtain ⟨d', h⟩ := HOD7.out m hm; exact ⟨d', h.below hb78⟩)
                have hpn : pn ≤ 1000000 := by obtain ⟨_, h⟩ := HOD8.out _ HMP.out; exact h.sz
                obtain ⟨r0, r1, r2⟩ := hz8.cells
                dsimp only at r0 r1 r2
                clear hp hb78 hz8
                go_wp2
                clear r0 r1 r2 hw8
                go_loopw [166] (fun i wr => ∃ (q : Nat), q ≤ pn ∧ i = .int .i64 q ∧ Below w5.heap.size w5 wr ∧ wr.ownsRow w5.heap.size 29 3 (.slice (some ae) n6 cv) n6 (flatM xs) ∧ (∀ m ∈ xs, ∃ d', OwnD wr w5.heap.size ⟨m.f, m.t, m.A, m.n, m.c, d'⟩) ∧ Bx wr w7.heap.size ⟨pf, pt, pA, pn, pc, pd⟩) (fun i _ => pn - (RowKit.intOf i).toNat)
                case atStart => exact ⟨0, by omega, rfl, HB8.out, HO8.out, HOD8.out, HZ8.out⟩
                case round =>
                  clear HB8 HO8 HOD8 HZ8
                  obtain ⟨w9, rfl⟩ : ∃ x, x = wr := ⟨_, rfl⟩
                  obtain ⟨q, hq, rfl, hb9, ho9, hod9, hz9⟩ := hrel
                  have HB9 := Lib.hid hb9
                  have HO9 := Lib.hid ho9
                  have HOD9 := Lib.hid hod9
                  have HZ9 := Lib.hid hz9
                  obtain ⟨b0, b1, b2⟩ := hz9.cells
                  dsimp only at b0 b1 b2
                  clear hb9 ho9 hod9 hz9
                  by_cases hql : q < pn
                  · obtain ⟨d9, hd9⟩ := HOD9.out _ HMP.out
                    dsimp only at hd9
                    obtain ⟨bd, z, hA9, hlo, hhi, hob, hcell, hfz, hadd⟩ := hd9.at_ (j := q) hql
                    dsimp only at hA9 hob
                    have HB2 := Lib.hid (below_set (p := ⟨bd, q, none⟩) HB9.out hlo (.int .u8 ((z ^^^ 255).toNat : Int)))
                    have HO2 := Lib.hid (own_turn HO9.out (Turn.set_ (F := fun i => i = bd) (p := ⟨bd, q, none⟩) (.int .u8 ((z ^^^ 255).toNat : Int)) rfl) (row_not_bytes hd9 HO9.out hob))
                    have HZ2' : Hid (Bx (w9.setCell ⟨bd, q, none⟩ (.int .u8 ((z ^^^ 255).toNat : Int))) w7.heap.size ⟨pf, pt, pA, pn, pc, pd⟩) := Lib.hid (Blk.far HZ9.out (blk_not_bytes hd9 HZ9.out (by decide) hob) _)
                    have HOD2 : Hid (∀ m ∈ xs, ∃ d', OwnD (w9.setCell ⟨bd, q, none⟩ (.int .u8 ((z ^^^ 255).toNat : Int))) w5.heap.size ⟨m.f, m.t, m.A, m.n, m.c, d'⟩) := Lib.hid (fun m hm => by obtain ⟨d', h⟩ := HOD9.out m hm; exact h.byte bd q (z ^^^ 255))
                    obtain ⟨zi, hzi⟩ : ∃ x : Int, ((z ^^^ 255).toNat : Int) = x := ⟨_, rfl⟩
                    have hfl := flip_bits z
                    rw [hzi] at hfl HB2 HO2 HZ2' HOD2
                    obtain ⟨zz, hzz⟩ : ∃ x : Int, (z.toNat : Int) = x := ⟨_, rfl⟩
                    rw [hzz] at hfl hcell
                    have q1 : (q : Int) < (pn : Int) := by omega
                    have q0 : (0 : Int) ≤ (q : Int) := by omega
                    rw [hadd] at hcell hfz
                    subst hA9
                    clear hzi hzz hd9 hlo hhi hob
                    go_wp2
                    go_roundw
                    case rel => exact ⟨q + 1, by omega, by go_num, HB2.out, HO2.out, HOD2.out, HZ2'.out⟩
                    case measure => simp [RowKit.intOf]; omega
                  · obtain rfl : q = pn := by omega
                    go_wp2
                    go_roundw
                    case rel => exact ⟨j + 1, by omega, by go_num, HB9.out, HO9.out, HOD9.out⟩
                    case measure => simp [RowKit.intOf]; omega
              · obtain rfl : j = n6 := by omega
                have P7 := Lib.hid (P5.out.grow HB7.out)
                have hrd : Rd w7 no 3 Lv' r' (flatM ys') := Rd.of_own P7.out.own rfl (fun _ _ f => f)
                go_wp2_with (fail)
                refine (like_any w0.heap.size g _ ls' 0 w7 P7.out.nt Lv' r' cl' ys' no _ x hrd P7.out.gd HPY5.out.symm).mono ?_
                rintro e w8 ⟨rfl, hb8⟩
                have P8 := Lib.hid (P7.out.grow hb8)
                clear hrd hb8
                go_wp2
                go_roundw
                case rel => exact ⟨k + 1, r', Lv', cl', _, ys', ls', by omega, by go_num, rfl, hr', P8.out, HPY5.out⟩
                case measure => simp [RowKit.intOf]; omega

      · go_wp2
        go_ret
        exact ⟨rfl, HB04.out⟩
    · obtain rfl : k = N := by omega
      go_wp2_with (fail)
      refine (lost_any w0.heap.size g U ls 0 w3 P3.out.nt).mono ?_
      rintro e w6 ⟨rfl, rfl⟩
      go_wp2
      go_ret
      exact ⟨rfl, HB0.out.trans (P3.out.bel.mono HB0.out.size)⟩
end Go.Proofs.Ytblmfjndemfkjaa
