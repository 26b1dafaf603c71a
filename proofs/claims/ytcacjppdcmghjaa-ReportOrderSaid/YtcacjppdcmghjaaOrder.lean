/-
  WHAT IS PROVED: the law ReportOrder answers true for all arguments (reports that are noted in whatever order come to the same book). No condition beyond those of the given row.
-/
import Derived.Test.YtcacjppdcmghjaaAnchor
import Derived.RegionTactic
namespace Go.Proofs.Ytcacjppdcmghjaa
open Go.RowKit Go.Lib Go.Maps

theorem notes_rev (l : List St) : (notesL l.reverse).Perm (notesL l) := notes_perm fun x => by simp
theorem notes_take {l : List St} {k : Nat} {x : St} (h : l[k]? = some x) : notesL (l.take (k + 1)) = noteL (notesL (l.take k)) x.a x.b x.t := by rw [take_snoc_ h, notes_snoc]
theorem notes_le (l : List St) (k n : Nat) (h : l.length = n) : (notesL (l.take k)).length ≤ n := by have h1 := notes_len (l.take k); have h2 := List.length_take_le' k l; omega
theorem rev_at {l : List St} {k m n : Nat} {x : St} (hl : l.length = n) (hm : m + k + 1 = n) (h : l[m]? = some x) : l.reverse[k]? = some x := by
  rw [List.getElem?_reverse (by omega), hl, ← h]
  congr 1
  omega

theorem below_drew {B : Nat} {a w : World} (h : Below B a w) : Below B a w.drew := below_drewN h 1
abbrev oSt (x : St) : Obj := .cells #[.int .i64 x.how, .int .i64 x.a, .int .i64 x.b, .int .i64 x.t] 30

set_option maxRecDepth 100000 in
set_option maxHeartbeats 8000000 in
theorem order_in (A : Option Addr) (n c : Nat) (l : List St) (about now : Int) (W : World) (hn : n ≤ 80) (hr : ActsAt W A n l) (h0 : -1125899906842624 ≤ now) (h1 : now ≤ 1125899906842624) :
    Calls Try.prog 7 #[.slice A n c, .int .i64 about, .int .i64 now] W (Says true W) := by
  have d0 : (n : Int) ≤ 80 := by omega
  have HR := Lib.hid hr
  have HL := Lib.hid hr.1
  clear hr
  go_enter Try.func7, Try.ntmps7
  go_wp2_with (fail)
  refine (anchor_any _).mono ?_
  rintro e w0 ⟨rfl, hb0⟩
  have HB0 := Lib.hid hb0
  clear hb0
  go_wp2_with (fail)
  refine (new_yes 10 _ (by omega) (by omega)).mono ?_
  rintro e w1 ⟨g, b, rfl, k1, hb1, hg, hb⟩
  have K1 := Lib.hid k1
  have HB1 := Lib.hid (HB0.out.trans (hb1.mono HB0.out.size))
  have HBb : Hid (W.heap.size ≤ b) := Lib.hid (Nat.le_trans HB0.out.size hb)
  clear k1 hb1 hg hb
  go_wp2_with (fail)
  refine (new_yes 10 _ (by omega) (by omega)).mono ?_
  rintro e w2 ⟨g', b', rfl, k2, hb2, hg2, hb2'⟩
  have K2 := Lib.hid k2
  have K12 := Lib.hid (K1.out.below hb2)
  have HB2 := Lib.hid (HB1.out.trans (hb2.mono HB1.out.size))
  have HBb' : Hid (W.heap.size ≤ b') := Lib.hid (Nat.le_trans HB1.out.size hb2')
  have HNE : Hid (b ≠ b') := Lib.hid (by have := K1.out.ltb; omega)
  clear k2 hb2 hg2 hb2'
  go_wp2
  go_loopw [51] (fun i wr => ∃ k : Nat, k ≤ n ∧ i = .int .i64 k ∧ Bk wr g b 10 (notesL (l.take k)) ∧ Bk wr g' b' 10 (notesL (l.reverse.take k)) ∧ Below W.heap.size W wr) (fun i _ => n - (intOf i).toNat)
  case atStart => exact ⟨0, by omega, rfl, K12.out, K2.out, HB2.out⟩
  case round =>
    obtain ⟨k, hk, rfl, hbk, hbk2, hbw⟩ := hrel
    have HK := Lib.hid hbk
    have HK2 := Lib.hid hbk2
    have HW := Lib.hid hbw
    have HLE := Lib.hid (notes_le l k n HL.out)
    have HLE2 := Lib.hid (notes_le l.reverse k n (by rw [List.length_reverse]; exact HL.out))
    clear hbk hbk2 hbw
    by_cases hlt : k < n
    · obtain ⟨w3, rfl⟩ : ∃ w3, w3 = wr := ⟨_, rfl⟩
      obtain ⟨ad, x, rfl, hx, hbl, f0, f1, f2, f3⟩ := (HR.out.below HW.out).at_ hlt
      obtain ⟨m, hm⟩ : ∃ m, m + k + 1 = n := ⟨n - 1 - k, by omega⟩
      have hmn : m < n := by omega
      obtain ⟨ad', y, e', hy, _, g0, g1, g2, g3⟩ := (HR.out.below HW.out).at_ hmn
      injection e' with e'
      subst e'
      have HX := Lib.hid (notes_take hx)
      have HY := Lib.hid (notes_take (rev_at HL.out hm hy))
      have q1 : (n : Int) - 1 - (k : Int) = (m : Int) := by omega
      have q2 : IntKind.i64.wrap ((n : Int) - 1) = (n : Int) - 1 := by rw [IntKind.wrap_i64]; omega
      have q3 : IntKind.i64.wrap ((m : Int)) = (m : Int) := by rw [IntKind.wrap_i64]; omega
      have i1 : (k : Int) < (n : Int) := by omega
      have i2 : (m : Int) < (n : Int) := by omega
      have HC : Hid (∀ w', Below w3.heap.size w3 w' → w'.cell? (ad.add (k * 4)) = some (.int .i64 x.how) ∧ w'.cell? ⟨(ad.add (k * 4)).block, (ad.add (k * 4)).off + 1, none⟩ = some (.int .i64 x.a) ∧ w'.cell? ⟨(ad.add (k * 4)).block, (ad.add (k * 4)).off + 2, none⟩ = some (.int .i64 x.b) ∧ w'.cell? ⟨(ad.add (k * 4)).block, (ad.add (k * 4)).off + 3, none⟩ = some (.int .i64 x.t) ∧
          w'.cell? (ad.add (m * 4)) = some (.int .i64 y.how) ∧ w'.cell? ⟨(ad.add (m * 4)).block, (ad.add (m * 4)).off + 1, none⟩ = some (.int .i64 y.a) ∧ w'.cell? ⟨(ad.add (m * 4)).block, (ad.add (m * 4)).off + 2, none⟩ = some (.int .i64 y.b) ∧ w'.cell? ⟨(ad.add (m * 4)).block, (ad.add (m * 4)).off + 3, none⟩ = some (.int .i64 y.t)) := Lib.hid fun w' h =>
        ⟨(h.cell (lt_of_cell f0)).trans f0, (h.cell (lt_of_cell f1)).trans f1, (h.cell (lt_of_cell f2)).trans f2, (h.cell (lt_of_cell f3)).trans f3, (h.cell (lt_of_cell g0)).trans g0, (h.cell (lt_of_cell g1)).trans g1, (h.cell (lt_of_cell g2)).trans g2, (h.cell (lt_of_cell g3)).trans g3⟩
      clear hx hy hm f0 f1 f2 f3 g0 g1 g2 g3
      go_upto_region 10 with (fail)
      go_cut [12, 13] from 54 to 65 (fun va vb wx => ∃ ba bb, va = .pointer (some ⟨ba, 0, none⟩) ∧ vb = .pointer (some ⟨bb, 0, none⟩) ∧ Sx wx ba x ∧ Sx wx bb y ∧ w3.heap.size ≤ ba ∧ w3.heap.size ≤ bb ∧ Below w3.heap.size w3 wx)
      case first =>
        have E1 := Lib.hid (Sx.new w3 x)
        have E2 := Lib.hid (Sx.new w3 y)
        have E3 : Hid (Sx ((w3.alloc (oSt x)).alloc (oSt y)) (w3.heap.size + 1) y) := Lib.hid (by have h := Sx.new (w3.alloc (oSt x)) y; rwa [show (w3.alloc (oSt x)).heap.size = w3.heap.size + 1 by simp] at h)
        have E4 : Hid (Sx ((w3.alloc (oSt y)).alloc (oSt x)) (w3.heap.size + 1) x) := Lib.hid (by have h := Sx.new (w3.alloc (oSt y)) x; rwa [show (w3.alloc (oSt y)).heap.size = w3.heap.size + 1 by simp] at h)
        go_region_held3 (fun w' => w'.cell? (ad.add (k * 4)) = some (.int .i64 x.how) ∧ w'.cell? ⟨(ad.add (k * 4)).block, (ad.add (k * 4)).off + 1, none⟩ = some (.int .i64 x.a) ∧ w'.cell? ⟨(ad.add (k * 4)).block, (ad.add (k * 4)).off + 2, none⟩ = some (.int .i64 x.b) ∧ w'.cell? ⟨(ad.add (k * 4)).block, (ad.add (k * 4)).off + 3, none⟩ = some (.int .i64 x.t) ∧
            w'.cell? (ad.add (m * 4)) = some (.int .i64 y.how) ∧ w'.cell? ⟨(ad.add (m * 4)).block, (ad.add (m * 4)).off + 1, none⟩ = some (.int .i64 y.a) ∧ w'.cell? ⟨(ad.add (m * 4)).block, (ad.add (m * 4)).off + 2, none⟩ = some (.int .i64 y.b) ∧ w'.cell? ⟨(ad.add (m * 4)).block, (ad.add (m * 4)).off + 3, none⟩ = some (.int .i64 y.t))
          (first | (refine HC.out _ ?_; repeat (first | exact Below.refl _ _ | refine below_drew ?_ | (refine Below.setCell ?_ (by first | exact Nat.le_refl _ | simp) _) | (refine Below.alloc ?_ (by simp) _)))) (first | fail)
        all_goals
          go_wp2_with fail
          go_meet
          first
          | exact ⟨w3.heap.size, w3.heap.size + 1, rfl, rfl, (E1.out.below (below_drew ((Below.refl _ _).alloc (Nat.le_refl _) _))), E3.out, Nat.le_refl _, Nat.le_succ _, below_drew (((Below.refl _ _).alloc (Nat.le_refl _) _).alloc (by simp) _)⟩
          | exact ⟨w3.heap.size + 1, w3.heap.size, rfl, rfl, E4.out, (E2.out.below (below_drew ((Below.refl _ _).alloc (Nat.le_refl _) _))), Nat.le_succ _, Nat.le_refl _, below_drew (((Below.refl _ _).alloc (Nat.le_refl _) _).alloc (by simp) _)⟩
      case rest =>
        obtain ⟨ba, bb, rfl, rfl, hsa, hsb, hba, hbb, hbc⟩ := hcut
        have HSA := Lib.hid hsa
        have HSB := Lib.hid hsb
        have HBC := Lib.hid hbc
        have HK3 := Lib.hid (HK.out.below hbc)
        have HK4 := Lib.hid (HK2.out.below hbc)
        have HW3 := Lib.hid (HW.out.trans (hbc.mono HW.out.size))
        have HBL : Hid (b < w3.heap.size) := Lib.hid HK.out.ltb
        obtain ⟨a0, a1, a2, a3⟩ := hsa.cells
        clear hsa hsb hbc
        go_wp2_with (fail)
        refine (note_any g b _ _ x.a x.b x.t _ HK3.out (by have := HLE.out; omega)).mono ?_
        rintro e w5 ⟨rfl, k5, hg5⟩
        rw [← HX.out] at k5
        have K5 := Lib.hid k5
        have K6 := Lib.hid (HK4.out.other HK3.out HNE.out.symm hg5)
        have HB5 := Lib.hid (HK3.out.grownB HW3.out HBb.out hg5)
        have HS5 := Lib.hid (HSB.out.kept hg5 (by have := HBL.out; simp; omega))
        obtain ⟨e0, e1, e2, e3⟩ := HS5.out.cells
        clear k5 a0 a1 a2 a3
        go_wp2_with (fail)
        refine (note_any g' b' _ _ y.a y.b y.t _ K6.out (by have := HLE2.out; omega)).mono ?_
        rintro e w7 ⟨rfl, k7, hg7⟩
        rw [← HY.out] at k7
        have K7 := Lib.hid k7
        have K8 := Lib.hid (K5.out.other K6.out HNE.out hg7)
        have HB7 := Lib.hid (K6.out.grownB HB5.out HBb'.out hg7)
        clear k7 hg5 hg7
        go_wp2
        go_roundw
        case rel => exact ⟨k + 1, by omega, by go_num, K8.out, K7.out, HB7.out⟩
        case measure => simp [intOf]; omega
    · obtain rfl : k = n := by omega
      have HT : Hid (l.take k = l) := Lib.hid (List.take_of_length_le (by rw [HL.out]; exact Nat.le_refl _))
      have HT2 : Hid (l.reverse.take k = l.reverse) := Lib.hid (List.take_of_length_le (by rw [List.length_reverse, HL.out]; exact Nat.le_refl _))
      rw [HT.out] at HK HLE
      rw [HT2.out] at HK2 HLE2
      have HPM := Lib.hid (notes_rev l)
      obtain ⟨L, HLL⟩ : ∃ L, Hid (notesL l = L) := ⟨_, Lib.hid rfl⟩
      obtain ⟨M, HMM⟩ : ∃ L, Hid (notesL l.reverse = L) := ⟨_, Lib.hid rfl⟩
      rw [HLL.out] at HK HLE HPM
      rw [HMM.out] at HK2 HLE2 HPM
      obtain ⟨p, HP⟩ : ∃ p : Int, Hid ((L.length : Int) = p) := ⟨_, Lib.hid rfl⟩
      have HP2 : Hid ((M.length : Int) = p) := Lib.hid (by rw [HPM.out.length_eq]; exact HP.out)
      obtain ⟨bl, HBL⟩ : ∃ y, Hid (byL L about now 10 = y) := ⟨_, Lib.hid rfl⟩
      have HBL2 : Hid (byL M about now 10 = bl) := Lib.hid (by rw [by_perm HPM.out]; exact HBL.out)
      have HPF := Lib.hid (HPM.out.filter (fun r => !staleB 10 now r))
      obtain ⟨q, HQ⟩ : ∃ q : Int, Hid ((L.length : Int) - ((L.filter fun r => !staleB 10 now r).length : Int) = q) := ⟨_, Lib.hid rfl⟩
      have HQ2 : Hid ((M.length : Int) - ((M.filter fun r => !staleB 10 now r).length : Int) = q) := Lib.hid (by rw [HPM.out.length_eq, HPF.out.length_eq]; exact HQ.out)
      obtain ⟨s, HS⟩ : ∃ q : Int, Hid (((L.filter fun r => !staleB 10 now r).length : Int) = q) := ⟨_, Lib.hid rfl⟩
      have HS2 : Hid (((M.filter fun r => !staleB 10 now r).length : Int) = s) := Lib.hid (by rw [HPF.out.length_eq]; exact HS.out)
      have HSM := Lib.hid (same_yes (rfl : bl = bl))
      have hbl : bl.length ≤ 80 := by have h := HLE.out; have h1 := by_le L about now 10; rw [HBL.out] at h1; omega
      have HLA : Hid (L.length < 100000) := Lib.hid (by have := HLE.out; omega)
      have HLB : Hid (M.length < 100000) := Lib.hid (by have := HLE2.out; omega)
      go_wp2_with (fail)
      refine (len_any g b _ _ _ HK.out).mono ?_
      rintro e w4 ⟨rfl, rfl⟩
      rw [HP.out]
      go_wp2_with (fail)
      refine (len_any g' b' _ _ _ HK2.out).mono ?_
      rintro e w4 ⟨rfl, rfl⟩
      rw [HP2.out]
      go_wp2_with (fail)
      refine (by_any g b _ _ about now _ HK.out HLA.out).mono ?_
      rintro e w4 ⟨hb4, v4, rfl, hown4⟩
      rw [HBL.out] at hown4
      obtain ⟨A4, c4, rfl, hc4, hcm4⟩ := own_slice hown4
      have HB4 := Lib.hid (HW.out.trans (hb4.mono HW.out.size))
      have HKA4 := Lib.hid (HK.out.below hb4)
      have HKB4 := Lib.hid (HK2.out.below hb4)
      have HO4 := Lib.hid hown4
      clear hb4 hown4
      go_wp2_with (fail)
      refine (by_any g' b' _ _ about now _ HKB4.out HLB.out).mono ?_
      rintro e w5 ⟨hb5, v5, rfl, hown5⟩
      rw [HBL2.out] at hown5
      obtain ⟨A5, c5, rfl, hc5, hcm5⟩ := own_slice hown5
      have HB5 := Lib.hid (HB4.out.trans (hb5.mono HB4.out.size))
      have HKA5 := Lib.hid (HKA4.out.below hb5)
      have HKB5 := Lib.hid (HKB4.out.below hb5)
      have HR4 := Lib.hid (own_read (own_below HO4.out hb5) _ (.inl (Nat.le_refl _)))
      have HR5 := Lib.hid (own_read hown5 _ (.inl (Nat.le_refl _)))
      clear hb5 hown5
      go_wp2_with (fail)
      refine (same_any A4 A5 _ c4 _ c5 bl bl _ _ _ (by omega) (by omega) HR4.out HR5.out).mono ?_
      rintro e w6 ⟨rfl, rfl⟩
      rw [HSM.out]
      go_wp2_with (fail)
      refine (expire_any g b _ _ now _ HKA5.out HLA.out).mono ?_
      rintro e w6 ⟨rfl, k6, hg6⟩
      rw [HQ.out]
      have HK6 := Lib.hid k6
      have HKB6 := Lib.hid (HKB5.out.other HKA5.out HNE.out.symm hg6)
      have HB6 := Lib.hid (HKA5.out.grownB HB5.out HBb.out hg6)
      clear k6 hg6
      go_wp2_with (fail)
      refine (expire_any g' b' _ _ now _ HKB6.out HLB.out).mono ?_
      rintro e w7 ⟨rfl, k7, hg7⟩
      rw [HQ2.out]
      have HK7 := Lib.hid k7
      have HKA7 := Lib.hid (HK6.out.other HKB6.out HNE.out hg7)
      have HB7 := Lib.hid (HKB6.out.grownB HB6.out HBb'.out hg7)
      clear k7 hg7
      go_wp2_with (fail)
      refine (len_any g b _ _ _ HKA7.out).mono ?_
      rintro e w8 ⟨rfl, rfl⟩
      rw [HS.out]
      go_wp2_with (fail)
      refine (len_any g' b' _ _ _ HK7.out).mono ?_
      rintro e w8 ⟨rfl, rfl⟩
      rw [HS2.out]
      go_wp2
      go_ret
      exact ⟨rfl, HB7.out⟩

set_option maxHeartbeats 2000000 in
theorem order_any (A : Option Addr) (n c : Nat) (l : List St) (about now : Int) (W : World) (hr : ActsAt W A n l) :
    Calls Try.prog 7 #[.slice A n c, .int .i64 about, .int .i64 now] W (Says true W) := by
  by_cases hok : n ≤ 80 ∧ -1125899906842624 ≤ now ∧ now ≤ 1125899906842624
  · exact order_in A n c l about now W hok.1 hr hok.2.1 hok.2.2
  · have hc : (80 : Int) < n ∨ (decide ((80 : Int) < n) = false ∧ now < -1125899906842624) ∨ (decide ((80 : Int) < n) = false ∧ decide (now < -1125899906842624) = false ∧ 1125899906842624 < now) := by simp; omega
    clear hok hr
    rcases hc with h1 | ⟨h1, h2⟩ | ⟨h1, h2, h3⟩
    all_goals
      go_enter Try.func7, Try.ntmps7
      go_wp2_with (fail)
      refine (anchor_any _).mono ?_
      rintro e w0 ⟨rfl, hb0⟩
      have HB0 := Lib.hid hb0
      clear hb0
      go_wp2_with (fail)
      refine (new_yes 10 _ (by omega) (by omega)).mono ?_
      rintro e w1 ⟨g, b, rfl, k1, hb1, hg, hb⟩
      have HB1 := Lib.hid (HB0.out.trans (hb1.mono HB0.out.size))
      clear k1 hb1 hg hb
      go_wp2_with (fail)
      refine (new_yes 10 _ (by omega) (by omega)).mono ?_
      rintro e w2 ⟨g', b', rfl, k2, hb2, hg2, hb2'⟩
      have HB2 := Lib.hid (HB1.out.trans (hb2.mono HB1.out.size))
      clear k2 hb2 hg2 hb2'
      go_wp2
      go_ret
      exact ⟨rfl, HB2.out⟩
end Go.Proofs.Ytcacjppdcmghjaa
