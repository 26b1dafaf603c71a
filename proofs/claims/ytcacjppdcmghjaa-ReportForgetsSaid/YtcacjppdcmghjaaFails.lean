/-
  WHAT IS PROVED: the law ReportFails answers true for all arguments (somebody is failing just if more than half of the voters told so, in time). No condition beyond those of the given row.
-/
import Derived.Test.YtcacjppdcmghjaaAnchor
namespace Go.Proofs.Ytcacjppdcmghjaa
open Go.RowKit Go.Lib Go.Maps

/-- those steps that are notes -/
def ones (l : List St) : List St := l.filter fun x => decide (x.how = 1)
theorem ones_yes {l : List St} {k : Nat} {x : St} (h : l[k]? = some x) (h1 : x.how = 1) : notesL (ones (l.take (k + 1))) = noteL (notesL (ones (l.take k))) x.a x.b x.t := by
  unfold ones; rw [take_snoc_ h, List.filter_append]; simp [h1, notes_snoc]
theorem ones_no {l : List St} {k : Nat} {x : St} (h : l[k]? = some x) (h1 : x.how ≠ 1) : notesL (ones (l.take (k + 1))) = notesL (ones (l.take k)) := by
  unfold ones; rw [take_snoc_ h, List.filter_append]; simp [h1]
theorem ones_le (l : List St) (k n : Nat) (h : l.length = n) : (notesL (ones (l.take k))).length ≤ n := by
  have h1 := notes_len (ones (l.take k))
  have h2 : (ones (l.take k)).length ≤ (l.take k).length := List.length_filter_le _ _
  have h3 := List.length_take_le' k l
  omega

/-- a list of reports stays while a book's map is written -/
theorem RpsAt.kept {w w' : World} {A : Option Addr} {n b : Nat} {l L : List Rp} (h : RpsAt w A n l) (hm : MapAt w b L) (hg : w.grownBy w' (some b)) : RpsAt w' A n l :=
  ⟨h.1, fun hn => by
    obtain ⟨ad, e, hlt, hc⟩ := h.2 hn
    have hne : ad.block ≠ b := by
      intro hb
      have hl : 0 < l.length := by rw [h.1]; exact hn
      have h0 := (hc 0 l[0] (List.getElem?_eq_getElem hl)).1
      obtain ⟨D, ⟨es, clock, hh, _⟩, _⟩ := hm
      unfold World.cell? at h0
      rw [block_of_add, hb, hh] at h0
      simp at h0
    have hk : ∀ j u, w.cell? (ad.add j) = some u → w'.cell? (ad.add j) = some u := fun j u hu =>
      (World.cell?_of_block (hg.block (ad.add j).block (by rw [block_of_add]; exact hlt) (fun e => hne (by rw [block_of_add] at e; injection e)))).trans hu
    refine ⟨ad, e, Nat.lt_of_lt_of_le hlt hg.size, fun i s hs => ?_⟩
    obtain ⟨c0, c1, c2⟩ := hc i s hs
    exact ⟨hk _ _ c0, hk _ _ c1, hk _ _ c2⟩⟩

set_option maxRecDepth 100000 in
set_option maxHeartbeats 8000000 in
theorem fails_in (win : Int) (A : Option Addr) (n c : Nat) (l : List St) (now : Int) (V : Option Addr) (m d : Nat) (vs : List Int) (W : World) (hw1 : 1 ≤ win) (hw2 : win ≤ 1073741824) (hn : n ≤ 80) (hm : m ≤ 100) (hmd : m ≤ d) (hd : d ≤ 9223372036854775807)
    (hr : ActsAt W A n l) (hv : ∀ g, W.heap.size ≤ g → Reads W g V m (zints vs)) (h0 : -1125899906842624 ≤ now) (h1 : now ≤ 1125899906842624) :
    Calls Try.prog 4 #[.int .i64 win, .slice A n c, .int .i64 now, .slice V m d] W (Says true W) := by
  have d0 : (n : Int) ≤ 80 := by omega
  have d1 : (m : Int) ≤ 100 := by omega
  have HR := Lib.hid hr
  have HV := Lib.hid (hv _ (Nat.le_refl _))
  have HL := Lib.hid hr.1
  clear hr hv
  go_enter Try.func4, Try.ntmps4
  go_wp2_with (fail)
  refine (anchor_any _).mono ?_
  rintro e w0 ⟨rfl, hb0⟩
  have HB0 := Lib.hid hb0
  clear hb0
  go_wp2_with (fail)
  refine (new_yes win _ hw1 hw2).mono ?_
  rintro e w1 ⟨g, b, rfl, k1, hb1, hg, hb⟩
  have K1 := Lib.hid k1
  have HB1 := Lib.hid (HB0.out.trans (hb1.mono HB0.out.size))
  have HBb : Hid (W.heap.size ≤ b) := Lib.hid (Nat.le_trans HB0.out.size hb)
  clear k1 hb1 hg hb
  go_wp2
  go_loopw [11, 45] (fun vl i wr => ∃ (k : Nat) (A9 : Option Addr) (n9 c9 : Nat), k ≤ n ∧ i = .int .i64 k ∧ vl = .slice A9 n9 c9 ∧ n9 ≤ c9 ∧ c9 ≤ 9223372036854775807 ∧ RpsAt wr A9 n9 (notesL (ones (l.take k))) ∧ Bk wr g b win (notesL (ones (l.take k))) ∧ Below W.heap.size W wr) (fun _ i _ => n - (intOf i).toNat)
  case atStart => exact ⟨0, none, 0, 0, by omega, rfl, rfl, by omega, by omega, RpsAt.nil_ _ _, K1.out, HB1.out⟩
  case round =>
    obtain ⟨k, A9, n9, c9, hk, rfl, rfl, hc9, hcm9, hrp, hbk, hbw⟩ := hrel
    have HK := Lib.hid hbk
    have HW := Lib.hid hbw
    have HRP := Lib.hid hrp
    have HLE := Lib.hid (ones_le l k n HL.out)
    have hn9 : n9 ≤ 80 := by have := HLE.out; have := hrp.1; omega
    clear hbk hbw hrp
    by_cases hlt : k < n
    · obtain ⟨ad, x, rfl, hx, hbl, f0, f1, f2, f3⟩ := (HR.out.below HW.out).at_ hlt
      have hgl : g < wr.heap.size := HK.out.lt
      by_cases hx1 : x.how = 1
      · have HX := Lib.hid (ones_yes hx hx1)
        have hx1' : (x.how == 1) = true := by simpa using hx1
        obtain ⟨er, HE⟩ : ∃ er : Int, Hid (noteE x.a x.b x.t = er) := ⟨_, Lib.hid rfl⟩
        clear hx hx1
        go_wp2_with (fail)
        refine (note_any g b _ _ x.a x.b x.t _ (HK.out.below ((Below.refl _ _).alloc (Nat.le_refl _) _)) (by have := HLE.out; omega)).mono ?_
        rintro e w2 ⟨rfl, k2, hg2⟩
        rw [HE.out]
        rw [← HX.out] at k2
        have K2 := Lib.hid k2
        have HB2 := Lib.hid ((HK.out.below ((Below.refl _ _).alloc (Nat.le_refl _) _)).grownB (HW.out.alloc HW.out.size _) HBb.out hg2)
        have HS2 : Hid (Sx w2 wr.heap.size x) := Lib.hid ((Sx.new wr x).kept hg2 (by have := HK.out.ltb; simp; omega))
        have HP2 : Hid (RpsAt w2 A9 n9 (notesL (ones (l.take k)))) := Lib.hid ((HRP.out.below ((Below.refl _ _).alloc (Nat.le_refl _) _)).kept (HK.out.below ((Below.refl _ _).alloc (Nat.le_refl _) _)).map hg2)
        have hlt2 : wr.heap.size < w2.heap.size := HS2.out.lt
        obtain ⟨a0, a1, a2, a3⟩ := HS2.out.cells
        clear k2 hg2
        by_cases her : er = 0
        · subst her
          go_wp2_with (fail)
          refine (rnote_any A9 n9 c9 _ x _ (by omega) hc9 hcm9 HP2.out).mono ?_
          rintro e w3 ⟨A3, n3, c3, rfl, hrp3, hc3, hcm3, hb3⟩
          rw [← HX.out] at hrp3
          have HP3 := Lib.hid hrp3
          have K3 := Lib.hid (K2.out.below hb3)
          have HB3 := Lib.hid (HB2.out.trans (hb3.mono HB2.out.size))
          clear hrp3 hb3
          go_wp2
          go_roundw
          case rel => exact ⟨k + 1, A3, n3, c3, by omega, by go_num, rfl, hc3, hcm3, HP3.out, K3.out, HB3.out⟩
          case measure => simp [intOf]; omega
        · have her' : (er == 0) = false := by simpa using her
          have HX3 : Hid (notesL (ones (l.take (k + 1))) = notesL (ones (l.take k))) := Lib.hid (HX.out.trans (noteL_no (by rw [HE.out]; exact her)))
          clear her
          go_wp2
          go_roundw
          case rel => exact ⟨k + 1, A9, n9, c9, by omega, by go_num, rfl, hc9, hcm9, by rw [HX3.out]; exact HP2.out, K2.out, HB2.out⟩
          case measure => simp [intOf]; omega
      · have HX := Lib.hid (ones_no hx hx1)
        have hx1' : (x.how == 1) = false := by simpa using hx1
        have hal : Below wr.heap.size wr (wr.alloc (.cells #[.int .i64 x.how, .int .i64 x.a, .int .i64 x.b, .int .i64 x.t] 30)) := (Below.refl _ _).alloc (Nat.le_refl _) _
        have HAL := Lib.hid hal
        clear hx hx1 hal
        go_wp2
        go_roundw
        case rel => exact ⟨k + 1, A9, n9, c9, by omega, by go_num, rfl, hc9, hcm9, by rw [HX.out]; exact HRP.out.below HAL.out, by rw [HX.out]; exact HK.out.below HAL.out, HW.out.alloc HW.out.size _⟩
        case measure => simp [intOf]; omega
    · obtain rfl : k = n := by omega
      have HT : Hid (l.take k = l) := Lib.hid (List.take_of_length_le (by rw [HL.out]; exact Nat.le_refl _))
      rw [HT.out] at HK HLE HRP
      obtain ⟨L, HLL⟩ : ∃ L, Hid (notesL (ones l) = L) := ⟨_, Lib.hid rfl⟩
      rw [HLL.out] at HK HLE HRP
      obtain ⟨w5, rfl⟩ : ∃ w5, w5 = wr := ⟨_, rfl⟩
      go_wp2
      go_loopw [72] (fun i wr => ∃ j : Nat, j ≤ k ∧ i = .int .i64 j ∧ Below w5.heap.size w5 wr) (fun i _ => k - (intOf i).toNat)
      case atStart => exact ⟨0, by omega, rfl, Below.refl _ _⟩
      case round =>
        obtain ⟨w6, rfl⟩ : ∃ w6, w6 = wr := ⟨_, rfl⟩
        obtain ⟨j, hj, rfl, hb6⟩ := hrel
        have HB6 := Lib.hid hb6
        have HW6 := Lib.hid (HW.out.trans (hb6.mono HW.out.size))
        have hs6 := hb6.size
        clear hb6
        by_cases hlt : j < k
        · obtain ⟨ad, x, rfl, hx, hbl, f0, f1, f2, f3⟩ := (HR.out.below HW6.out).at_ hlt
          obtain ⟨bl, HBL⟩ : ∃ y, Hid (byL L x.a now win = y) := ⟨_, Lib.hid rfl⟩
          obtain ⟨q, HQ⟩ : ∃ q : Bool, Hid (Q.majB vs (byL L x.a now win) = q) := ⟨_, Lib.hid rfl⟩
          have HQ2 : Hid (Q.majB vs bl = q) := Lib.hid (by rw [← HBL.out]; exact HQ.out)
          have HIN : Hid (Q.inInts bl) := Lib.hid (by rw [← HBL.out]; exact by_in HK.out.good _ _ _)
          have hbl80 : bl.length ≤ 80 := by have h := HLE.out; have h1 := by_le L x.a now win; rw [HBL.out] at h1; omega
          have HLE2 : Hid (L.length < 100000) := Lib.hid (by have := HLE.out; omega)
          have HAL : Hid (Below w5.heap.size w5 (w6.alloc (.cells #[.int .i64 x.how, .int .i64 x.a, .int .i64 x.b, .int .i64 x.t] 30))) := Lib.hid (HB6.out.alloc hs6 _)
          have HKA : Hid (∀ w', Below (w6.alloc (.cells #[.int .i64 x.how, .int .i64 x.a, .int .i64 x.b, .int .i64 x.t] 30)).heap.size (w6.alloc (.cells #[.int .i64 x.how, .int .i64 x.a, .int .i64 x.b, .int .i64 x.t] 30)) w' → Bk w' g b win L) := Lib.hid fun w' h => HK.out.below (HAL.out.trans (h.mono HAL.out.size))
          have HPA : Hid (∀ w', Below (w6.alloc (.cells #[.int .i64 x.how, .int .i64 x.a, .int .i64 x.b, .int .i64 x.t] 30)).heap.size (w6.alloc (.cells #[.int .i64 x.how, .int .i64 x.a, .int .i64 x.b, .int .i64 x.t] 30)) w' → RpsAt w' A9 n9 L) := Lib.hid fun w' h => HRP.out.below (HAL.out.trans (h.mono HAL.out.size))
          have HWA : Hid (∀ w', Below (w6.alloc (.cells #[.int .i64 x.how, .int .i64 x.a, .int .i64 x.b, .int .i64 x.t] 30)).heap.size (w6.alloc (.cells #[.int .i64 x.how, .int .i64 x.a, .int .i64 x.b, .int .i64 x.t] 30)) w' → Below w5.heap.size w5 w') := Lib.hid fun w' h => HAL.out.trans (h.mono HAL.out.size)
          have HVA : Hid (∀ w', Below (w6.alloc (.cells #[.int .i64 x.how, .int .i64 x.a, .int .i64 x.b, .int .i64 x.t] 30)).heap.size (w6.alloc (.cells #[.int .i64 x.how, .int .i64 x.a, .int .i64 x.b, .int .i64 x.t] 30)) w' → Reads w' w'.heap.size V m (zints vs)) := Lib.hid fun w' h => by
            have h1 := HW.out.trans ((HAL.out.trans (h.mono HAL.out.size)).mono HW.out.size)
            exact HV.out.old h1 h1.size
          have HC : Hid (∀ w', Below (w6.alloc (.cells #[.int .i64 x.how, .int .i64 x.a, .int .i64 x.b, .int .i64 x.t] 30)).heap.size (w6.alloc (.cells #[.int .i64 x.how, .int .i64 x.a, .int .i64 x.b, .int .i64 x.t] 30)) w' → w'.cell? ⟨w6.heap.size, 1, none⟩ = some (.int .i64 x.a)) := Lib.hid fun w' h => ((Sx.new w6 x).below h).cells.2.1
          clear hx
          go_upto_region 16 with (fail)
          clear f0 f1 f2 f3
          cases q
          all_goals
            go_region_held3 (fun w' => w'.cell? ⟨w6.heap.size, 1, none⟩ = some (.int .i64 x.a)) (first | exact HC.out _ (b0 (w6.alloc (.cells #[.int .i64 x.how, .int .i64 x.a, .int .i64 x.b, .int .i64 x.t] 30))) | exact HC.out _ HB9.out | exact HC.out _ HB8.out | exact HC.out _ HB7.out) (first | (go_at_call 21; refine (failing_any g b win L x.a now V m d vs _ (HKA.out _ (b0 (w6.alloc (.cells #[.int .i64 x.how, .int .i64 x.a, .int .i64 x.b, .int .i64 x.t] 30)))) HLE2.out hmd hd (HVA.out _ (b0 (w6.alloc (.cells #[.int .i64 x.how, .int .i64 x.a, .int .i64 x.b, .int .i64 x.t] 30))))).mono ?_; rintro e w7 ⟨rfl, hb7⟩; rw [HQ.out]; have HB7 : Hid (Below (w6.alloc (.cells #[.int .i64 x.how, .int .i64 x.a, .int .i64 x.b, .int .i64 x.t] 30)).heap.size (w6.alloc (.cells #[.int .i64 x.how, .int .i64 x.a, .int .i64 x.b, .int .i64 x.t] 30)) w7) := Lib.hid ((b0 (w6.alloc (.cells #[.int .i64 x.how, .int .i64 x.a, .int .i64 x.b, .int .i64 x.t] 30))).trans (hb7.mono (b0 (w6.alloc (.cells #[.int .i64 x.how, .int .i64 x.a, .int .i64 x.b, .int .i64 x.t] 30))).size)); clear hb7) | (go_at_call 20; refine (rby_any A9 n9 c9 L x.a now win _ (by omega) (HPA.out _ HB7.out) HK.out.good.2 ⟨hw1, hw2⟩ ⟨by omega, by omega⟩).mono ?_; rintro e w8 ⟨hb8, v8, rfl, hown8⟩; rw [HBL.out] at hown8; obtain ⟨A8, c8, rfl, hc8, hcm8⟩ := own_slice hown8; have HB8 : Hid (Below (w6.alloc (.cells #[.int .i64 x.how, .int .i64 x.a, .int .i64 x.b, .int .i64 x.t] 30)).heap.size (w6.alloc (.cells #[.int .i64 x.how, .int .i64 x.a, .int .i64 x.b, .int .i64 x.t] 30)) w8) := Lib.hid (HB7.out.trans (hb8.mono HB7.out.size)); have HR8 := Lib.hid (own_read hown8 _ (.inl (Nat.le_refl _))); clear hb8 hown8) | (go_at_call 22; refine (Q.maj_any V A8 m d bl.length c8 vs bl _ hmd hd (by omega) (HVA.out _ HB8.out) HR8.out HIN.out).mono ?_; rintro e w9 ⟨rfl, hb9⟩; rw [HQ2.out]; have HB9 : Hid (Below (w6.alloc (.cells #[.int .i64 x.how, .int .i64 x.a, .int .i64 x.b, .int .i64 x.t] 30)).heap.size (w6.alloc (.cells #[.int .i64 x.how, .int .i64 x.a, .int .i64 x.b, .int .i64 x.t] 30)) w9) := Lib.hid (HB8.out.trans (hb9.mono HB8.out.size)); clear hb9))
            go_wp2
            go_roundw
            case rel => exact ⟨j + 1, by omega, by go_num, HWA.out _ HB9.out⟩
            case measure => simp [intOf]; omega
        · obtain rfl : j = k := by omega
          go_wp2
          go_ret
          exact ⟨rfl, HW6.out⟩

set_option maxHeartbeats 2000000 in
theorem fails_any (win : Int) (A : Option Addr) (n c : Nat) (l : List St) (now : Int) (V : Option Addr) (m d : Nat) (vs : List Int) (W : World) (hmd : m ≤ d) (hd : d ≤ 9223372036854775807) (hr : ActsAt W A n l) (hv : ∀ g, W.heap.size ≤ g → Reads W g V m (zints vs)) :
    Calls Try.prog 4 #[.int .i64 win, .slice A n c, .int .i64 now, .slice V m d] W (Says true W) := by
  by_cases hw : 1 ≤ win ∧ win ≤ 1073741824
  · obtain ⟨hw1, hw2⟩ := hw
    by_cases hok : n ≤ 80 ∧ m ≤ 100 ∧ -1125899906842624 ≤ now ∧ now ≤ 1125899906842624
    · exact fails_in win A n c l now V m d vs W hw1 hw2 hok.1 hok.2.1 hmd hd hr hv hok.2.2.1 hok.2.2.2
    · have hc : (80 : Int) < n ∨ (decide ((80 : Int) < n) = false ∧ (100 : Int) < m) ∨ (decide ((80 : Int) < n) = false ∧ decide ((100 : Int) < m) = false ∧ now < -1125899906842624) ∨ (decide ((80 : Int) < n) = false ∧ decide ((100 : Int) < m) = false ∧ decide (now < -1125899906842624) = false ∧ 1125899906842624 < now) := by simp; omega
      clear hok hr hv
      rcases hc with h1 | ⟨h1, h2⟩ | ⟨h1, h2, h3⟩ | ⟨h1, h2, h3, h4⟩
      all_goals
        go_enter Try.func4, Try.ntmps4
        go_wp2_with (fail)
        refine (anchor_any _).mono ?_
        rintro e w0 ⟨rfl, hb0⟩
        have HB0 := Lib.hid hb0
        clear hb0
        go_wp2_with (fail)
        refine (new_yes win _ hw1 hw2).mono ?_
        rintro e w1 ⟨g, b, rfl, k1, hb1, hg, hb⟩
        have HB1 := Lib.hid (HB0.out.trans (hb1.mono HB0.out.size))
        clear k1 hb1 hg hb
        go_wp2
        go_ret
        exact ⟨rfl, HB1.out⟩
  · clear hr hv
    go_enter Try.func4, Try.ntmps4
    go_wp2_with (fail)
    refine (anchor_any _).mono ?_
    rintro e w0 ⟨rfl, hb0⟩
    have HB0 := Lib.hid hb0
    clear hb0
    go_wp2_with (fail)
    refine (new_no win _ (by omega)).mono ?_
    rintro e w1 ⟨rfl, rfl⟩
    go_wp2
    go_ret
    exact ⟨rfl, HB0.out⟩
end Go.Proofs.Ytcacjppdcmghjaa
