/-
  WHAT IS PROVED: the law ReportForgets answers true for all arguments (behind Forget nothing is by somebody or about it, and all else stays). No condition beyond those of the given row.
-/
import Derived.Test.YtcacjppdcmghjaaFails
namespace Go.Proofs.Ytcacjppdcmghjaa
open Go.RowKit Go.Lib Go.Maps

/-- those notes that have nothing to do with somebody -/
def apartN (id : Int) (l : List St) : List St := (ones l).filter fun x => decide (x.a ≠ id ∧ x.b ≠ id)
theorem apartN_yes {id : Int} {l : List St} {k : Nat} {x : St} (h : l[k]? = some x) (h1 : x.how = 1) (h2 : x.a ≠ id ∧ x.b ≠ id) : notesL (apartN id (l.take (k + 1))) = noteL (notesL (apartN id (l.take k))) x.a x.b x.t := by
  unfold apartN ones; rw [take_snoc_ h, List.filter_append, List.filter_append]; simp [h1, h2, notes_snoc]
theorem apartN_not {id : Int} {l : List St} {k : Nat} {x : St} (h : l[k]? = some x) (h2 : ¬ (x.a ≠ id ∧ x.b ≠ id)) : notesL (apartN id (l.take (k + 1))) = notesL (apartN id (l.take k)) := by
  unfold apartN ones
  rw [take_snoc_ h, List.filter_append, List.filter_append]
  by_cases h1 : x.how = 1
  · rw [show [x].filter (fun x => decide (x.how = 1)) = [x] by simp [h1], show [x].filter (fun x => decide (x.a ≠ id ∧ x.b ≠ id)) = [] by simpa using h2, List.append_nil]
  · simp [h1]
theorem apartN_no {id : Int} {l : List St} {k : Nat} {x : St} (h : l[k]? = some x) (h1 : x.how ≠ 1) : notesL (apartN id (l.take (k + 1))) = notesL (apartN id (l.take k)) := by
  unfold apartN ones; rw [take_snoc_ h, List.filter_append, List.filter_append]; simp [h1]
theorem apartN_le (id : Int) (l : List St) (k n : Nat) (h : l.length = n) : (notesL (apartN id (l.take k))).length ≤ n := by
  have h1 := notes_len (apartN id (l.take k))
  have h2 : (apartN id (l.take k)).length ≤ (ones (l.take k)).length := List.length_filter_le _ _
  have h3 : (ones (l.take k)).length ≤ (l.take k).length := List.length_filter_le _ _
  have h4 := List.length_take_le' k l
  omega
theorem mem_apartN {id : Int} {l : List St} {x : St} : x ∈ apartN id l ↔ x ∈ ones l ∧ x.a ≠ id ∧ x.b ≠ id := by unfold apartN; simp
/-- what is left is what would have come of the others alone -/
theorem forget_perm (id : Int) (l : List St) : ((notesL (ones l)).filter fun r => !ofB id r).Perm (notesL (apartN id l)) := by
  refine perm_of_mem _ _ ((notes_good _).1.filter _).nodup (notes_good _).1.nodup fun r => ?_
  rw [List.mem_filter, mem_notes, mem_notes]
  unfold Came ofB
  simp only [Bool.not_eq_true', decide_eq_false_iff_not]
  constructor
  · rintro ⟨⟨⟨x, hx, ho, hk, ht⟩, hm⟩, hn⟩
    have hxi : x.a ≠ id ∧ x.b ≠ id := ⟨fun e => hn (.inl (hk.1.trans e)), fun e => hn (.inr (hk.2.trans e))⟩
    exact ⟨⟨x, mem_apartN.2 ⟨hx, hxi⟩, ho, hk, ht⟩, fun y hy => hm y (mem_apartN.1 hy).1⟩
  · rintro ⟨⟨x, hx, ho, hk, ht⟩, hm⟩
    obtain ⟨hx1, hx2, hx3⟩ := mem_apartN.1 hx
    refine ⟨⟨⟨x, hx1, ho, hk, ht⟩, fun y hy hyo hyk => ?_⟩, ?_⟩
    · exact hm y (mem_apartN.2 ⟨hy, by rw [← hyk.1, hk.1]; exact hx2, by rw [← hyk.2, hk.2]; exact hx3⟩) hyo hyk
    · rintro (h | h)
      · exact hx2 (hk.1.symm.trans h)
      · exact hx3 (hk.2.symm.trans h)
theorem forget_none (id now win : Int) (L : List Rp) : byL (L.filter fun r => !ofB id r) id now win = [] := by
  cases h : byL (L.filter fun r => !ofB id r) id now win with
  | nil => rfl
  | cons x r =>
    have hx : x ∈ byL (L.filter fun r => !ofB id r) id now win := by rw [h]; simp
    obtain ⟨s, hs, ha, _⟩ := mem_by.1 hx
    have := (List.mem_filter.1 hs).2
    unfold ofB at this
    simp [ha] at this

set_option maxRecDepth 100000 in
set_option maxHeartbeats 8000000 in
theorem forgets_in (A : Option Addr) (n c : Nat) (l : List St) (id : Int) (W : World) (hn : n ≤ 80) (hr : ActsAt W A n l) :
    Calls Try.prog 6 #[.slice A n c, .int .i64 id] W (Says true W) := by
  have d0 : (n : Int) ≤ 80 := by omega
  have HR := Lib.hid hr
  have HL := Lib.hid hr.1
  clear hr
  go_enter Try.func6, Try.ntmps6
  go_wp2_with (fail)
  refine (anchor_any _).mono ?_
  rintro e w0 ⟨rfl, hb0⟩
  have HB0 := Lib.hid hb0
  clear hb0
  go_wp2_with (fail)
  refine (new_yes 1073741824 _ (by omega) (by omega)).mono ?_
  rintro e w1 ⟨g, b, rfl, k1, hb1, hg, hb⟩
  have K1 := Lib.hid k1
  have HB1 := Lib.hid (HB0.out.trans (hb1.mono HB0.out.size))
  have HBb : Hid (W.heap.size ≤ b) := Lib.hid (Nat.le_trans HB0.out.size hb)
  clear k1 hb1 hg hb
  go_wp2_with (fail)
  refine (new_yes 1073741824 _ (by omega) (by omega)).mono ?_
  rintro e w2 ⟨g', b', rfl, k2, hb2, hg2, hb2'⟩
  have K2 := Lib.hid k2
  have K12 := Lib.hid (K1.out.below hb2)
  have HB2 := Lib.hid (HB1.out.trans (hb2.mono HB1.out.size))
  have HBb' : Hid (W.heap.size ≤ b') := Lib.hid (Nat.le_trans HB1.out.size hb2')
  have HNE : Hid (b ≠ b') := Lib.hid (by have := K1.out.ltb; omega)
  clear k2 hb2 hg2 hb2'
  go_wp2
  go_loopw [43] (fun i wr => ∃ k : Nat, k ≤ n ∧ i = .int .i64 k ∧ Bk wr g b 1073741824 (notesL (ones (l.take k))) ∧ Bk wr g' b' 1073741824 (notesL (apartN id (l.take k))) ∧ Below W.heap.size W wr) (fun i _ => n - (intOf i).toNat)
  case atStart => exact ⟨0, by omega, rfl, K12.out, K2.out, HB2.out⟩
  case round =>
    obtain ⟨k, hk, rfl, hbk, hbk2, hbw⟩ := hrel
    have HK := Lib.hid hbk
    have HK2 := Lib.hid hbk2
    have HW := Lib.hid hbw
    have HLE := Lib.hid (ones_le l k n HL.out)
    have HLE2 := Lib.hid (apartN_le id l k n HL.out)
    clear hbk hbk2 hbw
    by_cases hlt : k < n
    · obtain ⟨w3, rfl⟩ : ∃ w3, w3 = wr := ⟨_, rfl⟩
      obtain ⟨ad, x, rfl, hx, hbl, f0, f1, f2, f3⟩ := (HR.out.below HW.out).at_ hlt
      have hal : Below w3.heap.size w3 (w3.alloc (.cells #[.int .i64 x.how, .int .i64 x.a, .int .i64 x.b, .int .i64 x.t] 30)) := (Below.refl _ _).alloc (Nat.le_refl _) _
      have HAL := Lib.hid hal
      have HBL : Hid (b < w3.heap.size) := Lib.hid HK.out.ltb
      clear hal
      by_cases hx1 : x.how = 1
      · have HX := Lib.hid (ones_yes hx hx1)
        have hx1' : (x.how != 1) = false := by simpa using hx1
        have hw2 : (notesL (apartN id (l.take (k + 1))) = noteL (notesL (apartN id (l.take k))) x.a x.b x.t ∧ (x.a != id) = true ∧ (x.b != id) = true) ∨ (notesL (apartN id (l.take (k + 1))) = notesL (apartN id (l.take k)) ∧ ((x.a != id) = false ∨ ((x.a != id) = true ∧ (x.b != id) = false))) := by
          by_cases ha : x.a = id
          · exact .inr ⟨apartN_not hx (by simp [ha]), .inl (by simpa using ha)⟩
          · by_cases hb : x.b = id
            · exact .inr ⟨apartN_not hx (by simp [hb]), .inr ⟨by simpa using ha, by simpa using hb⟩⟩
            · exact .inl ⟨apartN_yes hx hx1 ⟨ha, hb⟩, by simpa using ha, by simpa using hb⟩
        clear hx hx1
        go_wp2_with (fail)
        refine (note_any g b _ _ x.a x.b x.t _ (HK.out.below HAL.out) (by have := HLE.out; omega)).mono ?_
        rintro e w5 ⟨rfl, k5, hg5⟩
        rw [← HX.out] at k5
        have K5 := Lib.hid k5
        have K6 := Lib.hid ((HK2.out.below HAL.out).other (HK.out.below HAL.out) HNE.out.symm hg5)
        have HB5 := Lib.hid ((HK.out.below HAL.out).grownB (HW.out.alloc HW.out.size _) HBb.out hg5)
        have HS5 : Hid (Sx w5 w3.heap.size x) := Lib.hid ((Sx.new w3 x).kept hg5 (by have := HBL.out; simp; omega))
        obtain ⟨e0, e1, e2, e3⟩ := HS5.out.cells
        clear k5 hg5
        rcases hw2 with ⟨hy, y1, y2⟩ | ⟨hy, y⟩
        · have HY := Lib.hid hy
          clear hy
          go_wp2_with (fail)
          refine (note_any g' b' _ _ x.a x.b x.t _ K6.out (by have := HLE2.out; omega)).mono ?_
          rintro e w7 ⟨rfl, k7, hg7⟩
          rw [← HY.out] at k7
          have K7 := Lib.hid k7
          have K8 := Lib.hid (K5.out.other K6.out HNE.out hg7)
          have HB7 := Lib.hid (K6.out.grownB HB5.out HBb'.out hg7)
          clear k7 hg7
          go_wp2
          go_roundw
          case rel => exact ⟨k + 1, by omega, by go_num, K8.out, K7.out, HB7.out⟩
          case measure => simp [intOf]; omega
        · have HY := Lib.hid hy
          clear hy
          rcases y with y | ⟨y, y'⟩
          all_goals
            go_wp2
            go_roundw
            case rel => exact ⟨k + 1, by omega, by go_num, K5.out, by rw [HY.out]; exact K6.out, HB5.out⟩
            case measure => simp [intOf]; omega
      · have HX := Lib.hid (ones_no hx hx1)
        have HY := Lib.hid (apartN_no (id := id) hx hx1)
        have hx1' : (x.how != 1) = true := by simpa using hx1
        clear hx hx1
        go_wp2
        go_roundw
        case rel => exact ⟨k + 1, by omega, by go_num, by rw [HX.out]; exact HK.out.below HAL.out, by rw [HY.out]; exact HK2.out.below HAL.out, HW.out.alloc HW.out.size _⟩
        case measure => simp [intOf]; omega
    · obtain rfl : k = n := by omega
      have HT : Hid (l.take k = l) := Lib.hid (List.take_of_length_le (by rw [HL.out]; exact Nat.le_refl _))
      rw [HT.out] at HK HLE HK2 HLE2
      have HPM := Lib.hid (forget_perm id l)
      obtain ⟨L, HLL⟩ : ∃ L, Hid (notesL (ones l) = L) := ⟨_, Lib.hid rfl⟩
      obtain ⟨C, HCC⟩ : ∃ L, Hid (notesL (apartN id l) = L) := ⟨_, Lib.hid rfl⟩
      rw [HLL.out] at HK HLE HPM
      rw [HCC.out] at HK2 HLE2 HPM
      have HNO := Lib.hid (forget_none id 0 1073741824 L)
      have hfl : (L.filter fun r => !ofB id r).length ≤ L.length := List.length_filter_le _ _
      obtain ⟨F, HF⟩ : ∃ F, Hid ((L.filter fun r => !ofB id r) = F) := ⟨_, Lib.hid rfl⟩
      rw [HF.out] at HNO HPM hfl
      obtain ⟨p, HP⟩ : ∃ p : Int, Hid ((L.length : Int) = p) := ⟨_, Lib.hid rfl⟩
      obtain ⟨s, HS⟩ : ∃ p : Int, Hid ((F.length : Int) = p) := ⟨_, Lib.hid rfl⟩
      have HS2 : Hid ((C.length : Int) = s) := Lib.hid (by rw [← HPM.out.length_eq]; exact HS.out)
      obtain ⟨q, HQ⟩ : ∃ q : Int, Hid ((L.length : Int) - (F.length : Int) = q) := ⟨_, Lib.hid rfl⟩
      have hq : (q != p - s) = false := by have h1 := HQ.out; have h2 := HP.out; have h3 := HS.out; simp; omega
      have hp0 : 0 ≤ p := by have := HP.out; omega
      have hp1 : p ≤ 80 := by have := HP.out; have := HLE.out; omega
      have hs0 : 0 ≤ s := by have := HS.out; omega
      have hs1 : s ≤ 80 := by have := HS.out; have := HLE.out; omega
      have HLA : Hid (L.length < 100000) := Lib.hid (by have := HLE.out; omega)
      have HLF : Hid (F.length < 100000) := Lib.hid (by have := HLE.out; omega)
      have HLC : Hid (C.length < 100000) := Lib.hid (by have := HLE2.out; omega)
      clear hfl
      go_wp2_with (fail)
      refine (len_any g b _ _ _ HK.out).mono ?_
      rintro e w4 ⟨rfl, rfl⟩
      rw [HP.out]
      go_wp2_with (fail)
      refine (forget_any g b _ _ id _ HK.out HLA.out).mono ?_
      rintro e w4 ⟨rfl, k4, hg4⟩
      rw [HF.out] at k4 ⊢
      rw [HQ.out]
      have HK4 := Lib.hid k4
      have HKC4 := Lib.hid (HK2.out.other HK.out HNE.out.symm hg4)
      have HB4 := Lib.hid (HK.out.grownB HW.out HBb.out hg4)
      clear k4 hg4
      go_wp2_with (fail)
      refine (len_any g' b' _ _ _ HKC4.out).mono ?_
      rintro e w5 ⟨rfl, rfl⟩
      rw [HS2.out]
      go_wp2_with (fail)
      refine (len_any g b _ _ _ HK4.out).mono ?_
      rintro e w5 ⟨rfl, rfl⟩
      rw [HS.out]
      go_wp2_with (fail)
      refine (len_any g' b' _ _ _ HKC4.out).mono ?_
      rintro e w5 ⟨rfl, rfl⟩
      rw [HS2.out]
      go_wp2_with (fail)
      refine (by_any g b _ _ id 0 _ HK4.out HLF.out).mono ?_
      rintro e w5 ⟨hb5, v5, rfl, hown5⟩
      rw [HNO.out] at hown5
      obtain ⟨A5, c5, rfl, hc5, hcm5⟩ := own_slice hown5
      have HW5 := Lib.hid (HB4.out.trans (hb5.mono HB4.out.size))
      have HKA5 := Lib.hid (HK4.out.below hb5)
      have HKC5 := Lib.hid (HKC4.out.below hb5)
      clear hb5 hown5
      go_wp2
      go_loopw [103] (fun i wr => ∃ j : Nat, j ≤ k ∧ i = .int .i64 j ∧ Below w5.heap.size w5 wr) (fun i _ => k - (intOf i).toNat)
      case atStart => exact ⟨0, by omega, rfl, Below.refl _ _⟩
      case round =>
        obtain ⟨w6, rfl⟩ : ∃ w6, w6 = wr := ⟨_, rfl⟩
        obtain ⟨j, hj, rfl, hb6⟩ := hrel
        have HB6 := Lib.hid hb6
        have HW6 := Lib.hid (HW5.out.trans (hb6.mono HW5.out.size))
        have hs6 := hb6.size
        clear hb6
        by_cases hlt : j < k
        · obtain ⟨ad, x, rfl, hx, hbl, f0, f1, f2, f3⟩ := (HR.out.below HW6.out).at_ hlt
          obtain ⟨bl, HBL⟩ : ∃ y, Hid (byL F x.a 0 1073741824 = y) := ⟨_, Lib.hid rfl⟩
          have HBL2 : Hid (byL C x.a 0 1073741824 = bl) := Lib.hid (by rw [← by_perm HPM.out]; exact HBL.out)
          have HSM := Lib.hid (same_yes (rfl : bl = bl))
          have hbl80 : bl.length ≤ 80 := by have h := HS.out; have h1 := by_le F x.a 0 1073741824; rw [HBL.out] at h1; omega
          have HAL : Hid (Below w5.heap.size w5 (w6.alloc (.cells #[.int .i64 x.how, .int .i64 x.a, .int .i64 x.b, .int .i64 x.t] 30))) := Lib.hid (HB6.out.alloc hs6 _)
          have HKA : Hid (∀ w', Below (w6.alloc (.cells #[.int .i64 x.how, .int .i64 x.a, .int .i64 x.b, .int .i64 x.t] 30)).heap.size (w6.alloc (.cells #[.int .i64 x.how, .int .i64 x.a, .int .i64 x.b, .int .i64 x.t] 30)) w' → Bk w' g b 1073741824 F) := Lib.hid fun w' h => HKA5.out.below (HAL.out.trans (h.mono HAL.out.size))
          have HKC : Hid (∀ w', Below (w6.alloc (.cells #[.int .i64 x.how, .int .i64 x.a, .int .i64 x.b, .int .i64 x.t] 30)).heap.size (w6.alloc (.cells #[.int .i64 x.how, .int .i64 x.a, .int .i64 x.b, .int .i64 x.t] 30)) w' → Bk w' g' b' 1073741824 C) := Lib.hid fun w' h => HKC5.out.below (HAL.out.trans (h.mono HAL.out.size))
          have HWA : Hid (∀ w', Below (w6.alloc (.cells #[.int .i64 x.how, .int .i64 x.a, .int .i64 x.b, .int .i64 x.t] 30)).heap.size (w6.alloc (.cells #[.int .i64 x.how, .int .i64 x.a, .int .i64 x.b, .int .i64 x.t] 30)) w' → Below w5.heap.size w5 w') := Lib.hid fun w' h => HAL.out.trans (h.mono HAL.out.size)
          have HC : Hid (∀ w', Below (w6.alloc (.cells #[.int .i64 x.how, .int .i64 x.a, .int .i64 x.b, .int .i64 x.t] 30)).heap.size (w6.alloc (.cells #[.int .i64 x.how, .int .i64 x.a, .int .i64 x.b, .int .i64 x.t] 30)) w' → w'.cell? ⟨w6.heap.size, 1, none⟩ = some (.int .i64 x.a)) := Lib.hid fun w' h => ((Sx.new w6 x).below h).cells.2.1
          clear hx
          go_upto_region 21 with (fail)
          clear f0 f1 f2 f3
          go_region_held3 (fun w' => w'.cell? ⟨w6.heap.size, 1, none⟩ = some (.int .i64 x.a)) (first | exact HC.out _ (b0 (w6.alloc (.cells #[.int .i64 x.how, .int .i64 x.a, .int .i64 x.b, .int .i64 x.t] 30))) | exact HC.out _ HB9.out | exact HC.out _ HB8.out | exact HC.out _ HB7.out) (first | (go_at_call 19; (with_reducible refine (by_any g b 1073741824 F x.a 0 _ (HKA.out _ (b0 (w6.alloc (.cells #[.int .i64 x.how, .int .i64 x.a, .int .i64 x.b, .int .i64 x.t] 30)))) HLF.out).mono ?_); rintro e w7 ⟨hb7, v7, rfl, hown7⟩; rw [HBL.out] at hown7; obtain ⟨A7, c7, rfl, hc7, hcm7⟩ := own_slice hown7; have HB7 : Hid (Below (w6.alloc (.cells #[.int .i64 x.how, .int .i64 x.a, .int .i64 x.b, .int .i64 x.t] 30)).heap.size (w6.alloc (.cells #[.int .i64 x.how, .int .i64 x.a, .int .i64 x.b, .int .i64 x.t] 30)) w7) := Lib.hid ((b0 (w6.alloc (.cells #[.int .i64 x.how, .int .i64 x.a, .int .i64 x.b, .int .i64 x.t] 30))).trans (hb7.mono (b0 (w6.alloc (.cells #[.int .i64 x.how, .int .i64 x.a, .int .i64 x.b, .int .i64 x.t] 30))).size)); have HO7 := Lib.hid hown7; clear hb7 hown7) | (go_at_call 19; (with_reducible refine (by_any g' b' 1073741824 C x.a 0 _ (HKC.out _ HB7.out) HLC.out).mono ?_); rintro e w8 ⟨hb8, v8, rfl, hown8⟩; rw [HBL2.out] at hown8; obtain ⟨A8, c8, rfl, hc8, hcm8⟩ := own_slice hown8; have HB8 : Hid (Below (w6.alloc (.cells #[.int .i64 x.how, .int .i64 x.a, .int .i64 x.b, .int .i64 x.t] 30)).heap.size (w6.alloc (.cells #[.int .i64 x.how, .int .i64 x.a, .int .i64 x.b, .int .i64 x.t] 30)) w8) := Lib.hid (HB7.out.trans (hb8.mono HB7.out.size)); have HR8 := Lib.hid (own_read hown8 _ (.inl (Nat.le_refl _))); have HR7 := Lib.hid (own_read (own_below HO7.out hb8) _ (.inl (Nat.le_refl _))); clear hb8 hown8) | (go_at_call 18; refine (same_any A7 A8 _ c7 _ c8 bl bl _ _ _ (by omega) (by omega) HR7.out HR8.out).mono ?_; rintro e w9 ⟨rfl, rfl⟩; rw [HSM.out]))
          go_wp2
          go_roundw
          case rel => exact ⟨j + 1, by omega, by go_num, HWA.out _ HB8.out⟩
          case measure => simp [intOf]; omega
        · obtain rfl : j = k := by omega
          go_wp2
          go_ret
          exact ⟨rfl, HW6.out⟩

set_option maxHeartbeats 2000000 in
theorem forgets_any (A : Option Addr) (n c : Nat) (l : List St) (id : Int) (W : World) (hr : ActsAt W A n l) :
    Calls Try.prog 6 #[.slice A n c, .int .i64 id] W (Says true W) := by
  by_cases hn : n ≤ 80
  · exact forgets_in A n c l id W hn hr
  · have h1 : (80 : Int) < n := by omega
    clear hn hr
    go_enter Try.func6, Try.ntmps6
    go_wp2_with (fail)
    refine (anchor_any _).mono ?_
    rintro e w0 ⟨rfl, hb0⟩
    have HB0 := Lib.hid hb0
    clear hb0
    go_wp2_with (fail)
    refine (new_yes 1073741824 _ (by omega) (by omega)).mono ?_
    rintro e w1 ⟨g, b, rfl, k1, hb1, hg, hb⟩
    have HB1 := Lib.hid (HB0.out.trans (hb1.mono HB0.out.size))
    clear k1 hb1 hg hb
    go_wp2_with (fail)
    refine (new_yes 1073741824 _ (by omega) (by omega)).mono ?_
    rintro e w2 ⟨g', b', rfl, k2, hb2, hg2, hb2'⟩
    have HB2 := Lib.hid (HB1.out.trans (hb2.mono HB1.out.size))
    clear k2 hb2 hg2 hb2'
    go_wp2
    go_ret
    exact ⟨rfl, HB2.out⟩
end Go.Proofs.Ytcacjppdcmghjaa
