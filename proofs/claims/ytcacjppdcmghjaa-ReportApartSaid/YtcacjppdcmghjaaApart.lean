/-
  WHAT IS PROVED: the law ReportApart answers true for all arguments (a report about one counts for no other one, and clearing one leaves all others). No condition beyond those of the given row.
-/
import Derived.Test.YtcacjppdcmghjaaDropped
namespace Go.Proofs.Ytcacjppdcmghjaa
open Go.RowKit Go.Lib Go.Maps

/-- what comes of a clearing: whether there was one, how many there are, who told -/
theorem drop_ways {L : List Rp} (h : Good L) (a b now win : Int) :
    (∀ x ∈ byL (dropL L a b) a now win, x ≠ b) ∧
    ((decide ((dropL L a b).length < L.length) = true ∧ (dropL L a b).length + 1 = L.length ∧ ((byL (dropL L a b) a now win).length = (byL L a now win).length ∨ (byL (dropL L a b) a now win).length + 1 = (byL L a now win).length)) ∨
      (decide ((dropL L a b).length < L.length) = false ∧ dropL L a b = L)) := by
  refine ⟨fun x hx e => ?_, ?_⟩
  · obtain ⟨r, hr, h1, _, h2⟩ := mem_by.1 hx
    exact (mem_drop.1 hr).2 ⟨h1, h2.trans e⟩
  · cases hh : hasL L a b
    · right
      have := drop_none hh
      exact ⟨by rw [this]; simp, this⟩
    · left
      have h1 := drop_one h.1 hh
      refine ⟨by simp; omega, h1, ?_⟩
      unfold byL
      rw [sorted_len, sorted_len]
      unfold whoL
      rw [List.length_map, List.length_map]
      rcases drop_filter (tellB a now win) h.1 (a := a) (b := b) with h | ⟨_, h⟩
      · exact .inl h
      · exact .inr h
theorem notes_take {l : List St} {k : Nat} {x : St} (h : l[k]? = some x) : notesL (l.take (k + 1)) = noteL (notesL (l.take k)) x.a x.b x.t := by rw [take_snoc_ h, notes_snoc]
theorem notes_le (l : List St) (k n : Nat) (h : l.length = n) : (notesL (l.take k)).length ≤ n := by have h1 := notes_len (l.take k); have h2 := List.length_take_le' k l; omega

set_option maxRecDepth 100000 in
set_option maxHeartbeats 8000000 in
theorem apart_in (A : Option Addr) (n c : Nat) (l : List St) (about byy now : Int) (W : World) (hn : n ≤ 80) (hr : ActsAt W A n l) (h0 : 0 ≤ now) (h1 : now ≤ 1073741824) (ia : inInt about) (ib : inInt byy) :
    Calls Try.prog 8 #[.slice A n c, .int .i64 about, .int .i64 byy, .int .i64 now] W (Says true W) := by
  have d0 : (n : Int) ≤ 80 := by omega
  have HR := Lib.hid hr
  have HL := Lib.hid hr.1
  have HIA := Lib.hid ia
  have HIB := Lib.hid ib
  clear hr ia ib
  go_enter Try.func8, Try.ntmps8
  go_wp2_with (fail)
  refine (anchor_any _).mono ?_
  rintro e w0 ⟨rfl, hb0⟩
  have HB0 := Lib.hid hb0
  clear hb0
  go_wp2_with (fail)
  refine (new_yes 1073741824 _ (by omega) (by omega)).mono ?_
  rintro e w1 ⟨g, b, rfl, k1, hb1, hg, hb⟩
  have K1 := Lib.hid k1
  have HB1 := Lib.hid (HB0.out.trans (hb1.mono HB0.out.size))
  have HBb : Hid (W.heap.size ≤ b) := Lib.hid (Nat.le_trans HB0.out.size hb)
  clear k1 hb1 hg hb
  go_wp2
  go_loopw [44] (fun i wr => ∃ k : Nat, k ≤ n ∧ i = .int .i64 k ∧ Bk wr g b 1073741824 (notesL (l.take k)) ∧ Below W.heap.size W wr) (fun i _ => n - (intOf i).toNat)
  case atStart => exact ⟨0, by omega, rfl, K1.out, HB1.out⟩
  case round =>
    obtain ⟨k, hk, rfl, hbk, hbw⟩ := hrel
    have HK := Lib.hid hbk
    have HW := Lib.hid hbw
    have HLE := Lib.hid (notes_le l k n HL.out)
    clear hbk hbw
    by_cases hlt : k < n
    · obtain ⟨ad, x, rfl, hx, hbl, c0, c1, c2, c3⟩ := (HR.out.below HW.out).at_ hlt
      have HX := Lib.hid (notes_take hx)
      clear hx
      go_wp2_with (fail)
      refine (note_any g b _ _ x.a x.b x.t _ (HK.out.below ((Below.refl _ _).alloc (Nat.le_refl _) _)) (by have := HLE.out; omega)).mono ?_
      rintro e w2 ⟨rfl, k2, hg2⟩
      rw [← HX.out] at k2
      have K2 := Lib.hid k2
      have HB2 := Lib.hid ((HK.out.below ((Below.refl _ _).alloc (Nat.le_refl _) _)).grownB (HW.out.alloc HW.out.size _) HBb.out hg2)
      clear k2 hg2
      go_wp2
      go_roundw
      case rel => exact ⟨k + 1, by omega, by go_num, K2.out, HB2.out⟩
      case measure => simp [intOf]; omega
    · obtain rfl : k = n := by omega
      have HT : Hid (l.take k = l) := Lib.hid (List.take_of_length_le (by rw [HL.out]; exact Nat.le_refl _))
      rw [HT.out] at HK HLE
      obtain ⟨L, HLL⟩ : ∃ L, Hid (notesL l = L) := ⟨_, Lib.hid rfl⟩
      rw [HLL.out] at HK HLE
      have HD := Lib.hid (drop_ways HK.out.good about byy now 1073741824)
      obtain ⟨p, HP⟩ : ∃ p : Int, Hid ((L.length : Int) = p) := ⟨_, Lib.hid rfl⟩
      have hp0 : 0 ≤ p := by have := HP.out; omega
      have hp1 : p ≤ 80 := by have := HP.out; have := HLE.out; omega
      obtain ⟨M, HM⟩ : ∃ M, Hid (dropL L about byy = M) := ⟨_, Lib.hid rfl⟩
      obtain ⟨q, HQ⟩ : ∃ q : Int, Hid ((M.length : Int) = q) := ⟨_, Lib.hid rfl⟩
      have hq0 : 0 ≤ q := by have := HQ.out; omega
      obtain ⟨wa, HWA⟩ : ∃ x, Hid (byL L about now 1073741824 = x) := ⟨_, Lib.hid rfl⟩
      obtain ⟨le, HLF⟩ : ∃ x, Hid (byL M about now 1073741824 = x) := ⟨_, Lib.hid rfl⟩
      have hwa : wa.length ≤ 80 := by have := HLE.out; have h := by_le L about now 1073741824; rw [HWA.out] at h; omega
      rw [HM.out, HWA.out, HLF.out] at HD
      have HNB := Lib.hid HD.out.1
      go_wp2_with (fail)
      refine (len_any g b _ _ _ HK.out).mono ?_
      rintro e w2 ⟨rfl, rfl⟩
      rw [HP.out]
      go_wp2_with (fail)
      refine (by_any g b _ _ about now _ HK.out (by have := HLE.out; omega)).mono ?_
      rintro e w3 ⟨hb3, v3, rfl, hown3⟩
      rw [HWA.out] at hown3
      obtain ⟨A3, c3, rfl, hc3, hcm3⟩ := own_slice hown3
      have K3 := Lib.hid (HK.out.below hb3)
      have HB3 := Lib.hid (HW.out.trans (hb3.mono HW.out.size))
      have HR3 := Lib.hid (own_read hown3 _ (.inl (Nat.le_refl _)))
      have HO3 := Lib.hid hown3
      have HBB3 : Hid (b < wr.heap.size) := Lib.hid HK.out.ltb
      clear hb3 hown3
      go_wp2_with (fail)
      refine (clear_any g b _ _ about byy _ K3.out HIA.out HIB.out).mono ?_
      rintro e w4 ⟨rfl, k4, hg4⟩
      rw [HM.out] at k4 ⊢
      have K4 := Lib.hid k4
      have HB4 := Lib.hid (K3.out.grownB HB3.out HBb.out hg4)
      have HO4 := Lib.hid (HO3.out.kept hg4 (.inr (fun e => by have := (HO3.out.lt b e).1; have := HBB3.out; omega)))
      clear k4 hg4
      go_wp2_with (fail)
      refine (by_any g b _ _ about now _ K4.out (by have h := HQ.out; have h2 := HLE.out; have h3 := List.length_filter_le (fun r : Rp => !decide (r.is about byy)) L; have h4 := HM.out; unfold dropL at h4; rw [h4] at h3; omega)).mono ?_
      rintro e w5 ⟨hb5, v5, rfl, hown5⟩
      rw [HLF.out] at hown5
      obtain ⟨A5, c5, rfl, hc5, hcm5⟩ := own_slice hown5
      have K5 := Lib.hid (K4.out.below hb5)
      have HB5 := Lib.hid (HB4.out.trans (hb5.mono HB4.out.size))
      have HR5 := Lib.hid (own_read hown5 _ (.inl (Nat.le_refl _)))
      have HR4 := Lib.hid (own_read (own_below HO4.out hb5) _ (.inl (Nat.le_refl _)))
      clear hb5 hown5
      have hle : le.length ≤ 80 := by have h := HLE.out; have h1 := by_le M about now 1073741824; rw [HLF.out] at h1; have h3 := List.length_filter_le (fun r : Rp => !decide (r.is about byy)) L; have h4 := HM.out; unfold dropL at h4; rw [h4] at h3; omega
      rcases HD.out.2 with ⟨hgo, hlen, hcnt⟩ | ⟨hgo, hML⟩
      · have hqp : (q != p - 1) = false := by have h1 := HP.out; have h2 := HQ.out; simp; omega
        have hp2 : 1 ≤ p := by have h1 := HP.out; omega
        have e1 : ((le.length : Int) == (wa.length : Int)) = true ∨ (((le.length : Int) == (wa.length : Int)) = false ∧ ((le.length : Int) == (wa.length : Int) - 1) = true ∧ (1 : Int) ≤ (wa.length : Int)) := by simp; omega
        rw [hgo]
        clear hlen hcnt hgo
        go_wp2_with (fail)
        refine (len_any g b _ _ _ K5.out).mono ?_
        rintro e w6 ⟨rfl, rfl⟩
        rw [HQ.out]
        go_wp2
        go_loop [97] (fun i => ∃ k : Nat, k ≤ le.length ∧ i = .int .i64 k) (fun i => le.length - (intOf i).toNat)
        case atStart => exact ⟨0, by omega, rfl⟩
        case round =>
          obtain ⟨k, hk, rfl⟩ := hrel
          by_cases hlt : k < le.length
          · obtain ⟨ad, u, rfl, hu, hcu⟩ := HR5.out.at_ hlt
            obtain ⟨z, hz, rfl⟩ := zints_at hu
            have hzb : (z == byy) = false := by have := HNB.out z (List.mem_of_getElem? hz); simpa using this
            clear hu hz
            go_wp2
            go_round
            case rel => exact ⟨k + 1, by omega, by go_num⟩
            case measure => simp [intOf]; omega
          · obtain rfl : k = le.length := by omega
            rcases e1 with e1 | ⟨e1, e2, e3⟩
            all_goals
              go_wp2
              go_ret
              exact ⟨rfl, HB5.out⟩
      · have hle2 : le = wa := by rw [← HLF.out, ← HWA.out, hML]
        have hpq : q = p := by rw [← HP.out, ← HQ.out, hML]
        subst hpq
        have HSM : Hid (sameB wa le = true) := Lib.hid (same_yes hle2.symm)
        have e1 : ((le.length : Int) == (wa.length : Int)) = true := by rw [hle2]; simp
        rw [hgo]
        clear hle2 hML hgo
        go_wp2_with (fail)
        refine (len_any g b _ _ _ K5.out).mono ?_
        rintro e w6 ⟨rfl, rfl⟩
        rw [HQ.out]
        go_wp2_with (fail)
        refine (same_any A3 A5 _ c3 _ c5 wa le _ _ _ (by omega) (by omega) HR4.out HR5.out).mono ?_
        rintro e w6 ⟨rfl, rfl⟩
        rw [HSM.out]
        go_wp2
        go_loop [97] (fun i => ∃ k : Nat, k ≤ le.length ∧ i = .int .i64 k) (fun i => le.length - (intOf i).toNat)
        case atStart => exact ⟨0, by omega, rfl⟩
        case round =>
          obtain ⟨k, hk, rfl⟩ := hrel
          by_cases hlt : k < le.length
          · obtain ⟨ad, u, rfl, hu, hcu⟩ := HR5.out.at_ hlt
            obtain ⟨z, hz, rfl⟩ := zints_at hu
            have hzb : (z == byy) = false := by have := HNB.out z (List.mem_of_getElem? hz); simpa using this
            clear hu hz
            go_wp2
            go_round
            case rel => exact ⟨k + 1, by omega, by go_num⟩
            case measure => simp [intOf]; omega
          · obtain rfl : k = le.length := by omega
            go_wp2
            go_ret
            exact ⟨rfl, HB5.out⟩

set_option maxHeartbeats 2000000 in
theorem apart_any (A : Option Addr) (n c : Nat) (l : List St) (about byy now : Int) (W : World) (hr : ActsAt W A n l) (ia : inInt about) (ib : inInt byy) :
    Calls Try.prog 8 #[.slice A n c, .int .i64 about, .int .i64 byy, .int .i64 now] W (Says true W) := by
  by_cases hok : n ≤ 80 ∧ 0 ≤ now ∧ now ≤ 1073741824
  · exact apart_in A n c l about byy now W hok.1 hr hok.2.1 hok.2.2 ia ib
  · have hc : (80 : Int) < n ∨ (decide ((80 : Int) < n) = false ∧ now < 0) ∨ (decide ((80 : Int) < n) = false ∧ decide (now < 0) = false ∧ 1073741824 < now) := by simp; omega
    clear hok hr
    rcases hc with h1 | ⟨h1, h2⟩ | ⟨h1, h2, h3⟩
    all_goals
      go_enter Try.func8, Try.ntmps8
      go_wp2_with (fail)
      refine (anchor_any _).mono ?_
      rintro e w0 ⟨rfl, hb0⟩
      have HB0 := Lib.hid hb0
      clear hb0
      go_wp2_with (fail)
      refine (new_yes 1073741824 _ (by omega) (by omega)).mono ?_
      rintro e w1 ⟨g, b, rfl, k1, hb1, hg, hb⟩
      have HB1 := Lib.hid (HB0.out.trans (hb1.mono HB0.out.size))
      clear k1 hb1 hg hb
      go_wp2
      go_ret
      exact ⟨rfl, HB1.out⟩
end Go.Proofs.Ytcacjppdcmghjaa
