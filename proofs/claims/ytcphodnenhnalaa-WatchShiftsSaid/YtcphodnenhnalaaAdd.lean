/-
  WHAT IS PROVED: contracts of Add and Remove. Condition: the object is a watch.
-/
import Derived.Test.YtcphodnenhnalaaWatch
namespace Go.Proofs.Ytcphodnenhnalaa
open Go.RowKit Go.Lib Go.Maps

set_option maxHeartbeats 1000000 in
theorem add_form (g b : Nat) (T : Int) (L : List Pr) (x t : Int) (w : World) (h : Wt w g b T L) (h0 : isIdB x = false ∨ isTimeB t = false) :
    Calls Try.prog 11 #[.pointer (some ⟨g, 0, none⟩), .int .i64 x, .int .i64 t] w (Did g b T 10 L w) := by
  obtain ⟨b1, B1⟩ : ∃ b, Hid (isIdB x = b) := ⟨_, Lib.hid rfl⟩
  obtain ⟨b2, B2⟩ : ∃ b, Hid (isTimeB t = b) := ⟨_, Lib.hid rfl⟩
  have H0 : Hid (b1 = false ∨ b2 = false) := Lib.hid (by rw [← B1.out, ← B2.out]; exact h0)
  have HH := Lib.hid h
  clear h h0
  go_enter Try.func11, Try.ntmps11
  go_wp2_with (fail)
  refine (isid_any x _).mono ?_
  rintro e w1 ⟨rfl, rfl⟩
  rw [B1.out]
  cases b1
  · go_wp2
    go_ret
    exact ⟨rfl, HH.out, World.grownBy.refl _ _⟩
  · go_wp2_with (fail)
    refine (istime_any t _).mono ?_
    rintro e w1 ⟨rfl, rfl⟩
    rw [B2.out]
    cases b2
    · go_wp2
      go_ret
      exact ⟨rfl, HH.out, World.grownBy.refl _ _⟩
    · exact absurd H0.out (by decide)
set_option maxHeartbeats 1000000 in
theorem add_right (g b : Nat) (T : Int) (L : List Pr) (x t : Int) (w : World) (h : Wt w g b T L) (h1 : isIdB x = true) (h2 : isTimeB t = true) :
    Calls Try.prog 11 #[.pointer (some ⟨g, 0, none⟩), .int .i64 x, .int .i64 t] w (Did g b T (addE L x t) (addL L x t) w) := by
  have hix : inInt x := by have := in_id h1; unfold inInt; omega
  have HIX := Lib.hid hix
  have B1 := Lib.hid h1
  have B2 := Lib.hid h2
  obtain ⟨q, HQ⟩ : ∃ q, Hid (hasL L x = q) := ⟨_, Lib.hid rfl⟩
  have HH := Lib.hid h
  clear h h1 h2 hix
  cases q
  · by_cases hl : L.length = 16
    · have HE := Lib.hid (addE_full B1.out B2.out HQ.out hl)
      have HL : Hid (addL L x t = L) := Lib.hid (addL_no (by rw [HE.out]; decide))
      rw [HE.out, HL.out]
      have hl2 : ((L.length : Int) == 16) = true := by simp; omega
      clear hl
      go_enter Try.func11, Try.ntmps11
      go_wp2_with (fail)
      refine (isid_any x _).mono ?_
      rintro e w1 ⟨rfl, rfl⟩
      rw [B1.out]
      go_wp2_with (fail)
      refine (istime_any t _).mono ?_
      rintro e w1 ⟨rfl, rfl⟩
      rw [B2.out]
      go_wp2_with (fail)
      refine (has_any g b T L x _ HH.out HIX.out).mono ?_
      rintro e w1 ⟨rfl, hb1⟩
      rw [HQ.out]
      have K1 := Lib.hid (HH.out.below hb1)
      have HB1 := Lib.hid hb1
      have c1 := K1.out.c1
      clear hb1
      go_wp2_with (at_len; refine wpList_len_map _ rfl _ rfl b L rfl K1.out.map ?_)
      go_ret
      exact ⟨rfl, K1.out, only_of_below HB1.out _⟩
    · have HE := Lib.hid (addE_ok B1.out B2.out HQ.out hl)
      have HL := Lib.hid (addL_ok HE.out)
      have HG := Lib.hid (HH.out.good.add HE.out)
      rw [HE.out, HL.out]
      have hl2 : ((L.length : Int) == 16) = false := by simp; omega
      clear hl
      go_enter Try.func11, Try.ntmps11
      go_wp2_with (fail)
      refine (isid_any x _).mono ?_
      rintro e w1 ⟨rfl, rfl⟩
      rw [B1.out]
      go_wp2_with (fail)
      refine (istime_any t _).mono ?_
      rintro e w1 ⟨rfl, rfl⟩
      rw [B2.out]
      go_wp2_with (fail)
      refine (has_any g b T L x _ HH.out HIX.out).mono ?_
      rintro e w1 ⟨rfl, hb1⟩
      rw [HQ.out]
      have K1 := Lib.hid (HH.out.below hb1)
      have HB1 := Lib.hid hb1
      have c1 := K1.out.c1
      clear hb1
      go_wp2_with (first
        | (at_len; refine wpList_len_map _ rfl _ rfl b L rfl K1.out.map ?_)
        | (at_mapUpdate; refine wpList_update_map _ rfl _ _ _ rfl b L ⟨x, t, false, 0⟩ rfl rfl rfl K1.out.map K1.out.good.up K1.out.len HIX.out ?_; intro w2 hm2 hg2; have HM2 := Lib.hid hm2; have HG2 := Lib.hid hg2; clear hm2 hg2))
      go_ret
      exact ⟨rfl, ⟨K1.out.row.grown HG2.out K1.out.ne', HM2.out, HG.out, K1.out.to⟩, (only_of_below HB1.out _).trans HG2.out⟩
  · have HE := Lib.hid (addE_known B1.out B2.out HQ.out)
    have HL : Hid (addL L x t = L) := Lib.hid (addL_no (by rw [HE.out]; decide))
    rw [HE.out, HL.out]
    go_enter Try.func11, Try.ntmps11
    go_wp2_with (fail)
    refine (isid_any x _).mono ?_
    rintro e w1 ⟨rfl, rfl⟩
    rw [B1.out]
    go_wp2_with (fail)
    refine (istime_any t _).mono ?_
    rintro e w1 ⟨rfl, rfl⟩
    rw [B2.out]
    go_wp2_with (fail)
    refine (has_any g b T L x _ HH.out HIX.out).mono ?_
    rintro e w1 ⟨rfl, hb1⟩
    rw [HQ.out]
    have K1 := Lib.hid (HH.out.below hb1)
    have HB1 := Lib.hid hb1
    clear hb1
    go_wp2
    go_ret
    exact ⟨rfl, K1.out, only_of_below HB1.out _⟩
theorem add_any (g b : Nat) (T : Int) (L : List Pr) (x t : Int) (w : World) (h : Wt w g b T L) :
    Calls Try.prog 11 #[.pointer (some ⟨g, 0, none⟩), .int .i64 x, .int .i64 t] w (Did g b T (addE L x t) (addL L x t) w) := by
  by_cases hc : isIdB x = true ∧ isTimeB t = true
  · exact add_right g b T L x t w h hc.1 hc.2
  · have h0 : isIdB x = false ∨ isTimeB t = false := by
      by_cases h1 : isIdB x = true
      · exact .inr (by simpa using fun h2 => hc ⟨h1, h2⟩)
      · exact .inl (by simpa using h1)
    have he := addE_form (L := L) h0
    rw [he, addL_no (by rw [he]; decide)]
    exact add_form g b T L x t w h h0

set_option maxHeartbeats 1000000 in
theorem remove_any (g b : Nat) (T : Int) (L : List Pr) (x : Int) (w : World) (h : Wt w g b T L) (hx : inInt x) :
    Calls Try.prog 12 #[.pointer (some ⟨g, 0, none⟩), .int .i64 x] w fun e w' => e = .returned (.bool (hasL L x)) ∧ Wt w' g b T (delL L x) ∧ w.grownBy w' (some b) := by
  obtain ⟨q, HQ⟩ : ∃ q, Hid (hasL L x = q) := ⟨_, Lib.hid rfl⟩
  have HH := Lib.hid h
  have HX := Lib.hid hx
  clear h hx
  go_enter Try.func12, Try.ntmps12
  go_wp2_with (fail)
  refine (has_any g b T L x _ HH.out HX.out).mono ?_
  rintro e w1 ⟨rfl, hb1⟩
  rw [HQ.out]
  have K1 := Lib.hid (HH.out.below hb1)
  have HB1 := Lib.hid hb1
  have c1 := K1.out.c1
  clear hb1
  go_wp2_with (at_delete; refine wpList_delete_map _ rfl _ _ rfl b L x rfl rfl K1.out.map K1.out.good.up HX.out ?_; intro w2 hm2 hg2; have HM2 := Lib.hid hm2; have HG2 := Lib.hid hg2; clear hm2 hg2)
  go_ret
  exact ⟨by rw [HQ.out]; rfl, ⟨K1.out.row.grown HG2.out K1.out.ne', HM2.out, K1.out.good.del x, K1.out.to⟩, (only_of_below HB1.out _).trans HG2.out⟩
end Go.Proofs.Ytcphodnenhnalaa
