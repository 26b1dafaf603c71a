/-
  WHAT IS PROVED: the contract of the document's own note. Conditions: the size.
-/
import Derived.Test.YtcacjppdcmghjaaRefs
namespace Go.Proofs.Ytcacjppdcmghjaa
open Go.RowKit Go.Lib Go.Maps

theorem in_id {x : Int} (h : isIdB x = true) : 1 ≤ x ∧ x ≤ 4294967296 := by unfold isIdB at h; simpa using h
theorem out_id {x : Int} (h : isIdB x = false) : x < 1 ∨ 4294967296 < x := by unfold isIdB at h; simp at h; omega
theorem in_time {x : Int} (h : isTimeB x = true) : 0 ≤ x ∧ x ≤ 1099511627776 := by unfold isTimeB at h; simpa using h
theorem out_time {x : Int} (h : isTimeB x = false) : x < 0 ∨ 1099511627776 < x := by unfold isTimeB at h; simp at h; omega

set_option maxRecDepth 100000 in
set_option maxHeartbeats 2000000 in
theorem rnote_no (A : Option Addr) (n c : Nat) (L : List Rp) (x : St) (m : Int) (w : World) (hnc : n ≤ c) (hcm : c ≤ 9223372036854775807) (hr : RpsAt w A n L)
    (hh : (m = 10 ∧ (x.a < 1 ∨ 4294967296 < x.a)) ∨ (m = 10 ∧ 1 ≤ x.a ∧ x.a ≤ 4294967296 ∧ (x.b < 1 ∨ 4294967296 < x.b)) ∨ (m = 10 ∧ 1 ≤ x.a ∧ x.a ≤ 4294967296 ∧ 1 ≤ x.b ∧ x.b ≤ 4294967296 ∧ (x.t < 0 ∨ 1099511627776 < x.t)) ∨
      (m = 33 ∧ 1 ≤ x.a ∧ x.a ≤ 4294967296 ∧ x.b = x.a ∧ 0 ≤ x.t ∧ x.t ≤ 1099511627776)) :
    Calls Try.prog 11 #[.slice A n c, vSt x] w (Back L m w) := by
  obtain ⟨ho, xa, xb, xt⟩ := x
  simp only at hh
  have HR := Lib.hid hr
  have HC := Lib.hid hcm
  clear hr
  rcases hh with ⟨rfl, h1⟩ | ⟨rfl, h1, h2, h3⟩ | ⟨rfl, h1, h2, h3, h4, h5⟩ | ⟨rfl, h1, h2, rfl, h5, h6⟩
  · rcases h1 with h1 | h1
    all_goals
      go_enter Try.func11, Try.ntmps11
      go_wp2
      refine wp_loop_rounds 1 ?_
      rw [rounds_succ]
      go_wp2
      go_ret2
      exact ⟨A, n, c, rfl, HR.out.below (((Below.refl _ w).alloc (Nat.le_refl _) _).alloc (by simp) _), hnc, HC.out, ((Below.refl _ w).alloc (Nat.le_refl _) _).alloc (by simp) _⟩
  · rcases h3 with h3 | h3
    all_goals
      go_enter Try.func11, Try.ntmps11
      go_wp2
      refine wp_loop_rounds 2 ?_
      rw [rounds_succ]
      go_wp2
      rw [rounds_succ]
      go_wp2
      go_ret2
      exact ⟨A, n, c, rfl, HR.out.below (((Below.refl _ w).alloc (Nat.le_refl _) _).alloc (by simp) _), hnc, HC.out, ((Below.refl _ w).alloc (Nat.le_refl _) _).alloc (by simp) _⟩
  · rcases h5 with h5 | h5
    all_goals
      go_enter Try.func11, Try.ntmps11
      go_wp2
      refine wp_loop_rounds 3 ?_
      rw [rounds_succ]
      go_wp2
      rw [rounds_succ]
      go_wp2
      rw [rounds_succ]
      go_wp2
      go_ret2
      exact ⟨A, n, c, rfl, HR.out.below (((Below.refl _ w).alloc (Nat.le_refl _) _).alloc (by simp) _), hnc, HC.out, ((Below.refl _ w).alloc (Nat.le_refl _) _).alloc (by simp) _⟩
  · go_enter Try.func11, Try.ntmps11
    go_wp2
    refine wp_loop_rounds 3 ?_
    rw [rounds_succ]
    go_wp2
    rw [rounds_succ]
    go_wp2
    rw [rounds_succ]
    go_wp2
    go_ret2
    exact ⟨A, n, c, rfl, HR.out.below (((Below.refl _ w).alloc (Nat.le_refl _) _).alloc (by simp) _), hnc, HC.out, ((Below.refl _ w).alloc (Nat.le_refl _) _).alloc (by simp) _⟩

set_option maxRecDepth 100000 in
set_option maxHeartbeats 4000000 in
theorem rnote_ok (A : Option Addr) (n c : Nat) (L : List Rp) (x : St) (w : World) (hn : n ≤ 1000) (hr : RpsAt w A n L) (he : noteE x.a x.b x.t = 0) :
    Calls Try.prog 11 #[.slice A n c, vSt x] w (Back (putL L x.a x.b x.t) 0 w) := by
  obtain ⟨i0, hi0, hz0, hz1, hz2⟩ := info_parts rp_info
  have HI0 : Hid (Try.prog.info? 53 = some i0) := hi0
  have HZ0 := Lib.hid hz0
  have HZ1 := Lib.hid hz1
  have HZ2 := Lib.hid hz2
  clear hi0 hz0 hz1 hz2
  obtain ⟨ho, xa, xb, xt⟩ := x
  simp only at he ⊢
  obtain ⟨⟨h1, h2⟩, ⟨h3, h4⟩, ⟨h5, h6⟩, h7⟩ := noteE_zero he
  have h7' : (xa == xb) = false := by simpa using h7
  have HR := Lib.hid hr
  have HLN := Lib.hid hr.1
  clear hr he h7
  go_enter Try.func11, Try.ntmps11
  go_wp2
  refine wp_loop_rounds 3 ?_
  rw [rounds_succ]
  go_wp2
  rw [rounds_succ]
  go_wp2
  rw [rounds_succ]
  have HW2 : Hid (Below w.heap.size w ((w.alloc (.cells #[.int .i64 ho, .int .i64 xa, .int .i64 xb, .int .i64 xt] 30)).alloc (.cells #[.int .i64 xa, .int .i64 xb] 3))) := Lib.hid (((Below.refl _ w).alloc (Nat.le_refl _) _).alloc (by simp) _)
  have HX2 : Hid (Sx ((w.alloc (.cells #[.int .i64 ho, .int .i64 xa, .int .i64 xb, .int .i64 xt] 30)).alloc (.cells #[.int .i64 xa, .int .i64 xb] 3)) w.heap.size ⟨ho, xa, xb, xt⟩) := Lib.hid ((Sx.new w ⟨ho, xa, xb, xt⟩).below ((Below.refl _ _).alloc (Nat.le_refl _) _))
  have HLTX : Hid (w.heap.size < ((w.alloc (.cells #[.int .i64 ho, .int .i64 xa, .int .i64 xb, .int .i64 xt] 30)).alloc (.cells #[.int .i64 xa, .int .i64 xb] 3)).heap.size) := Lib.hid HX2.out.lt
  obtain ⟨w2, HE2⟩ : ∃ w2, Hid (((w.alloc (.cells #[.int .i64 ho, .int .i64 xa, .int .i64 xb, .int .i64 xt] 30)).alloc (.cells #[.int .i64 xa, .int .i64 xb] 3)) = w2) := ⟨_, Lib.hid rfl⟩
  rw [HE2.out] at HW2 HX2 HLTX ⊢
  have hltx := HLTX.out
  obtain ⟨c0, c1, c2, c3⟩ := HX2.out.cells
  simp only at c0 c1 c2 c3
  go_wp2_with (at_builtin; refine wpList_append_reps _ rfl _ _ 28 rfl w2.heap.size 53 i0 _ Try.underlying28 HI0.out HZ0.out HZ1.out HZ2.out rfl (.slice (some ⟨w2.heap.size, 0, none⟩) 0 0) 0 [] rfl (World.ownsRow_made w2 #[] 0 (Nat.le_refl _) (Nat.zero_le _) rfl) A n c L rfl (HR.out.below (HW2.out.alloc HW2.out.size _)) (by omega) (by simp) ?_; intro v3 w3 hown3 hg3 hob3; clear hob3; simp only [Nat.zero_add, List.nil_append] at hown3; obtain ⟨A3, c3', rfl, hc3, hcm3, hrp3⟩ := own_reps hown3)
  have HB3 : Hid (Below w2.heap.size w2 w3) := Lib.hid (((Below.refl _ w2).alloc (Nat.le_refl _) _).grown hg3 (by simp) (fun j e => by cases e; exact Nat.le_refl _))
  have HO3 := Lib.hid hown3
  have HX3 := Lib.hid (HX2.out.below HB3.out)
  have hlt3 : w.heap.size < w3.heap.size := HX3.out.lt
  have HW3 : Hid (Below w.heap.size w w3) := Lib.hid (HW2.out.trans (HB3.out.mono (by omega)))
  have hbase : w.heap.size ≤ w2.heap.size := by omega
  have hb23 := HB3.out.size
  clear hown3 hg3 hrp3 c0 c1 c2 c3
  go_loopw [49] (fun i wr => ∃ k : Nat, k ≤ n ∧ i = .int .i64 k ∧ (∀ r ∈ L.take k, ¬ r.is xa xb) ∧ Below w3.heap.size w3 wr) (fun i _ => n - (intOf i).toNat)
  case atStart => exact ⟨0, by omega, rfl, by simp, Below.refl _ _⟩
  case round =>
    obtain ⟨k, hk, rfl, hno, hbr⟩ := hrel
    have HNO := Lib.hid hno
    have HBR := Lib.hid hbr
    have HX4 := Lib.hid (HX3.out.below hbr)
    obtain ⟨c0, c1, c2, c3⟩ := HX4.out.cells
    simp only at c0 c1 c2 c3
    have HO4 := Lib.hid (own_kept3 HO3.out hbr)
    have hwr := hbr.size
    have hbx : w.heap.size < wr.heap.size := HX4.out.lt
    clear hno hbr
    by_cases hlt : k < n
    · obtain ⟨A4, c4, e4, hc4, _, hrp4⟩ := own_reps HO4.out
      injection e4 with e4a e4b e4c
      subst e4a; subst e4c
      obtain ⟨ad, r, rfl, hrk, hbl, d0, d1, d2⟩ := hrp4.at_ hlt
      have HRK := Lib.hid hrk
      clear hrp4 hrk
      by_cases hra : r.a = xa
      · have hra' : (r.a == xa) = true := by simpa using hra
        by_cases hrb : r.b = xb
        · have hrb' : (r.b == xb) = true := by simpa using hrb
          have HPT := Lib.hid (put_hit (t := xt) HNO.out HRK.out ⟨hra, hrb⟩)
          obtain ⟨ad', c', e', _, _, _, _, g0, g1, g2, g3⟩ := own_set (HO4.out.alloc (.cells #[.int .i64 r.a, .int .i64 r.b, .int .i64 r.t] 53)) HRK.out
          injection e' with e'a e'b e'c
          injection e'a with e'a
          subst e'a; subst e'c
          have HG3 := Lib.hid g3
          have G2 := Lib.hid g2
          clear g2
          have hadb : w2.heap.size ≤ ad.block := (HO4.out.lt ad.block (by simp [Value.ownBlock])).1
          have HRA := Lib.hid hra
          have HRB := Lib.hid hrb
          clear g3 hra hrb
          have HWA : Hid (Below w.heap.size w (wr.alloc (.cells #[.int .i64 r.a, .int .i64 r.b, .int .i64 r.t] 53))) := Lib.hid ((HW3.out.trans (HBR.out.mono (by omega))).alloc (by omega) _)
          go_wp2
          go_ret2
          have hown9 := HG3.out (max r.t xt)
          obtain ⟨A9, c9, e9, hc9, hcm9, hrp9⟩ := own_reps hown9
          injection e9 with e9a e9b e9c
          subst e9a; subst e9c
          refine ⟨some ad, n, c3', rfl, ?_, hc9, hcm9, HWA.out.setCell (by show w.heap.size ≤ _; rw [G2.out]; omega) _⟩
          rw [HPT.out, ← HRA.out, ← HRB.out]
          exact hrp9
        · have hrb' : (r.b == xb) = false := by simpa using hrb
          have HN2 : Hid (∀ s ∈ L.take (k + 1), ¬ s.is xa xb) := Lib.hid (by
            rw [take_snoc_ HRK.out]
            intro s hs
            rcases List.mem_append.1 hs with hs | hs
            · exact HNO.out s hs
            · simp at hs; subst hs; exact fun h => hrb h.2)
          have HB5 : Hid (Below w3.heap.size w3 (wr.alloc (.cells #[.int .i64 r.a, .int .i64 r.b, .int .i64 r.t] 53))) := Lib.hid (HBR.out.alloc hwr _)
          clear hra hrb
          go_wp2
          go_roundw
          case rel => exact ⟨k + 1, by omega, by go_num, HN2.out, HB5.out⟩
          case measure => simp [intOf]; omega
      · have hra' : (r.a == xa) = false := by simpa using hra
        have HN2 : Hid (∀ s ∈ L.take (k + 1), ¬ s.is xa xb) := Lib.hid (by
          rw [take_snoc_ HRK.out]
          intro s hs
          rcases List.mem_append.1 hs with hs | hs
          · exact HNO.out s hs
          · simp at hs; subst hs; exact fun h => hra h.1)
        have HB5 : Hid (Below w3.heap.size w3 (wr.alloc (.cells #[.int .i64 r.a, .int .i64 r.b, .int .i64 r.t] 53))) := Lib.hid (HBR.out.alloc hwr _)
        clear hra
        go_wp2
        go_roundw
        case rel => exact ⟨k + 1, by omega, by go_num, HN2.out, HB5.out⟩
        case measure => simp [intOf]; omega
    · obtain rfl : k = n := by omega
      have HPT : Hid (putL L xa xb xt = L ++ [⟨xa, xb, xt⟩]) := Lib.hid (put_miss (by have := HNO.out; rwa [List.take_of_length_le (by rw [HLN.out]; exact Nat.le_refl _)] at this))
      have HWR : Hid (Below w.heap.size w wr) := Lib.hid (HW3.out.trans (HBR.out.mono (by omega)))
      go_wp2_with (at_builtin; refine wpList_append_reps _ rfl _ _ 28 rfl w2.heap.size 53 i0 _ Try.underlying28 HI0.out HZ0.out HZ1.out HZ2.out rfl (.slice A3 k c3') k L rfl (HO4.out.alloc _) (some ⟨wr.heap.size, 0, none⟩) 1 1 [⟨xa, xb, xt⟩] rfl (RpsAt.one wr ⟨xa, xb, xt⟩ _) (by omega) (by simp; omega) ?_; intro v9 w9 hown9 hg9 hob9; clear hob9; obtain ⟨A9, c9, rfl, hc9, hcm9, hrp9⟩ := own_reps hown9)
      go_ret2
      refine ⟨A9, k + 1, c9, rfl, by rw [HPT.out]; exact hrp9, hc9, hcm9, ?_⟩
      exact (HWR.out.alloc (by omega) _).grown hg9 (by simp; omega) (fun j e => Nat.le_trans hbase (HO4.out.lt j e).1)

theorem rnote_any (A : Option Addr) (n c : Nat) (L : List Rp) (x : St) (w : World) (hn : n ≤ 1000) (hnc : n ≤ c) (hcm : c ≤ 9223372036854775807) (hr : RpsAt w A n L) :
    Calls Try.prog 11 #[.slice A n c, vSt x] w (Back (noteL L x.a x.b x.t) (noteE x.a x.b x.t) w) := by
  by_cases he : noteE x.a x.b x.t = 0
  · rw [noteL_ok he, he]
    exact rnote_ok A n c L x w hn hr he
  · rw [noteL_no he]
    refine rnote_no A n c L x _ w hnc hcm hr ?_
    by_cases h1 : isIdB x.a = true
    · have i1 := in_id h1
      by_cases h2 : isIdB x.b = true
      · have i2 := in_id h2
        by_cases h3 : isTimeB x.t = true
        · have i3 := in_time h3
          have hab : x.a = x.b := Classical.byContradiction fun hn => he (noteE_ok h1 h2 h3 hn)
          refine .inr (.inr (.inr ⟨?_, i1.1, i1.2, hab.symm, i3.1, i3.2⟩))
          rw [← hab]
          exact noteE_self h1 h3
        · have h3' : isTimeB x.t = false := by simpa using h3
          exact .inr (.inr (.inl ⟨noteE_form (.inr (.inr h3')), i1.1, i1.2, i2.1, i2.2, out_time h3'⟩))
      · have h2' : isIdB x.b = false := by simpa using h2
        exact .inr (.inl ⟨noteE_form (.inr (.inl h2')), i1.1, i1.2, out_id h2'⟩)
    · have h1' : isIdB x.a = false := by simpa using h1
      exact .inl ⟨noteE_form (.inl h1'), out_id h1'⟩
end Go.Proofs.Ytcacjppdcmghjaa
