/-
  WHAT IS PROVED: the law WireFields answers true for every packet and every two ints, which read behind the call as before it (a right packet with another Kind that has the same parts, or another Offset, is right, and unlike in its bytes). No condition beyond those of the given row.
-/
import Derived.Test.YtakhemhcnceajaaAnchor
import Derived.Test.YtakhemhcnceajaaBytesEq
import Derived.Test.YtakhemhcnceajaaLaw
import Derived.Deep.CutRange
namespace Go.Proofs.Ytakhemhcnceajaa
open Go.RowKit Go.Lib Go.ChangeShapes Go.WideShapes Go.ChangeAt Go.WideElems

/-- the kinds have the same parts -/
def likeK (a b : Int) : Bool := decide ((a ≤ 3 ∧ 1 ≤ b ∧ b ≤ 3) ∨ (6 ≤ a ∧ 6 ≤ b ∧ b ≤ 7) ∨ a = b)
theorem ok_fields {p : Pk} {k o : Int} (h : okP p = true) (hk : likeK p.kind k = true) (h0 : 0 ≤ o) (h1 : o ≤ 281474976710656) : okP { p with kind := k, off := o } = true := by
  have hk := of_decide_eq_true hk
  simp only [okP, isKd, isId, isIn, okMa, okAb, okSec, Bool.and_eq_true, Bool.or_eq_true, decide_eq_true_eq] at h ⊢
  obtain ⟨⟨⟨⟨⟨⟨⟨hkd, hf⟩, he⟩, hc⟩, hm⟩, ho⟩, ha⟩, hs⟩ := h
  refine ⟨⟨⟨⟨⟨⟨⟨by omega, hf⟩, he⟩, hc⟩, hm⟩, by omega⟩, ?_⟩, ⟨hs.1.1, ?_⟩, hs.2⟩
  · by_cases k5 : p.kind = 5
    · rw [if_pos k5] at ha
      rw [if_pos (by omega)]; exact ha
    · by_cases k4 : p.kind = 4
      · rw [if_neg k5, if_pos k4] at ha
        rw [if_neg (by omega), if_pos (by omega)]; exact ha
      · rw [if_neg k5, if_neg k4] at ha
        rw [if_neg (by omega), if_neg (by omega)]; exact ha
  · rcases hs.1.2 with h | h
    · exact .inl h
    · exact .inr (by omega)
theorem toL_eq (a b : List UInt8) : ((str a).toList == (str b).toList) = eqB a b := by rw [str_toList, str_toList]; rfl

set_option maxRecDepth 100000 in
set_option maxHeartbeats 4000000 in
theorem fields_any (p : Pk) (A : Option Addr) (n cap : Nat) (k2 o2 : Int) (w : World) (hl : p.sec.length = n) (hE : EsAt w A n p.sec) (hf : p.fits) : Calls Try.prog 8 #[vP p (.slice A n cap), .int .i64 k2, .int .i64 o2] w (Says true w) := by
  obtain ⟨kind, frm, ep, cf, ma, sl, off, ab, ac, as_, sec⟩ := p
  dsimp only at hl hE
  have hs : Pk.sets ⟨kind, frm, ep, cf, ma, sl, off, ab, ac, as_, sec⟩ := hf.2.2.2.2.2.2.2.2.1
  simp only [vP]
  have bk0 := Blk.new w 26 #[.int .i64 kind, .int .i64 frm, .int .i64 ep, .int .i64 cf, .int .i64 ma, .int .u64 sl, .int .i64 off, .int .i64 ab, .int .i64 ac, .int .u64 as_, .slice A n cap]
  have hB0 : Below w.heap.size w (w.alloc (.cells #[.int .i64 kind, .int .i64 frm, .int .i64 ep, .int .i64 cf, .int .i64 ma, .int .u64 sl, .int .i64 off, .int .i64 ab, .int .i64 ac, .int .u64 as_, .slice A n cap] 26)) := (Below.refl _ _).alloc (Nat.le_refl _) _
  have HS := Lib.hid hs
  clear hs hf
  go_enter Try.func8, Try.ntmps8
  go_wp2_with (fail)
  refine (anchor_any _).mono ?_
  rintro e w1 ⟨rfl, hb1⟩
  have bk1 := bk0.below hb1 bk0.lt
  have hB1 := hB0.trans (hb1.mono hB0.size)
  obtain ⟨k0, k1, k2', k3, k4, k5, k6, k7, k8, k9, k10⟩ := pk_cells bk1
  have HE1 := Lib.hid (hE.below hB1)
  clear hb1 bk0 hB0 hE
  by_cases h20 : (20 : Int) < (n : Int)
  · go_wp2
    go_ret
    exact ⟨rfl, hB1⟩
  · cases hok : okP ⟨kind, frm, ep, cf, ma, sl, off, ab, ac, as_, sec⟩ with
    | false =>
      have HOK := Lib.hid hok
      clear hok
      go_wp2_with (go_at_call 13; refine (right_any ⟨kind, frm, ep, cf, ma, sl, off, ab, ac, as_, sec⟩ A n cap w1 hl HE1.out).mono ?_; rintro e w2 ⟨rfl, hb2⟩; rw [HOK.out])
      go_ret
      exact ⟨rfl, hB1.trans (hb2.mono hB1.size)⟩
    | true =>
      have HOK := Lib.hid hok
      have HF := Lib.hid (fun (h1 : likeK kind k2 = true) (h2 : 0 ≤ o2) (h3 : o2 ≤ 281474976710656) => ok_fields (p := ⟨kind, frm, ep, cf, ma, sl, off, ab, ac, as_, sec⟩) hok h1 h2 h3)
      obtain ⟨hk, _⟩ := ok_parts hok
      clear hok
      dsimp only at hk
      go_upto_region 5 with (go_at_call 13; refine (right_any ⟨kind, frm, ep, cf, ma, sl, off, ab, ac, as_, sec⟩ A n cap w1 hl HE1.out).mono ?_; rintro e w2 ⟨rfl, hb2⟩; rw [HOK.out])
      have bk2 := bk1.below hb2 bk1.lt
      have hB2 := hB1.trans (hb2.mono hB1.size)
      have HE2 := Lib.hid (HE1.out.below hb2)
      obtain ⟨j0, j1, j2, j3, j4, j5, j6, j7, j8, j9, j10⟩ := pk_cells bk2
      have bk3 := bk2.alloc (.cells #[.int .i64 k2, .int .i64 frm, .int .i64 ep, .int .i64 cf, .int .i64 ma, .int .u64 sl, .int .i64 o2, .int .i64 ab, .int .i64 ac, .int .u64 as_, .slice A n cap] 26)
      have bq3 := Blk.new w2 26 #[.int .i64 k2, .int .i64 frm, .int .i64 ep, .int .i64 cf, .int .i64 ma, .int .u64 sl, .int .i64 o2, .int .i64 ab, .int .i64 ac, .int .u64 as_, .slice A n cap]
      have hB3 := hB2.alloc hB2.size (.cells #[.int .i64 k2, .int .i64 frm, .int .i64 ep, .int .i64 cf, .int .i64 ma, .int .u64 sl, .int .i64 o2, .int .i64 ab, .int .i64 ac, .int .u64 as_, .slice A n cap] 26)
      clear k0 k1 k2' k3 k4 k5 k6 k7 k8 k9 k10 bk1 hB1 hb2
      go_upto_region 7 with (fail)
      obtain ⟨w3, hw3⟩ : ∃ w3, w2.alloc (.cells #[.int .i64 k2, .int .i64 frm, .int .i64 ep, .int .i64 cf, .int .i64 ma, .int .u64 sl, .int .i64 o2, .int .i64 ab, .int .i64 ac, .int .u64 as_, .slice A n cap] 26) = w3 := ⟨_, rfl⟩
      have HE3 : Hid (EsAt w3 A n sec) := by rw [← hw3]; exact HE2.out.below ((Below.refl _ _).alloc (Nat.le_refl _) _)
      rw [hw3] at bk3 bq3 hB3 ⊢
      clear j0 j1 j2 j3 j4 j5 j6 j7 j8 j9 j10
      obtain ⟨j0, j1, j2, j3, j4, j5, j6, j7, j8, j9, j10⟩ := pk_cells bk3
      go_cut [8] from 29 to 58 (fun x wx => x = .bool (likeK kind k2) ∧ wx = w3)
      case first =>
        by_cases c1 : kind ≤ 3
        · by_cases c2 : k2 < 1
          · have c3 : (kind == k2) = false := by rw [beq_eq_false_iff_ne]; omega
            have HX : Hid (likeK kind k2 = false) := by show _ = _; exact decide_eq_false (by omega)
            go_wp2
            go_meet
            exact ⟨by rw [HX.out], rfl⟩
          · by_cases c4 : k2 ≤ 3
            · have HX : Hid (likeK kind k2 = true) := by show _ = _; exact decide_eq_true (by omega)
              go_wp2
              go_meet
              exact ⟨by rw [HX.out], rfl⟩
            · have c3 : (kind == k2) = false := by rw [beq_eq_false_iff_ne]; omega
              have HX : Hid (likeK kind k2 = false) := by show _ = _; exact decide_eq_false (by omega)
              go_wp2
              go_meet
              exact ⟨by rw [HX.out], rfl⟩
        · by_cases c5 : kind < 6
          · by_cases c6 : kind = k2
            · subst c6
              have HX : Hid (likeK kind kind = true) := by show _ = _; exact decide_eq_true (by omega)
              go_wp2
              go_meet
              exact ⟨by rw [HX.out], rfl⟩
            · have c3 : (kind == k2) = false := by rw [beq_eq_false_iff_ne]; omega
              have HX : Hid (likeK kind k2 = false) := by show _ = _; exact decide_eq_false (by omega)
              go_wp2
              go_meet
              exact ⟨by rw [HX.out], rfl⟩
          · by_cases c6 : k2 < 6
            · have c3 : (kind == k2) = false := by rw [beq_eq_false_iff_ne]; omega
              have HX : Hid (likeK kind k2 = false) := by show _ = _; exact decide_eq_false (by omega)
              go_wp2
              go_meet
              exact ⟨by rw [HX.out], rfl⟩
            · by_cases c7 : k2 ≤ 7
              · have HX : Hid (likeK kind k2 = true) := by show _ = _; exact decide_eq_true (by omega)
                go_wp2
                go_meet
                exact ⟨by rw [HX.out], rfl⟩
              · have c3 : (kind == k2) = false := by rw [beq_eq_false_iff_ne]; omega
                have HX : Hid (likeK kind k2 = false) := by show _ = _; exact decide_eq_false (by omega)
                go_wp2
                go_meet
                exact ⟨by rw [HX.out], rfl⟩
      case rest =>
        obtain ⟨rfl, rfl⟩ := hcut
        cases hlk : likeK kind k2 with
        | false =>
          go_wp2
          go_ret
          exact ⟨rfl, hB3⟩
        | true =>
          by_cases d1 : o2 < 0
          · go_wp2
            go_ret
            exact ⟨rfl, hB3⟩
          by_cases d2 : 281474976710656 < o2
          · go_wp2
            go_ret
            exact ⟨rfl, hB3⟩
          have HOQ := Lib.hid (HF.out hlk (by omega) (by omega))
          obtain ⟨k0, k1, k2', k3, k4, k5, k6, k7, k8, k9, k10⟩ := pk_cells bk3
          have BK3 := Lib.hid bk3
          have BQ3 := Lib.hid bq3
          have HB3 := Lib.hid hB3
          clear hlk bk3 bq3 hB3 j0 j1 j2 j3 j4 j5 j6 j7 j8 j9 j10 hw3 bk2 hB2
          go_wp2_with (fail)
          refine (encode_yes ⟨kind, frm, ep, cf, ma, sl, off, ab, ac, as_, sec⟩ A n cap wc hl HE3.out HOK.out HS.out).mono ?_
          rintro e w4 ⟨v4, rfl, ho4, hb4⟩
          obtain ⟨A4, c4, rfl, _, _, hr4⟩ := ho4.reads
          obtain ⟨n4, hn4⟩ : ∃ n4, (enc ⟨kind, frm, ep, cf, ma, sl, off, ab, ac, as_, sec⟩).length = n4 := ⟨_, rfl⟩
          rw [hn4] at hr4 ⊢
          have HR4 := Lib.hid (hr4 _ (Nat.le_refl _))
          obtain ⟨m0, m1, m2, m3, m4, m5, m6, m7, m8, m9, m10⟩ := pk_cells (BQ3.out.below hb4 BQ3.out.lt)
          have HB4 := Lib.hid (HB3.out.trans (hb4.mono HB3.out.size))
          have HE4 := Lib.hid (HE3.out.below hb4)
          have BK4 := Lib.hid (BK3.out.below hb4 BK3.out.lt)
          clear hn4 hr4 ho4 hb4 k0 k1 k2' k3 k4 k5 k6 k7 k8 k9 k10
          go_wp2_with (fail)
          refine (encode_yes ⟨k2, frm, ep, cf, ma, sl, o2, ab, ac, as_, sec⟩ A n cap w4 hl HE4.out HOQ.out HS.out).mono ?_
          rintro e w5 ⟨v5, rfl, ho5, hb5⟩
          obtain ⟨A5, c5, rfl, _, _, hr5⟩ := ho5.reads
          obtain ⟨n5, hn5⟩ : ∃ n5, (enc ⟨k2, frm, ep, cf, ma, sl, o2, ab, ac, as_, sec⟩).length = n5 := ⟨_, rfl⟩
          rw [hn5] at hr5 ⊢
          have s5 := bytes_back (c := c5) (hr5 _ (Nat.le_refl _))
          have s4 := bytes_back (c := c4) (HR4.out.below hb5)
          have bk5 := BK4.out.below hb5 BK4.out.lt
          have x0 := bk5.cell 0
          have x6 := bk5.cell 6
          have HB5 := Lib.hid (HB4.out.trans (hb5.mono HB4.out.size))
          have HI : Hid (enc ⟨kind, frm, ep, cf, ma, sl, off, ab, ac, as_, sec⟩ = enc ⟨k2, frm, ep, cf, ma, sl, o2, ab, ac, as_, sec⟩ → kind = k2 ∧ off = o2) := fun h => by
            have := enc_inj HOK.out HOQ.out HS.out HS.out h
            injection this with h1 _ _ _ _ _ h2
            exact ⟨h1, h2⟩
          clear hn5 hr5 ho5 hb5 bk5 m0 m1 m2 m3 m4 m5 m6 m7 m8 m9 m10 HF
          by_cases e1 : k2 = kind
          · subst e1
            by_cases e2 : o2 = off
            · subst e2
              have hq : ((str (enc ⟨k2, frm, ep, cf, ma, sl, o2, ab, ac, as_, sec⟩)).toList == (str (enc ⟨k2, frm, ep, cf, ma, sl, o2, ab, ac, as_, sec⟩)).toList) = true := by simp
              go_wp2
              go_ret
              exact ⟨rfl, HB5.out⟩
            · have hq : ((str (enc ⟨k2, frm, ep, cf, ma, sl, off, ab, ac, as_, sec⟩)).toList == (str (enc ⟨k2, frm, ep, cf, ma, sl, o2, ab, ac, as_, sec⟩)).toList) = false := by
                rw [toL_eq]
                cases h : eqB (enc ⟨k2, frm, ep, cf, ma, sl, off, ab, ac, as_, sec⟩) (enc ⟨k2, frm, ep, cf, ma, sl, o2, ab, ac, as_, sec⟩) with
                | false => rfl
                | true => exact absurd (HI.out (eqB_iff.1 h)).2.symm e2
              have t2 : (o2 == off) = false := by simpa using e2
              go_wp2
              go_ret
              exact ⟨rfl, HB5.out⟩
          · have hq : ((str (enc ⟨kind, frm, ep, cf, ma, sl, off, ab, ac, as_, sec⟩)).toList == (str (enc ⟨k2, frm, ep, cf, ma, sl, o2, ab, ac, as_, sec⟩)).toList) = false := by
              rw [toL_eq]
              cases h : eqB (enc ⟨kind, frm, ep, cf, ma, sl, off, ab, ac, as_, sec⟩) (enc ⟨k2, frm, ep, cf, ma, sl, o2, ab, ac, as_, sec⟩) with
              | false => rfl
              | true => exact absurd (HI.out (eqB_iff.1 h)).1.symm e1
            have t1 : (k2 == kind) = false := by simpa using e1
            go_wp2
            go_ret
            exact ⟨rfl, HB5.out⟩
end Go.Proofs.Ytakhemhcnceajaa
