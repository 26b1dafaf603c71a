/-
  WHAT IS PROVED: the law WireUnlike answers true for every two packets, which read behind the call as before it (two right packets have the same bytes just if they are the same). No condition beyond those of the given row.
-/
import Derived.Test.YtakhemhcnceajaaAnchor
import Derived.Test.YtakhemhcnceajaaBytesEq
import Derived.Test.YtakhemhcnceajaaLaw
import Derived.Test.YtakhemhcnceajaaSame
import Derived.Test.YtakhemhcnceajaaEncode
import Derived.Deep.RegionHeld3
import Derived.Deep.CutRange
namespace Go.Proofs.Ytakhemhcnceajaa
open Go.RowKit Go.Lib Go.ChangeShapes Go.WideShapes Go.ChangeAt Go.WideElems

theorem enc_same {p q : Pk} (hp : okP p = true) (hq : okP q = true) (sp : p.sets) (sq : q.sets) : eqB (enc p) (enc q) = samePk p q := by
  unfold samePk
  cases h : eqB (enc p) (enc q) with
  | true => exact (decide_eq_true (enc_inj hp hq sp sq (eqB_iff.1 h))).symm
  | false =>
    refine (decide_eq_false fun e => ?_).symm
    subst e
    rw [eqB_iff.2 rfl] at h
    cases h

set_option maxRecDepth 100000 in
set_option maxHeartbeats 8000000 in
theorem unlike_any (p q : Pk) (A : Option Addr) (n cap : Nat) (C : Option Addr) (m d : Nat) (w : World) (hl : p.sec.length = n) (hE : EsAt w A n p.sec) (hf : p.fits) (hm : q.sec.length = m) (hF : EsAt w C m q.sec) (hg : q.fits) (hmd : m ≤ d) (hdm : d ≤ 9223372036854775807) :
    Calls Try.prog 6 #[vP p (.slice A n cap), vP q (.slice C m d)] w (Says true w) := by
  obtain ⟨kind, frm, ep, cf, ma, sl, off, ab, ac, as_, sec⟩ := p
  obtain ⟨kind2, frm2, ep2, cf2, ma2, sl2, off2, ab2, ac2, as_2, sec2⟩ := q
  dsimp only at hl hE hm hF
  have hs : Pk.sets ⟨kind, frm, ep, cf, ma, sl, off, ab, ac, as_, sec⟩ := hf.2.2.2.2.2.2.2.2.1
  have ht : Pk.sets ⟨kind2, frm2, ep2, cf2, ma2, sl2, off2, ab2, ac2, as_2, sec2⟩ := hg.2.2.2.2.2.2.2.2.1
  simp only [vP]
  have bp0 := (Blk.new w 26 #[.int .i64 kind, .int .i64 frm, .int .i64 ep, .int .i64 cf, .int .i64 ma, .int .u64 sl, .int .i64 off, .int .i64 ab, .int .i64 ac, .int .u64 as_, .slice A n cap]).alloc (.cells #[.int .i64 kind2, .int .i64 frm2, .int .i64 ep2, .int .i64 cf2, .int .i64 ma2, .int .u64 sl2, .int .i64 off2, .int .i64 ab2, .int .i64 ac2, .int .u64 as_2, .slice C m d] 26)
  have bq0 := Blk.new (w.alloc (.cells #[.int .i64 kind, .int .i64 frm, .int .i64 ep, .int .i64 cf, .int .i64 ma, .int .u64 sl, .int .i64 off, .int .i64 ab, .int .i64 ac, .int .u64 as_, .slice A n cap] 26)) 26 #[.int .i64 kind2, .int .i64 frm2, .int .i64 ep2, .int .i64 cf2, .int .i64 ma2, .int .u64 sl2, .int .i64 off2, .int .i64 ab2, .int .i64 ac2, .int .u64 as_2, .slice C m d]
  have hB0 : Below w.heap.size w ((w.alloc (.cells #[.int .i64 kind, .int .i64 frm, .int .i64 ep, .int .i64 cf, .int .i64 ma, .int .u64 sl, .int .i64 off, .int .i64 ab, .int .i64 ac, .int .u64 as_, .slice A n cap] 26)).alloc (.cells #[.int .i64 kind2, .int .i64 frm2, .int .i64 ep2, .int .i64 cf2, .int .i64 ma2, .int .u64 sl2, .int .i64 off2, .int .i64 ab2, .int .i64 ac2, .int .u64 as_2, .slice C m d] 26)) := ((Below.refl _ _).alloc (Nat.le_refl _) _).alloc (by simp) _
  rw [show (w.alloc (.cells #[.int .i64 kind, .int .i64 frm, .int .i64 ep, .int .i64 cf, .int .i64 ma, .int .u64 sl, .int .i64 off, .int .i64 ab, .int .i64 ac, .int .u64 as_, .slice A n cap] 26)).heap.size = w.heap.size + 1 by simp] at bq0
  have HS := Lib.hid hs
  have HT := Lib.hid ht
  clear hs hf ht hg
  go_enter Try.func6, Try.ntmps6
  go_wp2_with (fail)
  refine (anchor_any _).mono ?_
  rintro e w1 ⟨rfl, hb1⟩
  have bp1 := bp0.below hb1 bp0.lt
  have bq1 := bq0.below hb1 bq0.lt
  have hB1 := hB0.trans (hb1.mono hB0.size)
  obtain ⟨k0, k1, k2, k3, k4, k5, k6, k7, k8, k9, k10⟩ := pk_cells bp1
  obtain ⟨j0, j1, j2, j3, j4, j5, j6, j7, j8, j9, j10⟩ := pk_cells bq1
  have HE1 := Lib.hid (hE.below hB1)
  have HF1 := Lib.hid (hF.below hB1)
  clear hb1 bp0 bq0 hB0 hE hF
  by_cases h20 : (20 : Int) < (n : Int)
  · go_wp2
    go_ret
    exact ⟨rfl, hB1⟩
  by_cases h21 : (20 : Int) < (m : Int)
  · go_wp2
    go_ret
    exact ⟨rfl, hB1⟩
  cases hok : okP ⟨kind, frm, ep, cf, ma, sl, off, ab, ac, as_, sec⟩ with
  | false =>
    have HOK := Lib.hid hok
    have HB1 := Lib.hid hB1
    have HBQ := Lib.hid bq1
    clear hok hB1 bp1 bq1
    go_wp2_with (fail)
    refine (encode_no ⟨kind, frm, ep, cf, ma, sl, off, ab, ac, as_, sec⟩ A n cap w1 hl HE1.out HOK.out).mono ?_
    rintro e w2 ⟨rfl, hb2⟩
    have HB2 := Lib.hid (HB1.out.trans (hb2.mono HB1.out.size))
    have HF2 := Lib.hid (HF1.out.below hb2)
    clear k0 k1 k2 k3 k4 k5 k6 k7 k8 k9 k10 j0 j1 j2 j3 j4 j5 j6 j7 j8 j9 j10
    obtain ⟨j0, j1, j2, j3, j4, j5, j6, j7, j8, j9, j10⟩ := pk_cells (HBQ.out.below hb2 HBQ.out.lt)
    clear hb2
    cases hoq : okP ⟨kind2, frm2, ep2, cf2, ma2, sl2, off2, ab2, ac2, as_2, sec2⟩ with
    | false =>
      have HOQ := Lib.hid hoq
      clear hoq
      go_wp2_with (go_at_call 12; refine (encode_no ⟨kind2, frm2, ep2, cf2, ma2, sl2, off2, ab2, ac2, as_2, sec2⟩ C m d w2 hm HF2.out HOQ.out).mono ?_; rintro e w3 ⟨rfl, hb3⟩)
      go_ret
      exact ⟨rfl, HB2.out.trans (hb3.mono HB2.out.size)⟩
    | true =>
      have HOQ := Lib.hid hoq
      clear hoq
      go_wp2_with (go_at_call 12; refine (encode_yes ⟨kind2, frm2, ep2, cf2, ma2, sl2, off2, ab2, ac2, as_2, sec2⟩ C m d w2 hm HF2.out HOQ.out HT.out).mono ?_; rintro e w3 ⟨v3, rfl, _, hb3⟩)
      go_ret
      exact ⟨rfl, HB2.out.trans (hb3.mono HB2.out.size)⟩
  | true =>
    have HOK := Lib.hid hok
    have HB1 := Lib.hid hB1
    have HBQ := Lib.hid bq1
    have HBP := Lib.hid bp1
    clear hok hB1 bp1 bq1
    go_wp2_with (fail)
    refine (encode_yes ⟨kind, frm, ep, cf, ma, sl, off, ab, ac, as_, sec⟩ A n cap w1 hl HE1.out HOK.out HS.out).mono ?_
    rintro e w2 ⟨v2, rfl, ho2, hb2⟩
    have HB2 := Lib.hid (HB1.out.trans (hb2.mono HB1.out.size))
    have HE2 := Lib.hid (HE1.out.below hb2)
    have HF2 := Lib.hid (HF1.out.below hb2)
    have HBQ2 := Lib.hid (HBQ.out.below hb2 HBQ.out.lt)
    have HBP2 := Lib.hid (HBP.out.below hb2 HBP.out.lt)
    obtain ⟨A2, c2, rfl, _, _, hr2⟩ := ho2.reads
    obtain ⟨n2, hn2⟩ : ∃ n2, (enc ⟨kind, frm, ep, cf, ma, sl, off, ab, ac, as_, sec⟩).length = n2 := ⟨_, rfl⟩
    rw [hn2] at hr2 ⊢
    have HR2 := Lib.hid (hr2 _ (Nat.le_refl _))
    clear k0 k1 k2 k3 k4 k5 k6 k7 k8 k9 k10 j0 j1 j2 j3 j4 j5 j6 j7 j8 j9 j10 HBQ HBP HE1 HF1 hn2 hr2 ho2 hb2
    obtain ⟨j0, j1, j2, j3, j4, j5, j6, j7, j8, j9, j10⟩ := pk_cells HBQ2.out
    cases hoq : okP ⟨kind2, frm2, ep2, cf2, ma2, sl2, off2, ab2, ac2, as_2, sec2⟩ with
    | false =>
      have HOQ := Lib.hid hoq
      clear hoq
      go_wp2_with (go_at_call 12; refine (encode_no ⟨kind2, frm2, ep2, cf2, ma2, sl2, off2, ab2, ac2, as_2, sec2⟩ C m d w2 hm HF2.out HOQ.out).mono ?_; rintro e w3 ⟨rfl, hb3⟩)
      go_ret
      exact ⟨rfl, HB2.out.trans (hb3.mono HB2.out.size)⟩
    | true =>
      have HOQ := Lib.hid hoq
      clear hoq
      go_wp2_with (fail)
      refine (encode_yes ⟨kind2, frm2, ep2, cf2, ma2, sl2, off2, ab2, ac2, as_2, sec2⟩ C m d w2 hm HF2.out HOQ.out HT.out).mono ?_
      rintro e w3 ⟨v3, rfl, ho3, hb3⟩
      obtain ⟨A3, c3, rfl, _, _, hr3⟩ := ho3.reads
      obtain ⟨n3, hn3⟩ : ∃ n3, (enc ⟨kind2, frm2, ep2, cf2, ma2, sl2, off2, ab2, ac2, as_2, sec2⟩).length = n3 := ⟨_, rfl⟩
      rw [hn3] at hr3 ⊢
      have HR3 := Lib.hid (hr3 _ (Nat.le_refl _))
      have HR23 := Lib.hid (HR2.out.below hb3)
      have HE3 := Lib.hid (HE2.out.below hb3)
      have HF3 := Lib.hid (HF2.out.below hb3)
      have HB3 := Lib.hid (HB2.out.trans (hb3.mono HB2.out.size))
      have HBQ3 := Lib.hid (HBQ2.out.below hb3 HBQ2.out.lt)
      have HBP3 := Lib.hid (HBP2.out.below hb3 HBP2.out.lt)
      obtain ⟨b0, hb0⟩ : ∃ b, samePk ⟨kind, frm, ep, cf, ma, sl, off, ab, ac, as_, sec⟩ ⟨kind2, frm2, ep2, cf2, ma2, sl2, off2, ab2, ac2, as_2, sec2⟩ = b := ⟨_, rfl⟩
      have HQ : Hid (eqB (enc ⟨kind, frm, ep, cf, ma, sl, off, ab, ac, as_, sec⟩) (enc ⟨kind2, frm2, ep2, cf2, ma2, sl2, off2, ab2, ac2, as_2, sec2⟩) = b0) := by show _ = _; rw [← hb0]; exact enc_same HOK.out HOQ.out HS.out HT.out
      have HP := Lib.hid hb0
      have HC : Hid (∀ w' : World, Below w3.heap.size w3 w' → w'.cell? ⟨w.heap.size, 0, none⟩ = some (.int .i64 kind) ∧ w'.cell? ⟨w.heap.size, 1, none⟩ = some (.int .i64 frm) ∧ w'.cell? ⟨w.heap.size, 2, none⟩ = some (.int .i64 ep) ∧ w'.cell? ⟨w.heap.size, 3, none⟩ = some (.int .i64 cf) ∧ w'.cell? ⟨w.heap.size, 4, none⟩ = some (.int .i64 ma) ∧ w'.cell? ⟨w.heap.size, 5, none⟩ = some (.int .u64 sl) ∧ w'.cell? ⟨w.heap.size, 6, none⟩ = some (.int .i64 off) ∧ w'.cell? ⟨w.heap.size, 7, none⟩ = some (.int .i64 ab) ∧ w'.cell? ⟨w.heap.size, 8, none⟩ = some (.int .i64 ac) ∧ w'.cell? ⟨w.heap.size, 9, none⟩ = some (.int .u64 as_) ∧ w'.cell? ⟨w.heap.size, 10, none⟩ = some (.slice A n cap) ∧ w'.cell? ⟨w.heap.size + 1, 0, none⟩ = some (.int .i64 kind2) ∧ w'.cell? ⟨w.heap.size + 1, 1, none⟩ = some (.int .i64 frm2) ∧ w'.cell? ⟨w.heap.size + 1, 2, none⟩ = some (.int .i64 ep2) ∧ w'.cell? ⟨w.heap.size + 1, 3, none⟩ = some (.int .i64 cf2) ∧ w'.cell? ⟨w.heap.size + 1, 4, none⟩ = some (.int .i64 ma2) ∧ w'.cell? ⟨w.heap.size + 1, 5, none⟩ = some (.int .u64 sl2) ∧ w'.cell? ⟨w.heap.size + 1, 6, none⟩ = some (.int .i64 off2) ∧ w'.cell? ⟨w.heap.size + 1, 7, none⟩ = some (.int .i64 ab2) ∧ w'.cell? ⟨w.heap.size + 1, 8, none⟩ = some (.int .i64 ac2) ∧ w'.cell? ⟨w.heap.size + 1, 9, none⟩ = some (.int .u64 as_2) ∧ w'.cell? ⟨w.heap.size + 1, 10, none⟩ = some (.slice C m d)) := by
        show ∀ w' : World, _
        intro w' hb
        obtain ⟨k0, k1, k2, k3, k4, k5, k6, k7, k8, k9, k10⟩ := pk_cells (HBP3.out.below hb HBP3.out.lt)
        obtain ⟨j0, j1, j2, j3, j4, j5, j6, j7, j8, j9, j10⟩ := pk_cells (HBQ3.out.below hb HBQ3.out.lt)
        exact ⟨k0, k1, k2, k3, k4, k5, k6, k7, k8, k9, k10, j0, j1, j2, j3, j4, j5, j6, j7, j8, j9, j10⟩
      have HD : Hid (Below w3.heap.size w3 w3.drew) := (Below.refl _ w3).drew
      have hn6 : n ≤ 1000000 := by omega
      clear j0 j1 j2 j3 j4 j5 j6 j7 j8 j9 j10 hn3 hr3 ho3 hb3 hb0 HBQ2 HBP2 HBQ3 HBP3
      go_wp2_with (fail)
      go_region_held3 (fun w' => w'.cell? ⟨w.heap.size, 0, none⟩ = some (.int .i64 kind) ∧ w'.cell? ⟨w.heap.size, 1, none⟩ = some (.int .i64 frm) ∧ w'.cell? ⟨w.heap.size, 2, none⟩ = some (.int .i64 ep) ∧ w'.cell? ⟨w.heap.size, 3, none⟩ = some (.int .i64 cf) ∧ w'.cell? ⟨w.heap.size, 4, none⟩ = some (.int .i64 ma) ∧ w'.cell? ⟨w.heap.size, 5, none⟩ = some (.int .u64 sl) ∧ w'.cell? ⟨w.heap.size, 6, none⟩ = some (.int .i64 off) ∧ w'.cell? ⟨w.heap.size, 7, none⟩ = some (.int .i64 ab) ∧ w'.cell? ⟨w.heap.size, 8, none⟩ = some (.int .i64 ac) ∧ w'.cell? ⟨w.heap.size, 9, none⟩ = some (.int .u64 as_) ∧ w'.cell? ⟨w.heap.size, 10, none⟩ = some (.slice A n cap) ∧ w'.cell? ⟨w.heap.size + 1, 0, none⟩ = some (.int .i64 kind2) ∧ w'.cell? ⟨w.heap.size + 1, 1, none⟩ = some (.int .i64 frm2) ∧ w'.cell? ⟨w.heap.size + 1, 2, none⟩ = some (.int .i64 ep2) ∧ w'.cell? ⟨w.heap.size + 1, 3, none⟩ = some (.int .i64 cf2) ∧ w'.cell? ⟨w.heap.size + 1, 4, none⟩ = some (.int .i64 ma2) ∧ w'.cell? ⟨w.heap.size + 1, 5, none⟩ = some (.int .u64 sl2) ∧ w'.cell? ⟨w.heap.size + 1, 6, none⟩ = some (.int .i64 off2) ∧ w'.cell? ⟨w.heap.size + 1, 7, none⟩ = some (.int .i64 ab2) ∧ w'.cell? ⟨w.heap.size + 1, 8, none⟩ = some (.int .i64 ac2) ∧ w'.cell? ⟨w.heap.size + 1, 9, none⟩ = some (.int .u64 as_2) ∧ w'.cell? ⟨w.heap.size + 1, 10, none⟩ = some (.slice C m d)) ((refine HC.out _ ?_; first | with_reducible exact HD.out | with_reducible exact HD4.out | fail)) (first | (go_at_call 16; refine (same_any A2 A3 n2 c2 n3 c3 w2.heap.size w3.heap.size (enc ⟨kind, frm, ep, cf, ma, sl, off, ab, ac, as_, sec⟩) (enc ⟨kind2, frm2, ep2, cf2, ma2, sl2, off2, ab2, ac2, as_2, sec2⟩) w3.drew HR23.out HR3.out).mono ?_; rintro e w5 ⟨rfl, rfl⟩; rw [HQ.out]) | (go_at_call 16; refine (same_any A2 A3 n2 c2 n3 c3 w2.heap.size w3.heap.size (enc ⟨kind, frm, ep, cf, ma, sl, off, ab, ac, as_, sec⟩) (enc ⟨kind2, frm2, ep2, cf2, ma2, sl2, off2, ab2, ac2, as_2, sec2⟩) w4 HR4a.out HR4b.out).mono ?_; rintro e w5 ⟨rfl, rfl⟩; rw [HQ.out]) | (go_at_call 18; refine (samepk_any ⟨kind, frm, ep, cf, ma, sl, off, ab, ac, as_, sec⟩ ⟨kind2, frm2, ep2, cf2, ma2, sl2, off2, ab2, ac2, as_2, sec2⟩ A C n cap m d w3.drew hl hm (HE3.out.below HD.out) (HF3.out.below HD.out) hn6 hmd hdm).mono ?_; rintro e w4 ⟨rfl, hb4⟩; rw [HP.out]; have HD4 := Lib.hid (HD.out.trans (hb4.mono HD.out.size)); have HR4a := Lib.hid (HR23.out.below HD4.out); have HR4b := Lib.hid (HR3.out.below HD4.out)) | fail)
      all_goals
        cases b0
        · go_wp2
          go_ret
          exact ⟨rfl, HB3.out.trans (HD4.out.mono HB3.out.size)⟩
        · go_wp2
          go_ret
          exact ⟨rfl, HB3.out.trans (HD4.out.mono HB3.out.size)⟩
end Go.Proofs.Ytakhemhcnceajaa
