/-
  WHAT IS PROVED: the law WireEncodes answers true for every packet, which reads behind the call as before it (Encode against the document's Right and Encode; Decode reads the same packet). No condition beyond those of the given row.
-/
import Derived.Test.YtakhemhcnceajaaAnchor
import Derived.Test.YtakhemhcnceajaaBytesEq
import Derived.Test.YtakhemhcnceajaaLaw
import Derived.Test.YtakhemhcnceajaaSame
import Derived.Test.YtakhemhcnceajaaDecode
import Derived.Test.YtakhemhcnceajaaRmade
import Derived.Test.YtakhemhcnceajaaRright
import Derived.Test.YtakhemhcnceajaaRenc
import Derived.Deep.RegionHeld3
import Derived.Deep.CutRange
namespace Go.Proofs.Ytakhemhcnceajaa
open Go.RowKit Go.Lib Go.ChangeShapes Go.WideShapes Go.ChangeAt Go.WideElems

set_option maxRecDepth 100000 in
set_option maxHeartbeats 16000000 in
theorem encodes_any (p : Pk) (A : Option Addr) (n cap : Nat) (w : World) (hl : p.sec.length = n) (hE : EsAt w A n p.sec) (hf : p.fits) :
    Calls Try.prog 3 #[vP p (.slice A n cap)] w (Says true w) := by
  obtain ⟨kind, frm, ep, cf, ma, sl, off, ab, ac, as_, sec⟩ := p
  dsimp only at hl hE
  have hs : Pk.sets ⟨kind, frm, ep, cf, ma, sl, off, ab, ac, as_, sec⟩ := hf.2.2.2.2.2.2.2.2.1
  simp only [vP]
  have bk0 := Blk.new w 26 #[.int .i64 kind, .int .i64 frm, .int .i64 ep, .int .i64 cf, .int .i64 ma, .int .u64 sl, .int .i64 off, .int .i64 ab, .int .i64 ac, .int .u64 as_, .slice A n cap]
  have hB0 : Below w.heap.size w (w.alloc (.cells #[.int .i64 kind, .int .i64 frm, .int .i64 ep, .int .i64 cf, .int .i64 ma, .int .u64 sl, .int .i64 off, .int .i64 ab, .int .i64 ac, .int .u64 as_, .slice A n cap] 26)) := (Below.refl _ _).alloc (Nat.le_refl _) _
  have HS := Lib.hid hs
  clear hs hf
  go_enter Try.func3, Try.ntmps3
  go_wp2_with (fail)
  refine (anchor_any _).mono ?_
  rintro e w1 ⟨rfl, hb1⟩
  have bk1 := bk0.below hb1 bk0.lt
  have hB1 := hB0.trans (hb1.mono hB0.size)
  obtain ⟨k0, k1, k2, k3, k4, k5, k6, k7, k8, k9, k10⟩ := pk_cells bk1
  have HE1 := Lib.hid (hE.below hB1)
  clear hb1 bk0 hB0 hE
  by_cases h20 : (20 : Int) < (n : Int)
  · go_wp2
    go_ret
    exact ⟨rfl, hB1⟩
  have HB1 := Lib.hid hB1
  have BK1 := Lib.hid bk1
  clear hB1 bk1
  go_wp2_with (fail)
  refine (made_any ⟨kind, frm, ep, cf, ma, sl, off, ab, ac, as_, sec⟩ A n cap w1 hl HE1.out (by omega)).mono ?_
  rintro e w2 ⟨v2, rfl, ho2, hb2⟩
  obtain ⟨A2, c2, rfl, hc2, hcm2, hF2⟩ := own_reps ho2
  simp only [vP]
  have HB2 := Lib.hid (HB1.out.trans (hb2.mono HB1.out.size))
  have BK2 := Lib.hid (BK1.out.below hb2 BK1.out.lt)
  have HE2 := Lib.hid (HE1.out.below hb2)
  have HF2 := Lib.hid hF2
  clear k0 k1 k2 k3 k4 k5 k6 k7 k8 k9 k10 BK1 HB1 HE1 hF2 ho2 hb2
  go_upto_region 6 with (fail)
  have hb3 := HB2.out.alloc HB2.out.size (.cells #[.int .i64 kind, .int .i64 frm, .int .i64 ep, .int .i64 cf, .int .i64 ma, .int .u64 sl, .int .i64 off, .int .i64 ab, .int .i64 ac, .int .u64 as_, .slice A2 n c2] 30)
  have bx3 := Blk.new w2 30 #[.int .i64 kind, .int .i64 frm, .int .i64 ep, .int .i64 cf, .int .i64 ma, .int .u64 sl, .int .i64 off, .int .i64 ab, .int .i64 ac, .int .u64 as_, .slice A2 n c2]
  have bk3 := BK2.out.alloc (.cells #[.int .i64 kind, .int .i64 frm, .int .i64 ep, .int .i64 cf, .int .i64 ma, .int .u64 sl, .int .i64 off, .int .i64 ab, .int .i64 ac, .int .u64 as_, .slice A2 n c2] 30)
  have hE3 := HE2.out.below ((Below.refl w2.heap.size w2).alloc (Nat.le_refl _) (.cells #[.int .i64 kind, .int .i64 frm, .int .i64 ep, .int .i64 cf, .int .i64 ma, .int .u64 sl, .int .i64 off, .int .i64 ab, .int .i64 ac, .int .u64 as_, .slice A2 n c2] 30))
  have hF3 := HF2.out.below ((Below.refl w2.heap.size w2).alloc (Nat.le_refl _) (.cells #[.int .i64 kind, .int .i64 frm, .int .i64 ep, .int .i64 cf, .int .i64 ma, .int .u64 sl, .int .i64 off, .int .i64 ab, .int .i64 ac, .int .u64 as_, .slice A2 n c2] 30))
  obtain ⟨w3, hw3⟩ : ∃ x, w2.alloc (.cells #[.int .i64 kind, .int .i64 frm, .int .i64 ep, .int .i64 cf, .int .i64 ma, .int .u64 sl, .int .i64 off, .int .i64 ab, .int .i64 ac, .int .u64 as_, .slice A2 n c2] 30) = x := ⟨_, rfl⟩
  rw [hw3] at hb3 bx3 bk3 hE3 hF3 ⊢
  have HB3 := Lib.hid hb3
  have BX3 := Lib.hid bx3
  have BK3 := Lib.hid bk3
  have HE3 := Lib.hid hE3
  have HF3 := Lib.hid hF3
  clear hw3 hb3 bx3 hE3 hF3 BK2 HB2 HE2 HF2
  obtain ⟨k0, k1, k2, k3, k4, k5, k6, k7, k8, k9, k10⟩ := pk_cells bk3
  clear bk3
  cases hok : okP ⟨kind, frm, ep, cf, ma, sl, off, ab, ac, as_, sec⟩ with
  | false =>
    have HOK := Lib.hid hok
    clear hok
    go_wp2_with (fail)
    refine (encode_no ⟨kind, frm, ep, cf, ma, sl, off, ab, ac, as_, sec⟩ A n cap w3 hl HE3.out HOK.out).mono ?_
    rintro e w4 ⟨rfl, hb4⟩
    have HB4 := Lib.hid (HB3.out.trans (hb4.mono HB3.out.size))
    have BK4 := Lib.hid (BK3.out.below hb4 BK3.out.lt)
    have BX4 := Lib.hid (BX3.out.below hb4 BX3.out.lt)
    have HE4 := Lib.hid (HE3.out.below hb4)
    have HF4 := Lib.hid (HF3.out.below hb4)
    clear k0 k1 k2 k3 k4 k5 k6 k7 k8 k9 k10 hb4 BK3 BX3 HB3 HE3 HF3
    have HD4 : Hid (Below w4.heap.size w4 w4.drew) := (Below.refl _ w4).drew
    have HC : Hid (∀ w' : World, Below w4.heap.size w4 w' → w'.cell? ⟨w.heap.size, 0, none⟩ = some (.int .i64 kind) ∧ w'.cell? ⟨w.heap.size, 1, none⟩ = some (.int .i64 frm) ∧ w'.cell? ⟨w.heap.size, 2, none⟩ = some (.int .i64 ep) ∧ w'.cell? ⟨w.heap.size, 3, none⟩ = some (.int .i64 cf) ∧ w'.cell? ⟨w.heap.size, 4, none⟩ = some (.int .i64 ma) ∧ w'.cell? ⟨w.heap.size, 5, none⟩ = some (.int .u64 sl) ∧ w'.cell? ⟨w.heap.size, 6, none⟩ = some (.int .i64 off) ∧ w'.cell? ⟨w.heap.size, 7, none⟩ = some (.int .i64 ab) ∧ w'.cell? ⟨w.heap.size, 8, none⟩ = some (.int .i64 ac) ∧ w'.cell? ⟨w.heap.size, 9, none⟩ = some (.int .u64 as_) ∧ w'.cell? ⟨w.heap.size, 10, none⟩ = some (.slice A n cap) ∧ w'.cell? ⟨w2.heap.size, 0, none⟩ = some (.int .i64 kind) ∧ w'.cell? ⟨w2.heap.size, 1, none⟩ = some (.int .i64 frm) ∧ w'.cell? ⟨w2.heap.size, 2, none⟩ = some (.int .i64 ep) ∧ w'.cell? ⟨w2.heap.size, 3, none⟩ = some (.int .i64 cf) ∧ w'.cell? ⟨w2.heap.size, 4, none⟩ = some (.int .i64 ma) ∧ w'.cell? ⟨w2.heap.size, 5, none⟩ = some (.int .u64 sl) ∧ w'.cell? ⟨w2.heap.size, 6, none⟩ = some (.int .i64 off) ∧ w'.cell? ⟨w2.heap.size, 7, none⟩ = some (.int .i64 ab) ∧ w'.cell? ⟨w2.heap.size, 8, none⟩ = some (.int .i64 ac) ∧ w'.cell? ⟨w2.heap.size, 9, none⟩ = some (.int .u64 as_) ∧ w'.cell? ⟨w2.heap.size, 10, none⟩ = some (.slice A2 n c2)) := by
      show ∀ w' : World, _
      intro w' hb
      obtain ⟨k0, k1, k2, k3, k4, k5, k6, k7, k8, k9, k10⟩ := pk_cells (BK4.out.below hb BK4.out.lt)
      obtain ⟨j0, j1, j2, j3, j4, j5, j6, j7, j8, j9, j10⟩ := pk_cells (BX4.out.below hb BX4.out.lt)
      exact ⟨k0, k1, k2, k3, k4, k5, k6, k7, k8, k9, k10, j0, j1, j2, j3, j4, j5, j6, j7, j8, j9, j10⟩
    go_wp2_with (fail)
    go_region_held3 (fun w' => w'.cell? ⟨w.heap.size, 0, none⟩ = some (.int .i64 kind) ∧ w'.cell? ⟨w.heap.size, 1, none⟩ = some (.int .i64 frm) ∧ w'.cell? ⟨w.heap.size, 2, none⟩ = some (.int .i64 ep) ∧ w'.cell? ⟨w.heap.size, 3, none⟩ = some (.int .i64 cf) ∧ w'.cell? ⟨w.heap.size, 4, none⟩ = some (.int .i64 ma) ∧ w'.cell? ⟨w.heap.size, 5, none⟩ = some (.int .u64 sl) ∧ w'.cell? ⟨w.heap.size, 6, none⟩ = some (.int .i64 off) ∧ w'.cell? ⟨w.heap.size, 7, none⟩ = some (.int .i64 ab) ∧ w'.cell? ⟨w.heap.size, 8, none⟩ = some (.int .i64 ac) ∧ w'.cell? ⟨w.heap.size, 9, none⟩ = some (.int .u64 as_) ∧ w'.cell? ⟨w.heap.size, 10, none⟩ = some (.slice A n cap) ∧ w'.cell? ⟨w2.heap.size, 0, none⟩ = some (.int .i64 kind) ∧ w'.cell? ⟨w2.heap.size, 1, none⟩ = some (.int .i64 frm) ∧ w'.cell? ⟨w2.heap.size, 2, none⟩ = some (.int .i64 ep) ∧ w'.cell? ⟨w2.heap.size, 3, none⟩ = some (.int .i64 cf) ∧ w'.cell? ⟨w2.heap.size, 4, none⟩ = some (.int .i64 ma) ∧ w'.cell? ⟨w2.heap.size, 5, none⟩ = some (.int .u64 sl) ∧ w'.cell? ⟨w2.heap.size, 6, none⟩ = some (.int .i64 off) ∧ w'.cell? ⟨w2.heap.size, 7, none⟩ = some (.int .i64 ab) ∧ w'.cell? ⟨w2.heap.size, 8, none⟩ = some (.int .i64 ac) ∧ w'.cell? ⟨w2.heap.size, 9, none⟩ = some (.int .u64 as_) ∧ w'.cell? ⟨w2.heap.size, 10, none⟩ = some (.slice A2 n c2)) ((refine HC.out _ ?_; first | with_reducible exact HD4.out | with_reducible exact HD5.out | with_reducible exact HD6.out | fail)) (first | (go_at_call 13; refine (right_any ⟨kind, frm, ep, cf, ma, sl, off, ab, ac, as_, sec⟩ A n cap w4.drew hl (HE4.out.below HD4.out)).mono ?_; rintro e w5 ⟨rfl, hb5⟩; rw [HOK.out]; have HD5 := Lib.hid (HD4.out.trans (hb5.mono HD4.out.size))) | (go_at_call 13; refine (right_any ⟨kind, frm, ep, cf, ma, sl, off, ab, ac, as_, sec⟩ A n cap w5 hl (HE4.out.below HD5.out)).mono ?_; rintro e w6 ⟨rfl, hb6⟩; rw [HOK.out]; have HD6 := Lib.hid (HD5.out.trans (hb6.mono HD5.out.size))) | (go_at_call 14; refine (rright_any ⟨kind, frm, ep, cf, ma, sl, off, ab, ac, as_, sec⟩ A2 n c2 w4.drew hl (HF4.out.below HD4.out) HS.out).mono ?_; rintro e w5 ⟨rfl, hb5⟩; rw [HOK.out]; have HD5 := Lib.hid (HD4.out.trans (hb5.mono HD4.out.size))) | (go_at_call 14; refine (rright_any ⟨kind, frm, ep, cf, ma, sl, off, ab, ac, as_, sec⟩ A2 n c2 w5 hl (HF4.out.below HD5.out) HS.out).mono ?_; rintro e w6 ⟨rfl, hb6⟩; rw [HOK.out]; have HD6 := Lib.hid (HD5.out.trans (hb6.mono HD5.out.size))) | fail)
    all_goals
      obtain ⟨j0, j1, j2, j3, j4, j5, j6, j7, j8, j9, j10⟩ := pk_cells (BX4.out.below HD6.out BX4.out.lt)
      go_wp2_with (go_at_call 14; refine (rright_any ⟨kind, frm, ep, cf, ma, sl, off, ab, ac, as_, sec⟩ A2 n c2 w6 hl (HF4.out.below HD6.out) HS.out).mono ?_; rintro e w7 ⟨rfl, hb7⟩; rw [HOK.out]; have HD7 := Lib.hid (HD6.out.trans (hb7.mono HD6.out.size)))
      go_ret
      exact ⟨rfl, HB4.out.trans (HD7.out.mono HB4.out.size)⟩
  | true =>
    have HOK := Lib.hid hok
    clear hok
    go_wp2_with (fail)
    refine (encode_yes ⟨kind, frm, ep, cf, ma, sl, off, ab, ac, as_, sec⟩ A n cap w3 hl HE3.out HOK.out HS.out).mono ?_
    rintro e w4 ⟨v4, rfl, ho4, hb4⟩
    obtain ⟨A4, c4, rfl, hc4, hcm4, hr4⟩ := ho4.reads
    have hlen : (enc ⟨kind, frm, ep, cf, ma, sl, off, ab, ac, as_, sec⟩).length = 79 + n * 9 := by rw [enc_len, hl]
    have HCK : Hid (dec (enc ⟨kind, frm, ep, cf, ma, sl, off, ab, ac, as_, sec⟩) = (⟨kind, frm, ep, cf, ma, sl, off, ab, ac, as_, sec⟩, 0)) := enc_dec _ HOK.out HS.out
    obtain ⟨l, hle⟩ : ∃ l, enc ⟨kind, frm, ep, cf, ma, sl, off, ab, ac, as_, sec⟩ = l := ⟨_, rfl⟩
    rw [hle] at hc4 hr4 hlen HCK ⊢
    obtain ⟨N, hN⟩ : ∃ N, l.length = N := ⟨_, rfl⟩
    have hN2 : N ≤ 1000 := by omega
    rw [hN] at hr4 hc4 ⊢
    have HLE := Lib.hid hle
    have HN := Lib.hid hN
    have HR4 := Lib.hid (hr4 _ (Nat.le_refl _))
    have HB4 := Lib.hid (HB3.out.trans (hb4.mono HB3.out.size))
    have BK4 := Lib.hid (BK3.out.below hb4 BK3.out.lt)
    have BX4 := Lib.hid (BX3.out.below hb4 BX3.out.lt)
    have HE4 := Lib.hid (HE3.out.below hb4)
    have HF4 := Lib.hid (HF3.out.below hb4)
    clear k0 k1 k2 k3 k4 k5 k6 k7 k8 k9 k10 hb4 BK3 BX3 HB3 HE3 HF3 hlen hle hN hr4 ho4
    have HD4 : Hid (Below w4.heap.size w4 w4.drew) := (Below.refl _ w4).drew
    have HC : Hid (∀ w' : World, Below w4.heap.size w4 w' → w'.cell? ⟨w.heap.size, 0, none⟩ = some (.int .i64 kind) ∧ w'.cell? ⟨w.heap.size, 1, none⟩ = some (.int .i64 frm) ∧ w'.cell? ⟨w.heap.size, 2, none⟩ = some (.int .i64 ep) ∧ w'.cell? ⟨w.heap.size, 3, none⟩ = some (.int .i64 cf) ∧ w'.cell? ⟨w.heap.size, 4, none⟩ = some (.int .i64 ma) ∧ w'.cell? ⟨w.heap.size, 5, none⟩ = some (.int .u64 sl) ∧ w'.cell? ⟨w.heap.size, 6, none⟩ = some (.int .i64 off) ∧ w'.cell? ⟨w.heap.size, 7, none⟩ = some (.int .i64 ab) ∧ w'.cell? ⟨w.heap.size, 8, none⟩ = some (.int .i64 ac) ∧ w'.cell? ⟨w.heap.size, 9, none⟩ = some (.int .u64 as_) ∧ w'.cell? ⟨w.heap.size, 10, none⟩ = some (.slice A n cap) ∧ w'.cell? ⟨w2.heap.size, 0, none⟩ = some (.int .i64 kind) ∧ w'.cell? ⟨w2.heap.size, 1, none⟩ = some (.int .i64 frm) ∧ w'.cell? ⟨w2.heap.size, 2, none⟩ = some (.int .i64 ep) ∧ w'.cell? ⟨w2.heap.size, 3, none⟩ = some (.int .i64 cf) ∧ w'.cell? ⟨w2.heap.size, 4, none⟩ = some (.int .i64 ma) ∧ w'.cell? ⟨w2.heap.size, 5, none⟩ = some (.int .u64 sl) ∧ w'.cell? ⟨w2.heap.size, 6, none⟩ = some (.int .i64 off) ∧ w'.cell? ⟨w2.heap.size, 7, none⟩ = some (.int .i64 ab) ∧ w'.cell? ⟨w2.heap.size, 8, none⟩ = some (.int .i64 ac) ∧ w'.cell? ⟨w2.heap.size, 9, none⟩ = some (.int .u64 as_) ∧ w'.cell? ⟨w2.heap.size, 10, none⟩ = some (.slice A2 n c2)) := by
      show ∀ w' : World, _
      intro w' hb
      obtain ⟨k0, k1, k2, k3, k4, k5, k6, k7, k8, k9, k10⟩ := pk_cells (BK4.out.below hb BK4.out.lt)
      obtain ⟨j0, j1, j2, j3, j4, j5, j6, j7, j8, j9, j10⟩ := pk_cells (BX4.out.below hb BX4.out.lt)
      exact ⟨k0, k1, k2, k3, k4, k5, k6, k7, k8, k9, k10, j0, j1, j2, j3, j4, j5, j6, j7, j8, j9, j10⟩
    go_wp2_with (fail)
    go_region_held3 (fun w' => w'.cell? ⟨w.heap.size, 0, none⟩ = some (.int .i64 kind) ∧ w'.cell? ⟨w.heap.size, 1, none⟩ = some (.int .i64 frm) ∧ w'.cell? ⟨w.heap.size, 2, none⟩ = some (.int .i64 ep) ∧ w'.cell? ⟨w.heap.size, 3, none⟩ = some (.int .i64 cf) ∧ w'.cell? ⟨w.heap.size, 4, none⟩ = some (.int .i64 ma) ∧ w'.cell? ⟨w.heap.size, 5, none⟩ = some (.int .u64 sl) ∧ w'.cell? ⟨w.heap.size, 6, none⟩ = some (.int .i64 off) ∧ w'.cell? ⟨w.heap.size, 7, none⟩ = some (.int .i64 ab) ∧ w'.cell? ⟨w.heap.size, 8, none⟩ = some (.int .i64 ac) ∧ w'.cell? ⟨w.heap.size, 9, none⟩ = some (.int .u64 as_) ∧ w'.cell? ⟨w.heap.size, 10, none⟩ = some (.slice A n cap) ∧ w'.cell? ⟨w2.heap.size, 0, none⟩ = some (.int .i64 kind) ∧ w'.cell? ⟨w2.heap.size, 1, none⟩ = some (.int .i64 frm) ∧ w'.cell? ⟨w2.heap.size, 2, none⟩ = some (.int .i64 ep) ∧ w'.cell? ⟨w2.heap.size, 3, none⟩ = some (.int .i64 cf) ∧ w'.cell? ⟨w2.heap.size, 4, none⟩ = some (.int .i64 ma) ∧ w'.cell? ⟨w2.heap.size, 5, none⟩ = some (.int .u64 sl) ∧ w'.cell? ⟨w2.heap.size, 6, none⟩ = some (.int .i64 off) ∧ w'.cell? ⟨w2.heap.size, 7, none⟩ = some (.int .i64 ab) ∧ w'.cell? ⟨w2.heap.size, 8, none⟩ = some (.int .i64 ac) ∧ w'.cell? ⟨w2.heap.size, 9, none⟩ = some (.int .u64 as_) ∧ w'.cell? ⟨w2.heap.size, 10, none⟩ = some (.slice A2 n c2)) ((refine HC.out _ ?_; first | with_reducible exact HD4.out | with_reducible exact HD5.out | with_reducible exact HD6.out | fail)) (first | (go_at_call 13; refine (right_any ⟨kind, frm, ep, cf, ma, sl, off, ab, ac, as_, sec⟩ A n cap w4.drew hl (HE4.out.below HD4.out)).mono ?_; rintro e w5 ⟨rfl, hb5⟩; rw [HOK.out]; have HD5 := Lib.hid (HD4.out.trans (hb5.mono HD4.out.size))) | (go_at_call 13; refine (right_any ⟨kind, frm, ep, cf, ma, sl, off, ab, ac, as_, sec⟩ A n cap w5 hl (HE4.out.below HD5.out)).mono ?_; rintro e w6 ⟨rfl, hb6⟩; rw [HOK.out]; have HD6 := Lib.hid (HD5.out.trans (hb6.mono HD5.out.size))) | (go_at_call 14; refine (rright_any ⟨kind, frm, ep, cf, ma, sl, off, ab, ac, as_, sec⟩ A2 n c2 w4.drew hl (HF4.out.below HD4.out) HS.out).mono ?_; rintro e w5 ⟨rfl, hb5⟩; rw [HOK.out]; have HD5 := Lib.hid (HD4.out.trans (hb5.mono HD4.out.size))) | (go_at_call 14; refine (rright_any ⟨kind, frm, ep, cf, ma, sl, off, ab, ac, as_, sec⟩ A2 n c2 w5 hl (HF4.out.below HD5.out) HS.out).mono ?_; rintro e w6 ⟨rfl, hb6⟩; rw [HOK.out]; have HD6 := Lib.hid (HD5.out.trans (hb6.mono HD5.out.size))) | fail)
    all_goals
      obtain ⟨j0, j1, j2, j3, j4, j5, j6, j7, j8, j9, j10⟩ := pk_cells (BX4.out.below HD6.out BX4.out.lt)
      go_wp2_with (fail)
      refine (rright_any ⟨kind, frm, ep, cf, ma, sl, off, ab, ac, as_, sec⟩ A2 n c2 w6 hl (HF4.out.below HD6.out) HS.out).mono ?_
      rintro e w7 ⟨rfl, hb7⟩
      rw [HOK.out]
      have HD7 := Lib.hid (HD6.out.trans (hb7.mono HD6.out.size))
      clear hb7 j0 j1 j2 j3 j4 j5 j6 j7 j8 j9 j10
      go_wp2_with (fail)
      refine (decode_any A4 N c4 l w7 HN.out hc4 hcm4 (by omega) ((HR4.out.old HD7.out HD7.out.size))).mono ?_
      rw [HCK.out]
      rintro e w8 ⟨v8, rfl, ho8, hb8⟩
      dsimp only at ho8
      rw [hl] at ho8
      obtain ⟨A8, c8, rfl, hc8, hcm8, hE8⟩ := own_reps ho8
      simp only [vP]
      have HD8 := Lib.hid (HD7.out.trans (hb8.mono HD7.out.size))
      have HQ8 := Lib.hid hE8
      clear hb8 ho8 hE8
      go_upto_region 12 with (fail)
      have bq9 := Blk.new w8 26 #[.int .i64 kind, .int .i64 frm, .int .i64 ep, .int .i64 cf, .int .i64 ma, .int .u64 sl, .int .i64 off, .int .i64 ab, .int .i64 ac, .int .u64 as_, .slice A8 n c8]
      have hD9 := HD8.out.alloc HD8.out.size (.cells #[.int .i64 kind, .int .i64 frm, .int .i64 ep, .int .i64 cf, .int .i64 ma, .int .u64 sl, .int .i64 off, .int .i64 ab, .int .i64 ac, .int .u64 as_, .slice A8 n c8] 26)
      have hQ9 := HQ8.out.below ((Below.refl w8.heap.size w8).alloc (Nat.le_refl _) (.cells #[.int .i64 kind, .int .i64 frm, .int .i64 ep, .int .i64 cf, .int .i64 ma, .int .u64 sl, .int .i64 off, .int .i64 ab, .int .i64 ac, .int .u64 as_, .slice A8 n c8] 26))
      obtain ⟨w9, hw9⟩ : ∃ x, w8.alloc (.cells #[.int .i64 kind, .int .i64 frm, .int .i64 ep, .int .i64 cf, .int .i64 ma, .int .u64 sl, .int .i64 off, .int .i64 ab, .int .i64 ac, .int .u64 as_, .slice A8 n c8] 26) = x := ⟨_, rfl⟩
      rw [hw9] at bq9 hD9 hQ9 ⊢
      have BQ9 := Lib.hid bq9
      have HD9 := Lib.hid hD9
      have HQ9 := Lib.hid hQ9
      clear hw9 bq9 hD9 hQ9 HD8 HQ8
      obtain ⟨j0, j1, j2, j3, j4, j5, j6, j7, j8, j9, j10⟩ := pk_cells (BX4.out.below HD9.out BX4.out.lt)
      go_wp2_with (fail)
      refine (renc_any ⟨kind, frm, ep, cf, ma, sl, off, ab, ac, as_, sec⟩ A2 n c2 w9 hl (HF4.out.below HD9.out) HOK.out HS.out).mono ?_
      rintro e w10 ⟨v10, rfl, ho10, hb10⟩
      rw [HLE.out] at ho10
      obtain ⟨A10, c10, rfl, hc10, hcm10, hr10⟩ := ho10.reads
      rw [HN.out] at hr10 ⊢
      have HD10 := Lib.hid (HD9.out.trans (hb10.mono HD9.out.size))
      have HQ10 := Lib.hid (HQ9.out.below hb10)
      have BQ10 := Lib.hid (BQ9.out.below hb10 BQ9.out.lt)
      have HR10 := Lib.hid (hr10 _ (Nat.le_refl _))
      have HSM : Hid (samePk ⟨kind, frm, ep, cf, ma, sl, off, ab, ac, as_, sec⟩ ⟨kind, frm, ep, cf, ma, sl, off, ab, ac, as_, sec⟩ = true) := decide_eq_true rfl
      have hn6 : n ≤ 1000000 := by omega
      have heq : eqB l l = true := eqB_iff.2 rfl
      have HEQ := Lib.hid heq
      clear j0 j1 j2 j3 j4 j5 j6 j7 j8 j9 j10 hr10 ho10 hb10 heq
      obtain ⟨k0, k1, k2, k3, k4, k5, k6, k7, k8, k9, k10⟩ := pk_cells (BK4.out.below HD10.out BK4.out.lt)
      obtain ⟨j0, j1, j2, j3, j4, j5, j6, j7, j8, j9, j10⟩ := pk_cells BQ10.out
      go_wp2_with (first | (go_at_call 16; refine (same_any A4 A10 N c4 N c10 w4.heap.size w10.heap.size l l w10 (HR4.out.below HD10.out) HR10.out).mono ?_; rintro e w11 ⟨rfl, rfl⟩; rw [HEQ.out]) | (go_at_call 18; refine (samepk_any ⟨kind, frm, ep, cf, ma, sl, off, ab, ac, as_, sec⟩ ⟨kind, frm, ep, cf, ma, sl, off, ab, ac, as_, sec⟩ A A8 n cap n c8 w10 hl hl (HE4.out.below HD10.out) HQ10.out hn6 hc8 hcm8).mono ?_; rintro e w12 ⟨rfl, hb12⟩; rw [HSM.out]))
      go_ret
      exact ⟨rfl, (HB4.out.trans (HD10.out.mono HB4.out.size)).trans (hb12.mono (HB4.out.trans (HD10.out.mono HB4.out.size)).size)⟩
end Go.Proofs.Ytakhemhcnceajaa
