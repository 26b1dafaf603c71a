/-
  WHAT IS PROVED: the law WireSizes answers true for every packet, which reads behind the call as before it (a right packet has 79 bytes, and nine more for each entry). No condition beyond those of the given row.
-/
import Derived.Test.YtakhemhcnceajaaAnchor
import Derived.Test.YtakhemhcnceajaaLaw
import Derived.Deep.RegionHeld3
namespace Go.Proofs.Ytakhemhcnceajaa
open Go.RowKit Go.Lib Go.ChangeShapes Go.WideShapes Go.ChangeAt Go.WideElems

set_option maxRecDepth 100000 in
set_option maxHeartbeats 2000000 in
theorem sizes_any (p : Pk) (A : Option Addr) (n cap : Nat) (w : World) (hl : p.sec.length = n) (hE : EsAt w A n p.sec) (hf : p.fits) : Calls Try.prog 7 #[vP p (.slice A n cap)] w (Says true w) := by
  obtain ⟨kind, frm, ep, cf, ma, sl, off, ab, ac, as_, sec⟩ := p
  dsimp only at hl hE
  have hs : Pk.sets ⟨kind, frm, ep, cf, ma, sl, off, ab, ac, as_, sec⟩ := hf.2.2.2.2.2.2.2.2.1
  simp only [vP]
  have bk0 := Blk.new w 26 #[.int .i64 kind, .int .i64 frm, .int .i64 ep, .int .i64 cf, .int .i64 ma, .int .u64 sl, .int .i64 off, .int .i64 ab, .int .i64 ac, .int .u64 as_, .slice A n cap]
  have hB0 : Below w.heap.size w (w.alloc (.cells #[.int .i64 kind, .int .i64 frm, .int .i64 ep, .int .i64 cf, .int .i64 ma, .int .u64 sl, .int .i64 off, .int .i64 ab, .int .i64 ac, .int .u64 as_, .slice A n cap] 26)) := (Below.refl _ _).alloc (Nat.le_refl _) _
  have HS := Lib.hid hs
  clear hs hf
  go_enter Try.func7, Try.ntmps7
  go_wp2_with (fail)
  refine (anchor_any _).mono ?_
  rintro e w1 ⟨rfl, hb1⟩
  have bk1 := bk0.below hb1 bk0.lt
  have hB1 := hB0.trans (hb1.mono hB0.size)
  obtain ⟨k0, k1, k2, k3, k4, k5, k6, k7, k8, k9, k10⟩ := pk_cells bk1
  have HE1 := Lib.hid (hE.below hB1)
  clear hb1 bk0 hB0 hE
  by_cases h20 : (20 : Int) < (n : Int)
  · go_wp2
    go_ret
    exact ⟨rfl, hB1⟩
  · cases hok : okP ⟨kind, frm, ep, cf, ma, sl, off, ab, ac, as_, sec⟩ with
    | false =>
      have HOK := Lib.hid hok
      have HB1 := Lib.hid hB1
      clear hok hB1
      go_wp2_with (fail)
      refine (encode_no ⟨kind, frm, ep, cf, ma, sl, off, ab, ac, as_, sec⟩ A n cap w1 hl HE1.out HOK.out).mono ?_
      rintro e w2 ⟨rfl, hb2⟩
      have hB2 := HB1.out.trans (hb2.mono HB1.out.size)
      go_wp2
      go_ret
      exact ⟨rfl, hB2⟩
    | true =>
      have HOK := Lib.hid hok
      have HB1 := Lib.hid hB1
      have HBK := Lib.hid bk1
      obtain ⟨hk, _, _, _, _, _, _, _, hn3, _⟩ := ok_parts hok
      clear hok hB1 bk1
      dsimp only at hk hn3
      obtain ⟨kn, rfl⟩ := Int.eq_ofNat_of_zero_le (show 0 ≤ kind by omega)
      go_wp2_with (fail)
      refine (encode_yes ⟨(kn : Int), frm, ep, cf, ma, sl, off, ab, ac, as_, sec⟩ A n cap w1 hl HE1.out HOK.out HS.out).mono ?_
      rintro e w2 ⟨v, rfl, ho, hb2⟩
      have hB2 := HB1.out.trans (hb2.mono HB1.out.size)
      have hlen : (enc ⟨(kn : Int), frm, ep, cf, ma, sl, off, ab, ac, as_, sec⟩).length = 79 + n * 9 := by rw [enc_len, hl]
      have a3 : at_ (enc ⟨(kn : Int), frm, ep, cf, ma, sl, off, ab, ac, as_, sec⟩) 3 = kn := by show (b8 _).toNat = _; rw [b8_nat]; show (kn : Int).toNat % 256 = _; omega
      have a76 : at_ (enc ⟨(kn : Int), frm, ep, cf, ma, sl, off, ab, ac, as_, sec⟩) 76 = n := by show (b8 _).toNat = _; rw [b8_nat]; show sec.length % 256 = _; omega
      obtain ⟨A2, c2, rfl, hc2, hcm2, hr2⟩ := ho.reads
      obtain ⟨N, hN⟩ : ∃ N, N = 79 + n * 9 := ⟨_, rfl⟩
      rw [hlen, ← hN] at hr2 hc2 ⊢
      have hr3 := hr2 _ (Nat.le_refl _)
      obtain ⟨ad, rfl, _⟩ := hr3.2 (by omega)
      have d3 := cell_of 2 _ (by omega) hr3 a3
      have d76 := cell_of 75 _ (by omega) hr3 a76
      have bk2 := HBK.out.below hb2 HBK.out.lt
      obtain ⟨j0, j1, j2, j3, j4, j5, j6, j7, j8, j9, j10⟩ := pk_cells bk2
      have t1 : (79 : Int) + 9 * (n : Int) = (N : Int) := by omega
      have t2 : (N : Int) ≤ 106 := by omega
      obtain ⟨X, hX⟩ : ∃ X : Nat, X = 9 * n := ⟨_, rfl⟩
      have v1 : IntKind.i64.wrap (9 * (n : Int)) = (X : Int) := by rw [IntKind.wrap_i64]; omega
      have v2 : IntKind.i64.wrap (79 + (X : Int)) = (N : Int) := by rw [IntKind.wrap_i64]; omega
      have v3 : IntKind.i64.wrap (kn : Int) = (kn : Int) := by rw [IntKind.wrap_i64]; omega
      have v4 : IntKind.i64.wrap (n : Int) = (n : Int) := by rw [IntKind.wrap_i64]; omega
      have q3 : (3 : Int) < (N : Int) := by omega
      have q76 : (76 : Int) < (N : Int) := by omega
      clear ho hr2 hr3 hlen a3 a76 bk2 k0 k1 k2 k3 k4 k5 k6 k7 k8 k9 k10 hb2
      have HN := Lib.hid hN
      clear hN hX t1
      go_wp2_with (fail)
      go_region_held3 (fun w' => w'.cell? ⟨ad.block, ad.off + 3, none⟩ = some (.int .u8 (kn : Int)) ∧ w'.cell? ⟨ad.block, ad.off + 76, none⟩ = some (.int .u8 (n : Int)) ∧ w'.cell? ⟨w.heap.size, 0, none⟩ = some (.int .i64 (kn : Int)) ∧ w'.cell? ⟨w.heap.size, 10, none⟩ = some (.slice A n cap)) (first | exact ⟨d3, d76, j0, j10⟩) (first | fail)
      go_wp2
      trace_state
      go_ret
      exact ⟨rfl, hB2.drew⟩
end Go.Proofs.Ytakhemhcnceajaa
