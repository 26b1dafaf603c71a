/-
  WHAT IS PROVED: the law WireDecodes answers true for all bytes, which read behind the call as before it (Decode and the document's Decode answer alike; what is read is written as the same bytes). No condition beyond those of the given row.
-/
import Derived.Test.YtneanlffllejnaaAnchor
import Derived.Test.YtneanlffllejnaaBytesEq
import Derived.Test.YtneanlffllejnaaLaw
import Derived.Test.YtneanlffllejnaaDecode
import Derived.Test.YtneanlffllejnaaRmade
import Derived.Test.YtneanlffllejnaaRenc
import Derived.Test.YtneanlffllejnaaRdec
import Derived.Deep.RegionHeld3
import Derived.Deep.CutRange
namespace Go.Proofs.Ytneanlffllejnaa
open Go.RowKit Go.Lib Go.ChangeShapes Go.WideShapes Go.ChangeAt Go.WideElems

theorem dec_bad {l : List UInt8} {p : Pk} {f : Int} (h : dec l = (p, f)) (hf : f ≠ 0) : p = zeroP := by
  unfold dec at h
  split at h
  · injection h with h1 _; exact h1.symm
  · split at h
    · injection h with _ h2; exact absurd h2.symm hf
    · injection h with h1 _; exact h1.symm

set_option maxRecDepth 100000 in
set_option maxHeartbeats 16000000 in
theorem decodes_any (A : Option Addr) (n cap : Nat) (l : List UInt8) (w : World) (hl : l.length = n) (hc : n ≤ cap) (hcm : cap ≤ 9223372036854775807) (hr : Reads w w.heap.size A n (bs l)) :
    Calls Try.prog 4 #[.slice A n cap] w (Says true w) := by
  have HL := Lib.hid hl
  clear hl
  go_enter Try.func4, Try.ntmps4
  go_wp2_with (fail)
  refine (anchor_any _).mono ?_
  rintro e w1 ⟨rfl, hb1⟩
  have HB1 := Lib.hid hb1
  have HR1 := Lib.hid (hr.old hb1 hb1.size)
  clear hb1 hr
  by_cases h4 : (400 : Int) < (n : Int)
  · go_wp2
    go_ret
    exact ⟨rfl, HB1.out⟩
  go_wp2_with (fail)
  refine (decode_any A n cap l w1 HL.out hc hcm (by omega) HR1.out).mono ?_
  obtain ⟨x, hx⟩ : ∃ x, dec l = x := ⟨_, rfl⟩
  obtain ⟨⟨kind, frm, ep, cf, ma, sl, off, ab, ac, as_, es⟩, f⟩ := x
  rw [hx]
  rintro e w2 ⟨v2, rfl, ho2, hb2⟩
  dsimp only at ho2
  obtain ⟨m, hl2⟩ : ∃ m, es.length = m := ⟨_, rfl⟩
  rw [hl2] at ho2
  obtain ⟨A2, c2, rfl, hc2, hcm2, hE2⟩ := own_reps ho2
  simp only [vP]
  have HDC := Lib.hid hx
  have HB2 := Lib.hid (HB1.out.trans (hb2.mono HB1.out.size))
  have HR2 := Lib.hid (HR1.out.old hb2 hb2.size)
  have HE2 := Lib.hid hE2
  clear hx ho2 hb2 hE2 HR1 HB1
  go_upto_region 6 with (fail)
  have hb3 := HB2.out.alloc HB2.out.size (.cells #[.int .i64 kind, .int .i64 frm, .int .i64 ep, .int .i64 cf, .int .i64 ma, .int .u64 sl, .int .i64 off, .int .i64 ab, .int .i64 ac, .int .u64 as_, .slice A2 m c2] 26)
  have bk3 := Blk.new w2 26 #[.int .i64 kind, .int .i64 frm, .int .i64 ep, .int .i64 cf, .int .i64 ma, .int .u64 sl, .int .i64 off, .int .i64 ab, .int .i64 ac, .int .u64 as_, .slice A2 m c2]
  have hq3 := (Below.refl w2.heap.size w2).alloc (Nat.le_refl _) (.cells #[.int .i64 kind, .int .i64 frm, .int .i64 ep, .int .i64 cf, .int .i64 ma, .int .u64 sl, .int .i64 off, .int .i64 ab, .int .i64 ac, .int .u64 as_, .slice A2 m c2] 26)
  have hR3 := HR2.out.old hq3 hq3.size
  have hE3 := HE2.out.below ((Below.refl w2.heap.size w2).alloc (Nat.le_refl _) (.cells #[.int .i64 kind, .int .i64 frm, .int .i64 ep, .int .i64 cf, .int .i64 ma, .int .u64 sl, .int .i64 off, .int .i64 ab, .int .i64 ac, .int .u64 as_, .slice A2 m c2] 26))
  obtain ⟨w3, hw3⟩ : ∃ x, w2.alloc (.cells #[.int .i64 kind, .int .i64 frm, .int .i64 ep, .int .i64 cf, .int .i64 ma, .int .u64 sl, .int .i64 off, .int .i64 ab, .int .i64 ac, .int .u64 as_, .slice A2 m c2] 26) = x := ⟨_, rfl⟩
  rw [hw3] at hb3 bk3 hR3 hE3 ⊢
  have HB3 := Lib.hid hb3
  have BK3 := Lib.hid bk3
  have HR3 := Lib.hid hR3
  have HE3 := Lib.hid hE3
  clear hw3 hq3 hb3 bk3 hR3 hE3 HB2 HR2 HE2
  go_wp2_with (fail)
  refine (rdec_any A n cap l w3 HL.out hc hcm (by omega) HR3.out).mono ?_
  rw [HDC.out]
  rintro e w4 ⟨v4, rfl, ho4, hb4⟩
  dsimp only at ho4
  rw [hl2] at ho4
  obtain ⟨A4, c4, rfl, hc4, hcm4, hE4⟩ := own_reps ho4
  simp only [vP]
  have HB4 := Lib.hid (HB3.out.trans (hb4.mono HB3.out.size))
  have BK4 := Lib.hid (BK3.out.below hb4 BK3.out.lt)
  have HR4 := Lib.hid (HR3.out.old hb4 hb4.size)
  have HE4 := Lib.hid (HE3.out.below hb4)
  have HX4 := Lib.hid hE4
  clear ho4 hb4 hE4 HB3 BK3 HR3 HE3
  go_upto_region 7 with (fail)
  have hb5 := HB4.out.alloc HB4.out.size (.cells #[.int .i64 kind, .int .i64 frm, .int .i64 ep, .int .i64 cf, .int .i64 ma, .int .u64 sl, .int .i64 off, .int .i64 ab, .int .i64 ac, .int .u64 as_, .slice A4 m c4] 30)
  have bx5 := Blk.new w4 30 #[.int .i64 kind, .int .i64 frm, .int .i64 ep, .int .i64 cf, .int .i64 ma, .int .u64 sl, .int .i64 off, .int .i64 ab, .int .i64 ac, .int .u64 as_, .slice A4 m c4]
  have bk5 := BK4.out.alloc (.cells #[.int .i64 kind, .int .i64 frm, .int .i64 ep, .int .i64 cf, .int .i64 ma, .int .u64 sl, .int .i64 off, .int .i64 ab, .int .i64 ac, .int .u64 as_, .slice A4 m c4] 30)
  have hq5 := (Below.refl w4.heap.size w4).alloc (Nat.le_refl _) (.cells #[.int .i64 kind, .int .i64 frm, .int .i64 ep, .int .i64 cf, .int .i64 ma, .int .u64 sl, .int .i64 off, .int .i64 ab, .int .i64 ac, .int .u64 as_, .slice A4 m c4] 30)
  have hR5 := HR4.out.old hq5 hq5.size
  have hE5 := HE4.out.below ((Below.refl w4.heap.size w4).alloc (Nat.le_refl _) (.cells #[.int .i64 kind, .int .i64 frm, .int .i64 ep, .int .i64 cf, .int .i64 ma, .int .u64 sl, .int .i64 off, .int .i64 ab, .int .i64 ac, .int .u64 as_, .slice A4 m c4] 30))
  have hX5 := HX4.out.below ((Below.refl w4.heap.size w4).alloc (Nat.le_refl _) (.cells #[.int .i64 kind, .int .i64 frm, .int .i64 ep, .int .i64 cf, .int .i64 ma, .int .u64 sl, .int .i64 off, .int .i64 ab, .int .i64 ac, .int .u64 as_, .slice A4 m c4] 30))
  obtain ⟨w5, hw5⟩ : ∃ x, w4.alloc (.cells #[.int .i64 kind, .int .i64 frm, .int .i64 ep, .int .i64 cf, .int .i64 ma, .int .u64 sl, .int .i64 off, .int .i64 ab, .int .i64 ac, .int .u64 as_, .slice A4 m c4] 30) = x := ⟨_, rfl⟩
  rw [hw5] at hb5 bx5 bk5 hR5 hE5 hX5 ⊢
  have HB5 := Lib.hid hb5
  have BX5 := Lib.hid bx5
  have BK5 := Lib.hid bk5
  have HR5 := Lib.hid hR5
  have HE5 := Lib.hid hE5
  have HX5 := Lib.hid hX5
  clear hw5 hq5 hb5 bx5 bk5 hR5 hE5 hX5 HB4 BK4 HR4 HE4 HX4
  obtain ⟨k0, k1, k2, k3, k4, k5, k6, k7, k8, k9, k10⟩ := pk_cells BK5.out
  by_cases hf : f = 0
  · subst hf
    obtain ⟨hck, hpk, hok⟩ := dec_ok HDC.out
    have hs : Pk.sets ⟨kind, frm, ep, cf, ma, sl, off, ab, ac, as_, es⟩ := by rw [hpk]; exact pkt_sets l
    have hle : enc ⟨kind, frm, ep, cf, ma, sl, off, ab, ac, as_, es⟩ = l := by rw [hpk]; exact dec_enc l hck (by rw [← hpk]; exact hok)
    have HOK := Lib.hid hok
    have HS := Lib.hid hs
    have HLE := Lib.hid hle
    have heq : eqB l l = true := eqB_iff.2 rfl
    have HEQ := Lib.hid heq
    clear hck hpk hok hs hle heq HDC
    have hm : m ≤ 3 := by
      have h := congrArg List.length HLE.out
      rw [enc_len, HL.out] at h
      have h3 := (ok_parts HOK.out).2.2.2.2.2.2.2.2.1
      dsimp only at h3 h
      omega
    go_wp2_with (fail)
    refine (made_any ⟨kind, frm, ep, cf, ma, sl, off, ab, ac, as_, es⟩ A2 m c2 w5 hl2 HE5.out (by omega)).mono ?_
    rintro e w6 ⟨v6, rfl, ho6, hb6⟩
    obtain ⟨A6, c6, rfl, hc6, hcm6, hY6⟩ := own_reps ho6
    simp only [vP]
    have HB6 := Lib.hid (HB5.out.trans (hb6.mono HB5.out.size))
    have BK6 := Lib.hid (BK5.out.below hb6 BK5.out.lt)
    have BX6 := Lib.hid (BX5.out.below hb6 BX5.out.lt)
    have HR6 := Lib.hid (HR5.out.old hb6 hb6.size)
    have HE6 := Lib.hid (HE5.out.below hb6)
    have HX6 := Lib.hid (HX5.out.below hb6)
    have HY6 := Lib.hid hY6
    clear k0 k1 k2 k3 k4 k5 k6 k7 k8 k9 k10 ho6 hb6 hY6 HB5 BK5 BX5 HR5 HE5 HX5
    go_upto_region 10 with (fail)
    have hq := (Below.refl w6.heap.size w6).alloc (Nat.le_refl _) (.cells #[.int .i64 kind, .int .i64 frm, .int .i64 ep, .int .i64 cf, .int .i64 ma, .int .u64 sl, .int .i64 off, .int .i64 ab, .int .i64 ac, .int .u64 as_, .slice A6 m c6] 30)
    have hb7 := HB6.out.alloc HB6.out.size (.cells #[.int .i64 kind, .int .i64 frm, .int .i64 ep, .int .i64 cf, .int .i64 ma, .int .u64 sl, .int .i64 off, .int .i64 ab, .int .i64 ac, .int .u64 as_, .slice A6 m c6] 30)
    have by7 := Blk.new w6 30 #[.int .i64 kind, .int .i64 frm, .int .i64 ep, .int .i64 cf, .int .i64 ma, .int .u64 sl, .int .i64 off, .int .i64 ab, .int .i64 ac, .int .u64 as_, .slice A6 m c6]
    have bk7 := BK6.out.alloc (.cells #[.int .i64 kind, .int .i64 frm, .int .i64 ep, .int .i64 cf, .int .i64 ma, .int .u64 sl, .int .i64 off, .int .i64 ab, .int .i64 ac, .int .u64 as_, .slice A6 m c6] 30)
    have bx7 := BX6.out.alloc (.cells #[.int .i64 kind, .int .i64 frm, .int .i64 ep, .int .i64 cf, .int .i64 ma, .int .u64 sl, .int .i64 off, .int .i64 ab, .int .i64 ac, .int .u64 as_, .slice A6 m c6] 30)
    have hR7 := HR6.out.old hq hq.size
    have hE7 := HE6.out.below hq
    have hX7 := HX6.out.below hq
    have hY7 := HY6.out.below hq
    obtain ⟨w7, hw7⟩ : ∃ x, w6.alloc (.cells #[.int .i64 kind, .int .i64 frm, .int .i64 ep, .int .i64 cf, .int .i64 ma, .int .u64 sl, .int .i64 off, .int .i64 ab, .int .i64 ac, .int .u64 as_, .slice A6 m c6] 30) = x := ⟨_, rfl⟩
    rw [hw7] at hb7 by7 bk7 bx7 hR7 hE7 hX7 hY7 ⊢
    have HB7 := Lib.hid hb7
    have BY7 := Lib.hid by7
    have BX7 := Lib.hid bx7
    have HR7 := Lib.hid hR7
    have HE7 := Lib.hid hE7
    have HX7 := Lib.hid hX7
    have HY7 := Lib.hid hY7
    obtain ⟨k0, k1, k2, k3, k4, k5, k6, k7, k8, k9, k10⟩ := pk_cells bk7
    clear hw7 hq hb7 by7 bk7 bx7 hR7 hE7 hX7 hY7 HB6 BK6 BX6 HR6 HE6 HX6 HY6
    go_wp2_with (fail)
    refine (encode_yes ⟨kind, frm, ep, cf, ma, sl, off, ab, ac, as_, es⟩ A2 m c2 w7 hl2 HE7.out HOK.out HS.out).mono ?_
    rintro e w8 ⟨v8, rfl, ho8, hb8⟩
    rw [HLE.out] at ho8
    obtain ⟨A8, c8, rfl, hc8, hcm8, hr8⟩ := ho8.reads
    rw [HL.out] at hr8 hc8 ⊢
    have HC8 := Lib.hid (hr8 _ (Nat.le_refl _))
    have HB8 := Lib.hid (HB7.out.trans (hb8.mono HB7.out.size))
    have BY8 := Lib.hid (BY7.out.below hb8 BY7.out.lt)
    have BX8 := Lib.hid (BX7.out.below hb8 BX7.out.lt)
    have HR8 := Lib.hid (HR7.out.old hb8 hb8.size)
    have HX8 := Lib.hid (HX7.out.below hb8)
    have HY8 := Lib.hid (HY7.out.below hb8)
    clear k0 k1 k2 k3 k4 k5 k6 k7 k8 k9 k10 ho8 hb8 hr8 HB7 BY7 BX7 HR7 HE7 HX7 HY7
    have HD8 : Hid (Below w8.heap.size w8 w8.drew) := (Below.refl _ w8).drew
    have RCX : Hid (∀ w' : World, Below w8.heap.size w8 w' → Calls Try.prog 17 #[.agg #[.int .i64 kind, .int .i64 frm, .int .i64 ep, .int .i64 cf, .int .i64 ma, .int .u64 sl, .int .i64 off, .int .i64 ab, .int .i64 ac, .int .u64 as_, .slice A4 m c4]] w' fun e w'' => ∃ v, e = .returned v ∧ OwnB w'' w'.heap.size v l ∧ Below w'.heap.size w' w'') := by
      show ∀ w' : World, _
      intro w' hb
      rw [← HLE.out]
      exact renc_any ⟨kind, frm, ep, cf, ma, sl, off, ab, ac, as_, es⟩ A4 m c4 w' hl2 (HX8.out.below hb) HOK.out HS.out
    have RCY : Hid (∀ w' : World, Below w8.heap.size w8 w' → Calls Try.prog 17 #[.agg #[.int .i64 kind, .int .i64 frm, .int .i64 ep, .int .i64 cf, .int .i64 ma, .int .u64 sl, .int .i64 off, .int .i64 ab, .int .i64 ac, .int .u64 as_, .slice A6 m c6]] w' fun e w'' => ∃ v, e = .returned v ∧ OwnB w'' w'.heap.size v l ∧ Below w'.heap.size w' w'') := by
      show ∀ w' : World, _
      intro w' hb
      rw [← HLE.out]
      exact renc_any ⟨kind, frm, ep, cf, ma, sl, off, ab, ac, as_, es⟩ A6 m c6 w' hl2 (HY8.out.below hb) HOK.out HS.out
    have HC : Hid (∀ w' : World, Below w8.heap.size w8 w' → w'.cell? ⟨w4.heap.size, 0, none⟩ = some (.int .i64 kind) ∧ w'.cell? ⟨w4.heap.size, 1, none⟩ = some (.int .i64 frm) ∧ w'.cell? ⟨w4.heap.size, 2, none⟩ = some (.int .i64 ep) ∧ w'.cell? ⟨w4.heap.size, 3, none⟩ = some (.int .i64 cf) ∧ w'.cell? ⟨w4.heap.size, 4, none⟩ = some (.int .i64 ma) ∧ w'.cell? ⟨w4.heap.size, 5, none⟩ = some (.int .u64 sl) ∧ w'.cell? ⟨w4.heap.size, 6, none⟩ = some (.int .i64 off) ∧ w'.cell? ⟨w4.heap.size, 7, none⟩ = some (.int .i64 ab) ∧ w'.cell? ⟨w4.heap.size, 8, none⟩ = some (.int .i64 ac) ∧ w'.cell? ⟨w4.heap.size, 9, none⟩ = some (.int .u64 as_) ∧ w'.cell? ⟨w4.heap.size, 10, none⟩ = some (.slice A4 m c4) ∧ w'.cell? ⟨w6.heap.size, 0, none⟩ = some (.int .i64 kind) ∧ w'.cell? ⟨w6.heap.size, 1, none⟩ = some (.int .i64 frm) ∧ w'.cell? ⟨w6.heap.size, 2, none⟩ = some (.int .i64 ep) ∧ w'.cell? ⟨w6.heap.size, 3, none⟩ = some (.int .i64 cf) ∧ w'.cell? ⟨w6.heap.size, 4, none⟩ = some (.int .i64 ma) ∧ w'.cell? ⟨w6.heap.size, 5, none⟩ = some (.int .u64 sl) ∧ w'.cell? ⟨w6.heap.size, 6, none⟩ = some (.int .i64 off) ∧ w'.cell? ⟨w6.heap.size, 7, none⟩ = some (.int .i64 ab) ∧ w'.cell? ⟨w6.heap.size, 8, none⟩ = some (.int .i64 ac) ∧ w'.cell? ⟨w6.heap.size, 9, none⟩ = some (.int .u64 as_) ∧ w'.cell? ⟨w6.heap.size, 10, none⟩ = some (.slice A6 m c6)) := by
      show ∀ w' : World, _
      intro w' hb
      obtain ⟨k0, k1, k2, k3, k4, k5, k6, k7, k8, k9, k10⟩ := pk_cells (BX8.out.below hb BX8.out.lt)
      obtain ⟨j0, j1, j2, j3, j4, j5, j6, j7, j8, j9, j10⟩ := pk_cells (BY8.out.below hb BY8.out.lt)
      exact ⟨k0, k1, k2, k3, k4, k5, k6, k7, k8, k9, k10, j0, j1, j2, j3, j4, j5, j6, j7, j8, j9, j10⟩
    go_wp2_with (fail)
    go_region_held3 (fun w' => w'.cell? ⟨w4.heap.size, 0, none⟩ = some (.int .i64 kind) ∧ w'.cell? ⟨w4.heap.size, 1, none⟩ = some (.int .i64 frm) ∧ w'.cell? ⟨w4.heap.size, 2, none⟩ = some (.int .i64 ep) ∧ w'.cell? ⟨w4.heap.size, 3, none⟩ = some (.int .i64 cf) ∧ w'.cell? ⟨w4.heap.size, 4, none⟩ = some (.int .i64 ma) ∧ w'.cell? ⟨w4.heap.size, 5, none⟩ = some (.int .u64 sl) ∧ w'.cell? ⟨w4.heap.size, 6, none⟩ = some (.int .i64 off) ∧ w'.cell? ⟨w4.heap.size, 7, none⟩ = some (.int .i64 ab) ∧ w'.cell? ⟨w4.heap.size, 8, none⟩ = some (.int .i64 ac) ∧ w'.cell? ⟨w4.heap.size, 9, none⟩ = some (.int .u64 as_) ∧ w'.cell? ⟨w4.heap.size, 10, none⟩ = some (.slice A4 m c4) ∧ w'.cell? ⟨w6.heap.size, 0, none⟩ = some (.int .i64 kind) ∧ w'.cell? ⟨w6.heap.size, 1, none⟩ = some (.int .i64 frm) ∧ w'.cell? ⟨w6.heap.size, 2, none⟩ = some (.int .i64 ep) ∧ w'.cell? ⟨w6.heap.size, 3, none⟩ = some (.int .i64 cf) ∧ w'.cell? ⟨w6.heap.size, 4, none⟩ = some (.int .i64 ma) ∧ w'.cell? ⟨w6.heap.size, 5, none⟩ = some (.int .u64 sl) ∧ w'.cell? ⟨w6.heap.size, 6, none⟩ = some (.int .i64 off) ∧ w'.cell? ⟨w6.heap.size, 7, none⟩ = some (.int .i64 ab) ∧ w'.cell? ⟨w6.heap.size, 8, none⟩ = some (.int .i64 ac) ∧ w'.cell? ⟨w6.heap.size, 9, none⟩ = some (.int .u64 as_) ∧ w'.cell? ⟨w6.heap.size, 10, none⟩ = some (.slice A6 m c6)) ((refine HC.out _ ?_; first | with_reducible exact HD8.out | with_reducible exact HD9.out | with_reducible exact HD10.out | fail)) (first | (go_at_call 17; with_reducible refine (RCX.out w8.drew HD8.out).mono ?_; rintro e w9 ⟨v9, rfl, ho9, hb9⟩; obtain ⟨A9, c9, rfl, hc9, hcm9, hr9⟩ := ho9.reads; rw [HL.out] at hr9 ⊢; have HD9 := Lib.hid (HD8.out.trans (hb9.mono HD8.out.size)); have HR9 := Lib.hid (hr9 _ (Nat.le_refl _))) | (go_at_call 17; with_reducible refine (RCY.out w9 HD9.out).mono ?_; rintro e w10 ⟨v10, rfl, ho10, hb10⟩; obtain ⟨A10, c10, rfl, hc10, hcm10, hr10⟩ := ho10.reads; rw [HL.out] at hr10 ⊢; have HD10 := Lib.hid (HD9.out.trans (hb10.mono HD9.out.size)); have HR10 := Lib.hid (hr10 _ (Nat.le_refl _)); have HR9b := Lib.hid (HR9.out.below hb10); have HRA := Lib.hid (HR8.out.below HD10.out); have HRC := Lib.hid (HC8.out.below HD10.out)) | (go_at_call 16; refine (same_any A9 A10 n c9 n c10 w9.heap.size w10.heap.size l l w10 HR9b.out HR10.out).mono ?_; rintro e w11 ⟨rfl, h11⟩; obtain rfl : w10 = w11 := h11; rw [HEQ.out]) | (go_at_call 16; refine (same_any A A8 n cap n c8 w8.heap.size w8.heap.size l l w10 HRA.out HRC.out).mono ?_; rintro e w11 ⟨rfl, h11⟩; obtain rfl : w10 = w11 := h11; rw [HEQ.out]) | fail)
    all_goals
      go_wp2
      go_ret
      exact ⟨rfl, HB8.out.trans (HD10.out.mono HB8.out.size)⟩
  · have hz := dec_bad HDC.out hf
    injection hz with z0 z1 z2 z3 z4 z5 z6 z7 z8 z9 z10
    subst z0 z1 z10
    obtain rfl : m = 0 := by rw [← hl2]; rfl
    have hff : (f != 0) = true := by simpa using hf
    have hee : (f == f) = true := by simp
    clear hf z2 z3 z4 z5 z6 z7 z8 z9 HDC
    go_wp2
    go_ret
    exact ⟨by simp, HB5.out⟩
end Go.Proofs.Ytneanlffllejnaa
