/-
  WHAT IS PROVED: the law WireCuts answers true for every packet, every int and every row of bytes, which read behind the call as before it (a cut of the bytes is refused with 11, more bytes with 10, a turned bit with some error). No condition beyond those of the given row.
-/
import Derived.Test.YtakhemhcnceajaaAnchor
import Derived.Test.YtakhemhcnceajaaDecode
import Derived.Test.YtakhemhcnceajaaLaw
import Derived.Deep.CutRange
import Derived.Laws.BitsAllLaws
namespace Go.Proofs.Ytakhemhcnceajaa
open Go.RowKit Go.Lib Go.ChangeShapes Go.WideShapes Go.ChangeAt Go.WideElems

theorem own_some {w : World} {B : Nat} {v : Value} {l : List UInt8} (h : OwnB w B v l) (hn : 0 < l.length) :
    ∃ g c, v = .slice (some ⟨g, 0, none⟩) l.length c ∧ l.length ≤ c ∧ c ≤ 9223372036854775807 ∧ B ≤ g ∧ g < w.heap.size := by
  obtain ⟨A, c, rfl, hc, hcm, _⟩ := h.reads
  rcases h.2 with ⟨_, h0⟩ | ⟨b, cap, cur, e, hb, hh, hnc, _⟩
  · omega
  · injection e with e1 _ e3
    subst e1; subst e3
    exact ⟨b, _, rfl, hc, hcm, hb, (Array.getElem?_eq_some_iff.1 hh).1⟩
theorem own_cell {w : World} {B g c q : Nat} {l : List UInt8} {b : UInt8} (h : OwnB w B (.slice (some ⟨g, 0, none⟩) l.length c) l) (hb : l[q]? = some b) :
    w.cell? ⟨g, q, none⟩ = some (.int .u8 (b.toNat : Int)) ∧ w.frozen? ⟨g, q, none⟩ = false := by
  have hc := h.cells (g := g) rfl
  have hz : ∀ j, (⟨g, 0, none⟩ : Addr).add j = ⟨g, j, none⟩ := fun j => by rw [Go.WideShapes.add_plain, Nat.zero_add]
  refine ⟨by rw [← hz]; exact hc _ _ (by unfold bs; rw [List.getElem?_map, hb]; rfl), ?_⟩
  rcases h.2 with ⟨h0, _⟩ | ⟨g', cap, cur, h0, hg, hh, _⟩
  · cases h0
  · injection h0 with h1 h2 h3
    injection h1 with h1
    injection h1 with h1
    subst h1
    exact (show Blk w g _ cur from hh).frozen _
theorem own_set {w : World} {B g c : Nat} {l : List UInt8} (h : OwnB w B (.slice (some ⟨g, 0, none⟩) l.length c) l) (q : Nat) (x : UInt8) :
    OwnB (w.setCell ⟨g, q, none⟩ (.int .u8 (x.toNat : Int))) B (.slice (some ⟨g, 0, none⟩) l.length c) (l.set q x) := by
  have h1 := (World.ownsRow.stored h q (.int .u8 (x.toNat : Int))).1
  have e : (bs l).set q (.int .u8 (x.toNat : Int)) = bs (l.set q x) := by unfold bs; rw [List.map_set]
  rw [e] at h1
  unfold OwnB
  rwa [List.length_set]
theorem turn_bits (b : UInt8) (s : Nat) (hs : s < 8) : bits .xor .u8 (b.toNat : Int) ((2 : Int) ^ s % 256) = ((b ^^^ b8 (2 ^ s)).toNat : Int) := by
  have e : ((2 : Int) ^ s % 256) = ((b8 (2 ^ s)).toNat : Int) := by
    have : ∀ s, s < 8 → ((2 : Int) ^ s % 256) = ((b8 (2 ^ s)).toNat : Int) := by decide +kernel
    exact this s hs
  rw [e, UInt8.toNat_xor]
  have h1 := UInt8.toNat_lt b
  have h2 := UInt8.toNat_lt (b8 (2 ^ s))
  exact u8_xor_nat _ _ h1 h2
theorem dec_bad {l : List UInt8} (h : chk l ≠ 0) : dec l = (zeroP, chk l) := if_pos h

set_option maxRecDepth 100000 in
set_option maxHeartbeats 4000000 in
theorem cuts_any (p : Pk) (A : Option Addr) (n cap : Nat) (at1 : Int) (C : Option Addr) (m d : Nat) (r : List UInt8) (w : World) (hl : p.sec.length = n) (hE : EsAt w A n p.sec) (hf : p.fits) (hrl : r.length = m) (hrr : ∀ g, w.heap.size ≤ g → Reads w g C m (bs r)) :
    Calls Try.prog 5 #[vP p (.slice A n cap), .int .i64 at1, .slice C m d] w (Says true w) := by
  obtain ⟨kind, frm, ep, cf, ma, sl, off, ab, ac, as_, sec⟩ := p
  dsimp only at hl hE
  have hs : Pk.sets ⟨kind, frm, ep, cf, ma, sl, off, ab, ac, as_, sec⟩ := hf.2.2.2.2.2.2.2.2.1
  simp only [vP]
  have bk0 := Blk.new w 26 #[.int .i64 kind, .int .i64 frm, .int .i64 ep, .int .i64 cf, .int .i64 ma, .int .u64 sl, .int .i64 off, .int .i64 ab, .int .i64 ac, .int .u64 as_, .slice A n cap]
  have hB0 : Below w.heap.size w (w.alloc (.cells #[.int .i64 kind, .int .i64 frm, .int .i64 ep, .int .i64 cf, .int .i64 ma, .int .u64 sl, .int .i64 off, .int .i64 ab, .int .i64 ac, .int .u64 as_, .slice A n cap] 26)) := (Below.refl _ _).alloc (Nat.le_refl _) _
  have HS := Lib.hid hs
  clear hs hf
  go_enter Try.func5, Try.ntmps5
  go_wp2_with (fail)
  refine (anchor_any _).mono ?_
  rintro e w1 ⟨rfl, hb1⟩
  have bk1 := bk0.below hb1 bk0.lt
  have hB1 := hB0.trans (hb1.mono hB0.size)
  obtain ⟨k0, k1, k2, k3, k4, k5, k6, k7, k8, k9, k10⟩ := pk_cells bk1
  have HE1 := Lib.hid (hE.below hB1)
  clear hb1 bk0 hB0 hE
  by_cases h20 : (20 : Int) < (n : Int)
  · go_wp2
    go_ret
    exact ⟨rfl, hB1⟩
  by_cases h0 : at1 < 0
  · go_wp2
    go_ret
    exact ⟨rfl, hB1⟩
  obtain ⟨an, rfl⟩ := Int.eq_ofNat_of_zero_le (show 0 ≤ at1 by omega)
  by_cases h1 : (m : Int) < 1
  · go_wp2
    go_ret
    exact ⟨rfl, hB1⟩
  by_cases h50 : (50 : Int) < (m : Int)
  · go_wp2
    go_ret
    exact ⟨rfl, hB1⟩
  cases hok : okP ⟨kind, frm, ep, cf, ma, sl, off, ab, ac, as_, sec⟩ with
  | false =>
    have HOK := Lib.hid hok
    have HB1 := Lib.hid hB1
    clear hok hB1
    go_wp2_with (fail)
    refine (encode_no ⟨kind, frm, ep, cf, ma, sl, off, ab, ac, as_, sec⟩ A n cap w1 hl HE1.out HOK.out).mono ?_
    rintro e w2 ⟨rfl, hb2⟩
    have hB2 := HB1.out.trans (hb2.mono HB1.out.size)
    go_wp2
    go_ret
    exact ⟨rfl, hB2⟩
  | true =>
    have HOK := Lib.hid hok
    have HB1 := Lib.hid hB1
    obtain ⟨_, _, _, _, _, _, _, _, hn3, _⟩ := ok_parts hok
    dsimp only at hn3
    have HR1 : Hid (Reads w1 w1.heap.size C m (bs r)) := (hrr w1.heap.size HB1.out.size).below HB1.out
    clear hok hB1 bk1 hrr
    go_wp2_with (fail)
    refine (encode_yes ⟨kind, frm, ep, cf, ma, sl, off, ab, ac, as_, sec⟩ A n cap w1 hl HE1.out HOK.out HS.out).mono ?_
    rintro e w2 ⟨v, rfl, ho, hb2⟩
    have hB2 := HB1.out.trans (hb2.mono HB1.out.size)
    have hlen : (enc ⟨kind, frm, ep, cf, ma, sl, off, ab, ac, as_, sec⟩).length = 79 + n * 9 := by rw [enc_len, hl]
    have HCK : Hid (chk (enc ⟨kind, frm, ep, cf, ma, sl, off, ab, ac, as_, sec⟩) = 0) := enc_chk _ HOK.out
    obtain ⟨l, hle⟩ : ∃ l, enc ⟨kind, frm, ep, cf, ma, sl, off, ab, ac, as_, sec⟩ = l := ⟨_, rfl⟩
    rw [hle] at ho hlen HCK
    obtain ⟨A2, c2, rfl, hc2, hcm2, hr2⟩ := ho.reads
    obtain ⟨N, hN⟩ : ∃ N, l.length = N := ⟨_, rfl⟩
    have hN1 : 79 ≤ N := by omega
    have hN2 : N ≤ 106 := by omega
    rw [hN] at hr2 hc2 ⊢
    have HR2 := Lib.hid (hr2 _ (Nat.le_refl _))
    have HRR := Lib.hid (HR1.out.below hb2)
    have HO := Lib.hid ho
    have HB2 := Lib.hid hB2
    obtain ⟨q, hq⟩ : ∃ q, q = an % N := ⟨_, rfl⟩
    have hqN : q < N := by rw [hq]; exact Nat.mod_lt _ (by omega)
    have t1 : ((an : Int).tmod (N : Int)) = (q : Int) := by rw [hq]; rfl
    have t2 : IntKind.i64.wrap ((an : Int).tmod (N : Int)) = (q : Int) := by rw [t1, IntKind.wrap_i64]; omega
    have HN := Lib.hid hN
    have HQ := Lib.hid hq
    clear k0 k1 k2 k3 k4 k5 k6 k7 k8 k9 k10 hle hlen hN hq hr2 hb2 ho hB2
    go_wp2_with (fail)
    refine (decode_any A2 q c2 (l.take q) w2 (by rw [List.length_take, HN.out]; omega) (by omega) hcm2 (by omega) (by have := HR2.out.take (k := q) (by omega); rwa [show (bs l).take q = bs (l.take q) by unfold bs; rw [List.map_take]] at this)).mono ?_
    have hd3 : dec (l.take q) = (zeroP, 11) := by rw [dec_bad (by rw [cut_chk HCK.out (by rw [HN.out]; exact hqN)]; decide), cut_chk HCK.out (by rw [HN.out]; exact hqN)]
    rw [hd3]
    rintro e w3 ⟨v3, rfl, ho3, hb3⟩
    obtain ⟨A3, c3, rfl, _, _, _⟩ := own_reps (l := []) ho3
    have hB3 := HB2.out.trans (hb3.mono HB2.out.size)
    have HR3 := Lib.hid (HR2.out.below hb3)
    have HRR3 := Lib.hid (HRR.out.below hb3)
    have HO3 := Lib.hid (HO.out.kept hb3)
    clear hd3 ho3 HR2 HRR HO
    simp only [vP, zeroP]
    go_upto_region 9 with (fail)
    have bk4 := Blk.new w3 26 #[.int .i64 0, .int .i64 0, .int .i64 0, .int .i64 0, .int .i64 0, .int .u64 0, .int .i64 0, .int .i64 0, .int .i64 0, .int .u64 0, .slice A3 0 c3]
    have hB4 := hB3.alloc hB3.size (.cells #[.int .i64 0, .int .i64 0, .int .i64 0, .int .i64 0, .int .i64 0, .int .u64 0, .int .i64 0, .int .i64 0, .int .i64 0, .int .u64 0, .slice A3 0 c3] 26)
    obtain ⟨w4, hw4⟩ : ∃ x, w3.alloc (.cells #[.int .i64 0, .int .i64 0, .int .i64 0, .int .i64 0, .int .i64 0, .int .u64 0, .int .i64 0, .int .i64 0, .int .i64 0, .int .u64 0, .slice A3 0 c3] 26) = x := ⟨_, rfl⟩
    have HR4 : Hid (Reads w4 w2.heap.size A2 N (bs l)) := by rw [← hw4]; exact HR3.out.below ((Below.refl _ _).alloc (Nat.le_refl _) _)
    have HRR4 : Hid (Reads w4 w1.heap.size C m (bs r)) := by rw [← hw4]; exact HRR3.out.below ((Below.refl _ _).alloc (Nat.le_refl _) _)
    rw [hw4] at bk4 hB4 ⊢
    have HB4 := Lib.hid hB4
    clear hB3 HR3 HRR3 HO3 hw4 hB4 bk4
    have hm0 : 0 < r.length := by omega
    have hc6' := more_chk (m := r) HCK.out hm0
    have hd6 : dec (l ++ r) = (zeroP, 10) := by rw [dec_bad (by rw [hc6']; decide), hc6']
    have hm9 : l.length + m ≤ 1000000 := by rw [HN.out]; omega
    have hlr : (l ++ r).length = N + m := by rw [List.length_append, HN.out, hrl]
    clear hc6' hm0
    have hL4 : Below w4.heap.size w4 (w4.alloc (.cells #[] 5)) := (Below.refl _ _).alloc (Nat.le_refl _) _
    have ho4 := OwnB.lit (l := []) w4 (Nat.le_refl _) (by simp) #[] rfl 0 rfl
    go_upto_region 10 with (first | (go_at_call 15; refine (decode_any A6 (N + m) c6 (l ++ r) w6 hlr hc6 hcm6 (by omega) hr6).mono ?_; rw [hd6]; rintro e w7 ⟨v7, rfl, ho7, hb7⟩; obtain ⟨A7, c7, rfl, _, _, _⟩ := own_reps (l := []) ho7; simp only [vP, zeroP]; have HR7 := Lib.hid (HR6.out.below hb7); have HB7 := Lib.hid (HB6.out.trans (hb7.mono HB6.out.size)); clear ho7 hb7 hr6) | (at_builtin; refine wpList_push rfl (.tmp 57) (.tmp 58) rfl w4.heap.size _ _ rfl ho4 _ _ N c2 l rfl (HR4.out.below hL4) (by simp; omega) (by simp) ?_; intro v5 w5 ho5 hg5; have hb5 := hL4.trans (hg5.below ho4 (by simp)); rw [List.nil_append] at ho5) | (at_builtin; go_loud (refine wpList_push rfl (.tmp 59) (.tmp 60) rfl w4.heap.size _ _ rfl ho5 _ _ m d r rfl (HRR4.out.below hb5) hm9 hb5.size ?_; intro v6 w6 ho6 hg6; have hb6 := hb5.trans (hg6.below ho5 hb5.size); obtain ⟨A6, c6, rfl, hc6, hcm6, hr6'⟩ := ho6.reads; have hr6 := hr6' _ (Nat.le_refl _); have HR6 := Lib.hid (HR4.out.below hb6); have HB6 := Lib.hid (HB4.out.trans (hb6.mono HB4.out.size)); rw [hlr] at hc6 hr6 ⊢; clear hr6' ho6 hg6 hb6 ho5 hg5 hb5)))
    have hB8 := HB7.out.alloc HB7.out.size (.cells #[.int .i64 0, .int .i64 0, .int .i64 0, .int .i64 0, .int .i64 0, .int .u64 0, .int .i64 0, .int .i64 0, .int .i64 0, .int .u64 0, .slice A7 0 c7] 26)
    obtain ⟨w8, hw8⟩ : ∃ x, w7.alloc (.cells #[.int .i64 0, .int .i64 0, .int .i64 0, .int .i64 0, .int .i64 0, .int .u64 0, .int .i64 0, .int .i64 0, .int .i64 0, .int .u64 0, .slice A7 0 c7] 26) = x := ⟨_, rfl⟩
    have HR8 : Hid (Reads w8 w2.heap.size A2 N (bs l)) := by rw [← hw8]; exact HR7.out.below ((Below.refl _ _).alloc (Nat.le_refl _) _)
    rw [hw8] at hB8 ⊢
    have HB8 := Lib.hid hB8
    clear hB8 hw8 HB7 HR7 HR6 HB6 HR4 HRR4 HB4 hL4 ho4 hd6 hm9 hlr
    have hL8 : Below w8.heap.size w8 (w8.alloc (.cells #[] 5)) := (Below.refl _ _).alloc (Nat.le_refl _) _
    have ho8 := OwnB.lit (l := []) w8 (Nat.le_refl _) (by simp) #[] rfl 0 rfl
    go_wp2_with (at_builtin; refine wpList_push rfl (.tmp 65) (.tmp 66) rfl w8.heap.size _ _ rfl ho8 _ _ N c2 l rfl (HR8.out.below hL8) (by simp; omega) (by simp) ?_; intro v9 w9 ho9 hg9; have hb9 := hL8.trans (hg9.below ho8 (by simp)); rw [List.nil_append] at ho9; obtain ⟨g9, c9, rfl, hc9, hcm9, hg9a, hg9b⟩ := own_some ho9 (by rw [HN.out]; omega); have HO9 := Lib.hid ho9; have HB9 := Lib.hid (HB8.out.trans (hb9.mono HB8.out.size)); rw [HN.out] at hc9 ⊢; clear hg9 ho9 hb9)
    obtain ⟨b, hb⟩ : ∃ b, l[q]? = some b := ⟨_, List.getElem?_eq_getElem (by rw [HN.out]; exact hqN)⟩
    obtain ⟨s, hs⟩ : ∃ s, s = an % 8 := ⟨_, rfl⟩
    have hs8 : s < 8 := by omega
    have t3 : ((an : Int).tmod 8) = (s : Int) := by rw [hs]; rfl
    have t4 : IntKind.i64.wrap ((an : Int).tmod 8) = (s : Int) := by rw [t3, IntKind.wrap_i64]; omega
    obtain ⟨hc9', hf9⟩ := own_cell HO9.out hb
    obtain ⟨bn, hbn⟩ : ∃ bn, b.toNat = bn := ⟨_, rfl⟩
    rw [hbn] at hc9'
    have hqI : (q : Int) < (N : Int) := by omega
    have HB := Lib.hid hb
    have HS8 := Lib.hid hs
    have HBN := Lib.hid hbn
    clear hb hs hbn
    go_region
    have hx := turn_bits b s hs8
    rw [HBN.out] at hx
    rw [hx]
    have ho10 := own_set HO9.out q (b ^^^ b8 (2 ^ s))
    have hb10 : Below w.heap.size w (w9.setCell ⟨g9, q, none⟩ (.int .u8 ((b ^^^ b8 (2 ^ s)).toNat : Int))).drew := (HB9.out.setCell (p := ⟨g9, q, none⟩) (Nat.le_trans HB8.out.size hg9a) _).drew
    obtain ⟨w10, hw10⟩ : ∃ x, (w9.setCell ⟨g9, q, none⟩ (.int .u8 ((b ^^^ b8 (2 ^ s)).toNat : Int))).drew = x := ⟨_, rfl⟩
    have hr10 : Reads w10 w10.heap.size (some ⟨g9, 0, none⟩) N (bs (l.set q (b ^^^ b8 (2 ^ s)))) := by
      obtain ⟨A', c', e', _, _, hr'⟩ := ho10.reads
      injection e' with e1 e2 _
      subst e1
      rw [← hw10]
      have := hr' _ (Nat.le_refl _)
      rw [← e2, HN.out] at this
      exact this
    rw [hw10] at hb10 ⊢
    have HB10 := Lib.hid hb10
    have hne : chk (l.set q (b ^^^ b8 (2 ^ s))) ≠ 0 := turn_chk HCK.out hs8 HB.out
    have hd10 := dec_bad hne
    have hln10 : (l.set q (b ^^^ b8 (2 ^ s))).length = N := by rw [List.length_set, HN.out]
    obtain ⟨L, hL⟩ : ∃ L, l.set q (b ^^^ b8 (2 ^ s)) = L := ⟨_, rfl⟩
    obtain ⟨k, hk⟩ : ∃ k, chk L = k := ⟨_, rfl⟩
    rw [hL] at hr10 hne hd10 hln10
    rw [hk] at hne hd10
    have hkb : (k != 0) = true := by simpa using hne
    clear hc9' hf9 hx ho10 hb10 hw10 hne hL hk
    go_wp2_with (go_at_call 15; refine (decode_any (some ⟨g9, 0, none⟩) N c9 L w10 hln10 hc9 hcm9 (by omega) hr10).mono ?_; rw [hd10]; rintro e w11 ⟨v11, rfl, ho11, hb11⟩; obtain ⟨A11, c11, rfl, _, _, _⟩ := own_reps (l := []) ho11; simp only [vP, zeroP]; have HB11 := Lib.hid (HB10.out.trans (hb11.mono HB10.out.size)); clear ho11 hb11)
    go_ret
    exact ⟨rfl, HB11.out.alloc HB11.out.size _⟩
end Go.Proofs.Ytakhemhcnceajaa
