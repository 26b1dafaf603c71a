/-
  WHAT IS PROVED: the law WireOwn answers true for every packet, which reads behind the call as before it (the bytes of Encode and the packet of Decode are of their own). No condition beyond those of the given row.
-/
import Derived.Test.YtakhemhcnceajaaCuts
import Derived.Test.YtakhemhcnceajaaSame
namespace Go.Proofs.Ytakhemhcnceajaa
open Go.RowKit Go.Lib Go.ChangeShapes Go.WideShapes Go.ChangeAt Go.WideElems

theorem ents_some {w : World} {base n c size : Nat} {e : TypeId} {A : Option Addr} {xs : List Value} (h : w.ownsRow base e size (.slice A n c) n xs) (hn : 0 < n) : ∃ g, A = some ⟨g, 0, none⟩ ∧ base ≤ g ∧ g < w.heap.size := by
  rcases h.2 with ⟨_, h0⟩ | ⟨b, cap, cur, e, hb, hh, _⟩
  · omega
  · injection e with e1
    exact ⟨b, e1, hb, (Array.getElem?_eq_some_iff.1 hh).1⟩
theorem blk_set {w : World} {b j : Nat} {t : TypeId} {cs : Array Value} (h : Blk w b t cs) (v : Value) : Blk (w.setCell ⟨b, j, none⟩ v) b t (cs.setIfInBounds j v) := heap_setCell_same w b j cs t v h
theorem flip_bits (b : UInt8) : bits .xor .u8 (b.toNat : Int) 255 = ((b ^^^ 255).toNat : Int) := by
  rw [UInt8.toNat_xor]
  exact u8_xor_nat _ 255 (UInt8.toNat_lt b) (by omega)
theorem bs_set (l : List UInt8) (k : Nat) (x : UInt8) : (bs l).set k (.int .u8 (x.toNat : Int)) = bs (l.set k x) := by unfold bs; rw [List.map_set]
theorem own_kept {w w' : World} {base e size n : Nat} {v : Value} {xs : List Value} (h : w.ownsRow base e size v n xs) {row : Option Nat} (hg : w.grownBy w' row) (hr : ∀ b, row = some b → b < base) : w'.ownsRow base e size v n xs := by
  refine World.ownsRow.kept h hg ?_
  cases hv : v.ownBlock with
  | none => exact .inl rfl
  | some k => exact .inr fun e => by have := (World.ownsRow.lt h k hv).1; have := hr k e.symm; omega

set_option maxRecDepth 100000 in
set_option maxHeartbeats 8000000 in
theorem own_any (p : Pk) (A : Option Addr) (n cap : Nat) (w : World) (hl : p.sec.length = n) (hE : EsAt w A n p.sec) (hf : p.fits) :
    Calls Try.prog 9 #[vP p (.slice A n cap)] w (Says true w) := by
  obtain ⟨kind, frm, ep, cf, ma, sl, off, ab, ac, as_, sec⟩ := p
  dsimp only at hl hE
  have hs : Pk.sets ⟨kind, frm, ep, cf, ma, sl, off, ab, ac, as_, sec⟩ := hf.2.2.2.2.2.2.2.2.1
  simp only [vP]
  have bk0 := Blk.new w 26 #[.int .i64 kind, .int .i64 frm, .int .i64 ep, .int .i64 cf, .int .i64 ma, .int .u64 sl, .int .i64 off, .int .i64 ab, .int .i64 ac, .int .u64 as_, .slice A n cap]
  have hB0 : Below w.heap.size w (w.alloc (.cells #[.int .i64 kind, .int .i64 frm, .int .i64 ep, .int .i64 cf, .int .i64 ma, .int .u64 sl, .int .i64 off, .int .i64 ab, .int .i64 ac, .int .u64 as_, .slice A n cap] 26)) := (Below.refl _ _).alloc (Nat.le_refl _) _
  obtain ⟨i0, hi0, hz0, hz1, hz2⟩ := info_parts ent_info
  have HI0 := Lib.hid hi0
  have HZ0 := Lib.hid hz0
  have HZ1 := Lib.hid hz1
  have HZ2 := Lib.hid hz2
  have HS := Lib.hid hs
  clear hs hf hi0 hz0 hz1 hz2
  go_enter Try.func9, Try.ntmps9
  go_wp2_with (fail)
  refine (anchor_any _).mono ?_
  rintro e w1 ⟨rfl, hb1⟩
  have bk1 := bk0.below hb1 bk0.lt
  have hB1 := hB0.trans (hb1.mono hB0.size)
  obtain ⟨k0, k1, k2, k3, k4, k5, k6, k7, k8, k9, k10⟩ := pk_cells bk1
  have HE1 := Lib.hid (hE.below hB1)
  have HE0 := Lib.hid hE
  clear hb1 bk0 hB0 hE
  by_cases h20 : (20 : Int) < (n : Int)
  · go_wp2
    go_ret
    exact ⟨rfl, hB1⟩
  cases hok : okP ⟨kind, frm, ep, cf, ma, sl, off, ab, ac, as_, sec⟩ with
  | false =>
    have HOK := Lib.hid hok
    clear hok
    go_wp2_with (go_at_call 13; refine (right_any ⟨kind, frm, ep, cf, ma, sl, off, ab, ac, as_, sec⟩ A n cap w1 hl HE1.out).mono ?_; rintro e w2 ⟨rfl, hb2⟩; rw [HOK.out])
    go_ret
    exact ⟨rfl, hB1.trans (hb2.mono hB1.size)⟩
  | true =>
    have HOK := Lib.hid hok
    clear hok
    go_upto_region 5 with (go_at_call 13; refine (right_any ⟨kind, frm, ep, cf, ma, sl, off, ab, ac, as_, sec⟩ A n cap w1 hl HE1.out).mono ?_; rintro e w2 ⟨rfl, hb2⟩; rw [HOK.out])
    have bk2 := bk1.below hb2 bk1.lt
    have hB2 := hB1.trans (hb2.mono hB1.size)
    have HE2 := Lib.hid (HE1.out.below hb2)
    have hlt2 := bk2.lt
    clear k0 k1 k2 k3 k4 k5 k6 k7 k8 k9 k10
    obtain ⟨k0, k1, k2, k3, k4, k5, k6, k7, k8, k9, k10⟩ := pk_cells bk2
    have bk3 := bk2.alloc (.cells #[.int .i64 kind, .int .i64 frm, .int .i64 ep, .int .i64 cf, .int .i64 ma, .int .u64 sl, .int .i64 off, .int .i64 ab, .int .i64 ac, .int .u64 as_, .slice A n cap] 26)
    have bq3 := Blk.new w2 26 #[.int .i64 kind, .int .i64 frm, .int .i64 ep, .int .i64 cf, .int .i64 ma, .int .u64 sl, .int .i64 off, .int .i64 ab, .int .i64 ac, .int .u64 as_, .slice A n cap]
    have hB3 := hB2.alloc hB2.size (.cells #[.int .i64 kind, .int .i64 frm, .int .i64 ep, .int .i64 cf, .int .i64 ma, .int .u64 sl, .int .i64 off, .int .i64 ab, .int .i64 ac, .int .u64 as_, .slice A n cap] 26)
    clear bk1 hB1 hb2
    go_upto_region 6 with (fail)
    obtain ⟨w3, hw3⟩ : ∃ w3, w2.alloc (.cells #[.int .i64 kind, .int .i64 frm, .int .i64 ep, .int .i64 cf, .int .i64 ma, .int .u64 sl, .int .i64 off, .int .i64 ab, .int .i64 ac, .int .u64 as_, .slice A n cap] 26) = w3 := ⟨_, rfl⟩
    have HE3 : Hid (EsAt w3 A n sec) := by rw [← hw3]; exact HE2.out.below ((Below.refl _ _).alloc (Nat.le_refl _) _)
    have hs3 : w3.heap.size = w2.heap.size + 1 := by rw [← hw3]; simp
    rw [hw3] at bk3 bq3 hB3 ⊢
    clear hw3 k0 k1 k2 k3 k4 k5 k6 k7 k8 k9 k10
    obtain ⟨k0, k1, k2, k3, k4, k5, k6, k7, k8, k9, k10⟩ := pk_cells (bk3.alloc (.cells #[] 48))
    have hL4 : Below w3.heap.size w3 (w3.alloc (.cells #[] 48)) := (Below.refl _ _).alloc (Nat.le_refl _) _
    have ho4 : (w3.alloc (.cells #[] 48)).ownsRow w3.heap.size 48 2 (.slice (some ⟨w3.heap.size, 0, none⟩) 0 0) 0 (flatR []) := World.ownsRow_lit w3 #[] 0 (Nat.le_refl _) (by decide) rfl
    have hne3 : some w2.heap.size ≠ some w3.heap.size := by rw [hs3]; simp
    have hne3' : some w.heap.size ≠ some w3.heap.size := by rw [hs3]; simp; omega
    have HS3 := Lib.hid hs3
    have hn6 : 0 + n ≤ 1000000 := by omega
    have BK3 := Lib.hid bk3
    have BQ3 := Lib.hid bq3
    have HB3 := Lib.hid hB3
    clear hs3 bk3 bq3 hB3 bk2 hB2
    go_upto_region 7 with (at_builtin; go_loud (refine wpList_append_reps _ rfl (.tmp 23) (.tmp 25) 24 rfl w3.heap.size 48 i0 _ Try.underlying24 HI0.out HZ0.out HZ1.out HZ2.out rfl (.slice (some ⟨w3.heap.size, 0, none⟩) 0 0) 0 [] rfl ho4 A n cap sec rfl (HE3.out.below hL4) hn6 (by simp) ?_; intro v5 w5 ho5 hg5 _; rw [Nat.zero_add, List.nil_append] at ho5; have bk5 := (BK3.out.alloc (.cells #[] 48)).grown hg5 hne3'; have bq5 := (BQ3.out.alloc (.cells #[] 48)).grown hg5 hne3; obtain ⟨A5, c5, rfl, hc5, hcm5, _⟩ := own_reps ho5; have hcq := bq5.cell 10; have hfq := bq5.frozen 10))
    have he5 : w3.heap.size ≤ w5.heap.size := by have := hg5.size; simp at this; omega
    have hB5 := (HB3.out.alloc HB3.out.size (.cells #[] 48)).grown hg5 (by have := HB3.out.size; simp; omega) (fun k e => by injection e with e; subst e; exact HB3.out.size)
    have ho6 := own_kept ho5 (only_setCell (World.grownBy.refl w5 (some w2.heap.size)) (p := ⟨w2.heap.size, 10, none⟩) (.inl rfl) (.slice A5 n c5)) (fun b e => by injection e with e; have := HS3.out; omega)
    have bk6 := bk5.grown (only_setCell (World.grownBy.refl w5 (some w2.heap.size)) (p := ⟨w2.heap.size, 10, none⟩) (.inl rfl) (.slice A5 n c5)) (by intro e; injection e with e; omega)
    have bq6 : Blk (w5.setCell ⟨w2.heap.size, 10, none⟩ (.slice A5 n c5)) w2.heap.size 26 #[.int .i64 kind, .int .i64 frm, .int .i64 ep, .int .i64 cf, .int .i64 ma, .int .u64 sl, .int .i64 off, .int .i64 ab, .int .i64 ac, .int .u64 as_, .slice A5 n c5] := blk_set bq5 _
    have hB6 := hB5.setCell (p := ⟨w2.heap.size, 10, none⟩) (Nat.le_of_lt hlt2) (.slice A5 n c5)
    obtain ⟨w6, hw6⟩ : ∃ x, w5.setCell ⟨w2.heap.size, 10, none⟩ (.slice A5 n c5) = x := ⟨_, rfl⟩
    have hs6 : w3.heap.size ≤ w6.heap.size := by rw [← hw6]; simp; exact he5
    rw [hw6] at ho6 bk6 bq6 hB6 ⊢
    obtain ⟨A5', c5', e5, _, _, hE6⟩ := own_reps ho6
    injection e5 with e5a _ e5c
    subst e5a; subst e5c
    have HE6 := Lib.hid hE6
    have HO6 := Lib.hid ho6
    have BK6 := Lib.hid bk6
    have BQ6 := Lib.hid bq6
    have HB6 := Lib.hid hB6
    clear k0 k1 k2 k3 k4 k5 k6 k7 k8 k9 k10 hL4 ho4 hne3 hne3' hn6 BK3 BQ3 HB3 hcq hfq hg5 ho5 bk5 bq5 hB5 hw6 ho6 bk6 bq6 hB6 hE6 HE3 he5
    obtain ⟨k0, k1, k2, k3, k4, k5, k6, k7, k8, k9, k10⟩ := pk_cells BQ6.out
    go_wp2_with (fail)
    refine (encode_yes ⟨kind, frm, ep, cf, ma, sl, off, ab, ac, as_, sec⟩ A5 n c5 w6 hl HE6.out HOK.out HS.out).mono ?_
    rintro e w7 ⟨v7, rfl, ho7, hb7⟩
    have HB7 := Lib.hid (HB6.out.trans (hb7.mono HB6.out.size))
    have BK7 := Lib.hid (BK6.out.below hb7 BK6.out.lt)
    have BQ7 := Lib.hid (BQ6.out.below hb7 BQ6.out.lt)
    have HO67 : Hid (w7.ownsRow w3.heap.size 48 2 (.slice A5 n c5) n (flatR sec)) := by
      show World.ownsRow _ _ _ _ _ _ _
      refine World.ownsRow.kept HO6.out (only_of_below hb7 none) ?_
      cases e : (Value.slice A5 n c5).ownBlock with
      | none => exact .inl rfl
      | some k => exact .inr (by simp)
    have hs7 : w6.heap.size ≤ w7.heap.size := hb7.size
    have hA5 : ∀ b, (Value.slice A5 n c5).ownBlock = some b → w3.heap.size ≤ b ∧ b < w6.heap.size := World.ownsRow.lt HO6.out
    have HA5 := Lib.hid hA5
    have HO7 := Lib.hid ho7
    obtain ⟨A7, c7, rfl, _, _, _⟩ := ho7.reads
    have hlen : (enc ⟨kind, frm, ep, cf, ma, sl, off, ab, ac, as_, sec⟩).length = 79 + n * 9 := by rw [enc_len, hl]
    have HCK : Hid (dec (enc ⟨kind, frm, ep, cf, ma, sl, off, ab, ac, as_, sec⟩) = (⟨kind, frm, ep, cf, ma, sl, off, ab, ac, as_, sec⟩, 0)) := enc_dec _ HOK.out HS.out
    obtain ⟨l, hle⟩ : ∃ l, enc ⟨kind, frm, ep, cf, ma, sl, off, ab, ac, as_, sec⟩ = l := ⟨_, rfl⟩
    rw [hle] at HO7 hlen HCK ⊢
    obtain ⟨N, hN⟩ : ∃ N, l.length = N := ⟨_, rfl⟩
    have hN2 : N ≤ 259 := by omega
    have hN1 : 0 < N := by omega
    have HN := Lib.hid hN
    rw [hN]
    clear k0 k1 k2 k3 k4 k5 k6 k7 k8 k9 k10 ho7 hb7 hlen hle hN hA5 HB6 BK6 BQ6 HE6
    obtain ⟨k0, k1, k2, k3, k4, k5, k6, k7, k8, k9, k10⟩ := pk_cells BQ7.out
    go_wp2
    clear k0 k1 k2 k3 k4 k5 k6 k7 k8 k9 k10
    go_loopw [6, 36] (fun _ i wr => ∃ k : Nat, k ≤ n ∧ i = .int .i64 k ∧ Below w.heap.size w wr ∧ w7.grownBy wr (Value.slice A5 n c5).ownBlock ∧ ∃ xs, wr.ownsRow w3.heap.size 48 2 (.slice A5 n c5) n xs) (fun _ i _ => n - (RowKit.intOf i).toNat)
    case atStart => exact ⟨0, by omega, rfl, HB7.out, World.grownBy.refl _ _, _, HO67.out⟩
    case round =>
      obtain ⟨w8, rfl⟩ : ∃ x, x = wr := ⟨_, rfl⟩
      obtain ⟨k, hk, rfl, hb, hgr, xs, hxs⟩ := hrel
      have HB := Lib.hid hb
      have HGR := Lib.hid hgr
      have HXS := Lib.hid hxs
      have hbq : Blk w8 w2.heap.size 26 #[.int .i64 kind, .int .i64 frm, .int .i64 ep, .int .i64 cf, .int .i64 ma, .int .u64 sl, .int .i64 off, .int .i64 ab, .int .i64 ac, .int .u64 as_, .slice A5 n c5] := BQ7.out.grown hgr (fun e => by have := HA5.out _ e.symm; have := HS3.out; omega)
      have hbk : Blk w8 w.heap.size 26 #[.int .i64 kind, .int .i64 frm, .int .i64 ep, .int .i64 cf, .int .i64 ma, .int .u64 sl, .int .i64 off, .int .i64 ab, .int .i64 ac, .int .u64 as_, .slice A n cap] := BK7.out.grown hgr (fun e => by have := HA5.out _ e.symm; have := HS3.out; omega)
      obtain ⟨k0, k1, k2, k3, k4, k5, k6, k7, k8, k9, k10⟩ := pk_cells hbq
      have BKR := Lib.hid hbk
      clear hbq hbk hb hgr hxs
      by_cases hkn : k < n
      · obtain ⟨g, rfl, hg1, hg2⟩ := ents_some HXS.out (by omega)
        have hfz := World.ownsRow.frozenAt HXS.out (k * 2)
        have hst := World.ownsRow.stored HXS.out (k * 2) (.int .i64 (-1))
        have hcc : ∃ u, w8.cell? ⟨g, k * 2, none⟩ = some u := by
          have hxl := HXS.out.1
          have h1 := HXS.out.cells (g := g) rfl (k * 2) _ (List.getElem?_eq_getElem (by omega))
          rw [show (⟨g, 0, none⟩ : Addr).add (k * 2) = ⟨g, k * 2, none⟩ by rw [Go.WideShapes.add_plain, Nat.zero_add]] at h1
          exact ⟨_, h1⟩
        obtain ⟨u, hcc⟩ := hcc
        have HST := Lib.hid hst
        have HH : Hid (w.heap.size ≤ g) := by show _ ≤ _; have := HS3.out; omega
        clear hst
        go_wp2
        go_roundw
        case rel => exact ⟨k + 1, by omega, by go_num, HB.out.setCell HH.out _, HGR.out.trans HST.out.2, _, HST.out.1⟩
        case measure => simp [RowKit.intOf]; omega
      · obtain rfl : n = k := by omega
        have ho8 := own_kept HO7.out HGR.out (fun b e => (HA5.out b e).2)
        obtain ⟨A7', c7', e7, _, _, hr8⟩ := OwnB.reads (l := l) ho8
        injection e7 with e7a _ e7c
        subst e7a; subst e7c
        rw [HN.out] at hr8
        have HR8 := Lib.hid (hr8 _ (Nat.le_refl _))
        have hL8 : Below w8.heap.size w8 (w8.alloc (.cells #[] 5)) := (Below.refl _ _).alloc (Nat.le_refl _) _
        have ho9 := OwnB.lit (l := []) w8 (Nat.le_refl _) (by simp) #[] rfl 0 rfl
        have hBR : w.heap.size < w8.heap.size := BKR.out.lt
        clear ho8 hr8
        go_upto_region 15 with (first | (go_at_call 15; refine (decode_any (some ⟨g9, 0, none⟩) N c9 l w9 HN.out hc9 hcm9 (by omega) HR9.out).mono ?_; rw [HCK.out]; rintro e w11 ⟨v11, rfl, ho11, hb11⟩; dsimp only at ho11; rw [hl] at ho11; obtain ⟨A12, c12, rfl, hc12, hcm12, _⟩ := own_reps ho11; simp only [vP]; have HB11 := Lib.hid (HB9.out.trans (hb11.mono HB9.out.size)); have BK11 := Lib.hid (BK9.out.below hb11 BK9.out.lt); have HO11 := Lib.hid ho11; have HO9b := Lib.hid (HO9.out.kept hb11); have hs11 := hb11.size; clear ho11 hb11) | (at_builtin; refine wpList_push rfl (.tmp 45) (.tmp 46) rfl w8.heap.size _ _ rfl ho9 _ _ N c7 l rfl (HR8.out.below hL8) (by simp; omega) (by simp) ?_; intro v9 w9 ho9 hg9; have hb9 := hL8.trans (hg9.below (OwnB.lit (l := []) w8 (Nat.le_refl _) (by simp) #[] rfl 0 rfl) (by simp)); rw [List.nil_append] at ho9; obtain ⟨g9, c9, rfl, hc9, hcm9, hg9a, hg9b⟩ := own_some ho9 (by rw [HN.out]; exact hN1); have HR9 : Hid (Reads w9 w9.heap.size (some ⟨g9, 0, none⟩) N (bs l)) := (by obtain ⟨A', c', e', _, _, hr'⟩ := ho9.reads; injection e' with e1 _ _; subst e1; have := hr' _ (Nat.le_refl _); rw [HN.out] at this; exact this); have HO9 := Lib.hid ho9; have BK9 := Lib.hid (BKR.out.below (hb9.mono (by omega)) BKR.out.lt); have HB9 := Lib.hid (HB.out.trans (hb9.mono HB.out.size)); rw [HN.out] at hc9 ⊢; clear hg9 ho9 hb9))
        have bk12 := BK11.out.alloc (.cells #[.int .i64 kind, .int .i64 frm, .int .i64 ep, .int .i64 cf, .int .i64 ma, .int .u64 sl, .int .i64 off, .int .i64 ab, .int .i64 ac, .int .u64 as_, .slice A12 n c12] 26)
        have br12 := Blk.new w11 26 #[.int .i64 kind, .int .i64 frm, .int .i64 ep, .int .i64 cf, .int .i64 ma, .int .u64 sl, .int .i64 off, .int .i64 ab, .int .i64 ac, .int .u64 as_, .slice A12 n c12]
        have hB12 := HB11.out.alloc HB11.out.size (.cells #[.int .i64 kind, .int .i64 frm, .int .i64 ep, .int .i64 cf, .int .i64 ma, .int .u64 sl, .int .i64 off, .int .i64 ab, .int .i64 ac, .int .u64 as_, .slice A12 n c12] 26)
        have ho12 : (w11.alloc (.cells #[.int .i64 kind, .int .i64 frm, .int .i64 ep, .int .i64 cf, .int .i64 ma, .int .u64 sl, .int .i64 off, .int .i64 ab, .int .i64 ac, .int .u64 as_, .slice A12 n c12] 26)).ownsRow w9.heap.size 48 2 (.slice A12 n c12) n (flatR sec) := World.ownsRow.alloc HO11.out _
        have hc12w : (w11.alloc (.cells #[.int .i64 kind, .int .i64 frm, .int .i64 ep, .int .i64 cf, .int .i64 ma, .int .u64 sl, .int .i64 off, .int .i64 ab, .int .i64 ac, .int .u64 as_, .slice A12 n c12] 26)).ownsRow w8.heap.size 5 1 (.slice (some ⟨g9, 0, none⟩) N c9) N (bs l) := by
          have := World.ownsRow.alloc HO9b.out (.cells #[.int .i64 kind, .int .i64 frm, .int .i64 ep, .int .i64 cf, .int .i64 ma, .int .u64 sl, .int .i64 off, .int .i64 ab, .int .i64 ac, .int .u64 as_, .slice A12 n c12] 26)
          rwa [HN.out] at this
        obtain ⟨w12, hw12⟩ : ∃ x, w11.alloc (.cells #[.int .i64 kind, .int .i64 frm, .int .i64 ep, .int .i64 cf, .int .i64 ma, .int .u64 sl, .int .i64 off, .int .i64 ab, .int .i64 ac, .int .u64 as_, .slice A12 n c12] 26) = x := ⟨_, rfl⟩
        rw [hw12] at bk12 br12 hB12 ho12 hc12w ⊢
        have BK12 := Lib.hid bk12
        have BR12 := Lib.hid br12
        have HB12 := Lib.hid hB12
        have HO12 := Lib.hid ho12
        have HC12 := Lib.hid hc12w
        have hg11 : g9 < w11.heap.size := by omega
        clear bk12 br12 hB12 ho12 hc12w hw12 HB11 BK11 HO11 HO9b HR9 HO9 BK9 HB9 HR8 hL8 ho9
        go_wp2
        clear k0 k1 k2 k3 k4 k5 k6 k7 k8 k9 k10
        go_loopw [10, 55] (fun _ i wr2 => ∃ k : Nat, k ≤ N ∧ i = .int .i64 k ∧ Below w.heap.size w wr2 ∧ w12.grownBy wr2 (some g9) ∧ ∃ l' : List UInt8, l'.length = N ∧ wr2.ownsRow w8.heap.size 5 1 (.slice (some ⟨g9, 0, none⟩) N c9) N (bs l')) (fun _ i _ => N - (RowKit.intOf i).toNat)
        case atStart => exact ⟨0, by omega, rfl, HB12.out, World.grownBy.refl _ _, l, HN.out, HC12.out⟩
        case round =>
          obtain ⟨wr2, rfl⟩ : ∃ x, x = wr := ⟨_, rfl⟩
          obtain ⟨k, hk, rfl, hb, hgr, l', hl', hxs⟩ := hrel
          have HLN := Lib.hid hl'
          have HB2 := Lib.hid hb
          have HGR2 := Lib.hid hgr
          have HXS2 := Lib.hid hxs
          clear hb hgr hxs hl'
          by_cases hkn : k < N
          · have hfz := World.ownsRow.frozenAt HXS2.out k
            have hx := flip_bits (l'[k]'(by rw [HLN.out]; exact hkn))
            obtain ⟨b, hb⟩ : ∃ b, l'[k]'(by rw [HLN.out]; exact hkn) = b := ⟨_, rfl⟩
            have hcc : wr2.cell? ⟨g9, k, none⟩ = some (.int .u8 (b.toNat : Int)) := by
              have h1 := HXS2.out.cells (g := g9) rfl k (.int .u8 (b.toNat : Int)) (by unfold bs; rw [List.getElem?_map, List.getElem?_eq_getElem (by rw [HLN.out]; exact hkn), hb]; rfl)
              rw [show (⟨g9, 0, none⟩ : Addr).add k = ⟨g9, k, none⟩ by rw [Go.WideShapes.add_plain, Nat.zero_add]] at h1
              exact h1
            rw [hb] at hx
            have hst := World.ownsRow.stored HXS2.out k (.int .u8 ((b ^^^ 255).toNat : Int))
            rw [bs_set] at hst
            have HST := Lib.hid hst
            have HH : Hid (w.heap.size ≤ g9) := by show _ ≤ _; omega
            clear hst hb
            go_wp2
            go_roundw
            case rel => exact ⟨k + 1, by omega, by go_num, HB2.out.setCell HH.out _, HGR2.out.trans HST.out.2, _, by rw [List.length_set]; exact HLN.out, HST.out.1⟩
            case measure => simp [RowKit.intOf]; omega
          · obtain rfl : N = k := by omega
            have hbk := BK12.out.grown HGR2.out (by intro e; injection e with e; omega)
            have hbr := BR12.out.grown HGR2.out (by intro e; injection e with e; omega)
            have ho13 := own_kept HO12.out HGR2.out (fun b e => by injection e with e; omega)
            obtain ⟨A12', c12', e12, _, _, hE13⟩ := own_reps ho13
            injection e12 with e12a _ e12c
            subst e12a; subst e12c
            have HE13 := Lib.hid hE13
            have HSM : Hid (samePk ⟨kind, frm, ep, cf, ma, sl, off, ab, ac, as_, sec⟩ ⟨kind, frm, ep, cf, ma, sl, off, ab, ac, as_, sec⟩ = true) := decide_eq_true rfl
            obtain ⟨k0, k1, k2, k3, k4, k5, k6, k7, k8, k9, k10⟩ := pk_cells hbk
            obtain ⟨j0, j1, j2, j3, j4, j5, j6, j7, j8, j9, j10⟩ := pk_cells hbr
            clear hbk hbr ho13 hE13
            go_wp2_with (go_at_call 18; refine (samepk_any ⟨kind, frm, ep, cf, ma, sl, off, ab, ac, as_, sec⟩ ⟨kind, frm, ep, cf, ma, sl, off, ab, ac, as_, sec⟩ A A12 n cap n c12 wr2 hl hl (HE0.out.below HB2.out) HE13.out (by omega) hc12 hcm12).mono ?_; rintro e w14 ⟨rfl, hb14⟩; rw [HSM.out])
            go_ret
            exact ⟨rfl, HB2.out.trans (hb14.mono HB2.out.size)⟩
end Go.Proofs.Ytakhemhcnceajaa
