/-
  WHAT IS PROVED: the law KeepCarries answers true: nothing goes down from a state to itself; from one to another and to a third it is carried, if it is by each. Conditions: the library's variables hold what is laid there; the known ones lie in memory.
-/
import Derived.Test.YtijkdibccgdomaaGreatDoorKThree
namespace Go.Proofs.YtijkdibccgdomaaGreatDoor.Dsk
set_option maxRecDepth 100000
open Go.RowKit Go.Lib C R

/-- the law's three states, behind whatever was called -/
structure Tri (w wx : World) (sa sb sc : Sv) : Prop where
  low : Below w.heap.size w wx
  a : StAt wx w.heap.size sa
  b : StAt wx (w.heap.size + 1) sb
  c : StAt wx (w.heap.size + 2) sc
theorem Tri.drew_ {w wx : World} {sa sb sc : Sv} (h : Tri w wx sa sb sc) : Tri w wx.drew sa sb sc := ⟨h.low.drew, h.a.drew, h.b.drew, h.c.drew⟩
theorem Tri.later {w wx wy : World} {sa sb sc : Sv} (h : Tri w wx sa sb sc) (hb : Below wx.heap.size wx wy) : Tri w wy sa sb sc :=
  ⟨h.low.trans (hb.mono h.low.size), h.a.later hb, h.b.later hb, h.c.later hb⟩
theorem Tri.start (w : World) (sa sb sc : Sv) : Tri w (((w.alloc (.cells (stv sa) 29)).alloc (.cells (stv sb) 29)).alloc (.cells (stv sc) 29)) sa sb sc := by
  have e1 : (w.alloc (.cells (stv sa) 29)).heap.size = w.heap.size + 1 := by simp
  have e2 : ((w.alloc (.cells (stv sa) 29)).alloc (.cells (stv sb) 29)).heap.size = w.heap.size + 2 := by simp
  have h2 := StAt.new (w.alloc (.cells (stv sa) 29)) sb
  have h3 := StAt.new ((w.alloc (.cells (stv sa) 29)).alloc (.cells (stv sb) 29)) sc
  rw [e1] at h2
  rw [e2] at h3
  exact ⟨(((Below.refl _ w).alloc (Nat.le_refl _) _).alloc (by rw [e1]; omega) _).alloc (by rw [e2]; omega) _, ((StAt.new w sa).alloc _).alloc _, h2.alloc _, h3⟩

set_option maxHeartbeats 8000000 in
theorem carries_any (a b c : Dt) (A B D : Option Addr) (n m k e f g : Nat) (w : World) (hE : Env w) (ha : KnAt w A n a.l) (hb : KnAt w B m b.l) (hc : KnAt w D k c.l) (hn : n ≤ 9223372036854775807) (hm : m ≤ 9223372036854775807) (hk : k ≤ 9223372036854775807) :
    Calls Tryz.prog 8 #[.agg (stv (mkS a A n e)), .agg (stv (mkS b B m f)), .agg (stv (mkS c D k g))] w (Says true w) := by
  have HE := Lib.hid hE
  have HA := Lib.hid ha
  have HB := Lib.hid hb
  have HC := Lib.hid hc
  have HT := Lib.hid (Tri.start w (mkS a A n e) (mkS b B m f) (mkS c D k g))
  clear hE ha hb hc
  go_enter Tryz.func8, Tryz.ntmps8
  go_wp2_with (fail)
  refine (anchor14_any _ (HE.out.below HT.out.low)).mono ?_
  rintro e0 w1 ⟨rfl, hb1⟩
  have T1 := Lib.hid (HT.out.later hb1)
  clear hb1 HT
  obtain ⟨sb, HSB⟩ : ∃ x, Hid (smallB [⟨a, A, n, e⟩, ⟨b, B, m, f⟩, ⟨c, D, k, g⟩] 3 = x) := ⟨_, Lib.hid rfl⟩
  go_wp2_with (first | ((with_reducible refine st_load (b := w.heap.size) (s := mkS a A n e) ?_ ?_ ?_ ?_); (rfl); (with_reducible exact T1.out.a); (rfl)) | ((with_reducible refine st_load (b := w.heap.size + 1) (s := mkS b B m f) ?_ ?_ ?_ ?_); (rfl); (with_reducible exact T1.out.b); (rfl)) | ((with_reducible refine st_load (b := w.heap.size + 2) (s := mkS c D k g) ?_ ?_ ?_ ?_); (rfl); (with_reducible exact T1.out.c); (rfl)) | ((with_reducible refine st_slice3 (s0 := mkS a A n e) (s1 := mkS b B m f) (s2 := mkS c D k g) ?_ ?_ ?_ ?_ ?_); (rfl); (rfl); (rfl); (rfl); (intro Z hZ)))
  have HST := Lib.hid (sts3 w1 Z hZ ⟨a, A, n, e⟩ ⟨b, B, m, f⟩ ⟨c, D, k, g⟩ (HA.out.below T1.out.low) (HB.out.below T1.out.low) (HC.out.below T1.out.low) hn hm hk)
  have T2 := Lib.hid (T1.out.later ((Below.refl _ w1).alloc (Nat.le_refl _) (.cells (arr3 Z (mkS a A n e) (mkS b B m f) (mkS c D k g)) 29)))
  clear T1
  refine (small_any (some ⟨w1.heap.size, 0, none⟩) 3 3 _ 3 _ HST.out (by omega) (by omega)).mono ?_
  rw [HSB.out]
  rintro e0 w2 ⟨rfl, hb2⟩
  have T3 := Lib.hid (T2.out.later hb2)
  clear hb2 T2 HST hZ
  cases sb
  · go_wp2
    go_ret
    exact ⟨rfl, T3.out.low⟩
  have hn4 : n ≤ 40 ∧ m ≤ 40 ∧ k ≤ 40 := small3 HSB.out
  obtain ⟨hn4, hm4, hk4⟩ := hn4
  clear hn hm hk HSB
  obtain ⟨cb, HCB⟩ : ∃ x, Hid (carryB a b = x) := ⟨_, Lib.hid rfl⟩
  obtain ⟨o1, O1⟩ : ∃ r, Hid (okD a = r) := ⟨_, Lib.hid rfl⟩
  obtain ⟨o2, O2⟩ : ∃ r, Hid (okD b = r) := ⟨_, Lib.hid rfl⟩
  have HX : Hid (cb = (o1 && (o2 && ((a.i == b.i) && (decide (a.c ≤ b.c) && (decide (a.v ≤ b.v) && decide (a.f ≤ b.f))))))) := Lib.hid (by rw [← HCB.out, ← O1.out, ← O2.out]; rfl)
  obtain ⟨w3, rfl⟩ : ∃ x, x = w2 := ⟨_, rfl⟩
  go_upto_region 5 with (fail)
  go_cut [7] from 16 to 57 (fun q wx => q = .bool cb ∧ Tri w wx (mkS a A n e) (mkS b B m f) (mkS c D k g))
  case first =>
    go_wp2_with (first | ((with_reducible refine st_load (b := w.heap.size) (s := mkS a A n e) ?_ ?_ ?_ ?_); (rfl); (with_reducible exact T3.out.a); (rfl)))
    refine (made_dk a A n e _ (HA.out.below T3.out.low) (by omega)).mono ?_
    rintro e0 w4 ⟨hb4, a4, c4, rfl, hka4⟩
    have T4 := Lib.hid (T3.out.later hb4)
    have HK4 := Lib.hid hka4
    clear hb4 hka4 T3
    go_wp2_with (fail)
    refine (rright_dk a a4 n c4 _ HK4.out (by omega)).mono ?_
    rw [O1.out]
    rintro e0 w5 ⟨rfl, hb5⟩
    have T5 := Lib.hid (T4.out.later hb5)
    clear hb5 T4 HK4
    cases o1
    · have HN : Hid (cb = false) := Lib.hid (by rw [HX.out]; simp)
      go_wp2
      go_meet
      exact ⟨by rw [HN.out], T5.out⟩
    go_wp2_with (first | ((with_reducible refine st_load (b := w.heap.size + 1) (s := mkS b B m f) ?_ ?_ ?_ ?_); (rfl); (with_reducible exact T5.out.b); (rfl)))
    refine (made_dk b B m f _ (HB.out.below T5.out.low) (by omega)).mono ?_
    rintro e0 w6 ⟨hb6, a6, c6, rfl, hka6⟩
    have T6 := Lib.hid (T5.out.later hb6)
    have HK6 := Lib.hid hka6
    clear hb6 hka6 T5
    go_wp2_with (fail)
    refine (rright_dk b a6 m c6 _ HK6.out (by omega)).mono ?_
    rw [O2.out]
    rintro e0 w7 ⟨rfl, hb7⟩
    have T7 := Lib.hid (T6.out.later hb7)
    clear hb7 T6 HK6
    cases o2
    · have HN : Hid (cb = false) := Lib.hid (by rw [HX.out]; simp)
      go_wp2
      go_meet
      exact ⟨by first | (rw [HN.out]; done) | (rw [HN.out]; simp; omega), T7.out⟩
    obtain ⟨ai, am, ac, av, af, al, at_⟩ := a
    obtain ⟨bi, bm, bc, bv, bf, bl, bt⟩ := b
    obtain ⟨a0, _, a2, a3, a4, _⟩ := T7.out.a.box
    obtain ⟨b0, _, b2, b3, b4, _⟩ := T7.out.b.box
    simp only [mkS] at a0 a2 a3 a4 b0 b2 b3 b4 HX
    by_cases hi : ai = bi
    · by_cases g1 : ac ≤ bc
      · by_cases g2 : av ≤ bv
        · by_cases g3 : af ≤ bf
          · have HN : Hid (cb = true) := Lib.hid (by rw [HX.out]; simp [hi, g1, g2, g3])
            have q0 : (ai == bi) = true := by simpa using hi
            clear hi
            go_wp2
            go_meet
            exact ⟨by first | (rw [HN.out]; done) | (rw [HN.out]; simp; omega), T7.out⟩
          · have HN : Hid (cb = false) := Lib.hid (by rw [HX.out]; simp; omega)
            have q0 : (ai == bi) = true := by simpa using hi
            clear hi
            go_wp2
            go_meet
            exact ⟨by first | (rw [HN.out]; done) | (rw [HN.out]; simp; omega), T7.out⟩
        · have HN : Hid (cb = false) := Lib.hid (by rw [HX.out]; simp; omega)
          have q0 : (ai == bi) = true := by simpa using hi
          clear hi
          go_wp2
          go_meet
          exact ⟨by first | (rw [HN.out]; done) | (rw [HN.out]; simp; omega), T7.out⟩
      · have HN : Hid (cb = false) := Lib.hid (by rw [HX.out]; simp; omega)
        have q0 : (ai == bi) = true := by simpa using hi
        clear hi
        go_wp2
        go_meet
        exact ⟨by first | (rw [HN.out]; done) | (rw [HN.out]; simp; omega), T7.out⟩
    · have HN : Hid (cb = false) := Lib.hid (by rw [HX.out]; simp [hi])
      have q0 : (ai == bi) = false := by simpa using hi
      clear hi
      go_wp2
      go_meet
      exact ⟨by first | (rw [HN.out]; done) | (rw [HN.out]; simp; omega), T7.out⟩
  case rest =>
    obtain ⟨rfl, ht⟩ := hcut
    have T4 := Lib.hid ht
    clear ht T3 HX
    go_upto_region 6 with (fail)
    go_cut [71] from 58 to 70 (fun q wx => q = .bool false ∧ Tri w wx (mkS a A n e) (mkS b B m f) (mkS c D k g))
    case first =>
      refine wp_region_held_drew (S := fun w' => Tri w w' (mkS a A n e) (mkS b B m f) (mkS c D k g)) (by kernel_rfl) (T4.out.drew_) (fun hHeld => ?_)
      refine wpAnyH_take (i := 0) (oi := ⟨some 58, _, _, _, _, _⟩) (v := (.agg (stv (mkS a A n e)))) rfl (by kernel_rfl) (by kernel_rfl) (by kernel_rfl) (fun _ _ _ h => h) (yields_stg rfl rfl fun _ h => h.a) (by assumption) ?_
      try simp only [Act.put, List.setIfInBounds_toArray, List.set_cons_zero, List.set_cons_succ]
      refine wpAnyH_take (i := 1) (oi := ⟨some 59, _, _, _, _, _⟩) (v := (.agg (stv (mkS b B m f)))) rfl (by kernel_rfl) (by kernel_rfl) (by kernel_rfl) (fun _ _ _ h => h) (yields_stg rfl rfl fun _ h => h.b) (by assumption) ?_
      try simp only [Act.put, List.setIfInBounds_toArray, List.set_cons_zero, List.set_cons_succ]
      refine wpAnyH_take (i := 3) (oi := ⟨some 61, _, _, _, _, _⟩) (v := .bool cb) rfl (by kernel_rfl) (by kernel_rfl) (by kernel_rfl) (fun _ _ _ h => h) (Or.inl ⟨by rfl, ?_⟩) (by assumption) ?_
      · (intro w' _; skip; go_simp)
      try simp only [Act.put, List.setIfInBounds_toArray, List.set_cons_zero, List.set_cons_succ]
      refine wpAnyH_ready (rs := [2]) (by kernel_rfl) (by simp) ?_
      refine AllReadyH.cons rfl (fun K hK => ?_) AllReadyH.nil
      go_simp
      refine (carry_any a b A B n m e f _ (HA.out.below hHeld.low) (HB.out.below hHeld.low) (by omega) (by omega)).mono ?_
      rw [HCB.out]
      rintro e0 v1 ⟨rfl, hbv⟩
      refine hK.out _ _ (hHeld.later hbv) (fun hHeld => ?_)
      clear hK K hbv
      try simp only [Act.put, List.setIfInBounds_toArray, List.set_cons_zero, List.set_cons_succ]
      refine wpAnyH_take (i := 4) (oi := ⟨some 62, _, _, _, _, _⟩) (v := .bool false) rfl (by kernel_rfl) (by kernel_rfl) (by kernel_rfl) (fun _ _ _ h => h) (Or.inl ⟨by rfl, ?_⟩) (by assumption) ?_
      · (intro w' _; skip; go_simp)
      try simp only [Act.put, List.setIfInBounds_toArray, List.set_cons_zero, List.set_cons_succ]
      refine wpAnyH_take (i := 5) (oi := ⟨some 63, _, _, _, _, _⟩) (v := .bool false) rfl (by kernel_rfl) (by kernel_rfl) (by kernel_rfl) (fun _ _ _ h => h) (Or.inl ⟨by rfl, ?_⟩) (by assumption) ?_
      · (intro w' _; skip; go_simp)
      try simp only [Act.put, List.setIfInBounds_toArray, List.set_cons_zero, List.set_cons_succ]
      refine wpAnyH_take (i := 6) (oi := ⟨some 64, _, _, _, _, _⟩) (v := (.agg (stv (mkS a A n e)))) rfl (by kernel_rfl) (by kernel_rfl) (by kernel_rfl) (fun _ _ _ h => h) (yields_stg rfl rfl fun _ h => h.a) (by assumption) ?_
      try simp only [Act.put, List.setIfInBounds_toArray, List.set_cons_zero, List.set_cons_succ]
      refine wpAnyH_take (i := 7) (oi := ⟨some 65, _, _, _, _, _⟩) (v := (.agg (stv (mkS a A n e)))) rfl (by kernel_rfl) (by kernel_rfl) (by kernel_rfl) (fun _ _ _ h => h) (yields_stg rfl rfl fun _ h => h.a) (by assumption) ?_
      try simp only [Act.put, List.setIfInBounds_toArray, List.set_cons_zero, List.set_cons_succ]
      refine wpAnyH_take (i := 9) (oi := ⟨some 67, _, _, _, _, _⟩) (v := (.agg (stv (mkS a A n e)))) rfl (by kernel_rfl) (by kernel_rfl) (by kernel_rfl) (fun _ _ _ h => h) (yields_stg rfl rfl fun _ h => h.a) (by assumption) ?_
      try simp only [Act.put, List.setIfInBounds_toArray, List.set_cons_zero, List.set_cons_succ]
      cases o1
      all_goals
        refine wpAnyH_ready (rs := [8]) (by kernel_rfl) (by simp) ?_
        refine AllReadyH.cons rfl (fun K hK => ?_) AllReadyH.nil
        go_simp
        refine (carry_any a a A A n n e e _ (HA.out.below hHeld.low) (HA.out.below hHeld.low) (by omega) (by omega)).mono ?_
        rw [carry_self, O1.out]
        rintro e0 v1 ⟨rfl, hbv⟩
        refine hK.out _ _ (hHeld.later hbv) (fun hHeld => ?_)
        clear hK K hbv
        try simp only [Act.put, List.setIfInBounds_toArray, List.set_cons_zero, List.set_cons_succ]
        refine wpAnyH_ready (rs := [10]) (by kernel_rfl) (by simp) ?_
        refine AllReadyH.cons rfl (fun K hK => ?_) AllReadyH.nil
        go_simp
        refine (made_dk a A n e _ (HA.out.below hHeld.low) (by omega)).mono ?_
        rintro e0 v1 ⟨hbv, a4, c4, rfl, hka4⟩
        have HK4 := Lib.hid hka4
        refine hK.out _ _ (hHeld.later hbv) (fun hHeld => ?_)
        clear hK K hbv hka4
        try simp only [Act.put, List.setIfInBounds_toArray, List.set_cons_zero, List.set_cons_succ]
        refine wpAnyH_ready (rs := [11]) (by kernel_rfl) (by simp) ?_
        refine AllReadyH.cons rfl (fun K hK => ?_) AllReadyH.nil
        go_simp
        refine (rright_dk a a4 n c4 _ (HK4.out) (by omega)).mono ?_
        rw [O1.out]
        rintro e0 v1 ⟨rfl, hbv⟩
        refine hK.out _ _ (hHeld.later hbv) (fun hHeld => ?_)
        clear hK K hbv
        try simp only [Act.put, List.setIfInBounds_toArray, List.set_cons_zero, List.set_cons_succ]
        refine wpAnyH_take (i := 12) (oi := ⟨some 70, _, _, _, _, _⟩) (v := .bool false) rfl (by kernel_rfl) (by kernel_rfl) (by kernel_rfl) (fun _ _ _ h => h) (Or.inl ⟨by rfl, ?_⟩) (by assumption) ?_
        · (intro w' _; skip; go_simp)
        try simp only [Act.put, List.setIfInBounds_toArray, List.set_cons_zero, List.set_cons_succ]
        refine wpAnyH_take (i := 13) (oi := ⟨some 71, _, _, _, _, _⟩) (v := .bool false) rfl (by kernel_rfl) (by kernel_rfl) (by kernel_rfl) (fun _ _ _ h => h) (Or.inl ⟨by rfl, ?_⟩) (by assumption) ?_
        · (intro w' _; skip; go_simp)
        try simp only [Act.put, List.setIfInBounds_toArray, List.set_cons_zero, List.set_cons_succ]
        refine wpAnyH_done (by kernel_rfl) ?_ _
        first
          | (go_wp2; go_meet; exact ⟨rfl, hHeld⟩)
          | (go_meet; exact ⟨rfl, hHeld⟩)
          | exact ⟨rfl, hHeld⟩
    case rest =>
      obtain ⟨rfl, ht⟩ := hcut
      have T5 := Lib.hid ht
      clear ht T4
      obtain ⟨db, HDB⟩ : ∃ x, Hid (carryB b c = x) := ⟨_, Lib.hid rfl⟩
      obtain ⟨eb, HEB⟩ : ∃ x, Hid (carryB a c = x) := ⟨_, Lib.hid rfl⟩
      have HTR : Hid (cb = true → db = true → eb = true) := Lib.hid fun h1 h2 => by rw [← HEB.out]; exact carry_trans (HCB.out.trans h1) (HDB.out.trans h2)
      go_wp2_with (first | ((with_reducible refine st_load (b := w.heap.size) (s := mkS a A n e) ?_ ?_ ?_ ?_); (rfl); (with_reducible exact T5.out.a); (rfl)) | ((with_reducible refine st_load (b := w.heap.size + 1) (s := mkS b B m f) ?_ ?_ ?_ ?_); (rfl); (with_reducible exact T5.out.b); (rfl)))
      refine (carry_any a b A B n m e f _ (HA.out.below T5.out.low) (HB.out.below T5.out.low) (by omega) (by omega)).mono ?_
      rw [HCB.out]
      rintro e0 w6 ⟨rfl, hb6⟩
      have T6 := Lib.hid (T5.out.later hb6)
      clear hb6 T5
      cases cb
      · go_wp2
        go_ret
        exact ⟨rfl, T6.out.low⟩
      go_wp2_with (first | ((with_reducible refine st_load (b := w.heap.size + 1) (s := mkS b B m f) ?_ ?_ ?_ ?_); (rfl); (with_reducible exact T6.out.b); (rfl)) | ((with_reducible refine st_load (b := w.heap.size + 2) (s := mkS c D k g) ?_ ?_ ?_ ?_); (rfl); (with_reducible exact T6.out.c); (rfl)))
      refine (carry_any b c B D m k f g _ (HB.out.below T6.out.low) (HC.out.below T6.out.low) (by omega) (by omega)).mono ?_
      rw [HDB.out]
      rintro e0 w7 ⟨rfl, hb7⟩
      have T7 := Lib.hid (T6.out.later hb7)
      clear hb7 T6
      cases db
      · go_wp2
        go_ret
        exact ⟨rfl, T7.out.low⟩
      go_wp2_with (first | ((with_reducible refine st_load (b := w.heap.size) (s := mkS a A n e) ?_ ?_ ?_ ?_); (rfl); (with_reducible exact T7.out.a); (rfl)) | ((with_reducible refine st_load (b := w.heap.size + 2) (s := mkS c D k g) ?_ ?_ ?_ ?_); (rfl); (with_reducible exact T7.out.c); (rfl)))
      refine (carry_any a c A D n k e g _ (HA.out.below T7.out.low) (HC.out.below T7.out.low) (by omega) (by omega)).mono ?_
      rw [HEB.out]
      rintro e0 w8 ⟨rfl, hb8⟩
      have HEE : Hid (eb = true) := Lib.hid (by first | exact HTR.out rfl rfl | exact HTR.out trivial trivial | simpa using HTR.out)
      have T8 := Lib.hid (T7.out.later hb8)
      rw [HEE.out]
      go_wp2
      go_ret
      exact ⟨rfl, T8.out.low⟩
end Go.Proofs.YtijkdibccgdomaaGreatDoor.Dsk
