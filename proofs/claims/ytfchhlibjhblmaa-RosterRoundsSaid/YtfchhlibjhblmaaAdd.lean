/-
  WHAT IS PROVED: contracts of Add and Forget. Condition: the object is a roster; of Forget, that the bans are fewer than a million.
-/
import Derived.Test.YtfchhlibjhblmaaSet
namespace Go.Proofs.Ytfchhlibjhblmaa
open Go.RowKit Go.Lib Go.Maps

theorem addE_chk {R : Ro} {x t : Int} (h : chkE R.s x t ≠ 0) : addE R x t = chkE R.s x t := if_neg h
theorem forE_chk {R : Ro} {x t : Int} (h : chkE R.s x t ≠ 0) : forE R x t = chkE R.s x t := if_neg h
theorem addE_known {R : Ro} {x t : Int} (h : chkE R.s x t = 0) (h1 : hasL R.L x = true) : addE R x t = 32 := by unfold addE; rw [if_pos h, if_pos h1]
theorem addE_ban {R : Ro} {x t : Int} (h : chkE R.s x t = 0) (h1 : hasL R.L x = false) (h2 : banB R.B x t = true) : addE R x t = 34 := by unfold addE; rw [if_pos h, if_neg (by rw [h1]; decide), if_pos h2]
theorem addE_full {R : Ro} {x t : Int} (h : chkE R.s x t = 0) (h1 : hasL R.L x = false) (h2 : banB R.B x t = false) (h3 : R.L.length = 15) : addE R x t = 31 := by unfold addE; rw [if_pos h, if_neg (by rw [h1]; decide), if_neg (by rw [h2]; decide), if_pos h3]
theorem addE_ok {R : Ro} {x t : Int} (h : chkE R.s x t = 0) (h1 : hasL R.L x = false) (h2 : banB R.B x t = false) (h3 : R.L.length ≠ 15) : addE R x t = 0 := by unfold addE; rw [if_pos h, if_neg (by rw [h1]; decide), if_neg (by rw [h2]; decide), if_neg h3]
theorem addR_no {R : Ro} {x t : Int} (h : addE R x t ≠ 0) : addR R x t = R := if_neg h
theorem addR_ok {R : Ro} {x t : Int} (h : addE R x t = 0) : addR R x t = ⟨R.s, insL R.L ⟨x, 0, 0, 0, -1⟩, unB R.B x, R.c⟩ := if_pos h
theorem forE_none {R : Ro} {x t : Int} (h : chkE R.s x t = 0) (h1 : hasL R.L x = false) : forE R x t = 30 := by unfold forE; rw [if_pos h, if_neg (by rw [h1]; decide)]
theorem forE_ok {R : Ro} {x t : Int} (h : chkE R.s x t = 0) (h1 : hasL R.L x = true) : forE R x t = 0 := by unfold forE; rw [if_pos h, if_pos h1]
theorem forR_no {R : Ro} {x t : Int} (h : forE R x t ≠ 0) : forR R x t = R := if_neg h
theorem forR_ok {R : Ro} {x t : Int} (h : forE R x t = 0) : forR R x t = ⟨R.s, delL R.L x, putB R.B ⟨x, t + 60000⟩, R.c⟩ := if_pos h
theorem id_int {x : Int} (h : isIdB x = true) : inInt x := by have := in_id h; unfold inInt; omega

section
variable (C g : Nat) (F : Nat → Prop) (R : Ro) (w : World) (h : Rs w C g F R) (x t : Int)
include h
theorem add_chk (n : Int) (he : chkE R.s x t = n) (hn : (n != 0) = true) :
    Calls Try.prog 14 #[.pointer (some ⟨g, 0, none⟩), .int .i64 x, .int .i64 t] w (Did C g F n R w) := by
  have HH := Lib.hid h
  have HE := Lib.hid he
  clear h he
  go_enter Try.func14, Try.ntmps14
  go_wp2_with (fail)
  refine (check_any C g F R _ HH.out x t).mono ?_
  rintro e w1 ⟨rfl, rfl⟩
  rw [HE.out]
  go_wp2
  go_ret
  exact Did.same HH.out (Below.refl _ _)
theorem for_chk (n : Int) (he : chkE R.s x t = n) (hn : (n != 0) = true) :
    Calls Try.prog 16 #[.pointer (some ⟨g, 0, none⟩), .int .i64 x, .int .i64 t] w (Did C g F n R w) := by
  have HH := Lib.hid h
  have HE := Lib.hid he
  clear h he
  go_enter Try.func16, Try.ntmps16
  go_wp2_with (fail)
  refine (check_any C g F R _ HH.out x t).mono ?_
  rintro e w1 ⟨rfl, rfl⟩
  rw [HE.out]
  go_wp2
  go_ret
  exact Did.same HH.out (Below.refl _ _)

set_option maxHeartbeats 2000000 in
theorem add_stop (he : chkE R.s x t = 0) (hst : addE R x t ≠ 0) :
    Calls Try.prog 14 #[.pointer (some ⟨g, 0, none⟩), .int .i64 x, .int .i64 t] w (Did C g F (addE R x t) R w) := by
  have HH := Lib.hid h
  have HE := Lib.hid he
  have HX := Lib.hid (id_int (chk_zero he).1)
  obtain ⟨q, HQ⟩ : ∃ q, Hid (hasL R.L x = q) := ⟨_, Lib.hid rfl⟩
  obtain ⟨u, HU⟩ : ∃ u, Hid (banB R.B x t = u) := ⟨_, Lib.hid rfl⟩
  cases q
  · cases u
    · by_cases h15 : R.L.length = 15
      · have HA := Lib.hid (addE_full he HQ.out HU.out h15)
        rw [HA.out]
        have H15 := Lib.hid h15
        clear h he hst h15
        go_enter Try.func14, Try.ntmps14
        go_wp2_with (fail)
        refine (check_any C g F R _ HH.out x t).mono ?_
        rintro e w1 ⟨rfl, rfl⟩
        rw [HE.out]
        go_wp2_with (fail)
        refine (place_any C g F R _ HH.out x).mono ?_
        rintro e w1 ⟨rfl, hb1⟩
        rw [HQ.out]
        obtain ⟨k, hk⟩ : ∃ k, posL R.L x = k := ⟨_, rfl⟩
        rw [hk]
        have K1 := Lib.hid (HH.out.below hb1)
        have HB := Lib.hid hb1
        clear hb1 hk
        go_wp2_with (fail)
        refine (banned_any C g F R _ K1.out x t HX.out).mono ?_
        rintro e w2 ⟨rfl, rfl⟩
        rw [HU.out]
        obtain ⟨b, A, n, c, hblk, _, _, hn, hnc, hcm, _⟩ := K1.out.open_
        have c1 := hblk.cell 1
        simp at c1
        obtain rfl : n = 15 := by rw [← hn, H15.out]
        clear hblk hn
        go_wp2
        go_ret
        exact Did.same HH.out HB.out
      · exact absurd (addE_ok he HQ.out HU.out h15) hst
    · have HA := Lib.hid (addE_ban he HQ.out HU.out)
      rw [HA.out]
      clear h he hst
      go_enter Try.func14, Try.ntmps14
      go_wp2_with (fail)
      refine (check_any C g F R _ HH.out x t).mono ?_
      rintro e w1 ⟨rfl, rfl⟩
      rw [HE.out]
      go_wp2_with (fail)
      refine (place_any C g F R _ HH.out x).mono ?_
      rintro e w1 ⟨rfl, hb1⟩
      rw [HQ.out]
      obtain ⟨k, hk⟩ : ∃ k, posL R.L x = k := ⟨_, rfl⟩
      rw [hk]
      have K1 := Lib.hid (HH.out.below hb1)
      have HB := Lib.hid hb1
      clear hb1 hk
      go_wp2_with (fail)
      refine (banned_any C g F R _ K1.out x t HX.out).mono ?_
      rintro e w2 ⟨rfl, rfl⟩
      rw [HU.out]
      go_wp2
      go_ret
      exact Did.same HH.out HB.out
  · have HA := Lib.hid (addE_known he HQ.out)
    rw [HA.out]
    clear h he hst
    go_enter Try.func14, Try.ntmps14
    go_wp2_with (fail)
    refine (check_any C g F R _ HH.out x t).mono ?_
    rintro e w1 ⟨rfl, rfl⟩
    rw [HE.out]
    go_wp2_with (fail)
    refine (place_any C g F R _ HH.out x).mono ?_
    rintro e w1 ⟨rfl, hb1⟩
    rw [HQ.out]
    have HB := Lib.hid hb1
    clear hb1
    go_wp2
    go_ret
    exact Did.same HH.out HB.out

set_option maxHeartbeats 2000000 in
theorem for_none (he : chkE R.s x t = 0) (hq : hasL R.L x = false) :
    Calls Try.prog 16 #[.pointer (some ⟨g, 0, none⟩), .int .i64 x, .int .i64 t] w (Did C g F 30 R w) := by
  have HH := Lib.hid h
  have HE := Lib.hid he
  have HQ := Lib.hid hq
  clear h he hq
  go_enter Try.func16, Try.ntmps16
  go_wp2_with (fail)
  refine (check_any C g F R _ HH.out x t).mono ?_
  rintro e w1 ⟨rfl, rfl⟩
  rw [HE.out]
  go_wp2_with (fail)
  refine (place_any C g F R _ HH.out x).mono ?_
  rintro e w1 ⟨rfl, hb1⟩
  rw [HQ.out]
  have HB := Lib.hid hb1
  clear hb1
  go_wp2
  go_ret
  exact Did.same HH.out HB.out
end

/-- the new row is stored, the map is written: what comes of it -/
theorem Rs.made {w w1 w3 w5 : World} {C g b : Nat} {F : Nat → Prop} {R : Ro} {v v' : Value} {L' : List Mb} {B' : List Bn}
    (K : Rs w C g F R) (hbw : Below w.heap.size w w1) (hb : Blk w1 g 62 #[.int .i64 R.s, v, .map (some b), .int .i64 (R.c : Int)]) (hm : MapAt w1 b R.B) (hv : w1.ownsRow 0 34 5 v R.L.length (flatM R.L)) (hF : ∀ k, v.ownBlock = some k → F k) (hFb : F b)
    (ho : w3.ownsRow 0 34 5 v' L'.length (flatM L')) (hg : w1.grownBy w3 v.ownBlock) (hat : v'.ownBlock = v.ownBlock ∨ ∃ k, v'.ownBlock = some k ∧ w1.heap.size ≤ k)
    (hm5 : MapAt w5 b B') (hg5 : (w3.setCell ⟨g, 1, none⟩ v').grownBy w5 (some b)) (hgood : Good ⟨R.s, L', B', R.c⟩) :
    Rs w5 C g (fun i => F i ∨ v'.ownBlock = some i) ⟨R.s, L', B', R.c⟩ ∧ Turn w w5 F ∧ Sub w F (fun i => F i ∨ v'.ownBlock = some i) := by
  have hne : ((34 : TypeId) = 62) → False := by decide
  have t3 : Turn w1 w3 F := Turn.of_grown hg hF
  have hb3 := hb.grown hg (fun e => row_ne hv hb hne g e.symm rfl)
  have hvg := row_ne ho hb3 hne
  have hm3 : MapAt w3 b R.B := hm.kept hg (fun e => row_ne_map hv hm b e.symm rfl)
  have hvb := row_ne_map ho hm3
  have hgb := hb.map_ne hm
  have t4 := turn_set w3 ⟨g, 1, none⟩ v'
  have hb4 := hb3.set_ 1 v'
  have ho4 := own_turn ho t4 (fun k hk e => hvg k hk e)
  have t5 : Turn (w3.setCell ⟨g, 1, none⟩ v') w5 (fun i => i = b) := Turn.of_grown hg5 (fun k e => by injection e with e; exact e.symm)
  have hb5 := hb4.turn t5 hgb
  have ho5 := own_turn ho4 t5 (fun k hk e => hvb k hk e)
  have t35 : Turn w3 w5 (fun i => i = g ∨ i = b) := (show Turn w3 (w3.setCell ⟨g, 1, none⟩ v') (fun i => i = g ∨ i = b) from ⟨t4.os, t4.tape, t4.output, t4.size, fun i hi hn => t4.block i hi (fun e => hn (.inl e))⟩).trans t5 (fun i _ e => .inr e)
  have tt : Turn w w5 F := ((Turn.of_below hbw F).trans t3 (Sub.refl _ _)).trans t35 (fun i _ e => by rcases e with e | e <;> rw [e]; exact K.fg; exact hFb)
  have hs35 := t35.size
  have hs13 := t3.size
  have hsw := hbw.size
  refine ⟨⟨⟨b, v', hb5, hm5, ho5, .inl hFb, fun k hk => .inr hk⟩, .inl K.fg, hgood, ?_, ?_, K.cb⟩, tt, ?_⟩
  · rintro i (hi | hi)
    · exact Nat.lt_of_lt_of_le (K.lt i hi) tt.size
    · exact (ho5.lt i hi).2
  · rintro i (hi | hi)
    · exact K.lo i hi
    · rcases hat with e | ⟨k, e, hk⟩
      · exact K.lo i (hF i (by rw [← e]; exact hi))
      · rw [hi] at e; injection e with e
        have := K.cle
        omega
  · rintro i hi (h1 | h1)
    · exact h1
    · rcases hat with e | ⟨k, e, hk⟩
      · exact hF i (by rw [← e]; exact h1)
      · rw [h1] at e; injection e with e
        omega

set_option maxHeartbeats 4000000 in
theorem add_yes (C g : Nat) (F : Nat → Prop) (R : Ro) (w : World) (h : Rs w C g F R) (x t : Int) (he : addE R x t = 0) :
    Calls Try.prog 14 #[.pointer (some ⟨g, 0, none⟩), .int .i64 x, .int .i64 t] w (Did C g F 0 (addR R x t) w) := by
  have HH := Lib.hid h
  obtain ⟨h1, h2, h3, h4⟩ := addE_zero he
  have HE := Lib.hid h1
  have HX := Lib.hid (id_int (chk_zero h1).1)
  have HQ := Lib.hid h2
  have HU := Lib.hid h3
  have H15 := Lib.hid h4
  have HGD := Lib.hid (h.good.add x t)
  have HL : Hid (insL R.L ⟨x, 0, 0, 0, -1⟩ = R.L.take (posL R.L x) ++ ⟨x, 0, 0, 0, -1⟩ :: R.L.drop (posL R.L x)) := Lib.hid (ins_new h2)
  rw [addR_ok he] at HGD ⊢
  have HPL := Lib.hid (pos_le R.L x)
  obtain ⟨k, hk⟩ : ∃ k, posL R.L x = k := ⟨_, rfl⟩
  rw [hk] at HL HPL
  have HK := Lib.hid hk
  clear h he h1 h2 h3 h4 hk
  go_enter Try.func14, Try.ntmps14
  go_wp2_with (fail)
  refine (check_any C g F R _ HH.out x t).mono ?_
  rintro e w1 ⟨rfl, rfl⟩
  rw [HE.out]
  go_wp2_with (fail)
  refine (place_any C g F R _ HH.out x).mono ?_
  rintro e w1 ⟨rfl, hb1⟩
  rw [HQ.out, HK.out]
  have K1 := Lib.hid (HH.out.below hb1)
  have HB := Lib.hid hb1
  clear hb1
  go_wp2_with (fail)
  refine (banned_any C g F R _ K1.out x t HX.out).mono ?_
  rintro e w2 ⟨rfl, rfl⟩
  rw [HU.out]
  obtain ⟨b, A, n, c, hblk, hmap, hown, hn, hnc, hcm, h15, hFb, hsep, hgb, _⟩ := K1.out.open_
  have c1 := hblk.cell 1
  simp at c1
  have HN := Lib.hid hn
  have t1 : ((n : Int) == 15) = false := by have := H15.out; simp; omega
  obtain ⟨W2, HW2⟩ : ∃ W2, Hid (w1.alloc (.cells (rowM ⟨x, 0, 0, 0, -1⟩) 34) = W2) := ⟨_, Lib.hid rfl⟩
  have HBL2 : Hid (Below w1.heap.size w1 (w1.alloc (.cells (rowM ⟨x, 0, 0, 0, -1⟩) 34))) := Lib.hid ((Below.refl _ _).alloc (Nat.le_refl _) _)
  have HO2 : Hid ((w1.alloc (.cells (rowM ⟨x, 0, 0, 0, -1⟩) 34)).ownsRow 0 34 5 (.slice A n c) R.L.length (flatM R.L)) := Lib.hid (by rw [hn]; exact own_below hown HBL2.out)
  have HBK := Lib.hid (hblk.below HBL2.out hblk.lt)
  have HMP := Lib.hid (hmap.turn (Turn.of_below HBL2.out no) (fun f => f))
  have HF := Lib.hid (fun k hk => (hsep k hk).1)
  have HSG := Lib.hid hsep
  have HFB := Lib.hid hFb
  have HGB := Lib.hid hgb
  have HVB : Hid ((Value.slice A n c).ownBlock ≠ some w1.heap.size) := Lib.hid (fun e => by
    have := (hown.lt _ e).2
    omega)
  clear hblk hmap hown hn hsep hFb hgb
  go_wp2_with (fail)
  refine (insert_any (.slice A n c) R.L ⟨x, 0, 0, 0, -1⟩ k w1.heap.size _ HO2.out (by rw [HN.out]; omega) HPL.out (Blk.new _ _ _) HVB.out).mono ?_
  rintro e w3 ⟨v', rfl, ho3, hg3, hat3⟩
  obtain ⟨A3, n3, c3, rfl⟩ : ∃ A3 n3 c3, v' = .slice A3 n3 c3 := by obtain ⟨A3, c3, e, _, _⟩ := own_form ho3; exact ⟨_, _, _, e⟩
  have HO3 := Lib.hid ho3
  have HG3 := Lib.hid hg3
  have HAT := Lib.hid hat3
  have HMP3 := Lib.hid (HMP.out.kept hg3 (fun e => (HSG.out b e.symm).2.2 rfl))
  have hb3 := HBK.out.grown hg3 (fun e => (HSG.out g e.symm).2.1 rfl)
  have e1 := hb3.cell 1
  have e2 := hb3.cell 2
  have g1 := hb3.frozen 1
  simp at e1 e2
  have HMP4 := Lib.hid (HMP3.out.turn (turn_set w3 ⟨g, 1, none⟩ (.slice A3 n3 c3)) (fun e => HGB.out e.symm))
  clear ho3 hg3 hat3 hb3
  go_wp2_with (at_delete; refine wpList_delete_map _ rfl _ _ rfl b R.B x rfl rfl HMP4.out HH.out.good.upB HX.out ?_; intro w5 hm5 hg5; have HM5 := Lib.hid hm5; have HG5 := Lib.hid hg5; clear hm5 hg5)
  go_ret
  have hres := Rs.made HH.out (HB.out.trans (HBL2.out.mono HB.out.size)) HBK.out HMP.out HO2.out HF.out HFB.out HO3.out HG3.out HAT.out HM5.out HG5.out (by rw [← HL.out]; exact HGD.out)
  rw [← HL.out] at hres
  exact ⟨rfl, _, hres⟩
theorem add_any (C g : Nat) (F : Nat → Prop) (R : Ro) (w : World) (h : Rs w C g F R) (x t : Int) :
    Calls Try.prog 14 #[.pointer (some ⟨g, 0, none⟩), .int .i64 x, .int .i64 t] w (Did C g F (addE R x t) (addR R x t) w) := by
  by_cases he : addE R x t = 0
  · rw [he]; exact add_yes C g F R w h x t he
  · rw [addR_no he]
    by_cases hc : chkE R.s x t = 0
    · exact add_stop C g F R w h x t hc he
    · rw [addE_chk hc]
      exact add_chk C g F R w h x t _ rfl (by simpa using hc)

set_option maxHeartbeats 4000000 in
theorem for_yes (C g : Nat) (F : Nat → Prop) (R : Ro) (w : World) (h : Rs w C g F R) (hlb : R.B.length < 1000000) (x t : Int) (he : forE R x t = 0) :
    Calls Try.prog 16 #[.pointer (some ⟨g, 0, none⟩), .int .i64 x, .int .i64 t] w (Did C g F 0 (forR R x t) w) := by
  have HH := Lib.hid h
  obtain ⟨h1, h2⟩ := forE_zero he
  have HE := Lib.hid h1
  have HX := Lib.hid (id_int (chk_zero h1).1)
  have hti := in_time (chk_zero h1).2.1
  have HQ := Lib.hid h2
  have HLB := Lib.hid hlb
  have HGD := Lib.hid (h.good.forget x t)
  have HL := Lib.hid (del_at h.good.up h2)
  rw [forR_ok he] at HGD ⊢
  have HPL := Lib.hid (pos_has h.good.up h2)
  obtain ⟨k, hk⟩ : ∃ k, posL R.L x = k := ⟨_, rfl⟩
  rw [hk] at HL HPL
  have HK := Lib.hid hk
  have hk15 : k ≤ 15 := by have h1 := HPL.out; have h2 := h.good.len; omega
  clear h he h1 h2 hk hlb
  go_enter Try.func16, Try.ntmps16
  go_wp2_with (fail)
  refine (check_any C g F R _ HH.out x t).mono ?_
  rintro e w1 ⟨rfl, rfl⟩
  rw [HE.out]
  go_wp2_with (fail)
  refine (place_any C g F R _ HH.out x).mono ?_
  rintro e w1 ⟨rfl, hb1⟩
  rw [HQ.out, HK.out]
  have K1 := Lib.hid (HH.out.below hb1)
  have HB := Lib.hid hb1
  clear hb1
  obtain ⟨b, A, n, c, hblk, hmap, hown, hn, hnc, hcm, h15, hFb, hsep, hgb, _⟩ := K1.out.open_
  have c1 := hblk.cell 1
  simp at c1
  have HN := Lib.hid hn
  have HO2 : Hid (w1.ownsRow 0 34 5 (.slice A n c) R.L.length (flatM R.L)) := Lib.hid (by rw [hn]; exact hown)
  have HBK := Lib.hid hblk
  have HMP := Lib.hid hmap
  have HF := Lib.hid (fun k hk => (hsep k hk).1)
  have HSG := Lib.hid hsep
  have HFB := Lib.hid hFb
  have HGB := Lib.hid hgb
  clear hblk hmap hown hn hsep hFb hgb
  go_wp2_with (fail)
  refine (delete_any (.slice A n c) R.L k _ HO2.out (by rw [HN.out]; omega) HPL.out).mono ?_
  rintro e w3 ⟨v', rfl, ho3, hg3, hat3⟩
  obtain ⟨A3, n3, c3, rfl⟩ : ∃ A3 n3 c3, v' = .slice A3 n3 c3 := by obtain ⟨A3, c3, e, _, _⟩ := own_form ho3; exact ⟨_, _, _, e⟩
  have HO3 := Lib.hid ho3
  have HG3 := Lib.hid hg3
  have HAT := Lib.hid hat3
  have HMP3 := Lib.hid (HMP.out.kept hg3 (fun e => (HSG.out b e.symm).2.2 rfl))
  have hb3 := HBK.out.grown hg3 (fun e => (HSG.out g e.symm).2.1 rfl)
  have e1 := hb3.cell 1
  have e2 := hb3.cell 2
  have g1 := hb3.frozen 1
  simp at e1 e2
  have HMP4 := Lib.hid (HMP3.out.turn (turn_set w3 ⟨g, 1, none⟩ (.slice A3 n3 c3)) (fun e => HGB.out e.symm))
  clear ho3 hg3 hat3 hb3
  go_wp2_with (at_mapUpdate; refine wpList_update_map _ rfl _ _ _ rfl b R.B ⟨x, t + 60000⟩ rfl rfl rfl HMP4.out HH.out.good.upB HLB.out HX.out ?_; intro w5 hm5 hg5; have HM5 := Lib.hid hm5; have HG5 := Lib.hid hg5; clear hm5 hg5)
  go_ret
  have hres := Rs.made HH.out HB.out HBK.out HMP.out HO2.out HF.out HFB.out HO3.out HG3.out HAT.out HM5.out HG5.out (by rw [← HL.out]; exact HGD.out)
  rw [← HL.out] at hres
  exact ⟨rfl, _, hres⟩
theorem forget_any (C g : Nat) (F : Nat → Prop) (R : Ro) (w : World) (h : Rs w C g F R) (hlb : R.B.length < 1000000) (x t : Int) :
    Calls Try.prog 16 #[.pointer (some ⟨g, 0, none⟩), .int .i64 x, .int .i64 t] w (Did C g F (forE R x t) (forR R x t) w) := by
  by_cases he : forE R x t = 0
  · rw [he]; exact for_yes C g F R w h hlb x t he
  · rw [forR_no he]
    by_cases hc : chkE R.s x t = 0
    · cases hq : hasL R.L x
      · rw [forE_none hc hq]; exact for_none C g F R w h x t hc hq
      · exact absurd (forE_ok hc hq) he
    · rw [forE_chk hc]
      exact for_chk C g F R w h x t _ rfl (by simpa using hc)
end Go.Proofs.Ytfchhlibjhblmaa
