/-
  WHAT IS PROVED: the law KeepBack answers true: right states that are saved one behind the other are loaded: the last one; others are refused, and change nothing. Conditions: the library's variables hold what is laid there; the arguments lie in memory.
-/
import Derived.Test.YtijkdibccgdomaaGreatDoorKStep
import Derived.Test.YtijkdibccgdomaaGreatDoorKThree
namespace Go.Proofs.YtijkdibccgdomaaGreatDoor.Dsk
set_option maxRecDepth 100000
open Go.RowKit Go.Lib C R

/-- what a play keeps from round to round, the room being r -/
structure Lb (w wr : World) (d g bl : Nat) (r : Int) (saved : Bool) (S : Ds) (ld : Dt) (la : Option Addr) (ln lc : Nat) : Prop where
  low : Below w.heap.size w wr
  dk : Dk wr d g S
  kept : Kept S.fs (keptO saved ld)
  room : S.room = r
  left : S.left = -1
  down : S.down = false
  okl : saved = true → okD ld = true
  box : StAt wr bl (mkS ld la ln lc)
  knw : KnAt w la ln ld.l
  lnb : ln ≤ 9223372036854775807
section
variable {w wr w5 : World} {d g bl : Nat} {r : Int} {saved : Bool} {S S3 : Ds} {ld rd : Dt} {la ra : Option Addr} {ln lc rn rc : Nat} {o : Obj}
theorem Lb.same (h : Lb w wr d g bl r saved S ld la ln lc) (hT : Turn (wr.alloc o) w5 (FD d g)) (hdk : Dk w5 d g S) (nd : bl ≠ d) (ng : bl ≠ g) (h1 : w.heap.size ≤ d) (h2 : w.heap.size ≤ g) : Lb w w5 d g bl r saved S ld la ln lc := by
  have hlow := h.low.alloc h.low.size o
  exact ⟨hlow.trans (hT.low h1 h2 hlow.size), hdk, h.kept, h.room, h.left, h.down, h.okl, blk_turn (h.box.alloc o) hT nd ng, h.knw, h.lnb⟩
theorem Lb.later {w6 : World} (h : Lb w w5 d g bl r saved S ld la ln lc) (hb : Below w5.heap.size w5 w6) : Lb w w6 d g bl r saved S ld la ln lc :=
  ⟨h.low.trans (hb.mono h.low.size), h.dk.below hb, h.kept, h.room, h.left, h.down, h.okl, h.box.later hb, h.knw, h.lnb⟩
theorem Lb.take (h : Lb w wr d g bl r saved S ld la ln lc) (hT : Turn (wr.alloc o) w5 (FD d g)) (hdk : Dk w5 d g S3) (nd : bl ≠ d) (ng : bl ≠ g) (h1 : w.heap.size ≤ d) (h2 : w.heap.size ≤ g) (h3 : w.heap.size ≤ bl) (hk : Kept S3.fs (some (txD rd))) (hr : S3.room = r) (hl : S3.left = -1) (hd : S3.down = false)
    (hok : okD rd = true) (hkn : KnAt w ra rn rd.l) (hn : rn ≤ 9223372036854775807) : Lb w (w5.setRow bl (stv (mkS rd ra rn rc))) d g bl r true S3 rd ra rn rc := by
  have hlow := h.low.alloc h.low.size o
  have hbox := blk_turn (h.box.alloc o) hT nd ng
  exact ⟨below_row (hlow.trans (hT.low h1 h2 hlow.size)) h3 _, hdk.row hbox nd ng _, hk, hr, hl, hd, fun _ => hok, StAt.store hbox _, hkn, hn⟩
end
theorem tx_pos (d : Dt) : 0 < (txD d).length := by rw [txD_first, List.length_append, List.length_cons]; omega
theorem save_three {S : Ds} {r : Int} {saved : Bool} {ld rd : Dt} {m : Nat} (hk : Kept S.fs (keptO saved ld)) (hr : S.room = r) (hl : S.left = -1) (hd : S.down = false) (hm : m = keptN (keptO saved ld)) :
    (okD rd = false → saveD S rd = (10, S)) ∧ (okD rd = true → r < (m : Int) + ((txD rd).length : Int) → saveD S rd = (51, S)) ∧ (okD rd = true → ¬ r < (m : Int) + ((txD rd).length : Int) → saveD S rd = (0, { S with fs := [⟨nSt, txD rd, true⟩] })) := by
  refine ⟨fun h => ?_, fun h hf => ?_, fun h hf => ?_⟩
  · unfold saveD; rw [if_neg (by rw [h]; simp)]
  · unfold saveD saveT
    rw [if_pos h, write_full hd (by rw [hk.but, hr, ← hm]; exact hf), if_pos (by simp)]
  · have := txD_len h
    unfold saveD
    rw [if_pos h, save_all hk hd (by rw [hl]; decide) (by omega) (by rw [hk.but, hr, ← hm]; exact hf)]

set_option maxHeartbeats 8000000 in
theorem back_any (A0 : Option Addr) (n0 c0 : Nat) (L : List Ar) (r : Int) (w : World) (hE : Env w) (hs : StsAt w A0 n0 L) (hnc0 : n0 ≤ c0) (hcm0 : c0 ≤ 9223372036854775807) :
    Calls Tryz.prog 5 #[.slice A0 n0 c0, .int .i64 r] w (Says true w) := by
  have HE := Lib.hid hE
  have HS := Lib.hid hs
  clear hE hs
  go_enter Tryz.func5, Tryz.ntmps5
  go_wp2_with (fail)
  refine (anchor14_any w HE.out).mono ?_
  rintro e w1 ⟨rfl, hb1⟩
  have HB1 := Lib.hid hb1
  have hs1 := hb1.size
  have HS1 := Lib.hid (HS.out.below hb1)
  clear hb1
  go_wp2_with (fail)
  refine (small_any A0 n0 c0 L 10 w1 HS1.out hnc0 hcm0).mono ?_
  obtain ⟨sb, HSB⟩ : ∃ b, Hid (smallB L 10 = b) := ⟨_, Lib.hid rfl⟩
  rw [HSB.out]
  rintro e w1 ⟨rfl, hb1⟩
  have HB2 := Lib.hid (HB1.out.trans (hb1.mono hs1))
  have hs2 := HB2.out.size
  clear hb1 HB1 HS1 hs1
  cases sb
  · go_wp2
    go_ret
    exact ⟨rfl, HB2.out⟩
  have HFEW : Hid (∀ x ∈ L, x.n ≤ 40) := Lib.hid fun x hx => by
    have h := HSB.out
    unfold smallB fewR at h
    simp at h
    exact h.1 x hx
  by_cases h20 : 0 ≤ r
  rotate_left 1
  · have q1 : decide (r < 0) = true := by simp; omega
    go_wp2
    go_ret
    exact ⟨rfl, HB2.out⟩
  have q1 : decide (r < 0) = false := by simp; omega
  by_cases h50 : r ≤ 65536
  rotate_left 1
  · have q2 : decide (65536 < r) = true := by simp; omega
    go_wp2
    go_ret
    exact ⟨rfl, HB2.out⟩
  have q2 : decide (65536 < r) = false := by simp; omega
  go_wp2_with (fail)
  refine (new_ok r _ (by omega) (by omega)).mono ?_
  rintro e w2 ⟨d, g, rfl, hk2, hd, hg, hb2⟩
  have HK2 : Hid (Dk w2 d g (N0 r)) := Lib.hid hk2
  have HB3 := Lib.hid (HB2.out.trans (hb2.mono hs2))
  have hs3 := HB3.out.size
  have hdl := hk2.lt
  have hdw : w.heap.size ≤ d := by omega
  have hgw : w.heap.size ≤ g := by omega
  clear hk2 hb2 q1 q2
  have HLP : Hid (Lb w (w2.alloc (.cells (stv (mkS Dt.zero none 0 0)) 29)) d g w2.heap.size r false (N0 r) Dt.zero none 0 0) := Lib.hid ⟨HB3.out.alloc hs3 _, HK2.out.alloc _, inv_nil, rfl, rfl, rfl, fun h => (by cases h), StAt.new w2 _, KnAt.nil_ _ _, by omega⟩
  obtain ⟨bl, hbl⟩ : ∃ b, w2.heap.size = b := ⟨_, rfl⟩
  go_wp2_with (first | refine st_alloc rfl ?_)
  rw [hbl] at HLP
  have nd : bl ≠ d := by omega
  have ng : bl ≠ g := by omega
  have hblw : w.heap.size ≤ bl := by omega
  obtain ⟨w3, hw3⟩ : ∃ w3, w2.alloc (.cells (stv Sv.zero) 29) = w3 := ⟨_, rfl⟩
  have HLP' : Hid (Lb w w3 d g bl r false (N0 r) Dt.zero none 0 0) := by rw [← hw3]; exact HLP
  rw [hw3]
  clear HLP hw3 hbl hd hg hdl hs3 HK2 HB3 HB2 hs2
  go_loopw [34, 7] (fun i wv wr => ∃ (k : Nat) (saved : Bool) (S : Ds) (ld : Dt) (la : Option Addr) (ln lc m : Nat), k ≤ n0 ∧ i = .int .i64 (k : Int) ∧ wv = .int .i64 (m : Int) ∧ Hid (m = keptN (keptO saved ld)) ∧ Hid (Lb w wr d g bl r saved S ld la ln lc)) (fun i _ _ => n0 - (RowKit.intOf i).toNat)
  case atStart => exact ⟨0, false, N0 r, Dt.zero, none, 0, 0, 0, Nat.zero_le _, rfl, rfl, Lib.hid rfl, HLP'⟩
  case round =>
    obtain ⟨k, saved, S, ld, la, ln, lc, m, hk, rfl, rfl, HM, HP⟩ := hrel
    have hm0 : saved = false → m = 0 := fun h => by rw [HM.out, h]; rfl
    have hm1 : saved = true → 0 < m := fun h => by rw [HM.out, h]; exact tx_pos ld
    have HM0 := Lib.hid hm0
    have HM1 := Lib.hid hm1
    have hmb : m ≤ 4029 := by
      rw [HM.out]
      cases saved with
      | false => exact Nat.zero_le _
      | true => exact txD_len (HP.out.okl rfl)
    clear hm0 hm1
    by_cases hlt : k < n0
    · obtain ⟨ad, x, hA, hr, hltb, hlies, hkn, hrn⟩ := (HS.out.below HP.out.low).at_ hlt
      obtain ⟨hkw, _⟩ := HS.out.2.2 x (List.mem_of_getElem? hr)
      have hx40 := HFEW.out x (List.mem_of_getElem? hr)
      subst hA
      obtain ⟨rd, ra, rn, rc⟩ := x
      have hrn4 : rn ≤ 40 := hx40
      have hk1 : 0 ≤ (k : Int) := by omega
      have HLI : Hid (Lies wr (ad.add (k * 134)) (mkS rd ra rn rc)) := Lib.hid hlies
      have HKW : Hid (KnAt w ra rn rd.l) := Lib.hid hkw
      have JB : Below wr.heap.size wr (wr.alloc (.cells (stv (mkS rd ra rn rc)) 29)) := (Below.refl _ _).alloc (Nat.le_refl _) _
      have J1 := Lib.hid (StAt.new wr (mkS rd ra rn rc))
      have JD := Lib.hid (HP.out.dk.below JB)
      have JW := Lib.hid (HP.out.low.trans (JB.mono HP.out.low.size))
      obtain ⟨wA, hwA⟩ : ∃ x, wr.alloc (.cells (stv (mkS rd ra rn rc)) 29) = x := ⟨_, rfl⟩
      have hbs : wr.heap.size < wA.heap.size := by rw [← hwA]; simp
      have hdl := HP.out.dk.lt
      rw [hwA] at J1 JD JW
      clear hlies hkw hkn hrn hr JB hx40
      obtain ⟨R, HR⟩ : ∃ x, Hid (txO2 rd = x) := ⟨_, Lib.hid rfl⟩
      go_wp2_with (first | ((with_reducible refine st_load_at (p := ad.add (k * 134)) (s := mkS rd ra rn rc) ?_ ?_ ?_ ?_); (rfl); (with_reducible exact HLI.out); (rfl)) | refine st_alloc rfl ?_ | ((with_reducible refine st_store_new (u := mkS rd ra rn rc) ?_ ?_ ?_ ?_); (rfl); (rfl); (rfl)) | (rw [hwA]; ((with_reducible refine st_load (b := wr.heap.size) (s := mkS rd ra rn rc) ?_ ?_ ?_ ?_); (rfl); (with_reducible exact J1.out); (rfl))))
      refine (text_dk rd ra rn rc _ (HE.out.below JW.out) (HKW.out.below JW.out) (by omega)).mono ?_
      rw [HR.out]
      rintro e v1 ⟨rfl, hb1⟩
      have T1 := Lib.hid (Turn.of_below hb1 (FD d g))
      have D1 := Lib.hid (JD.out.below hb1)
      have K1 := Lib.hid (J1.out.later hb1)
      have B1 := Lib.hid (JW.out.trans (T1.out.low hdw hgw JW.out.size))
      have HFS : Hid (S.fs.length < 1000) := Lib.hid (by have := HP.out.kept.two; omega)
      obtain ⟨s1, s2, s3⟩ := save_three (rd := rd) HP.out.kept HP.out.room HP.out.left HP.out.down HM.out
      have HS1 := Lib.hid s1
      have HS2 := Lib.hid s2
      have HS3 := Lib.hid s3
      clear hb1 HLI J1 JD s1 s2 s3
      cases hok : okD rd with
      | false =>
        have HOK := Lib.hid hok
        have ER : Hid (R = ([], 10)) := Lib.hid (by rw [← HR.out]; unfold txO2; rw [if_neg (by rw [hok]; simp)])
        have ES := Lib.hid (HS1.out hok)
        rw [ER.out]
        clear hok HS1 HS2 HS3 HR ER
        go_wp2_with (first | ((with_reducible refine st_load (b := wr.heap.size) (s := mkS rd ra rn rc) ?_ ?_ ?_ ?_); (rfl); (with_reducible exact K1.out); (rfl)))
        refine (save_any d g S rd ra rn rc v1 (HE.out.below B1.out) D1.out HFS.out (HKW.out.below B1.out) (by omega)).mono ?_
        rw [ES.out]
        rintro e v2 ⟨rfl, hk2, ht2⟩
        have D2 := Lib.hid hk2
        have T2 := Lib.hid (T1.out.fd ht2)
        have K2 : Hid (StAt v2 wr.heap.size (mkS rd ra rn rc)) := Lib.hid (blk_turn K1.out ht2 (by omega) (by omega))
        have B2 := Lib.hid (JW.out.trans (T2.out.low hdw hgw JW.out.size))
        clear hk2 ht2 D1 T1 K1 B1 HFS ES
        go_wp2_with (first | ((with_reducible refine st_load (b := wr.heap.size) (s := mkS rd ra rn rc) ?_ ?_ ?_ ?_); (rfl); (with_reducible exact K2.out); (rfl)))
        refine (made_dk rd ra rn rc _ (HKW.out.below B2.out) (by omega)).mono ?_
        rintro e v3 ⟨hb3, a3, c3, rfl, hka3⟩
        have HK3 := Lib.hid hka3
        have D3 := Lib.hid (D2.out.below hb3)
        have T3 := Lib.hid (T2.out.fd (Turn.of_below hb3 _))
        have K3 := Lib.hid (K2.out.later hb3)
        clear hb3 hka3 D2 T2 K2 B2
        go_wp2_with (fail)
        refine (rright_dk rd a3 rn c3 _ HK3.out (by omega)).mono ?_
        rw [HOK.out]
        rintro e v4 ⟨rfl, hb4⟩
        have D4 := Lib.hid (D3.out.below hb4)
        have T4 := Lib.hid (T3.out.fd (Turn.of_below hb4 _))
        have K4 := Lib.hid (K3.out.later hb4)
        have B4 := Lib.hid (JW.out.trans (T4.out.low hdw hgw JW.out.size))
        clear hb4 D3 T3 K3 HK3
        have HQ : Hid (Lb w v4 d g bl r saved S ld la ln lc) := Lib.hid (HP.out.same (o := .cells (stv (mkS rd ra rn rc)) 29) (by rw [hwA]; exact T4.out) D4.out nd ng hdw hgw)
        obtain ⟨u, rfl⟩ : ∃ x, x = v4 := ⟨_, rfl⟩
        clear T4 D4 K4 B4
        cases saved
        · have hld := load_none HQ.out.kept HQ.out.down
          have HLD := Lib.hid hld
          obtain rfl : m = 0 := HM0.out rfl
          clear hld
          go_wp2_with (fail)
          refine (load_any d g _ u (HE.out.below HQ.out.low) HQ.out.dk).mono ?_
          rw [HLD.out]
          rintro e v5 ⟨hb5, ⟨x, _, _, _, hx, _⟩ | ⟨_, _, rfl⟩⟩
          · cases hx
          have HQ5 := Lib.hid ((HQ.out.later hb5).later ((Below.refl _ v5).alloc (Nat.le_refl _) (.cells (stv Sv.zero) 29)))
          clear hb5
          go_wp2_with (first | refine st_alloc rfl ?_ | ((with_reducible refine st_store_new (u := Sv.zero) ?_ ?_ ?_ ?_); (rfl); (rfl); (rfl)))
          go_roundw
          case rel => exact ⟨k + 1, false, S, ld, la, ln, lc, 0, by omega, by go_num, rfl, HM, HQ5⟩
          case measure => simp [RowKit.intOf]; omega
        · have hmp := HM1.out rfl
          obtain ⟨d', hld, hlk⟩ := load_kept (d := ld) HQ.out.kept HQ.out.down (HQ.out.okl rfl)
          have HLD := Lib.hid hld
          have HLK : Hid (likeB d' ld = true) := Lib.hid (likeB_iff.2 hlk)
          clear hld hlk
          go_wp2_with (fail)
          refine (load_any d g _ u (HE.out.below HQ.out.low) HQ.out.dk).mono ?_
          rw [HLD.out]
          rintro e v5 ⟨hb5, ⟨x, a, j, cap, hx, rfl, hka5, hma, _⟩ | ⟨hx, _, _⟩⟩
          rotate_left 1
          · cases hx
          injection hx with _ hx
          injection hx with hx
          subst hx
          have hb5g : Below v5.heap.size v5 (v5.alloc (.cells (stv (mkS d' a j cap)) 29)) := (Below.refl _ _).alloc (Nat.le_refl _) _
          have HQ5 := Lib.hid ((HQ.out.later hb5).later hb5g)
          have G1 := Lib.hid (StAt.new v5 (mkS d' a j cap))
          have GK := Lib.hid (hka5.below hb5g)
          have GP := Lib.hid HQ5.out.box
          have qm0 : ((m : Int) == 0) = false := by simp; omega
          have qm1 : decide (0 < (m : Int)) = true := by simp; omega
          have qm2 : decide (0 < m) = true := by simp; omega
          clear hb5 hb5g hka5
          go_wp2_with (first | refine st_alloc rfl ?_ | ((with_reducible refine st_store_new (u := mkS d' a j cap) ?_ ?_ ?_ ?_); (rfl); (rfl); (rfl)) | ((with_reducible refine st_load (b := v5.heap.size) (s := mkS d' a j cap) ?_ ?_ ?_ ?_); (rfl); (with_reducible exact G1.out); (rfl)) | ((with_reducible refine st_load (b := bl) (s := mkS ld la ln lc) ?_ ?_ ?_ ?_); (rfl); (with_reducible exact GP.out); (rfl)))
          refine (same_dk d' ld a la j ln cap lc _ GK.out (HQ5.out.knw.below HQ5.out.low) (by omega)).mono ?_
          rw [HLK.out]
          rintro e v6 ⟨rfl, hb6⟩
          have HQ6 := Lib.hid (HQ5.out.later hb6)
          clear hb6 qm0 qm1 qm2
          go_wp2
          go_roundw
          case rel => exact ⟨k + 1, true, _, ld, la, ln, lc, m, by omega, by go_num, rfl, HM, HQ6⟩
          case measure => simp [RowKit.intOf]; omega
      | true =>
        have HOK := Lib.hid hok
        have ER : Hid (R = (txD rd, 0)) := Lib.hid (by rw [← HR.out]; unfold txO2; rw [if_pos hok])
        have HTL : Hid ((txD rd).length ≤ 4029) := Lib.hid (txD_len hok)
        obtain ⟨tl, HTT⟩ : ∃ x, Hid ((txD rd).length = x) := ⟨_, Lib.hid rfl⟩
        have htl : tl ≤ 4029 := by rw [← HTT.out]; exact HTL.out
        have hszT : (str (txD rd)).size = tl := HTT.out
        by_cases hfull : r < (m : Int) + (tl : Int)
        · have ES := Lib.hid (HS2.out hok (by rw [HTT.out]; exact hfull))
          have qf : decide (r < (m : Int) + (tl : Int)) = true := by simpa using hfull
          rw [ER.out]
          clear hok HS1 HS2 HS3 HR ER HTL
          go_wp2_with (first | ((with_reducible refine st_load (b := wr.heap.size) (s := mkS rd ra rn rc) ?_ ?_ ?_ ?_); (rfl); (with_reducible exact K1.out); (rfl)))
          refine (save_any d g S rd ra rn rc v1 (HE.out.below B1.out) D1.out HFS.out (HKW.out.below B1.out) (by omega)).mono ?_
          rw [ES.out]
          rintro e v2 ⟨rfl, hk2, ht2⟩
          have D2 := Lib.hid hk2
          have T2 := Lib.hid (T1.out.fd ht2)
          have K2 : Hid (StAt v2 wr.heap.size (mkS rd ra rn rc)) := Lib.hid (blk_turn K1.out ht2 (by omega) (by omega))
          have B2 := Lib.hid (JW.out.trans (T2.out.low hdw hgw JW.out.size))
          clear hk2 ht2 D1 T1 K1 B1 HFS ES
          go_wp2_with (first | ((with_reducible refine st_load (b := wr.heap.size) (s := mkS rd ra rn rc) ?_ ?_ ?_ ?_); (rfl); (with_reducible exact K2.out); (rfl)))
          refine (made_dk rd ra rn rc _ (HKW.out.below B2.out) (by omega)).mono ?_
          rintro e v3 ⟨hb3, a3, c3, rfl, hka3⟩
          have HK3 := Lib.hid hka3
          have D3 := Lib.hid (D2.out.below hb3)
          have T3 := Lib.hid (T2.out.fd (Turn.of_below hb3 _))
          have K3 := Lib.hid (K2.out.later hb3)
          clear hb3 hka3 D2 T2 K2 B2
          go_wp2_with (fail)
          refine (rright_dk rd a3 rn c3 _ HK3.out (by omega)).mono ?_
          rw [HOK.out]
          rintro e v4 ⟨rfl, hb4⟩
          have D4 := Lib.hid (D3.out.below hb4)
          have T4 := Lib.hid (T3.out.fd (Turn.of_below hb4 _))
          have K4 := Lib.hid (K3.out.later hb4)
          have B4 := Lib.hid (JW.out.trans (T4.out.low hdw hgw JW.out.size))
          clear hb4 D3 T3 K3 HK3
          have HQ : Hid (Lb w v4 d g bl r saved S ld la ln lc) := Lib.hid (HP.out.same (o := .cells (stv (mkS rd ra rn rc)) 29) (by rw [hwA]; exact T4.out) D4.out nd ng hdw hgw)
          obtain ⟨u, rfl⟩ : ∃ x, x = v4 := ⟨_, rfl⟩
          clear T4 D4 K4 B4
          cases saved
          · have hld := load_none HQ.out.kept HQ.out.down
            have HLD := Lib.hid hld
            obtain rfl : m = 0 := HM0.out rfl
            clear hld
            go_wp2_with (fail)
            refine (load_any d g _ u (HE.out.below HQ.out.low) HQ.out.dk).mono ?_
            rw [HLD.out]
            rintro e v5 ⟨hb5, ⟨x, _, _, _, hx, _⟩ | ⟨_, _, rfl⟩⟩
            · cases hx
            have HQ5 := Lib.hid ((HQ.out.later hb5).later ((Below.refl _ v5).alloc (Nat.le_refl _) (.cells (stv Sv.zero) 29)))
            clear hb5
            go_wp2_with (first | refine st_alloc rfl ?_ | ((with_reducible refine st_store_new (u := Sv.zero) ?_ ?_ ?_ ?_); (rfl); (rfl); (rfl)))
            go_roundw
            case rel => exact ⟨k + 1, false, S, ld, la, ln, lc, 0, by omega, by go_num, rfl, HM, HQ5⟩
            case measure => simp [RowKit.intOf]; omega
          · have hmp := HM1.out rfl
            obtain ⟨d', hld, hlk⟩ := load_kept (d := ld) HQ.out.kept HQ.out.down (HQ.out.okl rfl)
            have HLD := Lib.hid hld
            have HLK : Hid (likeB d' ld = true) := Lib.hid (likeB_iff.2 hlk)
            clear hld hlk
            go_wp2_with (fail)
            refine (load_any d g _ u (HE.out.below HQ.out.low) HQ.out.dk).mono ?_
            rw [HLD.out]
            rintro e v5 ⟨hb5, ⟨x, a, j, cap, hx, rfl, hka5, hma, _⟩ | ⟨hx, _, _⟩⟩
            rotate_left 1
            · cases hx
            injection hx with _ hx
            injection hx with hx
            subst hx
            have hb5g : Below v5.heap.size v5 (v5.alloc (.cells (stv (mkS d' a j cap)) 29)) := (Below.refl _ _).alloc (Nat.le_refl _) _
            have HQ5 := Lib.hid ((HQ.out.later hb5).later hb5g)
            have G1 := Lib.hid (StAt.new v5 (mkS d' a j cap))
            have GK := Lib.hid (hka5.below hb5g)
            have GP := Lib.hid HQ5.out.box
            have qm0 : ((m : Int) == 0) = false := by simp; omega
            have qm1 : decide (0 < (m : Int)) = true := by simp; omega
            have qm2 : decide (0 < m) = true := by simp; omega
            clear hb5 hb5g hka5
            go_wp2_with (first | refine st_alloc rfl ?_ | ((with_reducible refine st_store_new (u := mkS d' a j cap) ?_ ?_ ?_ ?_); (rfl); (rfl); (rfl)) | ((with_reducible refine st_load (b := v5.heap.size) (s := mkS d' a j cap) ?_ ?_ ?_ ?_); (rfl); (with_reducible exact G1.out); (rfl)) | ((with_reducible refine st_load (b := bl) (s := mkS ld la ln lc) ?_ ?_ ?_ ?_); (rfl); (with_reducible exact GP.out); (rfl)))
            refine (same_dk d' ld a la j ln cap lc _ GK.out (HQ5.out.knw.below HQ5.out.low) (by omega)).mono ?_
            rw [HLK.out]
            rintro e v6 ⟨rfl, hb6⟩
            have HQ6 := Lib.hid (HQ5.out.later hb6)
            clear hb6 qm0 qm1 qm2
            go_wp2
            go_roundw
            case rel => exact ⟨k + 1, true, _, ld, la, ln, lc, m, by omega, by go_num, rfl, HM, HQ6⟩
            case measure => simp [RowKit.intOf]; omega
        · have ES := Lib.hid (HS3.out hok (by rw [HTT.out]; exact hfull))
          have qf : decide (r < (m : Int) + (tl : Int)) = false := by simpa using hfull
          have HN1 : Hid (Kept [⟨nSt, txD rd, true⟩] (some (txD rd))) := Lib.hid (n1_kept r (by have := HTL.out; omega))
          rw [ER.out]
          clear hok HS1 HS2 HS3 HR ER HTL
          go_wp2_with (first | ((with_reducible refine st_load (b := wr.heap.size) (s := mkS rd ra rn rc) ?_ ?_ ?_ ?_); (rfl); (with_reducible exact K1.out); (rfl)))
          refine (save_any d g S rd ra rn rc v1 (HE.out.below B1.out) D1.out HFS.out (HKW.out.below B1.out) (by omega)).mono ?_
          rw [ES.out]
          rintro e v2 ⟨rfl, hk2, ht2⟩
          have D2 := Lib.hid hk2
          have T2 := Lib.hid (T1.out.fd ht2)
          have K2 : Hid (StAt v2 wr.heap.size (mkS rd ra rn rc)) := Lib.hid (blk_turn K1.out ht2 (by omega) (by omega))
          have B2 := Lib.hid (JW.out.trans (T2.out.low hdw hgw JW.out.size))
          clear hk2 ht2 D1 T1 K1 B1 HFS ES
          go_wp2_with (first | ((with_reducible refine st_load (b := wr.heap.size) (s := mkS rd ra rn rc) ?_ ?_ ?_ ?_); (rfl); (with_reducible exact K2.out); (rfl)))
          refine (made_dk rd ra rn rc _ (HKW.out.below B2.out) (by omega)).mono ?_
          rintro e v3 ⟨hb3, a3, c3, rfl, hka3⟩
          have HK3 := Lib.hid hka3
          have D3 := Lib.hid (D2.out.below hb3)
          have T3 := Lib.hid (T2.out.fd (Turn.of_below hb3 _))
          have K3 := Lib.hid (K2.out.later hb3)
          clear hb3 hka3 D2 T2 K2 B2
          go_wp2_with (fail)
          refine (rright_dk rd a3 rn c3 _ HK3.out (by omega)).mono ?_
          rw [HOK.out]
          rintro e v4 ⟨rfl, hb4⟩
          have D4 := Lib.hid (D3.out.below hb4)
          have T4 := Lib.hid (T3.out.fd (Turn.of_below hb4 _))
          have K4 := Lib.hid (K3.out.later hb4)
          have B4 := Lib.hid (JW.out.trans (T4.out.low hdw hgw JW.out.size))
          clear hb4 D3 T3 K3 HK3
          have XL : Hid (StAt v4 bl (mkS ld la ln lc)) := Lib.hid (blk_turn (show StAt wA bl (mkS ld la ln lc) by rw [← hwA]; exact HP.out.box.alloc _) T4.out nd ng)
          have HQ : Hid (Lb w (v4.setRow bl (stv (mkS rd ra rn rc))) d g bl r true { S with fs := [⟨nSt, txD rd, true⟩] } rd ra rn rc) := Lib.hid (HP.out.take (rc := rc) (o := .cells (stv (mkS rd ra rn rc)) 29) (by rw [hwA]; exact T4.out) D4.out nd ng hdw hgw hblw HN1.out HP.out.room HP.out.left HP.out.down HOK.out HKW.out (by omega))
          have HM' : Hid (tl = keptN (keptO true rd)) := Lib.hid HTT.out.symm
          have hm' : 0 < tl := by rw [← HTT.out]; exact tx_pos rd
          go_wp2_with (first | ((with_reducible refine st_load (b := wr.heap.size) (s := mkS rd ra rn rc) ?_ ?_ ?_ ?_); (rfl); (with_reducible exact K4.out); (rfl)) | ((with_reducible refine st_store (b := bl) (s := mkS ld la ln lc) (u := mkS rd ra rn rc) ?_ ?_ ?_ ?_ ?_); (rfl); (rfl); (with_reducible exact XL.out); (rfl)))
          obtain ⟨u, hu⟩ : ∃ x, v4.setRow bl (stv (mkS rd ra rn rc)) = x := ⟨_, rfl⟩
          rw [hu] at HQ ⊢
          clear T4 D4 K4 B4 XL hu
          obtain ⟨d', hld, hlk⟩ := load_kept (d := rd) HQ.out.kept HQ.out.down (HQ.out.okl rfl)
          have HLD := Lib.hid hld
          have HLK : Hid (likeB d' rd = true) := Lib.hid (likeB_iff.2 hlk)
          clear hld hlk
          go_wp2_with (fail)
          refine (load_any d g _ u (HE.out.below HQ.out.low) HQ.out.dk).mono ?_
          rw [HLD.out]
          rintro e v5 ⟨hb5, ⟨x, a, j, cap, hx, rfl, hka5, hma, _⟩ | ⟨hx, _, _⟩⟩
          rotate_left 1
          · cases hx
          injection hx with _ hx
          injection hx with hx
          subst hx
          have hb5g : Below v5.heap.size v5 (v5.alloc (.cells (stv (mkS d' a j cap)) 29)) := (Below.refl _ _).alloc (Nat.le_refl _) _
          have HQ5 := Lib.hid ((HQ.out.later hb5).later hb5g)
          have G1 := Lib.hid (StAt.new v5 (mkS d' a j cap))
          have GK := Lib.hid (hka5.below hb5g)
          have GP := Lib.hid HQ5.out.box
          have qm0 : ((tl : Int) == 0) = false := by simp; omega
          have qm1 : decide (0 < (tl : Int)) = true := by simp; omega
          have qm2 : decide (0 < tl) = true := by simp; omega
          clear hb5 hb5g hka5
          go_wp2_with (first | refine st_alloc rfl ?_ | ((with_reducible refine st_store_new (u := mkS d' a j cap) ?_ ?_ ?_ ?_); (rfl); (rfl); (rfl)) | ((with_reducible refine st_load (b := v5.heap.size) (s := mkS d' a j cap) ?_ ?_ ?_ ?_); (rfl); (with_reducible exact G1.out); (rfl)) | ((with_reducible refine st_load (b := bl) (s := mkS rd ra rn rc) ?_ ?_ ?_ ?_); (rfl); (with_reducible exact GP.out); (rfl)))
          refine (same_dk d' rd a ra j rn cap rc _ GK.out (HQ5.out.knw.below HQ5.out.low) (by omega)).mono ?_
          rw [HLK.out]
          rintro e v6 ⟨rfl, hb6⟩
          have HQ6 := Lib.hid (HQ5.out.later hb6)
          clear hb6 qm0 qm1 qm2
          go_wp2
          go_roundw
          case rel => exact ⟨k + 1, true, _, rd, ra, rn, rc, tl, by omega, by go_num, rfl, HM', HQ6⟩
          case measure => simp [RowKit.intOf]; omega
    · obtain rfl : k = n0 := by omega
      go_wp2
      go_ret
      exact ⟨rfl, HP.out.low⟩
end Go.Proofs.YtijkdibccgdomaaGreatDoor.Dsk
