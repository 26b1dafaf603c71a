/-
  WHAT IS PROVED: the law ConfTexts answers true: a state is right just if the document says so; its text is the document's, and is read as it. Conditions: the library's variables hold what is laid there; the known ones lie in memory.
-/
import Derived.Test.YtijkdibccgdomaaGreatDoorRText
import Derived.Test.YtijkdibccgdomaaGreatDoorArgs
namespace Go.Proofs.YtijkdibccgdomaaGreatDoor
set_option maxRecDepth 100000
open Go.RowKit Go.Lib C R

def txO (d : Dt) : List UInt8 × Int := if okD d = true then (txD d, 0) else ([], 10)
theorem text_d (d : Dt) (A : Option Addr) (n cap : Nat) (w : World) (hE : Env w) (hk : KnAt w A n d.l) (hN : n ≤ 9223372036854775807) : Calls Tryz.prog 12 #[.agg (stv (mkS d A n cap))] w (TextPost (txO d).1 (txO d).2 w) := by
  unfold txO
  by_cases h : okD d = true
  · rw [if_pos h]
    exact text_yes (mkS d A n cap) d.l w hE hk (by rw [okD_eq d A n cap hk.1]; exact h)
  · rw [if_neg h]
    exact text_no (mkS d A n cap) d.l w hk hN (by rw [okD_eq d A n cap hk.1]; simpa using h)
theorem txO_two (d : Dt) : (okD d = true ∧ txO d = (txD d, 0)) ∨ (okD d = false ∧ txO d = ([], 10)) := by
  unfold txO
  by_cases h : okD d = true
  · exact .inl ⟨h, if_pos h⟩
  · exact .inr ⟨by simpa using h, if_neg h⟩
theorem made_d (d : Dt) (A : Option Addr) (n c : Nat) (w : World) (hk : KnAt w A n d.l) (hN : n ≤ 100000) : Calls Tryz.prog 11 #[.agg (stv (mkS d A n c))] w fun e w' => Below w.heap.size w w' ∧ ∃ a cap, e = .returned (.agg (stv (mkS d a n cap))) ∧ KnAt w' a n d.l :=
  (made_any (mkS d A n c) d.l w hk hN).mono fun _ _ ⟨hb, a, cap, h1, h2⟩ => ⟨hb, a, cap, h1, h2⟩
theorem rright_d (d : Dt) (a : Option Addr) (n cap : Nat) (w : World) (hk : KnAt w a n d.l) (hN : n ≤ 9223372036854775806) : Calls Tryz.prog 14 #[.agg (stv (mkS d a n cap))] w (Says (okD d) w) := by
  rw [← okD_eq d a n cap hk.1]
  exact rright_any (mkS d a n cap) d.l w hk hN
theorem sright_d (d : Dt) (a : Option Addr) (n cap : Nat) (w : World) (hk : KnAt w a n d.l) (hN : n ≤ 9223372036854775806) : Calls Tryz.prog 13 #[.agg (stv (mkS d a n cap))] w (Says (okD d) w) := by
  rw [← okD_eq d a n cap hk.1]
  exact sright_any (mkS d a n cap) d.l w hk (by show n ≤ _; omega)

set_option maxHeartbeats 1000000 in
theorem texts_any (d : Dt) (A : Option Addr) (n c : Nat) (W : World) (hE : Env W) (hk : KnAt W A n d.l) (hn : n ≤ 9223372036854775807) :
    Calls Tryz.prog 3 #[.agg (stv (mkS d A n c))] W (Says true W) := by
  have HS := Lib.hid (StAt.new W (mkS d A n c))
  have hb0 : Below W.heap.size W (W.alloc (.cells (stv (mkS d A n c)) 29)) := (Below.refl _ W).alloc (Nat.le_refl _) _
  have HB0 := Lib.hid hb0
  have HK := Lib.hid (hk.below hb0)
  have HE := Lib.hid (hE.below hb0)
  have hl := hk.1
  clear hb0 hk hE
  go_enter Tryz.func3, Tryz.ntmps3
  go_wp2_with (fail)
  refine (anchor_any _ HE.out).mono ?_
  rintro e1 w1 ⟨rfl, hb1⟩
  have K1 := Lib.hid (HS.out.later hb1)
  have KB := Lib.hid (HB0.out.trans (hb1.mono HB0.out.size))
  have KK := Lib.hid (HK.out.below hb1)
  have KE := Lib.hid (HE.out.below hb1)
  clear hb1 HS HK HB0 HE
  have a5 : w1.cell? ⟨W.heap.size, 5, none⟩ = some (.slice A n c) := K1.out.box.2.2.2.2.2
  by_cases hn4 : n ≤ 40
  · have q4 : decide (40 < (n : Int)) = false := by simp; omega
    go_wp2_with (first | ((with_reducible refine st_load (b := W.heap.size) (s := mkS d A n c) ?_ ?_ ?_ ?_); (rfl); (with_reducible exact K1.out); (rfl)))
    refine (made_d d A n c _ KK.out (by omega)).mono ?_
    rintro e1 w2 ⟨hb2, a, cap, rfl, hk2⟩
    have hb3 : Below w2.heap.size w2 (w2.alloc (.cells (stv (mkS d a n cap)) 33)) := (Below.refl _ w2).alloc (Nat.le_refl _) _
    have L1 := Lib.hid ((K1.out.later hb2).later hb3)
    have L2 := Lib.hid (RAt.new w2 (mkS d a n cap))
    have hbb := hb2.trans (hb3.mono hb2.size)
    have LB := Lib.hid (KB.out.trans (hbb.mono KB.out.size))
    have LK := Lib.hid (KK.out.below hbb)
    have LE := Lib.hid (KE.out.below hbb)
    have LX := Lib.hid (hk2.below hb3)
    clear hbb hb2 hb3 hk2 a5 K1 KK KB KE
    go_wp2_with (first | refine rt_alloc rfl ?_ | ((with_reducible refine rt_store_new (u := mkS d a n cap) ?_ ?_ ?_ ?_); (rfl); (rfl); (rfl)) | ((with_reducible refine st_load (b := W.heap.size) (s := mkS d A n c) ?_ ?_ ?_ ?_); (rfl); (with_reducible exact L1.out); (rfl)))
    refine (text_d d A n c _ LE.out LK.out (by omega)).mono ?_
    rintro e1 w4 ⟨rfl, hb4⟩
    have M1 := Lib.hid (L1.out.later hb4)
    have M2 := Lib.hid (L2.out.later hb4)
    have MB := Lib.hid (LB.out.trans (hb4.mono LB.out.size))
    have MK := Lib.hid (LK.out.below hb4)
    have ME := Lib.hid (LE.out.below hb4)
    have MX := Lib.hid (LX.out.below hb4)
    clear hb4 L1 L2 LB LK LE LX
    generalize w2.heap.size = g at *
    have HR1 : Hid (∀ p : Later w4, Calls Tryz.prog 13 #[.agg (stv (mkS d A n c))] p.now fun e w' => e = .returned (.bool (okD d)) ∧ Below p.now.heap.size p.now w') := Lib.hid fun p => sright_d d A n c p.now (MK.out.below p.below) (by omega)
    have HR2 : Hid (∀ p : Later w4, Calls Tryz.prog 14 #[.agg (stv (mkS d a n cap))] p.now fun e w' => e = .returned (.bool (okD d)) ∧ Below p.now.heap.size p.now w') := Lib.hid fun p => rright_d d a n cap p.now (MX.out.below p.below) (by omega)
    rcases txO_two d with ⟨ok, ea⟩ | ⟨ok, ea⟩
    · rw [ea]
      have OK := Lib.hid ok
      rw [ok] at HR1 HR2
      obtain ⟨d', hp, hlk⟩ := parse_tx ok
      have HP := Lib.hid hp
      have HLK := Lib.hid hlk
      have HLEN := Lib.hid (txD_len ok)
      have hq : ((str (txD d)).toList == (str (txD d)).toList) = true := by simp
      clear ok ea hp hlk
      go_wp2_with (fail)
      refine wp_region_later (by kernel_rfl) (by kernel_rfl) ?_
      repeat (first | ((with_reducible refine quiet_st (b := W.heap.size) (s := mkS d A n c) ?_ ?_ ?_ ?_); (rfl); (with_reducible exact M1.out); (rfl); (simp only [Act.put, List.setIfInBounds_toArray, List.set_cons_zero, List.set_cons_succ])) | ((with_reducible refine quiet_rt (b := g) (s := mkS d a n cap) ?_ ?_ ?_ ?_); (rfl); (with_reducible exact M2.out); (rfl); (simp only [Act.put, List.setIfInBounds_toArray, List.set_cons_zero, List.set_cons_succ])) | go_big_quiet_step (first | (go_at_call 13; with_reducible exact Later.calls (HR1.out _)) | (go_at_call 14; with_reducible exact Later.calls (HR2.out _))))
      refine wpQuiet_nil ?_
      intro _ hw'
      obtain ⟨pq, hw''⟩ := hw'
      subst hw''
      have hb5 := pq.below
      have N1 := Lib.hid (M1.out.later hb5)
      have N2 := Lib.hid (M2.out.later hb5)
      have NB := Lib.hid (MB.out.trans (hb5.mono MB.out.size))
      have NK := Lib.hid (MK.out.below hb5)
      have NE := Lib.hid (ME.out.below hb5)
      have NX := Lib.hid (MX.out.below hb5)
      obtain ⟨w5, e5⟩ : ∃ w5, pq.now = w5 := ⟨_, rfl⟩
      rw [e5] at N1 N2 NB NK NE NX ⊢
      clear hb5 e5 M1 M2 MB MK ME MX HR1 HR2
      go_wp2_with (first | ((with_reducible refine rt_load (b := g) (s := mkS d a n cap) ?_ ?_ ?_ ?_); (rfl); (with_reducible exact N2.out); (rfl)))
      refine (rright_d d a n cap _ NX.out (by omega)).mono ?_
      rw [OK.out]
      rintro e1 w6 ⟨rfl, hb6⟩
      have P1 := Lib.hid (N1.out.later hb6)
      have P2 := Lib.hid (N2.out.later hb6)
      have PB := Lib.hid (NB.out.trans (hb6.mono NB.out.size))
      have PK := Lib.hid (NK.out.below hb6)
      have PE := Lib.hid (NE.out.below hb6)
      have PX := Lib.hid (NX.out.below hb6)
      clear hb6 N1 N2 NB NK NE NX
      go_wp2_with (fail)
      refine (cparse2_any (txD d) (Nat.le_trans HLEN.out (by omega)) _ PE.out).mono ?_
      rw [HP.out]
      rintro e1 w7 ⟨hb7, ⟨x, a2, m2, cap2, hx, rfl, hk7, hm7, _⟩ | ⟨hx, _⟩⟩
      rotate_left 1
      · cases hx
      injection hx with hx
      subst hx
      have hb8 : Below w7.heap.size w7 (w7.alloc (.cells (stv (mkS d' a2 m2 cap2)) 29)) := (Below.refl _ _).alloc (Nat.le_refl _) _
      have Q1 := Lib.hid ((P1.out.later hb7).later hb8)
      have Q2 := Lib.hid ((P2.out.later hb7).later hb8)
      have Q3 := Lib.hid (StAt.new w7 (mkS d' a2 m2 cap2))
      have hbb := hb7.trans (hb8.mono hb7.size)
      have QB := Lib.hid (PB.out.trans (hbb.mono PB.out.size))
      have QK := Lib.hid (PK.out.below hbb)
      have QX := Lib.hid (PX.out.below hbb)
      have QY := Lib.hid (hk7.below hb8)
      have HSS : Hid (sameSt (mkS d A n c) d.l (mkS d' a2 m2 cap2) d'.l = true) := Lib.hid ((sameSt_iff (a := d) (b := d') hl hk7.1).2 (like_sym HLK.out))
      clear hbb hb7 hb8 hk7 P1 P2 PB PK PX PE
      go_wp2_with (first | refine st_alloc rfl ?_ | ((with_reducible refine st_store_new (u := mkS d' a2 m2 cap2) ?_ ?_ ?_ ?_); (rfl); (rfl); (rfl)) | ((with_reducible refine rt_load (b := g) (s := mkS d a n cap) ?_ ?_ ?_ ?_); (rfl); (with_reducible exact Q2.out); (rfl)))
      refine (rtext_any d a n cap _ QX.out OK.out).mono ?_
      rintro e1 w8 ⟨rfl, hb9⟩
      have R1 := Lib.hid (Q1.out.later hb9)
      have R3 := Lib.hid (Q3.out.later hb9)
      have RB := Lib.hid (QB.out.trans (hb9.mono QB.out.size))
      have RK := Lib.hid (QK.out.below hb9)
      have RY := Lib.hid (QY.out.below hb9)
      clear hb9 Q1 Q2 Q3 QB QK QX QY
      generalize w7.heap.size = g7 at *
      go_wp2_with (first | ((with_reducible refine st_load (b := W.heap.size) (s := mkS d A n c) ?_ ?_ ?_ ?_); (rfl); (with_reducible exact R1.out); (rfl)) | ((with_reducible refine st_load (b := g7) (s := mkS d' a2 m2 cap2) ?_ ?_ ?_ ?_); (rfl); (with_reducible exact R3.out); (rfl)))
      refine (samestate_any (mkS d A n c) (mkS d' a2 m2 cap2) d.l d'.l _ RK.out RY.out (by show n ≤ _; omega)).mono ?_
      rw [HSS.out]
      rintro e1 w9 ⟨rfl, hb10⟩
      go_wp2
      go_ret
      exact ⟨rfl, RB.out.trans (hb10.mono RB.out.size)⟩
    · rw [ea]
      have OK := Lib.hid ok
      rw [ok] at HR1 HR2
      clear ok ea
      go_wp2_with (fail)
      refine wp_region_later (by kernel_rfl) (by kernel_rfl) ?_
      repeat (first | ((with_reducible refine quiet_st (b := W.heap.size) (s := mkS d A n c) ?_ ?_ ?_ ?_); (rfl); (with_reducible exact M1.out); (rfl); (simp only [Act.put, List.setIfInBounds_toArray, List.set_cons_zero, List.set_cons_succ])) | ((with_reducible refine quiet_rt (b := g) (s := mkS d a n cap) ?_ ?_ ?_ ?_); (rfl); (with_reducible exact M2.out); (rfl); (simp only [Act.put, List.setIfInBounds_toArray, List.set_cons_zero, List.set_cons_succ])) | go_big_quiet_step (first | (go_at_call 13; with_reducible exact Later.calls (HR1.out _)) | (go_at_call 14; with_reducible exact Later.calls (HR2.out _))))
      refine wpQuiet_nil ?_
      intro _ hw'
      obtain ⟨pq, hw''⟩ := hw'
      subst hw''
      have hb5 := pq.below
      have N1 := Lib.hid (M1.out.later hb5)
      have N2 := Lib.hid (M2.out.later hb5)
      have NB := Lib.hid (MB.out.trans (hb5.mono MB.out.size))
      have NK := Lib.hid (MK.out.below hb5)
      have NE := Lib.hid (ME.out.below hb5)
      have NX := Lib.hid (MX.out.below hb5)
      obtain ⟨w5, e5⟩ : ∃ w5, pq.now = w5 := ⟨_, rfl⟩
      rw [e5] at N1 N2 NB NK NE NX ⊢
      clear hb5 e5 M1 M2 MB MK ME MX HR1 HR2
      go_wp2_with (first | ((with_reducible refine rt_load (b := g) (s := mkS d a n cap) ?_ ?_ ?_ ?_); (rfl); (with_reducible exact N2.out); (rfl)))
      refine (rright_d d a n cap _ NX.out (by omega)).mono ?_
      rw [OK.out]
      rintro e1 w6 ⟨rfl, hb6⟩
      have PB := Lib.hid (NB.out.trans (hb6.mono NB.out.size))
      have hq0 : (str ([] : List UInt8)).toList.isEmpty = true := by rw [str_toList]; rfl
      go_wp2
      go_ret
      exact ⟨rfl, PB.out⟩
  · have q4 : decide (40 < (n : Int)) = true := by simp; omega
    go_wp2
    go_ret
    exact ⟨rfl, KB.out⟩
end Go.Proofs.YtijkdibccgdomaaGreatDoor
