/-
  WHAT IS PROVED: the law KeepReads answers true: a file with any bytes is loaded just if they are a state's text. Conditions: the library's variables hold what is laid there; the bytes lie in memory.
-/
import Derived.Test.YtijkdibccgdomaaGreatDoorKLaw
namespace Go.Proofs.YtijkdibccgdomaaGreatDoor.Dsk
set_option maxRecDepth 100000
open Go.RowKit Go.Lib C

theorem like_refl (d : Dt) : likeD d d := ⟨rfl, rfl, rfl, rfl, rfl, rfl, fun _ _ => ⟨rfl, rfl⟩⟩
abbrev F0 (b : List UInt8) : Ds := ⟨[⟨nSt, b, false⟩], 65536, -1, false⟩
theorem put_state {b : List UInt8} (h : b.length ≤ 4000) : writeD (N0 65536) nSt b = (0, F0 b) := by
  unfold writeD
  rw [if_neg (by simp), names_okK.1, if_neg (by simp), if_neg (by show ¬ (65536 : Int) < ((butF [] nSt : Nat) : Int) + (b.length : Int); rw [show butF [] nSt = 0 from rfl]; omega)]
  rfl
theorem load_state (b : List UInt8) : loadD (F0 b) = match parseD b with
    | some d => (0, some d)
    | none => (60, none) := by
  have hr : readE (F0 b) nSt = 0 := by
    unfold readE
    rw [if_neg (by simp), if_neg (by show ¬ hasF [⟨nSt, b, false⟩] nSt = false; simp [hasF])]
  have hb : readB (F0 b) nSt = b := by
    unfold readB
    rw [hr, if_pos rfl]
    show (getF [⟨nSt, b, false⟩] nSt).b = b
    unfold getF
    rw [if_pos rfl]
  unfold loadD
  rw [hr, if_neg (by simp), hb]
  cases parseD b <;> rfl

set_option maxHeartbeats 4000000 in
theorem reads_any (A : Option Addr) (n c : Nat) (b : List UInt8) (w : World) (hE : Env w) (hl : b.length = n) (hr : Reads w w.heap.size A n (bs b)) : Calls Tryz.prog 7 #[.slice A n c] w (Says true w) := by
  have HE := Lib.hid hE
  have HR := Lib.hid hr
  clear hE hr
  go_enter Tryz.func7, Tryz.ntmps7
  go_wp2_with (fail)
  refine (anchor14_any w HE.out).mono ?_
  rintro e w1 ⟨rfl, hb1⟩
  have HB1 := Lib.hid hb1
  clear hb1
  by_cases h4 : n ≤ 4000
  · have q4 : decide (4000 < (n : Int)) = false := by simp; omega
    have E1 := Lib.hid (put_state (b := b) (by omega))
    have E2 := Lib.hid (load_state b)
    have HLB : Hid (b.length ≤ 100000) := Lib.hid (by omega)
    go_wp2_with (fail)
    refine (new_ok 65536 w1 (by omega) (by omega)).mono ?_
    rintro e w2 ⟨d, g, rfl, hk2, hd, hg, hb2⟩
    have hs1 := HB1.out.size
    have HB2 := Lib.hid (HB1.out.trans (hb2.mono HB1.out.size))
    have HK2 : Hid (Dk w2 d g (N0 65536)) := Lib.hid hk2
    have hs2 := HB2.out.size
    have hdw : w.heap.size ≤ d := by omega
    have hgw : w.heap.size ≤ g := by omega
    clear hk2 hb2
    go_wp2_with (fail)
    refine (write_any d g (N0 65536) nSt A n c b w2 HK2.out (by decide) (by decide) (rd_arg HR.out HB2.out hdw hgw) (by omega)).mono ?_
    rw [E1.out]
    rintro e w3 ⟨rfl, hk3, ht3⟩
    have HK3 : Hid (Dk w3 d g (F0 b)) := Lib.hid hk3
    have HB3 := Lib.hid (HB2.out.trans (ht3.low hdw hgw hs2))
    clear hk3 ht3
    go_wp2_with (fail)
    refine (load_any d g (F0 b) w3 (HE.out.below HB3.out) HK3.out).mono ?_
    rw [E2.out]
    rintro e w4 ⟨hb4, hcase⟩
    have hs3 := HB3.out.size
    have HB4 := Lib.hid (HB3.out.trans (hb4.mono hs3))
    have hs4 := HB4.out.size
    cases hp : parseD b with
    | none =>
      rw [hp] at hcase
      have HP := Lib.hid hp
      rcases hcase with ⟨x, _, _, _, hx, _⟩ | ⟨_, _, rfl⟩
      · cases hx
      have J1 := Lib.hid (StAt.new w4 Sv.zero)
      have hb5 := HB4.out.alloc hs4 (.cells (stv Sv.zero) 29)
      have HB5 := Lib.hid hb5
      have hcv := bytes_back (c := c) (HR.out.old hb5 (Nat.le_refl _))
      clear hb4 hb5 hp
      go_wp2_with (first | refine st_alloc rfl ?_ | ((with_reducible refine st_store_new (u := Sv.zero) ?_ ?_ ?_ ?_); (rfl); (rfl); (rfl)))
      refine (cparse2_any b HLB.out _ (HE.out.below HB5.out)).mono ?_
      rw [HP.out]
      rintro e w5 ⟨hb6, ⟨x, _, _, _, hx, _⟩ | ⟨_, rfl⟩⟩
      · cases hx
      have K1 := Lib.hid ((J1.out.later hb6).alloc (.cells (stv Sv.zero) 29))
      have K2 := Lib.hid (StAt.new w5 Sv.zero)
      have HB6 := Lib.hid (HB5.out.trans (hb6.mono HB5.out.size))
      have HB7 := Lib.hid (HB6.out.alloc HB6.out.size (.cells (stv Sv.zero) 29))
      clear hb6 hcv
      have HSS : Hid (sameSt (mkS Dt.zero none 0 0) [] (mkS Dt.zero none 0 0) [] = true) := Lib.hid ((sameSt_iff (a := Dt.zero) (b := Dt.zero) rfl rfl).2 (like_refl _))
      go_wp2_with (first | refine st_alloc rfl ?_ | ((with_reducible refine st_store_new (u := Sv.zero) ?_ ?_ ?_ ?_); (rfl); (rfl); (rfl)) | ((with_reducible refine st_load (b := w4.heap.size) (s := Sv.zero) ?_ ?_ ?_ ?_); (rfl); (with_reducible exact K1.out); (rfl)) | ((with_reducible refine st_load (b := w5.heap.size) (s := Sv.zero) ?_ ?_ ?_ ?_); (rfl); (with_reducible exact K2.out); (rfl)))
      refine (samestate_any (mkS Dt.zero none 0 0) (mkS Dt.zero none 0 0) [] [] _ (KnAt.nil_ _ _) (KnAt.nil_ _ _) (by show (0 : Nat) ≤ _; omega)).mono ?_
      rw [HSS.out]
      rintro e w6 ⟨rfl, hb8⟩
      go_wp2
      go_ret
      exact ⟨rfl, HB7.out.trans (hb8.mono HB7.out.size)⟩
    | some dt =>
      rw [hp] at hcase
      have HP := Lib.hid hp
      rcases hcase with ⟨x, a, m, cap, hx, rfl, hka, hma, _⟩ | ⟨hx, _, _⟩
      rotate_left 1
      · cases hx
      injection hx with _ hx
      injection hx with hx
      subst hx
      have J1 := Lib.hid (StAt.new w4 (mkS dt a m cap))
      have hb5 := HB4.out.alloc hs4 (.cells (stv (mkS dt a m cap)) 29)
      have HB5 := Lib.hid hb5
      have JK := Lib.hid (hka.below ((Below.refl _ _).alloc (Nat.le_refl _) (.cells (stv (mkS dt a m cap)) 29)))
      have hcv := bytes_back (c := c) (HR.out.old hb5 (Nat.le_refl _))
      clear hb4 hb5 hp hka
      go_wp2_with (first | refine st_alloc rfl ?_ | ((with_reducible refine st_store_new (u := mkS dt a m cap) ?_ ?_ ?_ ?_); (rfl); (rfl); (rfl)))
      refine (cparse2_any b HLB.out _ (HE.out.below HB5.out)).mono ?_
      rw [HP.out]
      rintro e w5 ⟨hb6, ⟨x, a2, m2, cap2, hx, rfl, hk2, hm2, _⟩ | ⟨hx, _⟩⟩
      rotate_left 1
      · cases hx
      injection hx with hx
      subst hx
      have hb7 : Below w5.heap.size w5 (w5.alloc (.cells (stv (mkS dt a2 m2 cap2)) 29)) := (Below.refl _ _).alloc (Nat.le_refl _) _
      have K1 := Lib.hid ((J1.out.later hb6).alloc (.cells (stv (mkS dt a2 m2 cap2)) 29))
      have K2 := Lib.hid (StAt.new w5 (mkS dt a2 m2 cap2))
      have KK1 := Lib.hid ((JK.out.below hb6).below hb7)
      have KK2 := Lib.hid (hk2.below hb7)
      have HB6 := Lib.hid (HB5.out.trans (hb6.mono HB5.out.size))
      have HB7 := Lib.hid (HB6.out.alloc HB6.out.size (.cells (stv (mkS dt a2 m2 cap2)) 29))
      have HSS : Hid (sameSt (mkS dt a m cap) dt.l (mkS dt a2 m2 cap2) dt.l = true) := Lib.hid ((sameSt_iff (a := dt) (b := dt) JK.out.1 hk2.1).2 (like_refl _))
      clear hb6 hb7 hk2 hcv
      go_wp2_with (first | refine st_alloc rfl ?_ | ((with_reducible refine st_store_new (u := mkS dt a2 m2 cap2) ?_ ?_ ?_ ?_); (rfl); (rfl); (rfl)) | ((with_reducible refine st_load (b := w4.heap.size) (s := mkS dt a m cap) ?_ ?_ ?_ ?_); (rfl); (with_reducible exact K1.out); (rfl)) | ((with_reducible refine st_load (b := w5.heap.size) (s := mkS dt a2 m2 cap2) ?_ ?_ ?_ ?_); (rfl); (with_reducible exact K2.out); (rfl)))
      refine (samestate_any (mkS dt a m cap) (mkS dt a2 m2 cap2) dt.l dt.l _ KK1.out KK2.out (by show m ≤ _; omega)).mono ?_
      rw [HSS.out]
      rintro e w6 ⟨rfl, hb8⟩
      go_wp2
      go_ret
      exact ⟨rfl, HB7.out.trans (hb8.mono HB7.out.size)⟩
  · have q4 : decide (4000 < (n : Int)) = true := by simp; omega
    go_wp2
    go_ret
    exact ⟨rfl, HB1.out⟩
end Go.Proofs.YtijkdibccgdomaaGreatDoor.Dsk
