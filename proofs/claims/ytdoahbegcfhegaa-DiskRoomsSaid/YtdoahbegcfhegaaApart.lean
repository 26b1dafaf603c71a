/-
  WHAT IS PROVED: the law DiskApart answers true for all bytes and all steps, which read behind the call as before it. No condition beyond those of the given row.
-/
import Derived.Test.YtdoahbegcfhegaaOps
import Derived.Deep.CutRange
namespace Go.Proofs.Ytdoahbegcfhegaa
open Go.RowKit Go.Lib

abbrev kN : List UInt8 := [107, 101, 101, 112]
/-- the file keep is there, and safe -/
def Inv (b : List UInt8) (l : List Fl) : Prop := hasF l kN = true ∧ getF l kN = ⟨kN, b, true⟩
section
variable {b : List UInt8} {l : List Fl} {S : Ds}
theorem Inv.put (h : Inv b l) {f : Fl} (hn : f.name ≠ kN) : Inv b (putF l f) := ⟨by rw [has_putF, h.1]; simp, by rw [getF_put_ne _ (fun e => hn e.symm)]; exact h.2⟩
theorem Inv.del (h : Inv b l) {x : List UInt8} (hn : x ≠ kN) : Inv b (delF l x) := ⟨by rw [has_delF, h.1]; simp; exact fun e => hn e.symm, by rw [getF_del l (fun e => hn e.symm)]; exact h.2⟩
theorem Inv.write (h : Inv b S.fs) {x d : List UInt8} (hn : x ≠ kN) : Inv b (writeD S x d).2.fs ∧ (writeD S x d).2.fs.length ≤ S.fs.length + 1 := by
  unfold writeD
  split
  · exact ⟨h, Nat.le_succ _⟩
  split
  · exact ⟨h, Nat.le_succ _⟩
  split
  · exact ⟨h, Nat.le_succ _⟩
  · rw [(spend_fs _).1]
    exact ⟨h.put hn, len_putF_le _⟩
theorem Inv.sync (h : Inv b S.fs) {x : List UInt8} (hn : x ≠ kN) : Inv b (syncD S x).2.fs ∧ (syncD S x).2.fs.length ≤ S.fs.length + 1 := by
  unfold syncD
  split
  · exact ⟨h, Nat.le_succ _⟩
  split
  · exact ⟨h, Nat.le_succ _⟩
  split
  · exact ⟨h.put (f := { getF S.fs x with safe := true }) (by show (getF S.fs x).name ≠ kN; rw [getF_name]; exact hn), len_putF_le _⟩
  · rw [(spend_fs _).1]
    exact ⟨h, Nat.le_succ _⟩
theorem Inv.rename (h : Inv b S.fs) {x y : List UInt8} (hx : x ≠ kN) (hy : y ≠ kN) : Inv b (renameD S x y).2.fs ∧ (renameD S x y).2.fs.length ≤ S.fs.length + 1 := by
  unfold renameD
  split
  · exact ⟨h, Nat.le_succ _⟩
  split
  · exact ⟨h, Nat.le_succ _⟩
  split
  · refine ⟨(h.del hx).put (f := { getF S.fs x with name := y }) hy, Nat.le_trans (len_putF_le _) ?_⟩
    exact Nat.add_le_add_right (List.length_filter_le _ _) 1
  · rw [(spend_fs _).1]
    exact ⟨h, Nat.le_succ _⟩
theorem len_crash : ∀ (ns : List (List UInt8)) (keep : List Int) (l : List Fl), Good l → (∀ x ∈ ns, hasF l x = true) → (crashG ns keep l).length = l.length
  | [], keep, l, _, _ => by rw [crashG_nil]
  | y :: ns, keep, l, hu, h => by
    have hy := h y List.mem_cons_self
    cases hs : (getF l y).safe with
    | true => rw [crashG_safe hs]; exact len_crash ns keep l hu (fun x hx => h x (List.mem_cons_of_mem _ hx))
    | false =>
      have hsm := hu.small _ (getF_mem hy)
      rw [getF_name] at hsm
      have hl : ∀ b, (putF l ⟨y, b, true⟩).length = l.length := fun b => by rw [len_putF hu, if_pos hy]
      have hh : ∀ b, ∀ x ∈ ns, hasF (putF l ⟨y, b, true⟩) x = true := fun b x hx => by rw [has_putF, h x (List.mem_cons_of_mem _ hx)]; simp
      cases keep with
      | nil => rw [crashG_none hs, len_crash ns [] _ (hu.put (f := ⟨y, [], true⟩) hsm.1 (by simp)) (hh _), hl]
      | cons k ks => rw [crashG_some hs, len_crash ns ks _ (hu.put (f := ⟨y, (getF l y).b.take k.toNat, true⟩) hsm.1 (by show ((getF l y).b.take k.toNat).length ≤ _; rw [List.length_take]; exact Nat.le_trans (Nat.min_le_right _ _) hsm.2)) (hh _), hl]
theorem Inv.crash (h : Inv b l) (ns : List (List UInt8)) (keep : List Int) : Inv b (crashG ns keep l) := by
  have := crash_keeps ns keep l kN h.1 (by rw [h.2])
  exact ⟨this.1, this.2.trans h.2⟩
end
theorem perm_has {ns : List (List UInt8)} {l : List Fl} (h : ns.Perm (l.map (·.name))) : ∀ x ∈ ns, hasF l x = true := fun x hx => by
  obtain ⟨f, hf, e⟩ := List.mem_map.1 (h.mem_iff.1 hx)
  exact hasF_iff.2 ⟨f, hf, e⟩
theorem ops_arg {w w' : World} {d g n : Nat} {A : Option Addr} {l : List Oq} (hr : OpsAt w no A n l) (hb : Below w.heap.size w w') (hd : w.heap.size ≤ d) (hg : w.heap.size ≤ g) : OpsAt w' (FD d g) A n l :=
  hr.turn (Turn.of_below hb no) (fun i hi f => by rcases f with f | f <;> omega)
theorem kN_ok : nameB kN = true := by kernel_rfl
theorem p1 (o : List UInt8) (h : o.length ≤ 500) : writeD ⟨[], 65536, -1, false⟩ kN o = (0, ⟨[⟨kN, o, false⟩], 65536, -1, false⟩) := by
  unfold writeD
  rw [if_neg (by simp), kN_ok, if_neg (by simp), if_neg (by show ¬ (65536 : Int) < (((butF [] kN : Nat) : Int)) + (o.length : Int); rw [show butF [] kN = 0 from rfl]; omega)]
  rfl
theorem p2 (o : List UInt8) : syncD ⟨[⟨kN, o, false⟩], 65536, -1, false⟩ kN = (0, ⟨[⟨kN, o, true⟩], 65536, -1, false⟩) := by rfl

set_option maxRecDepth 100000 in
set_option maxHeartbeats 16000000 in
theorem apart_any (A0 : Option Addr) (n0 c0 : Nat) (b : List UInt8) (A3 : Option Addr) (n3 c3 : Nat) (l : List Oq) (w : World)
    (hl0 : b.length = n0) (hr0 : Reads w w.heap.size A0 n0 (bs b)) (hr3 : OpsAt w no A3 n3 l) (hf : ∀ o ∈ l, o.fits) :
    Calls Try.prog 4 #[.slice A0 n0 c0, .slice A3 n3 c3] w (Says true w) := by
  have HL0 := Lib.hid hl0
  have HR0 := Lib.hid hr0
  have HR3 := Lib.hid hr3
  have HF := Lib.hid hf
  clear hl0 hr0 hr3 hf
  by_cases hb0 : (500 : Int) < (n0 : Int)
  · go_enter Try.func4, Try.ntmps4
    go_wp2_with (fail)
    refine (anchor_any w).mono ?_
    rintro e w1 ⟨rfl, hb1⟩
    go_wp2
    go_ret
    exact ⟨rfl, hb1⟩
  by_cases hb3 : (60 : Int) < (n3 : Int)
  · go_enter Try.func4, Try.ntmps4
    go_wp2_with (fail)
    refine (anchor_any w).mono ?_
    rintro e w1 ⟨rfl, hb1⟩
    go_wp2
    go_ret
    exact ⟨rfl, hb1⟩
  have Q1 := Lib.hid (p1 b (by rw [HL0.out]; omega))
  have Q2 := Lib.hid (p2 b)
  go_enter Try.func4, Try.ntmps4
  go_wp2_with (fail)
  refine (anchor_any w).mono ?_
  rintro e w1 ⟨rfl, hbb1⟩
  have HB1 := Lib.hid hbb1
  clear hbb1
  go_wp2_with (fail)
  refine (new_ok 65536 w1 (by omega) (by omega)).mono ?_
  rintro e w2 ⟨d, g, rfl, hk2, hd0, hg0, hbb2⟩
  have hd : w.heap.size ≤ d := by have := HB1.out.size; omega
  have hg : w.heap.size ≤ g := by have := HB1.out.size; omega
  have HB2 := Lib.hid (HB1.out.trans (hbb2.mono HB1.out.size))
  have HK2 := Lib.hid hk2
  clear hk2 hbb2 hd0 hg0
  go_wp2_with (fail)
  refine (write_any d g _ kN A0 n0 c0 b w2 HK2.out (by decide) (by decide) (rd_arg HR0.out HB2.out hd hg) (by omega)).mono ?_
  rw [Q1.out]
  rintro e w3 ⟨rfl, hk3, ht3⟩
  dsimp only at hk3 ⊢
  have HK3 := Lib.hid hk3
  have HB3 := Lib.hid (HB2.out.trans (ht3.low hd hg HB2.out.size))
  clear hk3 ht3
  go_wp2_with (fail)
  refine (sync_any d g _ kN w3 HK3.out (by simp) (by decide)).mono ?_
  rw [Q2.out]
  rintro e w4 ⟨rfl, hk4, ht4⟩
  dsimp only at hk4 ⊢
  have HK4 := Lib.hid hk4
  have HB4 := Lib.hid (HB3.out.trans (ht4.low hd hg HB3.out.size))
  have HI4 : Hid (Inv b [⟨kN, b, true⟩]) := ⟨by simp [hasF], by simp [getF]⟩
  clear hk4 ht4 HK2 HK3 HB1 HB2 HB3 Q1 Q2
  go_wp2
  go_loopw [36] (fun i wr => ∃ (k : Nat) (S : Ds), k ≤ n3 ∧ i = .int .i64 (k : Int) ∧ Dk wr d g S ∧ Inv b S.fs ∧ S.fs.length ≤ k + 1 ∧ Below w.heap.size w wr) (fun i _ => n3 - (intOf i).toNat)
  case atStart => exact ⟨0, _, by omega, rfl, HK4.out, HI4.out, by simp, HB4.out⟩
  case round =>
    clear HK4 HB4 HI4
    obtain ⟨k, S, hk, rfl, hk1, hi1, hln, hb1⟩ := hrel
    have HK1 := Lib.hid hk1
    have HI1 := Lib.hid hi1
    have HB1 := Lib.hid hb1
    clear hk1 hi1 hb1
    by_cases hkn : k < n3
    · obtain ⟨ad, o, A1, n1, c1, A2, n2, c2, rfl, hlk, h1, h2, k0, k1, k2, k3, k4, k5⟩ := (ops_arg HR3.out HB1.out hd hg).at_ hkn
      have HOF := Lib.hid (HF.out o (List.mem_of_getElem? hlk))
      obtain ⟨kd, nm, tg, dt, nn, kp⟩ := o
      dsimp only at h1 h2 k0 k1 k2 k3 k4 k5
      have hB2 : Below wr.heap.size wr (wr.alloc (.cells #[.int .i64 kd, .string (str nm), .string (str tg), .slice A1 n1 c1, .int .i64 nn, .slice A2 n2 c2] 38)) := (Below.refl _ wr).alloc (Nat.le_refl _) _
      have hbx := Blk.new wr 38 #[.int .i64 kd, .string (str nm), .string (str tg), .slice A1 n1 c1, .int .i64 nn, .slice A2 n2 c2]
      have q0 : (0 : Int) ≤ (k : Int) := by omega
      have q1 : (k : Int) < (n3 : Int) := by omega
      have H1 := Lib.hid h1
      have H2 := Lib.hid h2
      clear hlk h1 h2
      go_upto_region 11 with (fail)
      obtain ⟨w2, hw2⟩ : ∃ x, wr.alloc (.cells #[.int .i64 kd, .string (str nm), .string (str tg), .slice A1 n1 c1, .int .i64 nn, .slice A2 n2 c2] 38) = x := ⟨_, rfl⟩
      rw [hw2] at hB2 hbx ⊢
      have b0 := hbx.cell 0
      have b1 := hbx.cell 1
      have b2 := hbx.cell 2
      have b3 := hbx.cell 3
      have b4 := hbx.cell 4
      have b5 := hbx.cell 5
      have HK2 := Lib.hid (HK1.out.below hB2)
      have HB2 := Lib.hid (HB1.out.trans (hB2.mono HB1.out.size))
      have HR1 := Lib.hid (H1.out.2.2.2.turn (Turn.of_below hB2 _) (sub_fd _ _ _))
      have HR2 := Lib.hid (H2.out.2.2.2.turn (Turn.of_below hB2 _) (sub_fd _ _ _))
      obtain ⟨s1, hs1⟩ : ∃ n, (str nm).size = n := ⟨_, rfl⟩
      obtain ⟨s2, hs2⟩ : ∃ n, (str tg).size = n := ⟨_, rfl⟩
      have HS1 : Hid (nm.length = s1) := by show _ = _; rw [← hs1, str_size]
      have HS2 : Hid (tg.length = s2) := by show _ = _; rw [← hs2, str_size]
      have t1 : (str nm).toList = nm := str_toList nm
      have t2 : (str tg).toList = tg := str_toList tg
      clear hw2 hbx hB2 k0 k1 k2 k3 k4 k5 q0 q1
      by_cases l1 : (500 : Int) < (n1 : Int)
      · go_wp2
        go_ret
        exact ⟨rfl, HB2.out⟩
      by_cases l2 : (50 : Int) < (n2 : Int)
      · go_wp2
        go_ret
        exact ⟨rfl, HB2.out⟩
      by_cases l3 : (100 : Int) < (s1 : Int)
      · go_wp2
        go_ret
        exact ⟨rfl, HB2.out⟩
      by_cases l4 : (100 : Int) < (s2 : Int)
      · go_wp2
        go_ret
        exact ⟨rfl, HB2.out⟩
      have hnm : nm.length ≤ 1000 := by rw [HS1.out]; omega
      have htg : tg.length ≤ 1000 := by rw [HS2.out]; omega
      by_cases e1 : nm = [107, 101, 101, 112]
      · subst e1
        go_wp2
        go_roundw
        case rel => exact ⟨k + 1, S, by omega, by go_num, HK2.out, HI1.out, by omega, HB2.out⟩
        case measure => simp [intOf]; omega
      have e1b : (nm == [107, 101, 101, 112]) = false := by simpa using e1
      by_cases e2 : tg = [107, 101, 101, 112]
      · subst e2
        go_wp2
        go_roundw
        case rel => exact ⟨k + 1, S, by omega, by go_num, HK2.out, HI1.out, by omega, HB2.out⟩
        case measure => simp [intOf]; omega
      have e2b : (tg == [107, 101, 101, 112]) = false := by simpa using e2
      have E1 := Lib.hid e1
      have E2 := Lib.hid e2
      clear e1 e2
      by_cases d1 : kd = 1
      · subst d1
        go_wp2_with (fail)
        refine (write_any d g S nm A1 n1 c1 dt w2 HK2.out (by omega) hnm HR1.out (by omega)).mono ?_
        rintro e w3 ⟨rfl, hk3, ht3⟩
        have HK3 := Lib.hid hk3
        have HB3 := Lib.hid (HB2.out.trans (ht3.low hd hg HB2.out.size))
        clear hk3 ht3
        go_wp2
        go_roundw
        case rel => exact ⟨k + 1, _, by omega, by go_num, HK3.out, (HI1.out.write E1.out).1, Nat.le_trans (HI1.out.write E1.out).2 (by omega), HB3.out⟩
        case measure => simp [intOf]; omega
      have d1b : (kd == 1) = false := by simpa using d1
      by_cases d2 : kd = 2
      · subst d2
        go_wp2_with (fail)
        refine (sync_any d g S nm w2 HK2.out (by omega) hnm).mono ?_
        rintro e w3 ⟨rfl, hk3, ht3⟩
        have HK3 := Lib.hid hk3
        have HB3 := Lib.hid (HB2.out.trans (ht3.low hd hg HB2.out.size))
        clear hk3 ht3
        go_wp2
        go_roundw
        case rel => exact ⟨k + 1, _, by omega, by go_num, HK3.out, (HI1.out.sync E1.out).1, Nat.le_trans (HI1.out.sync E1.out).2 (by omega), HB3.out⟩
        case measure => simp [intOf]; omega
      have d2b : (kd == 2) = false := by simpa using d2
      by_cases d3 : kd = 3
      · subst d3
        go_wp2_with (fail)
        refine (rename_any d g S nm tg w2 HK2.out (by omega) hnm htg).mono ?_
        rintro e w3 ⟨rfl, hk3, ht3⟩
        have HK3 := Lib.hid hk3
        have HB3 := Lib.hid (HB2.out.trans (ht3.low hd hg HB2.out.size))
        clear hk3 ht3
        go_wp2
        go_roundw
        case rel => exact ⟨k + 1, _, by omega, by go_num, HK3.out, (HI1.out.rename E1.out E2.out).1, Nat.le_trans (HI1.out.rename E1.out E2.out).2 (by omega), HB3.out⟩
        case measure => simp [intOf]; omega
      have d3b : (kd == 3) = false := by simpa using d3
      by_cases d5 : kd = 5
      · subst d5
        go_wp2_with (fail)
        refine (arm_any d g S nn w2 HK2.out HOF.out).mono ?_
        rintro e w3 ⟨rfl, hk3, ht3⟩
        have HK3 := Lib.hid hk3
        have HB3 := Lib.hid (HB2.out.trans (ht3.low hd hg HB2.out.size))
        clear hk3 ht3
        go_wp2
        go_roundw
        case rel => exact ⟨k + 1, _, by omega, by go_num, HK3.out, HI1.out, by show S.fs.length ≤ _; omega, HB3.out⟩
        case measure => simp [intOf]; omega
      have d5b : (kd == 5) = false := by simpa using d5
      by_cases d6 : kd = 6
      · subst d6
        go_wp2_with (fail)
        refine (crash_any d g S A2 n2 c2 kp w2 HK2.out (by omega) HR2.out H2.out.2.1 H2.out.2.2.1).mono ?_
        rintro e w3 ⟨ns, rfl, hp, hk3, ht3⟩
        have HK3 := Lib.hid hk3
        have HLC := Lib.hid (len_crash ns kp S.fs HK2.out.good (perm_has hp))
        have HB3 := Lib.hid (HB2.out.trans (ht3.low hd hg HB2.out.size))
        clear hk3 ht3 hp
        go_wp2
        go_roundw
        case rel => exact ⟨k + 1, _, by omega, by go_num, HK3.out, HI1.out.crash ns kp, by show (crashG ns kp S.fs).length ≤ _; rw [HLC.out]; omega, HB3.out⟩
        case measure => simp [intOf]; omega
      have d6b : (kd == 6) = false := by simpa using d6
      go_wp2
      go_roundw
      case rel => exact ⟨k + 1, S, by omega, by go_num, HK2.out, HI1.out, by omega, HB2.out⟩
      case measure => simp [intOf]; omega
    · obtain rfl : k = n3 := by omega
      have hsz : S.fs.length < 1000000 := by omega
      have HRN : Hid (∀ wk, Below w.heap.size w wk → (convert 22 9 (.slice A0 n0 c0)).run Try.prog wk = .ok (.string (str b)) wk) := fun wk hbk => bytes_back (c := c0) (rd_arg HR0.out hbk hd hg).reads
      go_wp2_with (fail)
      refine (crash_any d g S none 0 0 [] wr HK1.out hsz (Rd.nil_ _ _ _ _) (by omega) (by omega)).mono ?_
      rintro e w5 ⟨ns, rfl, hp, hk5, ht5⟩
      have HK5 := Lib.hid hk5
      have HI5 := Lib.hid (HI1.out.crash ns [])
      have HB5 := Lib.hid (HB1.out.trans (ht5.low hd hg HB1.out.size))
      clear hk5 ht5 hp
      have hre : readE ⟨crashG ns [] S.fs, S.room, -1, false⟩ kN = 0 := by unfold readE; rw [if_neg (by simp), if_neg (by show ¬ hasF (crashG ns [] S.fs) kN = false; rw [HI5.out.1]; simp)]
      have hrb : readB ⟨crashG ns [] S.fs, S.room, -1, false⟩ kN = b := by unfold readB; rw [if_pos hre]; show (getF (crashG ns [] S.fs) kN).b = b; rw [HI5.out.2]
      have HRE := Lib.hid hre
      have HRB := Lib.hid hrb
      clear hre hrb
      go_wp2_with (fail)
      refine (read_any d g _ kN w5 HK5.out (by decide)).mono ?_
      rw [HRE.out, HRB.out]
      rintro e w6 ⟨A, n, c, rfl, hln', _, _, how, hb6⟩
      have hr6 : Rd w6 no 1 A n (bs b) := Rd.of_own how rfl (fun _ _ f => f)
      have HB6 := Lib.hid (HB5.out.trans (hb6.mono HB5.out.size))
      have HK6 := Lib.hid (HK5.out.below hb6)
      have hcv := bytes_back (c := c) hr6.reads
      have hc0 := HRN.out w6 HB6.out
      clear hr6 how hb6
      go_wp2_with (fail)
      refine (safe_any d g _ kN w6 HK6.out (by decide)).mono ?_
      rw [show (getF (crashG ns [] S.fs) kN).safe = true by rw [HI5.out.2]]
      rintro e w7 ⟨rfl, rfl⟩
      go_wp2
      go_ret
      exact ⟨rfl, HB6.out⟩
end Go.Proofs.Ytdoahbegcfhegaa
