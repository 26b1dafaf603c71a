/-
  WHAT IS PROVED: the contracts of a node's state and members as it tells them. Condition: the object is a node.
-/
import Derived.Test.YteoodompphhkbaaGreatDoorZOA
namespace Go.Proofs.YteoodompphhkbaaGreatDoor.Nod
set_option maxRecDepth 100000
open Go.RowKit Go.Lib Go.Maps
open Go.Proofs.YteoodompphhkbaaGreatDoor.Ros (Turn Sub Rd Blk no zints)

theorem st_built (i m a b c : Int) (t : K.C.Tab) : Tryz.prog.built 73 [(0, .int .i64 i), (1, .int .i64 m), (2, .agg #[.int .i64 a, .int .i64 b, .int .i64 c]), (4, .agg (K.C.tb t))] = some (K.stv ⟨i, m, a, b, c, none, 0, 0, t⟩) := by kernel_rfl
theorem stv_set5 (s : K.Sv) (A : Option Addr) (n c : Nat) : (K.stv s).setIfInBounds 5 (.slice A n c) = K.stv { s with a := A, n := n, cap := c } := by
  unfold K.stv K.stL
  rw [List.setIfInBounds_toArray]
  rfl
theorem turn_row (w : World) (b : Nat) (cs : Array Value) (F : Nat → Prop) (hF : F b) : Turn w (w.setRow b cs) F :=
  ⟨rfl, rfl, rfl, by simp [World.setRow], fun i _ hn => setRow_other w b i cs (fun e => hn (by rw [e]; exact hF))⟩
def kn_of (m : Ros.Mb) : K.Kn := ⟨m.id, m.ma, m.co⟩
theorem kn_snoc {l : List Ros.Mb} {k : Nat} {m : Ros.Mb} (h : l[k]? = some m) : (l.take (k + 1)).map kn_of = (l.take k).map kn_of ++ [kn_of m] := by
  rw [List.take_add_one, h]
  simp
/-- a node's state is told -/
def ToldS (n : Nd) (w : World) (e : Ending) (w' : World) : Prop :=
  Below w.heap.size w w' ∧ ∃ A k c, e = .returned (.agg (K.stv (K.mkS n.dt A k c))) ∧ K.KnAt w' A k n.dt.l ∧ k ≤ 15 ∧ ∀ ad, A = some ad → w.heap.size ≤ ad.block
set_option maxHeartbeats 4000000 in
theorem state_any (C g d : Nat) (F : Nat → Prop) (n : Nd) (w : World) (h : NdAt w C g F d n) :
    Calls Tryz.prog 35 #[.pointer (some ⟨g, 0, none⟩)] w (ToldS n w) := by
  obtain ⟨w1, hw1⟩ : ∃ w1, w.alloc (.cells (K.stv K.Sv.zero) 73) = w1 := ⟨_, rfl⟩
  have hb1 : Below w.heap.size w w1 := by rw [← hw1]; exact (Below.refl _ w).alloc (Nat.le_refl _) _
  have HB1 := Lib.hid hb1
  have HS1 : Hid (K.StAt w1 w.heap.size K.Sv.zero) := Lib.hid (by rw [← hw1]; exact K.StAt.new w _)
  have HN1 := Lib.hid (h.below hb1)
  obtain ⟨c0, _, _, _, _, c5, _⟩ := (h.below hb1).cells
  have F5 := Lib.hid c5
  obtain ⟨r, FR, c8, hR, _⟩ := (h.below hb1).ros
  have HC8 := Lib.hid c8
  have HR1 := Lib.hid hR
  have HER := Lib.hid (h.below hb1).epr
  have HTR := Lib.hid (h.below hb1).range
  have HLL : Hid (n.R.L.length ≤ 15) := Lib.hid hR.good.len
  have HLT : Hid (∀ i, F i → i < w.heap.size) := Lib.hid h.lt
  have HGL : Hid (g < w1.heap.size) := Lib.hid (h.below hb1).glt
  clear h hb1 c0 c5 c8 hR
  go_enter Tryz.func35, Tryz.ntmps35
  go_upto_region 1 with (first | refine K.st_alloc rfl ?_)
  try simp only [Act.put, List.setIfInBounds_toArray, List.set_cons_zero, List.set_cons_succ]
  rw [hw1]
  clear hw1
  go_cut [3] from 6 to 20 (fun q3 wx => ∃ bm, q3 = .pointer (some ⟨bm, 0, none⟩) ∧ K.StAt wx bm ⟨n.id, n.ma, n.ep.cur, n.ep.vote, n.ep.conf, none, 0, 0, n.tab⟩ ∧ w1.heap.size ≤ bm ∧ Below w1.heap.size w1 wx)
  case first =>
    refine wp_region_held_drew (S := fun w' => Below w1.heap.size w1 w') (by kernel_rfl) ((Below.refl _ _).drew) (fun hHeld => ?_)
    refine wpAnyH_take (i := 0) (oi := ⟨some 6, _, _, _, _, _⟩) (v := .pointer (some ⟨g, 0, none⟩)) rfl (by kernel_rfl) (by kernel_rfl) (by kernel_rfl) (fun _ _ _ h => h) (Or.inl ⟨by rfl, ?_⟩) (by assumption) ?_
    · (intro w' _; skip; go_simp)
    try simp only [Act.put, List.setIfInBounds_toArray, List.set_cons_zero, List.set_cons_succ]
    refine wpAnyH_take (i := 2) (oi := ⟨some 8, _, _, _, _, _⟩) (v := .pointer (some ⟨g, 0, none⟩)) rfl (by kernel_rfl) (by kernel_rfl) (by kernel_rfl) (fun _ _ _ h => h) (Or.inl ⟨by rfl, ?_⟩) (by assumption) ?_
    · (intro w' _; skip; go_simp)
    try simp only [Act.put, List.setIfInBounds_toArray, List.set_cons_zero, List.set_cons_succ]
    refine wpAnyH_take (i := 3) (oi := ⟨some 9, _, _, _, _, _⟩) (v := .pointer (some ⟨g, 0, none⟩)) rfl (by kernel_rfl) (by kernel_rfl) (by kernel_rfl) (fun _ _ _ h => h) (Or.inl ⟨by rfl, ?_⟩) (by assumption) ?_
    · (intro w' _; skip; go_simp)
    try simp only [Act.put, List.setIfInBounds_toArray, List.set_cons_zero, List.set_cons_succ]
    refine wpAnyH_take (i := 4) (oi := ⟨some 10, _, _, _, _, _⟩) (v := .pointer (some ⟨g, 5, none⟩)) rfl (by kernel_rfl) (by kernel_rfl) (by kernel_rfl) (fun _ _ _ h => h) (Or.inl ⟨by rfl, ?_⟩) (by assumption) ?_
    · (intro w' _; skip; go_simp)
    try simp only [Act.put, List.setIfInBounds_toArray, List.set_cons_zero, List.set_cons_succ]
    refine wpAnyH_take (i := 5) (oi := ⟨some 11, _, _, _, _, _⟩) (v := .int .i64 n.ma) rfl (by kernel_rfl) (by kernel_rfl) (by kernel_rfl) (fun _ _ _ h => h) (Or.inl ⟨by rfl, ?_⟩) (by assumption) ?_
    · (intro w' hw'; have hc := (hw'.cell (lt_cell F5.out)).trans F5.out; clear hw'; go_simp)
    try simp only [Act.put, List.setIfInBounds_toArray, List.set_cons_zero, List.set_cons_succ]
    refine wpAnyH_take (i := 6) (oi := ⟨some 12, _, _, _, _, _⟩) (v := .pointer (some ⟨g, 0, none⟩)) rfl (by kernel_rfl) (by kernel_rfl) (by kernel_rfl) (fun _ _ _ h => h) (Or.inl ⟨by rfl, ?_⟩) (by assumption) ?_
    · (intro w' _; skip; go_simp)
    try simp only [Act.put, List.setIfInBounds_toArray, List.set_cons_zero, List.set_cons_succ]
    refine wpAnyH_take (i := 7) (oi := ⟨some 13, _, _, _, _, _⟩) (v := .pointer (some ⟨g, 0, none⟩)) rfl (by kernel_rfl) (by kernel_rfl) (by kernel_rfl) (fun _ _ _ h => h) (Or.inl ⟨by rfl, ?_⟩) (by assumption) ?_
    · (intro w' _; skip; go_simp)
    try simp only [Act.put, List.setIfInBounds_toArray, List.set_cons_zero, List.set_cons_succ]
    refine wpAnyH_take (i := 8) (oi := ⟨some 14, _, _, _, _, _⟩) (v := .pointer (some ⟨g, 6, none⟩)) rfl (by kernel_rfl) (by kernel_rfl) (by kernel_rfl) (fun _ _ _ h => h) (Or.inl ⟨by rfl, ?_⟩) (by assumption) ?_
    · (intro w' _; skip; go_simp)
    try simp only [Act.put, List.setIfInBounds_toArray, List.set_cons_zero, List.set_cons_succ]
    refine wpAnyH_take (i := 9) (oi := ⟨some 15, _, _, _, _, _⟩) (v := .agg #[.int .i64 n.ep.cur, .int .i64 n.ep.vote, .int .i64 n.ep.conf]) rfl (by kernel_rfl) (by kernel_rfl) (by kernel_rfl) (fun _ _ _ h => h) (yields_mid (T := 67) rfl (fun w' hw' j v hv => (hw'.cell (lt_cell (HER.out j v hv))).trans (HER.out j v hv)) Tryz.underlying67 rfl ep_info) (by assumption) ?_
    try simp only [Act.put, List.setIfInBounds_toArray, List.set_cons_zero, List.set_cons_succ]
    refine wpAnyH_take (i := 10) (oi := ⟨some 16, _, _, _, _, _⟩) (v := .pointer (some ⟨g, 0, none⟩)) rfl (by kernel_rfl) (by kernel_rfl) (by kernel_rfl) (fun _ _ _ h => h) (Or.inl ⟨by rfl, ?_⟩) (by assumption) ?_
    · (intro w' _; skip; go_simp)
    try simp only [Act.put, List.setIfInBounds_toArray, List.set_cons_zero, List.set_cons_succ]
    refine wpAnyH_take (i := 11) (oi := ⟨some 17, _, _, _, _, _⟩) (v := .pointer (some ⟨g, 0, none⟩)) rfl (by kernel_rfl) (by kernel_rfl) (by kernel_rfl) (fun _ _ _ h => h) (Or.inl ⟨by rfl, ?_⟩) (by assumption) ?_
    · (intro w' _; skip; go_simp)
    try simp only [Act.put, List.setIfInBounds_toArray, List.set_cons_zero, List.set_cons_succ]
    refine wpAnyH_take (i := 12) (oi := ⟨some 18, _, _, _, _, _⟩) (v := .pointer (some ⟨g, 10, none⟩)) rfl (by kernel_rfl) (by kernel_rfl) (by kernel_rfl) (fun _ _ _ h => h) (Or.inl ⟨by rfl, ?_⟩) (by assumption) ?_
    · (intro w' _; skip; go_simp)
    try simp only [Act.put, List.setIfInBounds_toArray, List.set_cons_zero, List.set_cons_succ]
    refine wpAnyH_take (i := 13) (oi := ⟨some 19, _, _, _, _, _⟩) (v := .agg (K.C.tb n.tab)) rfl (by kernel_rfl) (by kernel_rfl) (by kernel_rfl) (fun _ _ _ h => h) (yields_mid (T := 71) (cs := tbL n.tab) rfl (fun w' hw' j v hv => (hw'.cell (lt_cell (HTR.out j v hv))).trans (HTR.out j v hv)) Tryz.underlying71 rfl (ntab_size n.tab)) (by assumption) ?_
    try simp only [Act.put, List.setIfInBounds_toArray, List.set_cons_zero, List.set_cons_succ]
    refine wpAnyH_ready (rs := [1, 15]) (by kernel_rfl) (by simp) ?_
    refine AllReadyH.cons (o := ⟨some 7, _, _, _, _, _⟩) rfl (fun KK hK => ?_) (AllReadyH.cons (o := ⟨some 3, _, _, _, _, _⟩) rfl (fun KK hK => ?_) AllReadyH.nil)
    · go_simp
      refine (self_any C g d F n _ (HN1.out.below hHeld)).mono ?_
      rintro e w4 ⟨rfl, rfl⟩
      refine hK.out _ _ hHeld (fun hHeld => ?_)
      clear hK KK
      try simp only [Act.put, List.setIfInBounds_toArray, List.set_cons_zero, List.set_cons_succ]
      refine wpAnyH_take (i := 14) (oi := ⟨some 20, _, _, _, _, _⟩) (v := .agg (K.stv ⟨n.id, n.ma, n.ep.cur, n.ep.vote, n.ep.conf, none, 0, 0, n.tab⟩)) rfl (by kernel_rfl) (by kernel_rfl) (by kernel_rfl) (fun _ _ _ h => h) (yields_build (st_built n.id n.ma n.ep.cur n.ep.vote n.ep.conf n.tab) (by first | rfl | kernel_rfl)) (by assumption) ?_
      try simp only [Act.put, List.setIfInBounds_toArray, List.set_cons_zero, List.set_cons_succ]
      refine wpAnyH_ready (rs := [15]) (by kernel_rfl) (by simp) ?_
      refine AllReadyH.cons (o := ⟨some 3, _, _, _, _, _⟩) rfl (fun KK hK => ?_) AllReadyH.nil
      rw [if_pos (by rfl)]
      refine K.wp_alloc_st rfl ?_
      have hSz := hHeld.size
      have hBo := K.StAt.new w1.drew K.Sv.zero
      refine hK.out _ _ (hHeld.alloc hHeld.size _) (fun hHeld2 => ?_)
      clear hK KK
      try simp only [Act.put, List.setIfInBounds_toArray, List.set_cons_zero, List.set_cons_succ]
      refine wpAnyH_ready (rs := [16]) (by kernel_rfl) (by simp) ?_
      refine AllReadyH.cons (o := ⟨none, _, _, _, _, _⟩) rfl (fun KK hK => ?_) AllReadyH.nil
      rw [if_pos (by rfl)]
      refine wp_store_row 73 (.tmp 3) (.tmp 20) rfl (w1.drew.heap.size) (K.stv ⟨n.id, n.ma, n.ep.cur, n.ep.vote, n.ep.conf, none, 0, 0, n.tab⟩) rfl rfl _ (K.stv K.Sv.zero) hBo (K.st_size _) (by rw [K.stv_size, K.stv_size]) (K.stv_cells _) ?_
      have hBn := K.StAt.store hBo ⟨n.id, n.ma, n.ep.cur, n.ep.vote, n.ep.conf, none, 0, 0, n.tab⟩
      refine hK.out _ _ (K.C.below_row hHeld2 hSz _) (fun hHeld9 => ?_)
      clear hK KK
      simp only [Act.put]
      refine wpAnyH_done (by kernel_rfl) ?_ _
      apply_assumption
      go_meet
      exact ⟨_, rfl, hBn, hSz, hHeld9⟩
    · rw [if_pos (by rfl)]
      refine K.wp_alloc_st rfl ?_
      have hSz := hHeld.size
      have hBo := K.StAt.new w1.drew K.Sv.zero
      refine hK.out _ _ (hHeld.alloc hHeld.size _) (fun hHeld2 => ?_)
      clear hK KK
      try simp only [Act.put, List.setIfInBounds_toArray, List.set_cons_zero, List.set_cons_succ]
      refine wpAnyH_ready (rs := [1]) (by kernel_rfl) (by simp) ?_
      refine AllReadyH.cons (o := ⟨some 7, _, _, _, _, _⟩) rfl (fun KK hK => ?_) AllReadyH.nil
      go_simp
      refine (self_any C g d F n _ (HN1.out.below hHeld2)).mono ?_
      rintro e w4 ⟨rfl, rfl⟩
      refine hK.out _ _ hHeld2 (fun hHeld3 => ?_)
      clear hK KK
      try simp only [Act.put, List.setIfInBounds_toArray, List.set_cons_zero, List.set_cons_succ]
      refine wpAnyH_take (i := 14) (oi := ⟨some 20, _, _, _, _, _⟩) (v := .agg (K.stv ⟨n.id, n.ma, n.ep.cur, n.ep.vote, n.ep.conf, none, 0, 0, n.tab⟩)) rfl (by kernel_rfl) (by kernel_rfl) (by kernel_rfl) (fun _ _ _ h => h) (yields_build (st_built n.id n.ma n.ep.cur n.ep.vote n.ep.conf n.tab) (by first | rfl | kernel_rfl)) (by assumption) ?_
      try simp only [Act.put, List.setIfInBounds_toArray, List.set_cons_zero, List.set_cons_succ]
      refine wpAnyH_ready (rs := [16]) (by kernel_rfl) (by simp) ?_
      refine AllReadyH.cons (o := ⟨none, _, _, _, _, _⟩) rfl (fun KK hK => ?_) AllReadyH.nil
      rw [if_pos (by rfl)]
      refine wp_store_row 73 (.tmp 3) (.tmp 20) rfl (w1.drew.heap.size) (K.stv ⟨n.id, n.ma, n.ep.cur, n.ep.vote, n.ep.conf, none, 0, 0, n.tab⟩) rfl rfl _ (K.stv K.Sv.zero) hBo (K.st_size _) (by rw [K.stv_size, K.stv_size]) (K.stv_cells _) ?_
      have hBn := K.StAt.store hBo ⟨n.id, n.ma, n.ep.cur, n.ep.vote, n.ep.conf, none, 0, 0, n.tab⟩
      refine hK.out _ _ (K.C.below_row hHeld3 hSz _) (fun hHeld9 => ?_)
      clear hK KK
      simp only [Act.put]
      refine wpAnyH_done (by kernel_rfl) ?_ _
      apply_assumption
      go_meet
      exact ⟨_, rfl, hBn, hSz, hHeld9⟩

  case rest =>
    obtain ⟨bm, rfl, hBm, hbm, hbA⟩ := hcut
    have HB2 := Lib.hid hbA
    have HS2 := Lib.hid hBm
    have HBM := Lib.hid hbm
    have HR2 := Lib.hid (HR1.out.below hbA)
    have c8 : wc.cell? ⟨g, 138, none⟩ = some (.pointer (some ⟨r, 0, none⟩)) := (hbA.cell (p := ⟨g, 138, none⟩) HGL.out).trans HC8.out
    generalize wc = w2 at *
    clear hBm hbm hbA HR1 HC8 HER HTR HN1
    go_wp2_with (fail)
    refine (Ros.list_any C r FR n.R _ HR2.out).mono ?_
    rintro e w3 ⟨hb, v, rfl, hv⟩
    obtain ⟨A, c, rfl, hnc, hcm⟩ := Ros.own_form hv
    have HS3 := Lib.hid (HS2.out.later hb)
    have HB3 := Lib.hid (HB2.out.trans (hb.mono HB2.out.size))
    have HBL : Hid (bm < w2.heap.size) := Lib.hid HS2.out.lt
    have HW23 := Lib.hid hb.size
    have HM : Hid (Rd w3 (fun i => w3.heap.size ≤ i ∨ i = bm) 5 A n.R.L.length (Ros.flatM n.R.L)) := Lib.hid (Rd.of_own hv rfl (fun k hk f => by
      have h1 := hv.lt k hk
      have h2 := HS2.out.lt
      rcases f with f | f <;> omega))
    obtain ⟨M, hM⟩ : ∃ M, n.R.L.length = M := ⟨_, rfl⟩
    rw [hM] at HM hnc HLL ⊢
    have HMM := Lib.hid hM
    have HHS1 : Hid (K.StAt w3 w.heap.size K.Sv.zero) := Lib.hid ((HS1.out.later HB2.out).later hb)
    clear hb hv c8 hM HS2 HR2
    obtain ⟨i0, hi0, hz0, hz1, hz2⟩ := K.info_parts K.kn_info
    go_wp2
    go_loopw [5, 27] (fun _ i wr => ∃ (k : Nat) (Av : Option Addr) (cv : Nat), k ≤ M ∧ i = .int .i64 k ∧ K.StAt wr bm ⟨n.id, n.ma, n.ep.cur, n.ep.vote, n.ep.conf, Av, k, cv, n.tab⟩ ∧ wr.ownsRow w3.heap.size 111 3 (.slice Av k cv) k (K.flatK ((n.R.L.take k).map kn_of)) ∧ Below w1.heap.size w1 wr ∧ w3.heap.size ≤ wr.heap.size ∧ Rd wr (fun i => w3.heap.size ≤ i ∨ i = bm) 5 A M (Ros.flatM n.R.L) ∧ K.StAt wr w.heap.size K.Sv.zero) (fun _ i _ => M - (intOf i).toNat)
    case atStart => exact ⟨0, none, 0, by omega, rfl, HS3.out, World.ownsRow_nil _ _ _ _, HB3.out, Nat.le_refl _, HM.out, HHS1.out⟩
    case round =>
      obtain ⟨w5, rfl⟩ : ∃ w5, w5 = wr := ⟨_, rfl⟩
      obtain ⟨k, Av, cv, hk, rfl, hS, hown, hb, hsz, hrd, hs1⟩ := hrel
      have HS5 := Lib.hid hS
      have HW5 := Lib.hid hown
      have HB5 := Lib.hid hb
      have HZ5 := Lib.hid hsz
      have HM5 := Lib.hid hrd
      have HSS := Lib.hid hs1
      clear hS hown hb hsz hrd hs1
      by_cases hlt : k < M
      · obtain ⟨ad, ⟨mi, mm, mc, mo, mf⟩, rfl, hmk, hbl, _, d0, d1, d2, d3, d4⟩ := HM5.out.atM hlt
        simp only at d0 d1 d2 d3 d4
        have t1 : (k : Int) < (M : Int) := by omega
        have t2 : (0 : Int) ≤ (k : Int) := by omega
        have hbA : Below w5.heap.size w5 (w5.alloc (.cells #[.int .i64 mi, .int .i64 mm, .int .i64 mc, .int .i64 mo, .int .i64 mf] 115)) := (Below.refl _ w5).alloc (Nat.le_refl _) _
        have hbB : Below w5.heap.size w5 ((w5.alloc (.cells #[.int .i64 mi, .int .i64 mm, .int .i64 mc, .int .i64 mo, .int .i64 mf] 115)).alloc (.cells #[.int .i64 mi, .int .i64 mm, .int .i64 mc] 111)) := hbA.alloc hbA.size _
        have H6 := Lib.hid (HS5.out.alloc (.cells #[.int .i64 mi, .int .i64 mm, .int .i64 mc, .int .i64 mo, .int .i64 mf] 115))
        obtain ⟨_, _, _, _, _, b5⟩ := H6.out.box
        have H7 : Hid (K.StAt ((w5.alloc (.cells #[.int .i64 mi, .int .i64 mm, .int .i64 mc, .int .i64 mo, .int .i64 mf] 115)).alloc (.cells #[.int .i64 mi, .int .i64 mm, .int .i64 mc] 111)) bm ⟨n.id, n.ma, n.ep.cur, n.ep.vote, n.ep.conf, Av, k, cv, n.tab⟩) := Lib.hid (H6.out.alloc _)
        have HW7 : Hid (((w5.alloc (.cells #[.int .i64 mi, .int .i64 mm, .int .i64 mc, .int .i64 mo, .int .i64 mf] 115)).alloc (.cells #[.int .i64 mi, .int .i64 mm, .int .i64 mc] 111)).ownsRow w3.heap.size 111 3 (.slice Av k cv) k (K.flatK ((n.R.L.take k).map kn_of))) := Lib.hid (Ros.own_turn HW5.out (Turn.of_below hbB no) (fun _ _ f => f.elim))
        have HB7 := Lib.hid (HB5.out.trans (hbB.mono HB5.out.size))
        have HM7 := Lib.hid (HM5.out.below hbB)
        have HSS7 := Lib.hid (HSS.out.later hbB)
        have HZ7 : Hid (w3.heap.size ≤ ((w5.alloc (.cells #[.int .i64 mi, .int .i64 mm, .int .i64 mc, .int .i64 mo, .int .i64 mf] 115)).alloc (.cells #[.int .i64 mi, .int .i64 mm, .int .i64 mc] 111)).heap.size) := Lib.hid (Nat.le_trans HZ5.out hbB.size)
        have HKO : Hid (K.KnAt ((w5.alloc (.cells #[.int .i64 mi, .int .i64 mm, .int .i64 mc, .int .i64 mo, .int .i64 mf] 115)).alloc (.cells #[.int .i64 mi, .int .i64 mm, .int .i64 mc] 111)) (some ⟨w5.heap.size + 1, 0, none⟩) 1 [⟨mi, mm, mc⟩]) := Lib.hid (by
          have h := K.KnAt.one (w5.alloc (.cells #[.int .i64 mi, .int .i64 mm, .int .i64 mc, .int .i64 mo, .int .i64 mf] 115)) ⟨mi, mm, mc⟩ 111
          have e : (w5.alloc (.cells #[.int .i64 mi, .int .i64 mm, .int .i64 mc, .int .i64 mo, .int .i64 mf] 115)).heap.size = w5.heap.size + 1 := by simp
          rw [e] at h
          exact h)
        have HSN := Lib.hid (kn_snoc hmk)
        clear hbA hbB hmk
        go_wp2_with (at_builtin; refine K.wpList_append_kn _ rfl _ _ 68 rfl w3.heap.size 111 i0 _ Tryz.underlying68 hi0 hz0 hz1 hz2 rfl (.slice Av k cv) k ((n.R.L.take k).map kn_of) rfl HW7.out (some ⟨w5.heap.size + 1, 0, none⟩) 1 1 [⟨mi, mm, mc⟩] rfl HKO.out (by have := HLL.out; omega) HZ7.out ?_; intro v8 w8 hown8 hg8 hat8; obtain ⟨A8, c8, rfl, _, _⟩ := Ros.own_form hown8; have HO8 := Lib.hid hown8; have kt8 : Turn ((w5.alloc (.cells #[.int .i64 mi, .int .i64 mm, .int .i64 mc, .int .i64 mo, .int .i64 mf] 115)).alloc (.cells #[.int .i64 mi, .int .i64 mm, .int .i64 mc] 111)) w8 (fun i => (Value.slice Av k cv).ownBlock = some i) := Turn.of_grown hg8 (fun k e => e); have KT8 := Lib.hid kt8; have H8 : Hid (K.StAt w8 bm ⟨n.id, n.ma, n.ep.cur, n.ep.vote, n.ep.conf, Av, k, cv, n.tab⟩) := Lib.hid (Ros.Blk.turn H7.out kt8 (fun e => by have := (HW7.out.lt _ e).1; have := HBL.out; have := HW23.out; omega)); have q5 := H8.out.box.2.2.2.2.2; have z5 := H8.out.fz 5; clear hown8 hg8 hat8 kt8)
        have HB8 : Hid (Below w1.heap.size w1 w8) := Lib.hid (HB7.out.trans (KT8.out.below (fun i hi => by have := (HW7.out.lt i hi).1; have := HW23.out; have := HB2.out.size; omega) HB7.out.size))
        have HM8 := Lib.hid (HM7.out.turn (KT8.out.wide (fun i hi => .inl (HW7.out.lt i hi).1)) (Sub.refl _ _))
        have HSS8 : Hid (K.StAt w8 w.heap.size K.Sv.zero) := Lib.hid (Ros.Blk.turn HSS7.out KT8.out (fun e => by have := (HW7.out.lt _ e).1; have := HS1.out.lt; have := HW23.out; have := HB2.out.size; omega))
        have HZ8 : Hid (w3.heap.size ≤ w8.heap.size) := Lib.hid (Nat.le_trans HZ7.out KT8.out.size)
        go_roundw
        case rel => exact ⟨k + 1, A8, c8, by omega, by go_num, (by have h := K.Blk.set_ H8.out 5 (.slice A8 (k + 1) c8); rw [stv_set5] at h; exact h), (by rw [HSN.out]; exact Ros.own_turn HO8.out (turn_set w8 ⟨bm, 5, none⟩ _ (fun i => i = bm) rfl) (fun i hi e => by have := (HO8.out.lt i hi).1; have := HBL.out; have := HW23.out; omega)), HB8.out.setCell HBM.out _, (by have := HZ8.out; simpa [World.setCell] using this), HM8.out.turn ((turn_set w8 ⟨bm, 5, none⟩ _ (fun i => i = bm) rfl).wide (fun i hi => .inr hi)) (Sub.refl _ _), HSS8.out.far (by have := HS1.out.lt; have := HBM.out; simp only; omega) _⟩
        case measure => simp [intOf]; omega
      · obtain rfl : k = M := by omega
        have HE : Hid ((n.R.L.take k).map kn_of = n.dt.l) := Lib.hid (by rw [List.take_of_length_le (by have := HMM.out; omega)]; rfl)
        have hW5 := HW5.out
        rw [HE.out] at hW5
        have HW6 := Lib.hid hW5
        have HB6 : Hid (Below w.heap.size w w5) := Lib.hid (HB1.out.trans (HB5.out.mono HB1.out.size))
        clear hW5 HW5
        go_wp2_with (first | ((with_reducible refine K.st_load (b := bm) (s := ⟨n.id, n.ma, n.ep.cur, n.ep.vote, n.ep.conf, Av, k, cv, n.tab⟩) ?_ ?_ ?_ ?_); (rfl); (with_reducible exact HS5.out); (rfl)) | ((with_reducible refine K.st_store (b := w.heap.size) (s := K.Sv.zero) (u := ⟨n.id, n.ma, n.ep.cur, n.ep.vote, n.ep.conf, Av, k, cv, n.tab⟩) ?_ ?_ ?_ ?_ ?_); (rfl); (rfl); (with_reducible exact HSS.out); (rfl)))
        have kt : Turn w5 (w5.setRow w.heap.size (K.stv ⟨n.id, n.ma, n.ep.cur, n.ep.vote, n.ep.conf, Av, k, cv, n.tab⟩)) (fun i => i = w.heap.size) := turn_row _ _ _ _ rfl
        have ho := Ros.own_turn HW6.out kt (fun i hi e => by have := (HW6.out.lt i hi).1; have := HS1.out.lt; have := HB2.out.size; have := HW23.out; omega)
        obtain ⟨A', c', he, _, _, hk'⟩ := K.own_kn ho
        injection he with he1 he2 he3
        subst he1 he3
        exact bodyPost_ret (K.results_st1 rfl _ _ w.heap.size _ rfl (HSS.out.store _)) rfl ⟨K.C.below_row HB6.out (Nat.le_refl _) _, Av, k, cv, rfl, hk', by have := HLL.out; omega, fun ad e => by
          have h1 := (HW6.out.lt ad.block (by rw [e]; rfl)).1
          have := HB6.out.size; have := HW23.out; have := HB2.out.size; have := HB1.out.size; omega⟩
end Go.Proofs.YteoodompphhkbaaGreatDoor.Nod
