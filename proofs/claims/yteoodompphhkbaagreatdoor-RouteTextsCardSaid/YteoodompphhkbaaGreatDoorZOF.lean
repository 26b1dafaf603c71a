/-
  WHAT IS PROVED: the contract of what gives a node a state that was kept. Conditions: the object is a node; the state's numbers are right; its known ones lie in memory apart from the node.
-/
import Derived.Test.YteoodompphhkbaaGreatDoorZOE
namespace Go.Proofs.YteoodompphhkbaaGreatDoor.Nod
set_option maxRecDepth 100000
open Go.RowKit Go.Lib Go.Maps
open Go.Proofs.YteoodompphhkbaaGreatDoor.Ros (Turn Sub Rd Blk no zints)
open Go.Proofs.YteoodompphhkbaaGreatDoor.K (KnAt Kn Sv stv StAt mkS)

theorem st_epr {w : World} {b : Nat} {s : Sv} (h : StAt w b s) : w.rangeAt b 2 [.int .i64 s.c, .int .i64 s.v, .int .i64 s.f] := fun j v hv => by
  obtain ⟨_, _, c2, c3, c4, _⟩ := h.box
  match j, hv with
  | 0, hv => exact c2.trans hv
  | 1, hv => exact c3.trans hv
  | 2, hv => exact c4.trans hv
  | j + 3, hv => simp at hv
theorem NdAt.ethere {w : World} {C g d : Nat} {F : Nat → Prop} {n : Nd} (h : NdAt w C g F d n) : w.there g 6 3 := fun j hj => by
  obtain ⟨_, _, _, _, _, _, c6, c7, c8, _⟩ := h.cells
  refine ⟨?_, h.fz _⟩
  match j, hj with
  | 0, _ => rw [show 6 + 0 = 6 from rfl, c6]; rfl
  | 1, _ => rw [show 6 + 1 = 7 from rfl, c7]; rfl
  | 2, _ => rw [show 6 + 2 = 8 from rfl, c8]; rfl
  | j + 3, h => omega
theorem bring_snoc (n : Nd) {l : List Kn} {k : Nat} {q : Kn} (h : l[k]? = some q) : (l.take (k + 1)).foldl Nd.bring n = ((l.take k).foldl Nd.bring n).bring q := by
  rw [List.take_add_one, h, List.foldl_append]
  rfl

set_option maxHeartbeats 4000000 in
theorem restore_any (C g d : Nat) (F : Nat → Prop) (n : Nd) (dt : K.Dt) (A : Option Addr) (m c : Nat) (w : World) (h : NdAt w C g F d n) (hm : 0 ≤ dt.m ∧ dt.m ≤ 4294967296) (he : Epo.okB ⟨dt.c, dt.v, dt.f⟩ = true) (ht : K.C.okB dt.t = true)
    (hk : KnAt w A m dt.l) (hM : m ≤ 1000000) (hA : 0 < m → ∀ ad, A = some ad → ¬ F ad.block) :
    Calls Tryz.prog 23 #[.pointer (some ⟨g, 0, none⟩), .agg (stv (mkS dt A m c))] w fun o w' => o = .returned (.tuple #[]) ∧ Then w w' C g F d (n.restore dt) := by
  obtain ⟨s, HSS⟩ : ∃ s, Hid (mkS dt A m c = s) := ⟨_, Lib.hid rfl⟩
  obtain ⟨w1, hw1⟩ : ∃ w1, w.alloc (.cells (stv s) 73) = w1 := ⟨_, rfl⟩
  have hb1 : Below w.heap.size w w1 := by rw [← hw1]; exact (Below.refl _ w).alloc (Nat.le_refl _) _
  have HB1 := Lib.hid hb1
  have HS1 : Hid (StAt w1 w.heap.size s) := Lib.hid (by rw [← hw1]; exact StAt.new w _)
  have HN1 := Lib.hid (h.below hb1)
  have HK1 := Lib.hid (hk.below hb1)
  have HML := Lib.hid hk.1
  have HAF := Lib.hid hA
  have HFL := Lib.hid h.lt
  have HGL : Hid (g < w.heap.size) := Lib.hid h.glt
  obtain ⟨_, _, _, _, _, c5, _⟩ := (h.below hb1).cells
  have F5 := Lib.hid c5
  have Z5 : Hid (w1.frozen? ⟨g, 5, none⟩ = false) := Lib.hid ((h.below hb1).fz 5)
  have HSM : Hid (s.m = dt.m ∧ s.c = dt.c ∧ s.v = dt.v ∧ s.f = dt.f ∧ s.t = dt.t ∧ s.a = A ∧ s.n = m ∧ s.cap = c) := Lib.hid (by rw [← HSS.out]; exact ⟨rfl, rfl, rfl, rfl, rfl, rfl, rfl, rfl⟩)
  have HO5 : Hid (Ok { n with ma := dt.m }) := Lib.hid { h.ok with ma := hm }
  have HEE := Lib.hid he
  have HTT := Lib.hid ht
  rw [HSS.out]
  clear h hb1 hk hA hm he ht c5
  go_enter Tryz.func23, Tryz.ntmps23
  go_upto_region 1 with (fail)
  clear hw1
  go_cut [] from 6 to 20 (fun wx => NdAt wx C g F d { n with ma := dt.m, ep := ⟨dt.c, dt.v, dt.f⟩, tab := dt.t } ∧ StAt wx w.heap.size s ∧ Turn w1 wx F)
  case first =>
    refine wp_region_held_drew (S := fun w' => StAt w' w.heap.size s) (by kernel_rfl) HS1.out.drew (fun hHeld => ?_)
    refine wpAnyH_take (i := 0) (oi := ⟨some 6, _, _, _, _, _⟩) (v := .pointer (some ⟨g, 0, none⟩)) rfl (by kernel_rfl) (by kernel_rfl) (by kernel_rfl) (fun _ _ _ h => h) (Or.inl ⟨by rfl, ?_⟩) (by assumption) ?_
    · (intro w' _; skip; go_simp)
    try simp only [Act.put, List.setIfInBounds_toArray, List.set_cons_zero, List.set_cons_succ]
    refine wpAnyH_take (i := 1) (oi := ⟨some 7, _, _, _, _, _⟩) (v := .pointer (some ⟨g, 0, none⟩)) rfl (by kernel_rfl) (by kernel_rfl) (by kernel_rfl) (fun _ _ _ h => h) (Or.inl ⟨by rfl, ?_⟩) (by assumption) ?_
    · (intro w' _; skip; go_simp)
    try simp only [Act.put, List.setIfInBounds_toArray, List.set_cons_zero, List.set_cons_succ]
    refine wpAnyH_take (i := 2) (oi := ⟨some 8, _, _, _, _, _⟩) (v := .pointer (some ⟨g, 0, none⟩)) rfl (by kernel_rfl) (by kernel_rfl) (by kernel_rfl) (fun _ _ _ h => h) (Or.inl ⟨by rfl, ?_⟩) (by assumption) ?_
    · (intro w' _; skip; go_simp)
    try simp only [Act.put, List.setIfInBounds_toArray, List.set_cons_zero, List.set_cons_succ]
    refine wpAnyH_take (i := 3) (oi := ⟨some 9, _, _, _, _, _⟩) (v := .pointer (some ⟨w.heap.size, 1, none⟩)) rfl (by kernel_rfl) (by kernel_rfl) (by kernel_rfl) (fun _ _ _ h => h) (Or.inl ⟨by rfl, ?_⟩) (by assumption) ?_
    · (intro w' _; skip; go_simp)
    try simp only [Act.put, List.setIfInBounds_toArray, List.set_cons_zero, List.set_cons_succ]
    refine wpAnyH_take (i := 4) (oi := ⟨some 10, _, _, _, _, _⟩) (v := .int .i64 s.m) rfl (by kernel_rfl) (by kernel_rfl) (by kernel_rfl) (fun _ _ _ h => h) (Or.inl ⟨by rfl, ?_⟩) (by assumption) ?_
    · (intro w' hw'; have hc := hw'.box.2.1; clear hw'; go_simp)
    try simp only [Act.put, List.setIfInBounds_toArray, List.set_cons_zero, List.set_cons_succ]
    refine wpAnyH_take (i := 5) (oi := ⟨some 11, _, _, _, _, _⟩) (v := .pointer (some ⟨w.heap.size, 2, none⟩)) rfl (by kernel_rfl) (by kernel_rfl) (by kernel_rfl) (fun _ _ _ h => h) (Or.inl ⟨by rfl, ?_⟩) (by assumption) ?_
    · (intro w' _; skip; go_simp)
    try simp only [Act.put, List.setIfInBounds_toArray, List.set_cons_zero, List.set_cons_succ]
    refine wpAnyH_take (i := 6) (oi := ⟨some 12, _, _, _, _, _⟩) (v := .agg #[.int .i64 s.c, .int .i64 s.v, .int .i64 s.f]) rfl (by kernel_rfl) (by kernel_rfl) (by kernel_rfl) (fun _ _ _ h => h) (yields_mid (T := 67) rfl (fun w' hw' => st_epr hw') Tryz.underlying67 rfl ep_info) (by assumption) ?_
    try simp only [Act.put, List.setIfInBounds_toArray, List.set_cons_zero, List.set_cons_succ]
    refine wpAnyH_take (i := 7) (oi := ⟨some 13, _, _, _, _, _⟩) (v := .pointer (some ⟨w.heap.size, 6, none⟩)) rfl (by kernel_rfl) (by kernel_rfl) (by kernel_rfl) (fun _ _ _ h => h) (Or.inl ⟨by rfl, ?_⟩) (by assumption) ?_
    · (intro w' _; skip; go_simp)
    try simp only [Act.put, List.setIfInBounds_toArray, List.set_cons_zero, List.set_cons_succ]
    refine wpAnyH_take (i := 8) (oi := ⟨some 14, _, _, _, _, _⟩) (v := .agg (K.C.tb s.t)) rfl (by kernel_rfl) (by kernel_rfl) (by kernel_rfl) (fun _ _ _ h => h) (yields_mid (T := 71) (cs := K.tbL s.t) rfl (fun w' hw' => K.StAt.range hw') Tryz.underlying71 rfl (K.tab_list s.t)) (by assumption) ?_
    try simp only [Act.put, List.setIfInBounds_toArray, List.set_cons_zero, List.set_cons_succ]
    refine wpAnyH_take (i := 9) (oi := ⟨some 15, _, _, _, _, _⟩) (v := .pointer (some ⟨g, 0, none⟩)) rfl (by kernel_rfl) (by kernel_rfl) (by kernel_rfl) (fun _ _ _ h => h) (Or.inl ⟨by rfl, ?_⟩) (by assumption) ?_
    · (intro w' _; skip; go_simp)
    try simp only [Act.put, List.setIfInBounds_toArray, List.set_cons_zero, List.set_cons_succ]
    refine wpAnyH_take (i := 10) (oi := ⟨some 16, _, _, _, _, _⟩) (v := .pointer (some ⟨g, 5, none⟩)) rfl (by kernel_rfl) (by kernel_rfl) (by kernel_rfl) (fun _ _ _ h => h) (Or.inl ⟨by rfl, ?_⟩) (by assumption) ?_
    · (intro w' _; skip; go_simp)
    try simp only [Act.put, List.setIfInBounds_toArray, List.set_cons_zero, List.set_cons_succ]
    have hN0 := HN1.out.drew
    have hG : w.heap.size ≠ g := by have := HGL.out; omega
    have q5 := hN0.cells.2.2.2.2.2.1
    have z5 := hN0.fz 5
    refine wpAnyH_ready (rs := [11]) (by kernel_rfl) (by simp) ?_
    refine AllReadyH.cons (o := ⟨none, _, _, _, _, _⟩) rfl (fun KK hK => ?_) AllReadyH.nil
    rw [if_pos (by rfl)]
    go_simp
    refine hK.out _ _ (K.StAt.far hHeld hG _) (fun hHeld => ?_)
    clear hK KK q5 z5
    try simp only [Act.put]
    have hN1 : NdAt ((w1.setCell ⟨g, 5, none⟩ (.int .i64 s.m)).drew) C g F d { n with ma := dt.m } := by
      rw [HSM.out.1]
      exact NdAt.drew (HN1.out.put (k := 5) (u := .int .i64 dt.m) HO5.out (by omega) rfl rfl rfl rfl rfl rfl rfl rfl)
    have kt1 : Turn w1 ((w1.setCell ⟨g, 5, none⟩ (.int .i64 s.m)).drew) F := (turn_set w1 ⟨g, 5, none⟩ _ F HN1.out.fg).then_ ((Below.refl _ _).drew)
    generalize (w1.setCell ⟨g, 5, none⟩ (.int .i64 s.m)).drew = W1 at *
    refine wpAnyH_take (i := 12) (oi := ⟨some 17, _, _, _, _, _⟩) (v := .pointer (some ⟨g, 0, none⟩)) rfl (by kernel_rfl) (by kernel_rfl) (by kernel_rfl) (fun _ _ _ h => h) (Or.inl ⟨by rfl, ?_⟩) (by assumption) ?_
    · (intro w' _; skip; go_simp)
    try simp only [Act.put, List.setIfInBounds_toArray, List.set_cons_zero, List.set_cons_succ]
    refine wpAnyH_take (i := 13) (oi := ⟨some 18, _, _, _, _, _⟩) (v := .pointer (some ⟨g, 6, none⟩)) rfl (by kernel_rfl) (by kernel_rfl) (by kernel_rfl) (fun _ _ _ h => h) (Or.inl ⟨by rfl, ?_⟩) (by assumption) ?_
    · (intro w' _; skip; go_simp)
    try simp only [Act.put, List.setIfInBounds_toArray, List.set_cons_zero, List.set_cons_succ]
    refine wpAnyH_ready (rs := [14]) (by kernel_rfl) (by simp) ?_
    refine AllReadyH.cons (o := ⟨none, _, _, _, _, _⟩) rfl (fun KK hK => ?_) AllReadyH.nil
    rw [if_pos (by rfl)]
    refine wp_store_mid 67 (.tmp 18) (.tmp 12) rfl g 6 #[.int .i64 s.c, .int .i64 s.v, .int .i64 s.f] rfl rfl hN1.ethere ep_info (by simp [Value.oneCell']) ?_
    refine hK.out _ _ (K.StAt.cells_far hHeld hG _ _) (fun hHeld => ?_)
    clear hK KK
    try simp only [Act.put]
    have hN2 : NdAt (W1.setCells g 6 [.int .i64 s.c, .int .i64 s.v, .int .i64 s.f]) C g F d { n with ma := dt.m, ep := ⟨dt.c, dt.v, dt.f⟩ } := by
      rw [HSM.out.2.1, HSM.out.2.2.1, HSM.out.2.2.2.1]
      exact hN1.putEp (e := ⟨dt.c, dt.v, dt.f⟩) HEE.out
    have kt2 : Turn w1 (W1.setCells g 6 [.int .i64 s.c, .int .i64 s.v, .int .i64 s.f]) F := kt1.trans (turn_setCells W1 g 6 _ F HN1.out.fg) (Sub.refl _ _)
    generalize W1.setCells g 6 [.int .i64 s.c, .int .i64 s.v, .int .i64 s.f] = W2 at *
    refine wpAnyH_take (i := 15) (oi := ⟨some 19, _, _, _, _, _⟩) (v := .pointer (some ⟨g, 0, none⟩)) rfl (by kernel_rfl) (by kernel_rfl) (by kernel_rfl) (fun _ _ _ h => h) (Or.inl ⟨by rfl, ?_⟩) (by assumption) ?_
    · (intro w' _; skip; go_simp)
    try simp only [Act.put, List.setIfInBounds_toArray, List.set_cons_zero, List.set_cons_succ]
    refine wpAnyH_take (i := 16) (oi := ⟨some 20, _, _, _, _, _⟩) (v := .pointer (some ⟨g, 10, none⟩)) rfl (by kernel_rfl) (by kernel_rfl) (by kernel_rfl) (fun _ _ _ h => h) (Or.inl ⟨by rfl, ?_⟩) (by assumption) ?_
    · (intro w' _; skip; go_simp)
    try simp only [Act.put, List.setIfInBounds_toArray, List.set_cons_zero, List.set_cons_succ]
    refine wpAnyH_ready (rs := [17]) (by kernel_rfl) (by simp) ?_
    refine AllReadyH.cons (o := ⟨none, _, _, _, _, _⟩) rfl (fun KK hK => ?_) AllReadyH.nil
    rw [if_pos (by rfl)]
    refine wp_store_mid 71 (.tmp 20) (.tmp 14) rfl g 10 (K.C.tb s.t) rfl rfl (by rw [K.C.tb_size]; exact hN2.there) (K.C.tab_size s.t) (K.C.tb_cells s.t) ?_
    refine hK.out _ _ (K.StAt.cells_far hHeld hG _ _) (fun hHeld => ?_)
    clear hK KK
    simp only [Act.put]
    refine wpAnyH_done (by kernel_rfl) ?_ _
    apply_assumption
    go_meet
    refine ⟨?_, hHeld, kt2.trans (turn_setCells W2 g 10 _ F HN1.out.fg) (Sub.refl _ _)⟩
    rw [HSM.out.2.2.2.2.1]
    exact hN2.putTab dt.t HTT.out

  case rest =>
    obtain ⟨hN, hS, hT⟩ := hcut
    obtain ⟨n2, HN2E⟩ : ∃ n2 : Nd, Hid (({ n with ma := dt.m, ep := ⟨dt.c, dt.v, dt.f⟩, tab := dt.t } : Nd) = n2) := ⟨_, Lib.hid rfl⟩
    rw [HN2E.out] at hN
    have HX : Hid (n.restore dt = dt.l.foldl Nd.bring n2) := Lib.hid (by rw [← HN2E.out]; rfl)
    have HN2 := Lib.hid hN
    have HK2 := Lib.hid (KnAt_turn HK1.out hT HAF.out)
    have T2 := Lib.hid ((Turn.of_below HB1.out F).trans hT (Sub.refl _ _))
    have c5 : wc.cell? ⟨w.heap.size, 5, none⟩ = some (.slice A m c) := by
      have := hS.box.2.2.2.2.2
      rw [HSM.out.2.2.2.2.2.1, HSM.out.2.2.2.2.2.2.1, HSM.out.2.2.2.2.2.2.2] at this
      exact this
    have HAL : Hid (0 < m → ∀ ad, A = some ad → ad.block < wc.heap.size) := Lib.hid (fun hm ad e => by obtain ⟨ad2, e2, h2, _⟩ := HK2.out.2 hm; rw [e] at e2; injection e2 with e2; rw [e2]; exact h2)
    generalize wc = w2 at *
    clear hN hS hT HK1 HN1 HS1 F5 Z5 HO5 HB1
    go_wp2
    go_loopw [5, 24] (fun _ i wr => ∃ (k : Nat) (G : Nat → Prop), k ≤ m ∧ i = .int .i64 k ∧ NdAt wr C g G d ((dt.l.take k).foldl Nd.bring n2) ∧ Turn w2 wr F ∧ Sub w2 F G) (fun _ i _ => m - (intOf i).toNat)
    case atStart => exact ⟨0, F, by omega, rfl, HN2.out, Turn.refl _ _, Sub.refl _ _⟩
    case round =>
      obtain ⟨w3, rfl⟩ : ∃ w3, w3 = wr := ⟨_, rfl⟩
      obtain ⟨k, G, hk, rfl, hN, hT, hs⟩ := hrel
      obtain ⟨x, HXX⟩ : ∃ x, Hid ((dt.l.take k).foldl Nd.bring n2 = x) := ⟨_, Lib.hid rfl⟩
      rw [HXX.out] at hN
      have HN3 := Lib.hid hN
      have T3 := Lib.hid hT
      have S3 := Lib.hid hs
      clear hN hT hs
      by_cases hlt : k < m
      · obtain ⟨ad, ⟨qi, qm, qc⟩, rfl, hqk, hltx, d0, d1, d2⟩ := (KnAt_turn HK2.out T3.out HAF.out).at_ hlt
        simp only at d0 d1 d2
        have t1 : (k : Int) < (m : Int) := by omega
        have t2 : (0 : Int) ≤ (k : Int) := by omega
        have HSN := Lib.hid (bring_snoc n2 hqk)
        rw [HXX.out] at HSN
        have hbA : Below w3.heap.size w3 (w3.alloc (.cells #[.int .i64 qi, .int .i64 qm, .int .i64 qc] 111)) := (Below.refl _ w3).alloc (Nat.le_refl _) _
        have HBA := Lib.hid hbA
        have HN4 := Lib.hid (HN3.out.below hbA)
        have HBX4 : Hid (Blk (w3.alloc (.cells #[.int .i64 qi, .int .i64 qm, .int .i64 qc] 111)) w3.heap.size 111 #[.int .i64 qi, .int .i64 qm, .int .i64 qc]) := Lib.hid (Blk.new w3 _ _)
        clear hbA hqk
        go_wp2_with (fail)
        refine (admit_any C g d G x _ HN4.out qi).mono ?_
        rintro o w5 ⟨rfl, G5, hN5, t5, s5⟩
        have hbx := HBX4.out.turn t5 (fun f => absurd (HN3.out.lt _ f) (Nat.lt_irrefl _))
        have x0 := hbx.cell 0
        have x1 := hbx.cell 1
        have x2 := hbx.cell 2
        simp at x0 x1 x2
        obtain ⟨r, FR, c138, hR, hth⟩ := hN5.ros
        have C0 : ∀ q : Later w5, q.now.cell? ⟨w3.heap.size, 0, none⟩ = some (.int .i64 qi) := fun q => q.cell x0
        have C1 : ∀ q : Later w5, q.now.cell? ⟨w3.heap.size, 1, none⟩ = some (.int .i64 qm) := fun q => q.cell x1
        have C2 : ∀ q : Later w5, q.now.cell? ⟨w3.heap.size, 2, none⟩ = some (.int .i64 qc) := fun q => q.cell x2
        have C3 : ∀ q : Later w5, q.now.cell? ⟨g, 138, none⟩ = some (.pointer (some ⟨r, 0, none⟩)) := fun q => q.cell c138
        have HR5 := Lib.hid hR
        have HTH := Lib.hid hth
        have HOK := Lib.hid (hN5.ok.setM hR.good.up ⟨qi, qm, qc, 0, -1⟩ (by have := hN5.ok.time; show (-1 : Int) ≤ _; omega))
        have T35 : Hid (Turn w2 w5 F) := Lib.hid ((T3.out.then_ HBA.out).trans t5 (fun i hi f => S3.out i hi f))
        have S35 : Hid (Sub w2 F G5) := Lib.hid (fun i hi f => S3.out i hi (s5 i (Nat.lt_of_lt_of_le hi (Nat.le_trans T3.out.size HBA.out.size)) f))
        clear hN5 t5 s5 hbx x0 x1 x2 c138 hR hth HBX4 HN4 HBA d0 d1 d2
        go_upto_region 6 with (fail)
        refine wp_region_head 11 (by kernel_rfl) (by kernel_rfl) ?_
        simp only [List.take_succ_cons, List.take_zero, List.drop_succ_cons, List.drop_zero]
        repeat (go_big_quiet_step (first | fail))
        refine wpQuiet_nil ?_
        intro _ hw'
        obtain ⟨pq, hw''⟩ := hw'
        subst hw''
        have HB6 := Lib.hid pq.below
        have HR6 := Lib.hid (HR5.out.below pq.below)
        generalize pq.now = w6 at *
        clear C0 C1 C2 C3 HR5
        go_wp2_with (fail)
        refine (Ros.set_any C r FR (x.admit qi).R _ HR6.out ⟨qi, qm, qc, 0, -1⟩).mono ?_
        rintro o w7 ⟨rfl, FR1, hR1, t1', s1'⟩
        obtain ⟨G7, hN7, t7, s7⟩ := HTH.out w6 HB6.out w7 FR1 _ hR1 t1' s1' HOK.out
        have HN7 := Lib.hid hN7
        have T7 := Lib.hid t7
        have S7 := Lib.hid s7
        clear hR1 t1' s1' hN7 t7 s7
        go_wp2
        go_roundw
        case rel => exact ⟨k + 1, G7, by omega, by go_num, by rw [HSN.out]; exact HN7.out, T35.out.trans T7.out S35.out, fun i hi f => S35.out i hi (S7.out i (Nat.lt_of_lt_of_le hi T35.out.size) f)⟩
        case measure => simp [intOf]; omega
      · obtain rfl : k = m := by omega
        have HE : Hid (x = n.restore dt) := Lib.hid (by rw [HX.out, ← HXX.out, List.take_of_length_le (by have := HML.out; omega)])
        go_wp2
        go_end0
        refine ⟨rfl, G, ?_, T2.out.trans T3.out (Sub.refl _ _), fun i hi f => S3.out i (Nat.lt_of_lt_of_le hi T2.out.size) f⟩
        rw [← HE.out]
        exact HN3.out
end Go.Proofs.YteoodompphhkbaaGreatDoor.Nod
