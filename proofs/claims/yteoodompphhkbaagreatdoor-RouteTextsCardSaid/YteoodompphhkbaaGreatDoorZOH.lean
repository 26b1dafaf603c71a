/-
  WHAT IS PROVED: the contract of a node's start. Conditions: the object is a disk of fewer than 1000 files; the library's variables hold what is laid there.
-/
import Derived.Test.YteoodompphhkbaaGreatDoorZOG
namespace Go.Proofs.YteoodompphhkbaaGreatDoor.Nod
set_option maxRecDepth 100000
open Go.RowKit Go.Lib Go.Maps
open Go.Proofs.YteoodompphhkbaaGreatDoor.Ros (Turn Sub Rd Blk no zints)
open Go.Proofs.YteoodompphhkbaaGreatDoor.K (KnAt Kn Sv stv StAt mkS)

/-- a state's numbers that a node asks of it -/
def fitD (t : K.Dt) : Prop := (0 ≤ t.m ∧ t.m ≤ 4294967296) ∧ Epo.okB ⟨t.c, t.v, t.f⟩ = true ∧ K.C.okB t.t = true
theorem fit_ok {t : K.Dt} (h : K.okD t = true) : fitD t := by
  unfold K.okD K.okS at h
  simp only [Bool.and_eq_true] at h
  obtain ⟨⟨⟨⟨_, h2⟩, h3⟩, _⟩, h5⟩ := h
  refine ⟨?_, ?_, ?_⟩
  · unfold K.folB at h2
    simp only [Bool.or_eq_true, Bool.and_eq_true, beq_iff_eq, K.C.bet_iff] at h2
    have e : (mkS t none t.l.length 0).m = t.m := rfl
    rw [e] at h2
    rcases h2 with h | ⟨h, _⟩ <;> omega
  · unfold K.epsB at h3
    simp only [Bool.and_eq_true, K.C.bet_iff] at h3
    obtain ⟨⟨a, b⟩, c⟩ := h3
    have a' : 0 ≤ t.c ∧ t.c ≤ 281474976710656 := a
    have b' : 0 ≤ t.v ∧ t.v ≤ t.c := b
    have c' : 0 ≤ t.f ∧ t.f ≤ t.c := c
    rw [Epo.ok_iff]
    exact ⟨a', b', c'⟩
  · unfold K.rtB at h5
    simp only [Bool.and_eq_true] at h5
    exact h5.1
theorem load_fit {id : Int} {D : K.Dsk.Ds} (h : (loadS id D).1 = 0) : fitD (loadS id D).2.1 ∧ (loadS id D).2.1.i = id := by
  have h0 : fitD (⟨id, 0, 0, 0, 0, [], K.C.Tab.zero⟩ : K.Dt) := ⟨(by decide : (0 : Int) ≤ 0 ∧ (0 : Int) ≤ 4294967296), (by show Epo.okB ⟨0, 0, 0⟩ = true; decide), zero_ok⟩
  unfold loadS at h ⊢
  split
  · next d hd =>
    rw [hd] at h
    simp only at h
    by_cases hi : d.i = id
    · rw [if_pos hi]
      refine ⟨fit_ok ?_, hi⟩
      unfold K.Dsk.loadD at hd
      split at hd
      · simp at hd
      · split at hd
        · next d' hp =>
          simp at hd
          rw [← hd]
          exact (K.parse_sound hp).1
        · simp at hd
    · rw [if_neg hi] at h
      simp at h
  · next e o hno hd =>
    rw [hd] at h
    simp only at h
    split
    · exact ⟨h0, rfl⟩
    · next h52 =>
      exfalso
      rw [if_neg h52] at h
      have h' : e = 0 := h
      unfold K.Dsk.loadD at hd
      split at hd
      · next hr =>
        injection hd with h1 h2
        exact hr (h1.trans h')
      · split at hd
        · next d' hp =>
          injection hd with h1 h2
          exact hno d' h' h2.symm
        · injection hd with h1 h2
          omega
theorem cfg_any (id T : Int) (w : World) : Calls Tryz.prog 19 #[.agg #[.int .i64 id, .int .i64 T]] w fun o w' => o = .returned (.bool (cfgB id T)) ∧ Below w.heap.size w w' := by
  have close : ∀ o : Obj, Below w.heap.size w (w.alloc o) := fun o => (Below.refl _ w).alloc (Nat.le_refl _) o
  by_cases h1 : 1 ≤ id
  · by_cases h2 : id ≤ 4294967296
    · by_cases h3 : 2 ≤ T
      · by_cases h4 : T ≤ 1048576
        · have hb : cfgB id T = true := decide_eq_true ⟨h1, h2, h3, h4⟩
          go_enter Tryz.func19, Tryz.ntmps19
          go_wp2
          go_ret
          first | exact ⟨rfl, close _⟩ | exact ⟨by rw [hb]; rfl, close _⟩
        · have hb : cfgB id T = false := decide_eq_false (by omega)
          go_enter Tryz.func19, Tryz.ntmps19
          go_wp2
          go_ret
          first | exact ⟨rfl, close _⟩ | exact ⟨by rw [hb]; rfl, close _⟩
      · have hb : cfgB id T = false := decide_eq_false (by omega)
        go_enter Tryz.func19, Tryz.ntmps19
        go_wp2
        go_ret
        first | exact ⟨rfl, close _⟩ | exact ⟨by rw [hb]; rfl, close _⟩
    · have hb : cfgB id T = false := decide_eq_false (by omega)
      go_enter Tryz.func19, Tryz.ntmps19
      go_wp2
      go_ret
      first | exact ⟨rfl, close _⟩ | exact ⟨by rw [hb]; rfl, close _⟩
  · have hb : cfgB id T = false := decide_eq_false (by omega)
    go_enter Tryz.func19, Tryz.ntmps19
    go_wp2
    go_ret
    first | exact ⟨rfl, close _⟩ | exact ⟨by rw [hb]; rfl, close _⟩
theorem nd_built (id T now : Int) (d : Nat) : Tryz.prog.built 81 [(0, .agg #[.int .i64 id, .int .i64 T]), (1, .pointer (some ⟨d, 0, none⟩)), (3, .int .i64 now)] = some (ndr (Nd.zero id T now) d (.pointer none) (.pointer none) (.pointer none) (.pointer none) 0) := by kernel_rfl
theorem zero_nd {id T now : Int} (h : cfgB id T = true) (h2 : isNow now = true) : Ok (Nd.zero id T now) := by
  unfold cfgB at h
  unfold isNow at h2
  rw [decide_eq_true_eq] at h h2
  exact ⟨⟨h.1, h.2.1⟩, ⟨h.2.2.1, h.2.2.2⟩, h2, (by decide : (0 : Int) ≤ 0 ∧ (0 : Int) ≤ 4294967296), (by show Epo.okB Epo.Ep.zero = true; decide), (by decide : (0 : Int) ≤ 0 ∧ (0 : Int) ≤ 281474976710656), zero_ok, rfl, (fun r hr => by cases hr), (by decide : (-1 : Int) ≤ -1 ∧ (-1 : Int) ≤ 1099511627776)⟩
theorem conf_info : (Tryz.prog.info? 49).map (·.size) = some 2 := by kernel_rfl
theorem nd_build {ops : Array Oper} {rest : List Oper} {Q : Exit → Act → World → Prop} {a : Act} {w : World} {dst : Option Tmp} {ty : TypeId} {pos : String} {after : Array Edge} {gd : Option (Nat × Bool)} {x y z : Operand} {id T now : Int} {d : Nat}
    (hx : a.eval x = .agg #[.int .i64 id, .int .i64 T]) (hy : a.eval y = .pointer (some ⟨d, 0, none⟩)) (hz : a.eval z = .int .i64 now) (hw : Region.wanted ⟨dst, .build 81 #[(0, x), (1, y), (3, z)], ty, pos, after, gd⟩ (yielded ops a.tmps) = true)
    (h : wpList Tryz.prog ops Q rest (a.put dst (.agg (ndr (Nd.zero id T now) d (.pointer none) (.pointer none) (.pointer none) (.pointer none) 0))) w) : wpList Tryz.prog ops Q (⟨dst, .build 81 #[(0, x), (1, y), (3, z)], ty, pos, after, gd⟩ :: rest) a w :=
  K.C.at_want hw fun _ hK => by
    have hk := hK _ _ h
    have e : ((#[(0, x), (1, y), (3, z)] : Array (Nat × Operand)).map fun (j, y) => (j, a.eval y)).toList = [(0, .agg #[.int .i64 id, .int .i64 T]), (1, .pointer (some ⟨d, 0, none⟩)), (3, .int .i64 now)] := by simp [hx, hy, hz]
    refine wp_build 81 #[(0, x), (1, y), (3, z)] rfl ?_ ?_
    · rw [e, nd_built]; rfl
    · rw [e, nd_built]; exact hk
/-- what a start comes to -/
def StartP (w : World) (C d e : Nat) (U : Nat → Prop) (r : Int × Option Nd × K.Dsk.Ds) (o : Ending) (w' : World) : Prop :=
  EnvC C w' ∧ Turn w w' (K.Dsk.FD d e) ∧
  ((r.2.1 = none ∧ r.1 ≠ 0 ∧ o = .returned (.tuple #[.pointer none, .int .i64 r.1]) ∧ K.Dsk.Dk w' d e U r.2.2) ∨
   (∃ n g F, r.2.1 = some n ∧ r.1 = 0 ∧ o = .returned (.tuple #[.pointer (some ⟨g, 0, none⟩), .int .i64 0]) ∧ NdAt w' C g F d n ∧ (∀ i, F i → w.heap.size ≤ i) ∧ K.Dsk.Dk w' d e (fun i => U i ∨ F i) r.2.2))

set_option maxHeartbeats 4000000 in
theorem start_any (C d e : Nat) (U : Nat → Prop) (id T now : Int) (D : K.Dsk.Ds) (w : World) (h : K.Dsk.Dk w d e U D) (hE : EnvC C w) (hC : C ≤ w.heap.size) (hd : C ≤ d ∧ C ≤ e) (hl : D.fs.length < 1000) :
    Calls Tryz.prog 11 #[.agg #[.int .i64 id, .int .i64 T], .pointer (some ⟨d, 0, none⟩), .int .i64 now] w (StartP w C d e U (startW id T D now)) := by
  obtain ⟨w1, hw1⟩ : ∃ w1, w.alloc (.cells #[.int .i64 id, .int .i64 T] 49) = w1 := ⟨_, rfl⟩
  have hb1 : Below w.heap.size w w1 := by rw [← hw1]; exact (Below.refl _ w).alloc (Nat.le_refl _) _
  have HB1 := Lib.hid hb1
  have HC1 : Hid (Blk w1 w.heap.size 49 #[.int .i64 id, .int .i64 T]) := Lib.hid (by rw [← hw1]; exact Blk.new w _ _)
  have HD1 := Lib.hid (h.below hb1)
  have HE1 := Lib.hid (hE.later hb1 hC)
  have HDT := Lib.hid h.lt
  have HL := Lib.hid hl
  have HCL := Lib.hid hC
  have HDL := Lib.hid hd
  obtain ⟨b1, Q1⟩ : ∃ b, Hid (cfgB id T = b) := ⟨_, Lib.hid rfl⟩
  obtain ⟨b2, Q2⟩ : ∃ b, Hid (isNow now = b) := ⟨_, Lib.hid rfl⟩
  have x0 : w1.cell? ⟨w.heap.size, 0, none⟩ = some (.int .i64 id) := HC1.out.cell 0
  have x1 : w1.cell? ⟨w.heap.size, 1, none⟩ = some (.int .i64 T) := HC1.out.cell 1
  clear h hE hC hb1 hl hd
  go_enter Tryz.func11, Tryz.ntmps11
  go_upto_region 1 with (fail)
  clear hw1
  go_wp2_with (fail)
  refine (cfg_any id T _).mono ?_
  rintro o w2 ⟨rfl, hb⟩
  rw [Q1.out]
  have HB2 := Lib.hid (HB1.out.trans (hb.mono HB1.out.size))
  have HC2 := Lib.hid (HC1.out.below hb HC1.out.lt)
  have HD2 := Lib.hid (HD1.out.below hb)
  have HE2 := Lib.hid (HE1.out.later hb (Nat.le_trans HCL.out HB1.out.size))
  have y0 := HC2.out.cell 0
  have y1 := HC2.out.cell 1
  simp at y0 y1
  clear hb x0 x1 HC1 HD1 HE1
  cases b1
  · have HX : Hid (startW id T D now = (10, none, D)) := Lib.hid (by unfold startW; rw [Q1.out]; rfl)
    go_wp2
    go_ret2
    refine ⟨HE2.out, Turn.of_below HB2.out _, .inl ⟨by rw [HX.out], by rw [HX.out]; exact (by decide : (10 : Int) ≠ 0), by rw [HX.out]; rfl, by rw [HX.out]; exact HD2.out⟩⟩
  · go_wp2_with (fail)
    refine (isnow_any now _).mono ?_
    rintro o w3 ⟨rfl, rfl⟩
    rw [Q2.out]
    cases b2
    · have HX : Hid (startW id T D now = (10, none, D)) := Lib.hid (by unfold startW; rw [Q1.out, Q2.out]; rfl)
      go_wp2
      go_ret2
      refine ⟨HE2.out, Turn.of_below HB2.out _, .inl ⟨by rw [HX.out], by rw [HX.out]; exact (by decide : (10 : Int) ≠ 0), by rw [HX.out]; rfl, by rw [HX.out]; exact HD2.out⟩⟩
    · go_wp2_with (fail)
      refine (stateof_any C d e U id D _ HD2.out HE2.out (Nat.le_trans HCL.out HB2.out.size) HL.out).mono ?_
      rintro o w3 ⟨A, k, c, rfl, hkn, hk6, hd3, ht3, hlow⟩
      obtain ⟨⟨f, dt, D3⟩, HR⟩ : ∃ r, Hid (loadS id D = r) := ⟨_, Lib.hid rfl⟩
      rw [HR.out] at hkn hd3 hlow ⊢
      simp only at hkn hd3 hlow ⊢
      obtain ⟨s, HSS⟩ : ∃ s, Hid (mkS dt A k c = s) := ⟨_, Lib.hid rfl⟩
      rw [HSS.out]
      have hbA := (Below.refl _ w3).alloc (Nat.le_refl _) (.cells (stv s) 73)
      have HST : Hid (StAt (w3.alloc (.cells (stv s) 73)) w3.heap.size s) := Lib.hid (StAt.new w3 _)
      have HKN := Lib.hid (hkn.below hbA)
      have HD4 := Lib.hid (hd3.below hbA)
      have HLO := Lib.hid hlow
      have hfd : ∀ i, K.Dsk.FD d e i → C ≤ i := fun i hi => by rcases hi with rfl | rfl; exact HDL.out.1; exact HDL.out.2
      have HE4 := Lib.hid ((HE2.out.turn ht3 hfd (Nat.le_trans HCL.out HB2.out.size)).later hbA (Nat.le_trans HCL.out (Nat.le_trans HB2.out.size ht3.size)))
      have HC4 := Lib.hid ((HC2.out.turn ht3 (fun f => by rcases f with f | f; have := HDT.out.1; omega; have := HDT.out.2; omega)).below hbA (Nat.lt_of_lt_of_le HC2.out.lt ht3.size))
      have HT4 : Hid (Turn w (w3.alloc (.cells (stv s) 73)) (K.Dsk.FD d e)) := Lib.hid (((Turn.of_below HB2.out _).trans ht3 (Sub.refl _ _)).then_ hbA)
      have HZ23 := Lib.hid ht3.size
      have HKL : Hid (0 < k → ∀ ad, A = some ad → ad.block < w3.heap.size) := Lib.hid (fun hk ad e => by obtain ⟨ad2, e2, h2, _⟩ := hkn.2 hk; rw [e] at e2; injection e2 with e2; rw [e2]; exact h2)
      clear hkn hd3 hlow ht3 hbA HD2 HE2 HC2 y0 y1 hfd
      by_cases h0 : f = 0
      · subst h0
        have hfit := load_fit (id := id) (D := D) (by rw [HR.out])
        rw [HR.out] at hfit
        obtain ⟨⟨hm, he, ht⟩, _⟩ := hfit
        have HM := Lib.hid hm
        have HEE := Lib.hid he
        have HTT := Lib.hid ht
        have HX : Hid (startW id T D now = (0, some ((Nd.zero id T now).restore dt), D3)) := Lib.hid (by unfold startW; rw [Q1.out, Q2.out]; simp only [HR.out]; rfl)
        clear hm he ht
        go_wp2_with (first | ((with_reducible refine K.st_alloc ?_ ?_); (rfl)) | ((with_reducible refine K.st_store_new (u := s) ?_ ?_ ?_ ?_); (rfl); (rfl); (rfl)) | (refine row_load rfl HC4.out Tryz.underlying49 rfl conf_info rfl ?_) | ((with_reducible refine nd_build (id := id) (T := T) (now := now) (d := d) ?_ ?_ ?_ ?_ ?_); (rfl); (rfl); (rfl); (rfl)))
        obtain ⟨w4, hw4⟩ : ∃ w4, w3.alloc (.cells (stv s) 73) = w4 := ⟨_, rfl⟩
        have hs4 : w4.heap.size = w3.heap.size + 1 := by rw [← hw4]; simp
        rw [hw4] at HST HKN HD4 HE4 HC4 HT4 ⊢
        rw [← hs4]
        obtain ⟨w5, hw5⟩ : ∃ w5, w4.alloc (.cells (ndr (Nd.zero id T now) d (.pointer none) (.pointer none) (.pointer none) (.pointer none) 0) 81) = w5 := ⟨_, rfl⟩
        have hB5 : Blk w5 w4.heap.size 81 (ndr (Nd.zero id T now) d (.pointer none) (.pointer none) (.pointer none) (.pointer none) 0) := by rw [← hw5]; exact Blk.new w4 _ _
        have hb45 : Below w4.heap.size w4 w5 := by rw [← hw5]; exact (Below.refl _ _).alloc (Nat.le_refl _) _
        have hs5 : w4.heap.size < w5.heap.size := hB5.lt
        have hcw : C ≤ w4.heap.size := Nat.le_trans HCL.out HT4.out.size
        rw [hw5]
        have HS4 := Lib.hid hs4
        have HS5 := Lib.hid hs5
        have HCW := Lib.hid hcw
        have HB45 := Lib.hid hb45
        have HCLR := Lib.hid (clear_any C w4.heap.size d (Nd.zero id T now) (.pointer none) (.pointer none) (.pointer none) (.pointer none) 0 w5 hB5 hcw (zero_nd Q1.out Q2.out))
        clear hw4 hw5 hs4 hs5 hcw hb45 hB5
        refine HCLR.out.mono ?_
        rintro o w6 ⟨rfl, F6, hN6, t6, hF6⟩
        have hN6' : NdAt w6 C w4.heap.size F6 d (Nd.zero id T now) := hN6
        have hb46 : Below w4.heap.size w4 w6 := HB45.out.trans (t6.below (fun i hi => by omega) (Nat.le_of_lt HS5.out))
        have hf6 : ∀ i, F6 i → w4.heap.size ≤ i := fun i hi => by have := HS5.out; rcases hF6 i hi with h | h <;> omega
        have HN6 := Lib.hid hN6'
        have HF6 := Lib.hid hf6
        have HB46 := Lib.hid hb46
        have HST6 := Lib.hid (HST.out.later hb46)
        have HKN6 := Lib.hid (HKN.out.below hb46)
        have HE6 := Lib.hid (HE4.out.later hb46 HCW.out)
        have HT6 := Lib.hid (HT4.out.then_ hb46)
        have HD6 : Hid (K.Dsk.Dk w6 d e (fun i => U i ∨ F6 i) D3) := Lib.hid (Dk_turn HD4.out (Turn.of_below hb46 U) (fun i hi f => by
          rcases f with f | f
          · exact f
          · have := hf6 i f; omega) (fun i hi => by
          rcases hi with hi | hi
          · exact Nat.lt_of_lt_of_le (HD4.out.ult i hi) hb46.size
          · exact hN6'.lt i hi))
        have HRS := Lib.hid (restore_any C w4.heap.size d F6 (Nd.zero id T now) dt A k c w6 hN6' HM.out HEE.out HTT.out HKN6.out hk6 (fun hk ad e f => by have h1 := hf6 _ f; have h2 := HKL.out hk ad e; have h3 := HS4.out; omega))
        rw [HSS.out] at HRS
        clear hN6 hN6' t6 hF6 hf6 hb46 HCLR HST HKN HE4 HT4 HD4 HC4
        go_wp2_with (first | ((with_reducible refine K.st_load (b := w3.heap.size) (s := s) ?_ ?_ ?_ ?_); (rfl); (with_reducible exact HST6.out); (rfl)))
        refine HRS.out.mono ?_
        rintro o w7 ⟨rfl, F7, hN7, t7, s7⟩
        have HN7 := Lib.hid hN7
        have T7 := Lib.hid t7
        have S7 := Lib.hid s7
        have HWW : Hid (w.heap.size ≤ w4.heap.size) := Lib.hid (Nat.le_trans (Nat.le_trans HB2.out.size HZ23.out) (by have := HS4.out; omega))
        clear hN7 t7 s7 HRS
        go_wp2
        go_ret2
        refine ⟨HE6.out.turn T7.out HN6.out.lo HN6.out.cle, HT6.out.trans T7.out (fun i hi f => by have h1 := HF6.out i f; have h2 := HWW.out; omega), .inr ⟨_, w4.heap.size, F7, by rw [HX.out], by rw [HX.out], rfl, HN7.out, fun i hi => ?_, ?_⟩⟩
        · rcases Nat.lt_or_ge i w6.heap.size with h | h
          · have h1 := HF6.out i (S7.out i h hi); have h2 := HWW.out; omega
          · have h1 := HB46.out.size; have h2 := HWW.out; omega
        · rw [HX.out]
          exact Dk_turn HD6.out (T7.out.wide (fun i hi => .inr hi)) (fun i hi f => by
            rcases f with f | f
            · exact .inl f
            · exact .inr (S7.out i hi f)) (fun i hi => by
            rcases hi with hi | hi
            · exact Nat.lt_of_lt_of_le (HD6.out.ult i (.inl hi)) T7.out.size
            · exact HN7.out.lt i hi)
      · have hq : (f != 0) = true := by simpa using h0
        have HX : Hid (startW id T D now = (f, none, D3)) := Lib.hid (by unfold startW; rw [Q1.out, Q2.out]; simp only [HR.out]; rw [if_neg (by decide), if_pos h0])
        have H0 := Lib.hid h0
        clear h0
        go_wp2_with (first | ((with_reducible refine K.st_alloc ?_ ?_); (rfl)) | ((with_reducible refine K.st_store_new (u := s) ?_ ?_ ?_ ?_); (rfl); (rfl); (rfl)))
        go_ret2
        refine ⟨HE4.out, HT4.out, .inl ⟨by rw [HX.out], by rw [HX.out]; exact H0.out, by rw [HX.out]; rfl, by rw [HX.out]; exact HD4.out⟩⟩
end Go.Proofs.YteoodompphhkbaaGreatDoor.Nod
