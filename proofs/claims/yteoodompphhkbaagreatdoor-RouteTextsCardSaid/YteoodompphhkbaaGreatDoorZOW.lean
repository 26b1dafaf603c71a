/-
  WHAT IS PROVED: the contract of a node's save. Conditions: the object is a node, on a disk apart from it; the library's variables hold what is laid there.
-/
import Derived.Test.YteoodompphhkbaaGreatDoorZOS
import Derived.Test.YteoodompphhkbaaGreatDoorZOV
import Derived.Test.YteoodompphhkbaaGreatDoorZNF
namespace Go.Proofs.YteoodompphhkbaaGreatDoor.Nod
set_option maxRecDepth 100000
open Go.RowKit Go.Lib Go.Maps
open Go.Proofs.YteoodompphhkbaaGreatDoor.Ros (Turn Sub Rd Blk no zints)
open Go.Proofs.YteoodompphhkbaaGreatDoor.K (KnAt Kn knEq knsEq kns_yes knEq_iff atK at_some triB Sv stv StAt mkS)

theorem map_inj {a b : List Kn} (h : a.map (fun k => (k.i, k.m, k.c)) = b.map fun k => (k.i, k.m, k.c)) : a = b := by
  induction a generalizing b with
  | nil => cases b with
    | nil => rfl
    | cons y b => simp at h
  | cons x a ih => cases b with
    | nil => simp at h
    | cons y b =>
      rw [List.map_cons, List.map_cons, List.cons.injEq] at h
      obtain ⟨x1, x2, x3⟩ := x
      obtain ⟨y1, y2, y3⟩ := y
      have h1 := h.1
      simp only [Prod.mk.injEq] at h1
      obtain ⟨rfl, rfl, rfl⟩ := h1
      rw [ih h.2]
theorem kns_iff {a b : List Kn} {n m : Nat} (hn : a.length = n) (hm : b.length = m) : (((n : Nat) == m) && knsEq a b) = true ↔ a = b := by
  rw [Bool.and_eq_true, beq_iff_eq]
  constructor
  · rintro ⟨h1, h2⟩
    unfold knsEq at h2
    rw [List.all_eq_true] at h2
    refine List.ext_getElem (by omega) fun j hj hj2 => ?_
    have h9 := knEq_iff.1 (h2 j (by simpa using hj))
    rw [at_some (List.getElem?_eq_getElem hj), at_some (List.getElem?_eq_getElem hj2)] at h9
    exact h9
  · rintro rfl
    exact ⟨by omega, kns_yes fun j _ => knEq_iff.2 rfl⟩
theorem sameS_D {a b : K.Dt} {A B : Option Addr} {n m c e : Nat} (hn : a.l.length = n) (hm : b.l.length = m) : sameS (mkS a A n c) (mkS b B m e) a.l b.l = sameD a b := by
  rw [Bool.eq_iff_iff]
  unfold sameS sameD
  show ((a.m == b.m) && (triB a.c a.v a.f b.c b.v b.f && (K.C.sameB a.t b.t && (((n : Nat) == m) && knsEq a.l b.l)))) = true ↔ _
  rw [Bool.and_eq_true, Bool.and_eq_true, Bool.and_eq_true, kns_iff hn hm, K.C.same_iff]
  unfold triB K.C.same
  simp only [Bool.and_eq_true, beq_iff_eq, decide_eq_true_eq, List.all_eq_true, List.mem_range]
  constructor
  · rintro ⟨h1, ⟨h2, h3, h4⟩, h5, h6⟩
    exact ⟨⟨⟨h1, h2, h3, h4⟩, h5⟩, by rw [h6]⟩
  · rintro ⟨⟨⟨h1, h2, h3, h4⟩, h5⟩, h6⟩
    exact ⟨h1, ⟨h2, h3, h4⟩, h5, map_inj h6⟩

/-- a node on its disk -/
structure Sys (w : World) (C g : Nat) (F : Nat → Prop) (d e : Nat) (n : Nd) (D : K.Dsk.Ds) : Prop where
  nd : NdAt w C g F d n
  dk : K.Dsk.Dk w d e F D
  env : EnvC C w
  dlo : C ≤ d ∧ C ≤ e
section
variable {w w' : World} {C g d e : Nat} {F : Nat → Prop} {n : Nd} {D : K.Dsk.Ds}
theorem Sys.below (h : Sys w C g F d e n D) (k : Below w.heap.size w w') : Sys w' C g F d e n D :=
  ⟨h.nd.below k, h.dk.below k, h.env.later k h.nd.cle, h.dlo⟩
theorem of_dskT {G : Nat → Prop} (h : K.Dsk.Turn w w' G) : Turn w w' G := ⟨h.os, h.tape, h.output, h.size, h.block⟩
theorem Sys.fdlo (h : Sys w C g F d e n D) : ∀ i, K.Dsk.FD d e i → C ≤ i := fun i hi => by
  rcases hi with rfl | rfl
  · exact h.dlo.1
  · exact h.dlo.2
theorem Dk_less {U U' : Nat → Prop} (h : K.Dsk.Dk w d e U D) (hs : ∀ i, U' i → U i) : K.Dsk.Dk w d e U' D := Dk_turn h (Turn.refl _ _) (fun i _ f => hs i f) (fun i hi => h.ult i (hs i hi))
/-- the disk alone is changed -/
theorem Sys.did (h : Sys w C g F d e n D) {D' : K.Dsk.Ds} (k : K.Dsk.Did w d e F D' w') : Sys w' C g F d e n D' ∧ Turn w w' (K.Dsk.FD d e) := by
  have kt : Turn w w' (K.Dsk.FD d e) := of_dskT k.2
  refine ⟨⟨h.nd.turn kt (fun i hi f => ?_), k.1, h.env.turn kt h.fdlo h.nd.cle, h.dlo⟩, kt⟩
  rcases f with rfl | rfl
  · exact h.dk.ap.1 hi
  · exact h.dk.ap.2 hi
end

set_option maxHeartbeats 4000000 in
theorem nsave_any (C g d e : Nat) (F : Nat → Prop) (n : Nd) (D : K.Dsk.Ds) (was : K.Dt) (A : Option Addr) (k c : Nat) (w : World) (h : Sys w C g F d e n D) (V : Nat → Prop) (hV : K.Dsk.Dk w d e (fun i => F i ∨ V i) D) (hl : D.fs.length < 1000) (hk : KnAt w A k was.l) (hN : k ≤ 9223372036854775807) :
    Calls Tryz.prog 55 #[.pointer (some ⟨g, 0, none⟩), .agg (stv (mkS was A k c))] w fun o w' => o = .returned (.int .i64 (n.saveE was D).1) ∧ Sys w' C g F d e (n.saved was D) (n.saveE was D).2 ∧ K.Dsk.Dk w' d e (fun i => F i ∨ V i) (n.saveE was D).2 ∧ Turn w w' (fun i => F i ∨ K.Dsk.FD d e i) := by
  obtain ⟨w1, hw1⟩ : ∃ w1, w.alloc (.cells (stv (mkS was A k c)) 73) = w1 := ⟨_, rfl⟩
  have hb1 : Below w.heap.size w w1 := by rw [← hw1]; exact (Below.refl _ w).alloc (Nat.le_refl _) _
  have HB1 := Lib.hid hb1
  have HA1 : Hid (StAt w1 w.heap.size (mkS was A k c)) := Lib.hid (by rw [← hw1]; exact StAt.new w _)
  have H1 := Lib.hid (h.below hb1)
  have HV1 := Lib.hid (hV.below hb1)
  have HK1 := Lib.hid (hk.below hb1)
  have HKL := Lib.hid hk.1
  clear h hk hb1 hV
  go_enter Tryz.func55, Tryz.ntmps55
  go_upto_region 1 with (fail)
  clear hw1
  go_wp2_with (fail)
  refine (state_any C g d F n _ H1.out.nd).mono ?_
  rintro o w2 ⟨hb2, A2, k2, c2, rfl, hk2, hk15, hlow⟩
  have hbA := hb2.alloc hb2.size (.cells (stv (mkS n.dt A2 k2 c2)) 73)
  have HA3 : Hid (StAt (w2.alloc (.cells (stv (mkS n.dt A2 k2 c2)) 73)) w.heap.size (mkS was A k c)) := Lib.hid (HA1.out.later hbA)
  have HC3 : Hid (StAt (w2.alloc (.cells (stv (mkS n.dt A2 k2 c2)) 73)) w2.heap.size (mkS n.dt A2 k2 c2)) := Lib.hid (StAt.new w2 _)
  have H3 := Lib.hid (H1.out.below hbA)
  have HV3 := Lib.hid (HV1.out.below hbA)
  have HB3 := Lib.hid (HB1.out.trans (hbA.mono HB1.out.size))
  have HK3 := Lib.hid (HK1.out.below hbA)
  have HK23 := Lib.hid (hk2.below ((Below.refl _ w2).alloc (Nat.le_refl _) (.cells (stv (mkS n.dt A2 k2 c2)) 73)))
  have HKL2 := Lib.hid hk2.1
  clear hb2 hbA hk2 hlow H1 HV1 HK1 HA1 HB1
  obtain ⟨s1, HS1⟩ : ∃ s, Hid (mkS was A k c = s) := ⟨_, Lib.hid rfl⟩
  obtain ⟨s2, HS2⟩ : ∃ s, Hid (mkS n.dt A2 k2 c2 = s) := ⟨_, Lib.hid rfl⟩
  rw [HS1.out] at HA3 ⊢
  rw [HS2.out] at HA3 HC3 H3 HV3 HB3 HK3 HK23 ⊢
  go_wp2_with (first | ((with_reducible refine K.st_alloc ?_ ?_); (rfl)) | ((with_reducible refine K.st_store_new (u := s2) ?_ ?_ ?_ ?_); (rfl); (rfl); (rfl)) | ((with_reducible refine K.st_load (b := w.heap.size) (s := s1) ?_ ?_ ?_ ?_); (rfl); (with_reducible exact HA3.out); (rfl)) | ((with_reducible refine K.st_load (b := w2.heap.size) (s := s2) ?_ ?_ ?_ ?_); (rfl); (with_reducible exact HC3.out); (rfl)))
  refine (issame_any s1 s2 was.l n.dt.l _ (by rw [← HS1.out]; exact HK3.out) (by rw [← HS2.out]; rw [← HS2.out] at HK23; exact HK23.out) (by rw [← HS1.out]; exact hN) (by rw [← HS2.out]; show k2 ≤ _; omega)).mono ?_
  rintro o w4 ⟨rfl, hb4⟩
  have hS : sameS s1 s2 was.l n.dt.l = sameD was n.dt := by rw [← HS1.out, ← HS2.out]; exact sameS_D HKL.out HKL2.out
  rw [hS]
  obtain ⟨q, HQ⟩ : ∃ q, Hid (sameD was n.dt = q) := ⟨_, Lib.hid rfl⟩
  rw [HQ.out]
  have H4 := Lib.hid (H3.out.below hb4)
  have HV4 := Lib.hid (HV3.out.below hb4)
  have HB4 := Lib.hid (HB3.out.trans (hb4.mono HB3.out.size))
  have HC4 := Lib.hid (HC3.out.later hb4)
  have HK4 := Lib.hid (HK23.out.below hb4)
  clear hb4 hS H3 HV3 HB3 HC3 HK3 HK23 HA3
  cases q
  · obtain ⟨⟨f, D2⟩, HR⟩ : ∃ r, Hid (K.Dsk.saveD D n.dt = r) := ⟨_, Lib.hid rfl⟩
    have HX : Hid (n.saveE was D = (f, D2)) := Lib.hid (by unfold Nd.saveE; rw [if_neg (by rw [HQ.out]; decide), HR.out])
    have HY : Hid (n.saved was D = { n with stop := decide (f ≠ 0) }) := Lib.hid (by unfold Nd.saved; rw [if_neg (by rw [HQ.out]; decide), HR.out])
    have HBC : Hid (Blk w4 w2.heap.size 73 (stv s2)) := Lib.hid HC4.out
    go_upto_region 4 with (fail)
    obtain ⟨_, _, c2', _⟩ := H4.out.nd.cells
    have C2 : ∀ q : Later w4, q.now.cell? ⟨g, 2, none⟩ = some (.pointer (some ⟨d, 0, none⟩)) := fun q => q.cell c2'
    clear c2'
    refine wp_region_head 5 (by kernel_rfl) (by kernel_rfl) ?_
    simp only [List.take_succ_cons, List.take_zero, List.drop_succ_cons, List.drop_zero]
    repeat (first | ((with_reducible refine quiet_row (T := 73) ?_ HBC.out Tryz.underlying73 rfl ?_ ?_ ?_); (rfl); (exact K.st_size _); (rfl); (simp only [Act.put, List.setIfInBounds_toArray, List.set_cons_zero, List.set_cons_succ])) | go_big_quiet_step (first | fail))
    refine wpQuiet_nil ?_
    intro _ hw'
    obtain ⟨pq, hw''⟩ := hw'
    subst hw''
    have HB5 := Lib.hid (HB4.out.trans (pq.below.mono HB4.out.size))
    have H5 := Lib.hid (H4.out.below pq.below)
    have HV5 := Lib.hid (HV4.out.below pq.below)
    have HK5 := Lib.hid (HK4.out.below pq.below)
    generalize pq.now = w5 at *
    have HSV := K.Dsk.save_any (U := fun i => F i ∨ V i) d e D n.dt A2 k2 c2 w5 H5.out.env.env HV5.out hl HK5.out (by omega)
    rw [HS2.out, HR.out] at HSV
    have HSV2 := Lib.hid HSV
    clear C2 HSV HK4 HC4 HBC H4 HV4 HB4
    go_wp2_with (fail)
    refine HSV2.out.mono ?_
    rintro o w6 ⟨rfl, hd6⟩
    obtain ⟨h6, t6⟩ := H5.out.did ⟨Dk_less hd6.1 (fun i hi => .inl hi), hd6.2⟩
    have HV6 := Lib.hid hd6.1
    have H6 := Lib.hid h6
    have T6 : Hid (Turn w w6 (fun i => F i ∨ K.Dsk.FD d e i)) := Lib.hid ((Turn.of_below HB5.out _).trans (t6.wide (fun i hi => .inr hi)) (Sub.refl _ _))
    obtain ⟨_, _, _, c3, _⟩ := h6.nd.cells
    have z3 := h6.nd.fz 3
    clear hd6 h6 t6 HSV2 H5 HV5
    have fin : ∀ (b : Bool), Sys (w6.setCell ⟨g, 3, none⟩ (.bool b)) C g F d e { n with stop := b } D2 ∧ K.Dsk.Dk (w6.setCell ⟨g, 3, none⟩ (.bool b)) d e (fun i => F i ∨ V i) D2 ∧ Turn w (w6.setCell ⟨g, 3, none⟩ (.bool b)) (fun i => F i ∨ K.Dsk.FD d e i) := fun b => by
      have kn : NdAt (w6.setCell ⟨g, 3, none⟩ (.bool b)) C g F d { n with stop := b } := H6.out.nd.put (k := 3) (u := .bool b) { H6.out.nd.ok with } (by omega) rfl rfl rfl rfl rfl rfl rfl rfl
      have kt : Turn w6 (w6.setCell ⟨g, 3, none⟩ (.bool b)) F := turn_set _ ⟨g, 3, none⟩ _ F H6.out.nd.fg
      exact ⟨⟨kn, Dk_turn H6.out.dk kt (Sub.refl _ _) kn.lt, H6.out.env.turn kt H6.out.nd.lo H6.out.nd.cle, H6.out.dlo⟩, Dk_turn HV6.out (kt.wide (fun i hi => .inl hi)) (Sub.refl _ _) (fun i hi => by simpa [World.setCell] using HV6.out.ult i hi), T6.out.trans (kt.wide (fun i hi => .inl hi)) (Sub.refl _ _)⟩
    have HF := Lib.hid fin
    clear fin
    by_cases h0 : f = 0
    · subst h0
      go_wp2
      go_ret
      refine ⟨by rw [HX.out]; rfl, ?_⟩
      rw [HX.out, HY.out]
      exact HF.out false
    · have hq : (f != 0) = true := by simpa using h0
      have HD : Hid (decide (f ≠ 0) = true) := Lib.hid (by simpa using h0)
      clear h0
      go_wp2
      go_ret
      refine ⟨by rw [HX.out]; rfl, ?_⟩
      rw [HX.out, HY.out, HD.out]
      exact HF.out true
  · have HX : Hid (n.saveE was D = (0, D)) := Lib.hid (by unfold Nd.saveE; rw [if_pos HQ.out])
    have HY : Hid (n.saved was D = n) := Lib.hid (by unfold Nd.saved; rw [if_pos HQ.out])
    go_wp2
    go_ret
    refine ⟨by rw [HX.out]; rfl, ?_⟩
    rw [HX.out, HY.out]
    exact ⟨H4.out, HV4.out, Turn.of_below HB4.out _⟩
end Go.Proofs.YteoodompphhkbaaGreatDoor.Nod
