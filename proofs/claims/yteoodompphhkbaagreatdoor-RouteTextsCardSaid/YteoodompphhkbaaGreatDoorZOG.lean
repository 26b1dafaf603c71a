/-
  WHAT IS PROVED: the contract of what gives the state that a disk has, or saves a first one. Conditions: the object is a disk of fewer than 1000 files; the library's variables hold what is laid there.
-/
import Derived.Test.YteoodompphhkbaaGreatDoorZOF
namespace Go.Proofs.YteoodompphhkbaaGreatDoor.Nod
set_option maxRecDepth 100000
open Go.RowKit Go.Lib Go.Maps
open Go.Proofs.YteoodompphhkbaaGreatDoor.Ros (Turn Sub Rd Blk no zints)
open Go.Proofs.YteoodompphhkbaaGreatDoor.K (KnAt Kn Sv stv StAt mkS)

theorem st_nobytes (s : Sv) : ∀ (i : Nat) (z : Int), (stv s)[i]? ≠ some (.int .u8 z) := by
  intro i z h
  have hx := Array.mem_of_getElem? h
  unfold stv at hx
  simp only [List.mem_toArray, List.mem_append, K.stL, K.tbL] at hx
  rcases hx with hx | hx | hx
  · simp at hx
  · obtain ⟨y, hy⟩ := K.C.row_mem hx; simp at hy
  · obtain ⟨y, hy⟩ := K.C.row_mem hx; simp at hy
theorem st_built1 (i : Int) : Tryz.prog.built 73 [(0, .int .i64 i)] = some (stv ⟨i, 0, 0, 0, 0, none, 0, 0, K.C.Tab.zero⟩) := by kernel_rfl
theorem st_build1 {ops : Array Oper} {rest : List Oper} {Q : Exit → Act → World → Prop} {a : Act} {w : World} {dst : Option Tmp} {ty : TypeId} {pos : String} {after : Array Edge} {gd : Option (Nat × Bool)} {x : Operand} {i : Int} (hx : a.eval x = .int .i64 i) (hw : Region.wanted ⟨dst, .build 73 #[(0, x)], ty, pos, after, gd⟩ (yielded ops a.tmps) = true)
    (h : wpList Tryz.prog ops Q rest (a.put dst (.agg (stv ⟨i, 0, 0, 0, 0, none, 0, 0, K.C.Tab.zero⟩))) w) : wpList Tryz.prog ops Q (⟨dst, .build 73 #[(0, x)], ty, pos, after, gd⟩ :: rest) a w :=
  K.C.at_want hw fun _ hK => by
    have hk := hK _ _ h
    have e : ((#[(0, x)] : Array (Nat × Operand)).map fun (j, y) => (j, a.eval y)).toList = [(0, .int .i64 i)] := by simp [hx]
    refine wp_build 73 #[(0, x)] rfl ?_ ?_
    · rw [e, st_built1]; rfl
    · rw [e, st_built1]; exact hk
section
variable {w w' : World} {d e r : Nat} {U : Nat → Prop} {T : TypeId} {cs : Array Value} {D : K.Dsk.Ds}
/-- a disk where a variable that holds no bytes is stored -/
theorem Dk_var (h : K.Dsk.Dk w d e U D) (hb : Blk w r T cs) (hno : ∀ (i : Nat) (z : Int), cs[i]? ≠ some (.int .u8 z)) (hd : r ≠ d) (he : r ≠ e) (cs' : Array Value) : K.Dsk.Dk (w.setRow r cs') d e U D := by
  have kt := turn_row w r cs' (fun i => i = r) rfl
  exact Dk_turn (Dk_more h hb hno hd he) (kt.wide fun i hi => .inr hi) (fun i _ f => .inl f) (fun i hi => Nat.lt_of_lt_of_le (h.ult i hi) kt.size)
end
/-- what a start finds on a disk -/
def StateP (w : World) (d e : Nat) (U : Nat → Prop) (r : Int × K.Dt × K.Dsk.Ds) (o : Ending) (w' : World) : Prop :=
  ∃ A k c, o = .returned (.tuple #[.agg (stv (mkS r.2.1 A k c)), .int .i64 r.1]) ∧ KnAt w' A k r.2.1.l ∧ k ≤ 1000000 ∧ K.Dsk.Dk w' d e U r.2.2 ∧ Turn w w' (K.Dsk.FD d e) ∧ (r.1 = 0 → 0 < k → ∀ ad, A = some ad → w.heap.size ≤ ad.block)

set_option maxHeartbeats 4000000 in
theorem stateof_any (C d e : Nat) (U : Nat → Prop) (id : Int) (D : K.Dsk.Ds) (w : World) (h : K.Dsk.Dk w d e U D) (hE : EnvC C w) (hC : C ≤ w.heap.size) (hl : D.fs.length < 1000) :
    Calls Tryz.prog 21 #[.int .i64 id, .pointer (some ⟨d, 0, none⟩)] w (StateP w d e U (loadS id D)) := by
  obtain ⟨w1, hw1⟩ : ∃ w1, w.alloc (.cells (stv Sv.zero) 73) = w1 := ⟨_, rfl⟩
  have hb1 : Below w.heap.size w w1 := by rw [← hw1]; exact (Below.refl _ w).alloc (Nat.le_refl _) _
  have HB1 := Lib.hid hb1
  have HS1 : Hid (StAt w1 w.heap.size Sv.zero) := Lib.hid (by rw [← hw1]; exact StAt.new w _)
  have HD1 := Lib.hid (h.below hb1)
  have HE1 := Lib.hid (hE.later hb1 hC)
  have HDT := Lib.hid h.lt
  have HL := Lib.hid hl
  have HCL := Lib.hid hC
  obtain ⟨R, HR⟩ : ∃ R, Hid (K.Dsk.loadD D = R) := ⟨_, Lib.hid rfl⟩
  clear h hE hC hb1 hl
  go_enter Tryz.func21, Tryz.ntmps21
  go_upto_region 1 with (first | refine K.st_alloc rfl ?_)
  try simp only [Act.put, List.setIfInBounds_toArray, List.set_cons_zero, List.set_cons_succ]
  clear hw1
  go_wp2_with (fail)
  refine (K.Dsk.load_any d e D _ HE1.out.env HD1.out).mono ?_
  rintro o w2 ⟨hb2, hcase⟩
  rw [HR.out] at hcase
  have HB2 := Lib.hid (HB1.out.trans (hb2.mono HB1.out.size))
  have HS2 := Lib.hid (HS1.out.later hb2)
  have HD2 := Lib.hid (HD1.out.below hb2)
  have HE2 := Lib.hid (HE1.out.later hb2 (Nat.le_trans HCL.out HB1.out.size))
  have HZ12 := Lib.hid hb2.size
  have HS1L : Hid (w.heap.size < w1.heap.size) := Lib.hid HS1.out.lt
  clear hb2 HS1 HD1 HE1
  rcases hcase with ⟨dd, A, k, c, hR, rfl, hkn, hk6, hlow⟩ | ⟨hR2, hR1, rfl⟩
  · have HKN := Lib.hid hkn
    have HLO := Lib.hid hlow
    have HRR := Lib.hid (HR.out.trans hR)
    obtain ⟨s, HSS⟩ : ∃ s, Hid (mkS dd A k c = s) := ⟨_, Lib.hid rfl⟩
    rw [HSS.out]
    have hbA := (Below.refl _ w2).alloc (Nat.le_refl _) (.cells (stv s) 73)
    have HST : Hid (StAt (w2.alloc (.cells (stv s) 73)) w2.heap.size s) := Lib.hid (StAt.new w2 _)
    have HS3 := Lib.hid (HS2.out.later hbA)
    have HD3 := Lib.hid (HD2.out.below hbA)
    have HB3 := Lib.hid (HB2.out.trans (hbA.mono HB2.out.size))
    have HK3 := Lib.hid (HKN.out.below hbA)
    clear hkn hlow hR hbA HR HS2 HD2 HE2
    have hi : s.i = dd.i := by rw [← HSS.out]; rfl
    have q0 := HST.out.box.1
    rw [hi] at q0
    have HDV : Hid (∀ cs, K.Dsk.Dk ((w2.alloc (.cells (stv s) 73)).setRow w.heap.size cs) d e U D) := Lib.hid (fun cs => Dk_var HD3.out HS3.out (st_nobytes _) (by have := HDT.out.1; omega) (by have := HDT.out.2; omega) cs)
    have HK5 : Hid (∀ cs, KnAt ((w2.alloc (.cells (stv s) 73)).setRow w.heap.size cs) A k dd.l) := Lib.hid (fun cs => KnAt_turn HK3.out (turn_row _ w.heap.size cs (fun i => i = w.heap.size) rfl) (fun _ ad e f => by have := HLO.out ad e; have := HB1.out.size; have := HS1L.out; omega))
    clear hi
    by_cases hq : dd.i = id
    · have hne : (dd.i != id) = false := by simpa using hq
      have HX : Hid (loadS id D = (0, dd, D)) := Lib.hid (by unfold loadS; rw [HRR.out]; simp only; rw [if_pos hq])
      clear hq
      go_wp2_with (first | ((with_reducible refine K.st_alloc ?_ ?_); (rfl)) | ((with_reducible refine K.st_store_new (u := s) ?_ ?_ ?_ ?_); (rfl); (rfl); (rfl)) | ((with_reducible refine K.st_load (b := w2.heap.size) (s := s) ?_ ?_ ?_ ?_); (rfl); (with_reducible exact HST.out); (rfl)) | ((with_reducible refine K.st_store (b := w.heap.size) (s := Sv.zero) (u := s) ?_ ?_ ?_ ?_ ?_); (rfl); (rfl); (with_reducible exact HS3.out); (rfl)))
      exact bodyPost_ret (K.results_st rfl _ _ w.heap.size _ rfl (HS3.out.store _)) rfl ⟨A, k, c, by rw [HX.out, ← HSS.out]; rfl, by rw [HX.out]; exact HK5.out _, hk6, by rw [HX.out]; exact HDV.out _, (Turn.of_below HB3.out _).trans (turn_row _ w.heap.size _ (fun i => i = w.heap.size) rfl) (fun i hi f => by omega), fun _ _ ad e => by have := HLO.out ad e; have := HB1.out.size; omega⟩
    · have hne : (dd.i != id) = true := by simpa using hq
      have HX : Hid (loadS id D = (30, dd, D)) := Lib.hid (by unfold loadS; rw [HRR.out]; simp only; rw [if_neg hq])
      clear hq
      go_wp2_with (first | ((with_reducible refine K.st_alloc ?_ ?_); (rfl)) | ((with_reducible refine K.st_store_new (u := s) ?_ ?_ ?_ ?_); (rfl); (rfl); (rfl)) | ((with_reducible refine K.st_load (b := w2.heap.size) (s := s) ?_ ?_ ?_ ?_); (rfl); (with_reducible exact HST.out); (rfl)) | ((with_reducible refine K.st_store (b := w.heap.size) (s := Sv.zero) (u := s) ?_ ?_ ?_ ?_ ?_); (rfl); (rfl); (with_reducible exact HS3.out); (rfl)))
      exact bodyPost_ret (K.results_st rfl _ _ w.heap.size _ rfl (HS3.out.store _)) rfl ⟨A, k, c, by rw [HX.out, ← HSS.out]; rfl, by rw [HX.out]; exact HK5.out _, hk6, by rw [HX.out]; exact HDV.out _, (Turn.of_below HB3.out _).trans (turn_row _ w.heap.size _ (fun i => i = w.heap.size) rfl) (fun i hi f => by omega), fun _ _ ad e => by have := HLO.out ad e; have := HB1.out.size; omega⟩
  · obtain ⟨f, ro⟩ := R
    simp only at hR1 hR2
    subst hR2
    have HRR : Hid (K.Dsk.loadD D = (f, none)) := HR
    have hbA := (Below.refl _ w2).alloc (Nat.le_refl _) (.cells (stv Sv.zero) 73)
    have HST : Hid (StAt (w2.alloc (.cells (stv Sv.zero) 73)) w2.heap.size Sv.zero) := Lib.hid (StAt.new w2 _)
    have HS3 := Lib.hid (HS2.out.later hbA)
    have HD3 := Lib.hid (HD2.out.below hbA)
    have HB3 := Lib.hid (HB2.out.trans (hbA.mono HB2.out.size))
    have HE3 := Lib.hid (HE2.out.later hbA (Nat.le_trans HCL.out HB2.out.size))
    have h0 : (f == 0) = false := by simpa using hR1
    have HWZ : Hid (w.heap.size < w2.heap.size) := Lib.hid (by have := HS1L.out; have := HZ12.out; omega)
    clear hbA HR HS2 HD2 HE2
    by_cases h52 : f = 52
    · have hq : (f == 52) = true := by simpa using h52
      obtain ⟨⟨r, D2⟩, HSV⟩ : ∃ r, Hid (K.Dsk.saveD D ⟨id, 0, 0, 0, 0, [], K.C.Tab.zero⟩ = r) := ⟨_, Lib.hid rfl⟩
      have HX : Hid (loadS id D = (r, ⟨id, 0, 0, 0, 0, [], K.C.Tab.zero⟩, D2)) := Lib.hid (by unfold loadS; rw [HRR.out, h52]; simp [HSV.out])
      obtain ⟨W4, hW4⟩ : ∃ W4, (w2.alloc (.cells (stv Sv.zero) 73)).setRow w2.heap.size (stv ⟨id, 0, 0, 0, 0, none, 0, 0, K.C.Tab.zero⟩) = W4 := ⟨_, rfl⟩
      have kt4 := turn_row (w2.alloc (.cells (stv Sv.zero) 73)) w2.heap.size (stv ⟨id, 0, 0, 0, 0, none, 0, 0, K.C.Tab.zero⟩) (fun i => i = w2.heap.size) rfl
      have HST4 : Hid (StAt W4 w2.heap.size ⟨id, 0, 0, 0, 0, none, 0, 0, K.C.Tab.zero⟩) := Lib.hid (by rw [← hW4]; exact HST.out.store _)
      have HS4 : Hid (StAt W4 w.heap.size Sv.zero) := Lib.hid (by rw [← hW4]; exact HS3.out.row_far (by have := HWZ.out; omega) _)
      have HD4 : Hid (K.Dsk.Dk W4 d e U D) := Lib.hid (by rw [← hW4]; exact Dk_var HD3.out HST.out (st_nobytes _) (by have := HDT.out.1; have := HWZ.out; omega) (by have := HDT.out.2; have := HWZ.out; omega) _)
      have HE4 : Hid (EnvC C W4) := Lib.hid (by rw [← hW4]; exact HE3.out.turn kt4 (fun i hi => by rw [hi]; have := HCL.out; have := HWZ.out; omega) (Nat.le_trans HCL.out HB3.out.size))
      have HT4 : Hid (Turn w W4 (K.Dsk.FD d e)) := Lib.hid (by rw [← hW4]; exact (Turn.of_below HB3.out _).trans kt4 (fun i hi f => by have := HWZ.out; omega))
      have HSAV := Lib.hid (K.Dsk.save_any (U := U) d e D ⟨id, 0, 0, 0, 0, [], K.C.Tab.zero⟩ none 0 0 W4 HE4.out.env HD4.out HL.out (K.KnAt.nil_ _ _) (by omega))
      rw [HSV.out] at HSAV
      clear kt4 h52
      go_wp2_with (first | ((with_reducible refine K.st_alloc ?_ ?_); (rfl)) | ((with_reducible refine st_build1 (i := id) ?_ ?_ ?_); (rfl); (rfl)) | ((with_reducible refine K.st_store_new (u := Sv.zero) ?_ ?_ ?_ ?_); (rfl); (rfl); (rfl)) | ((with_reducible refine K.st_store (b := w2.heap.size) (s := Sv.zero) (u := ⟨id, 0, 0, 0, 0, none, 0, 0, K.C.Tab.zero⟩) ?_ ?_ ?_ ?_ ?_); (rfl); (rfl); (with_reducible exact HST.out); (rfl)) | ((with_reducible refine K.st_load (b := w2.heap.size) (s := ⟨id, 0, 0, 0, 0, none, 0, 0, K.C.Tab.zero⟩) ?_ ?_ ?_ ?_); (rfl); (with_reducible exact HST4.out); (rfl)))
      clear hW4
      refine HSAV.out.mono ?_
      rintro o w5 ⟨rfl, hd5, ht5⟩
      have kt5 : Turn W4 w5 (K.Dsk.FD d e) := of_dskT ht5
      have HD5 := Lib.hid hd5
      have HST5 : Hid (StAt w5 w2.heap.size ⟨id, 0, 0, 0, 0, none, 0, 0, K.C.Tab.zero⟩) := Lib.hid (Ros.Blk.turn HST4.out kt5 (fun f => by rcases f with f | f; have := HDT.out.1; have := HWZ.out; omega; have := HDT.out.2; have := HWZ.out; omega))
      have HS5 : Hid (StAt w5 w.heap.size Sv.zero) := Lib.hid (Ros.Blk.turn HS4.out kt5 (fun f => by rcases f with f | f; have := HDT.out.1; omega; have := HDT.out.2; omega))
      have HT5 := Lib.hid (HT4.out.trans kt5 (Sub.refl _ _))
      have q0 : w5.cell? ⟨w2.heap.size, 0, none⟩ = some (.int .i64 id) := HST5.out.box.1
      have hidd : (id != id) = false := by simp
      clear hd5 ht5 kt5 HSAV HST4 HS4 HD4 HE4 HT4 HST HS3 HD3 HB3 HE3
      by_cases hr : r = 0
      · subst hr
        go_wp2_with (first | ((with_reducible refine K.st_load (b := w2.heap.size) (s := ⟨id, 0, 0, 0, 0, none, 0, 0, K.C.Tab.zero⟩) ?_ ?_ ?_ ?_); (rfl); (with_reducible exact HST5.out); (rfl)) | ((with_reducible refine K.st_store (b := w.heap.size) (s := Sv.zero) (u := ⟨id, 0, 0, 0, 0, none, 0, 0, K.C.Tab.zero⟩) ?_ ?_ ?_ ?_ ?_); (rfl); (rfl); (with_reducible exact HS5.out); (rfl)))
        exact bodyPost_ret (K.results_st rfl _ _ w.heap.size _ rfl (HS5.out.store _)) rfl ⟨none, 0, 0, by rw [HX.out]; rfl, by rw [HX.out]; exact K.KnAt.nil_ _ _, by omega, by rw [HX.out]; exact Dk_var HD5.out HS5.out (st_nobytes _) (by have := HDT.out.1; omega) (by have := HDT.out.2; omega) _, HT5.out.trans (turn_row _ w.heap.size _ (fun i => i = w.heap.size) rfl) (fun i hi f => by omega), fun _ h => absurd h (by omega)⟩
      · have hq0 : (r == 0) = false := by simpa using hr
        clear hr
        go_wp2_with (first | ((with_reducible refine K.st_load (b := w2.heap.size) (s := ⟨id, 0, 0, 0, 0, none, 0, 0, K.C.Tab.zero⟩) ?_ ?_ ?_ ?_); (rfl); (with_reducible exact HST5.out); (rfl)) | ((with_reducible refine K.st_store (b := w.heap.size) (s := Sv.zero) (u := ⟨id, 0, 0, 0, 0, none, 0, 0, K.C.Tab.zero⟩) ?_ ?_ ?_ ?_ ?_); (rfl); (rfl); (with_reducible exact HS5.out); (rfl)))
        exact bodyPost_ret (K.results_st rfl _ _ w.heap.size _ rfl (HS5.out.store _)) rfl ⟨none, 0, 0, by rw [HX.out]; rfl, by rw [HX.out]; exact K.KnAt.nil_ _ _, by omega, by rw [HX.out]; exact Dk_var HD5.out HS5.out (st_nobytes _) (by have := HDT.out.1; omega) (by have := HDT.out.2; omega) _, HT5.out.trans (turn_row _ w.heap.size _ (fun i => i = w.heap.size) rfl) (fun i hi f => by omega), fun _ h => absurd h (by omega)⟩
    · have hq : (f == 52) = false := by simpa using h52
      have HX : Hid (loadS id D = (f, K.Dt.zero, D)) := Lib.hid (by unfold loadS; rw [HRR.out]; simp only; rw [if_neg h52])
      clear h52
      go_wp2_with (first | ((with_reducible refine K.st_alloc ?_ ?_); (rfl)) | ((with_reducible refine K.st_store_new (u := Sv.zero) ?_ ?_ ?_ ?_); (rfl); (rfl); (rfl)) | ((with_reducible refine K.st_load (b := w2.heap.size) (s := Sv.zero) ?_ ?_ ?_ ?_); (rfl); (with_reducible exact HST.out); (rfl)) | ((with_reducible refine K.st_store (b := w.heap.size) (s := Sv.zero) (u := Sv.zero) ?_ ?_ ?_ ?_ ?_); (rfl); (rfl); (with_reducible exact HS3.out); (rfl)))
      exact bodyPost_ret (K.results_st rfl _ _ w.heap.size _ rfl (HS3.out.store _)) rfl ⟨none, 0, 0, by rw [HX.out]; rfl, by rw [HX.out]; exact K.KnAt.nil_ _ _, by omega, by rw [HX.out]; exact Dk_var HD3.out HS3.out (st_nobytes _) (by have := HDT.out.1; omega) (by have := HDT.out.2; omega) _, (Turn.of_below HB3.out _).trans (turn_row _ w.heap.size _ (fun i => i = w.heap.size) rfl) (fun i hi f => by omega), fun _ h => absurd h (by omega)⟩
end Go.Proofs.YteoodompphhkbaaGreatDoor.Nod
