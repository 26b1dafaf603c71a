/-
  WHAT IS PROVED: the law ConfParses answers true: any text is the state that the document says, or none; what is read is written as the same text. Conditions: the library's variables hold what is laid there.
-/
import Derived.Test.YtmjbacmaafbdlaaGreatDoorRPar
import Derived.Test.YtmjbacmaafbdlaaGreatDoorArgs
import Derived.Deep.RegionHeld3
namespace Go.Proofs.YtmjbacmaafbdlaaGreatDoor
set_option maxRecDepth 100000
open Go.RowKit Go.Lib C R

/-- a text that the document's reader reads is read by the program as that state; one that it doesn't isn't -/
theorem both (t : List UInt8) : (∃ x d, rparseD t = some x ∧ okD x = true ∧ txD x = t ∧ parseD t = some d ∧ okD d = true ∧ txD d = t) ∨ (rparseD t = none ∧ parseD t = none) := by
  cases h : rparseD t with
  | some x =>
    obtain ⟨h1, h2⟩ := rparse_sound h
    obtain ⟨d, h3, _⟩ := parse_tx h1
    rw [h2] at h3
    obtain ⟨h4, h5⟩ := parse_sound h3
    exact .inl ⟨x, d, rfl, h1, h2, h3, h4, h5⟩
  | none =>
    refine .inr ⟨rfl, parse_no fun d h1 h2 => ?_⟩
    obtain ⟨x, h3, _⟩ := rparse_tx h1
    rw [h2, h] at h3
    cases h3
section
variable {a : Act} {w : World} {dst : Option Tmp} {ty : TypeId} {pos : String} {after : Array Edge} {g : Option (Nat × Bool)} {x : Operand} {b : Nat} {s : Sv}
theorem run_st (hx : a.eval x = .pointer (some ⟨b, 0, none⟩)) (hT : StAt w b s) : (execOp a.eval ⟨dst, .load 30 x, ty, pos, after, g⟩).run Tryz.prog w = .ok (.value (.agg (stv s))) w := by
  unfold execOp
  simp only [hx, Instr.loadAt, Instr.sureAddr, Sem.run_bind, Sem.run_pure, Result.andThen_ok, run_loadVar_row w b 30 30 (stv s) (0, 0) _ hT Tryz.underlying30 rfl (st_size s)]
theorem run_rt (hx : a.eval x = .pointer (some ⟨b, 0, none⟩)) (hT : RAt w b s) : (execOp a.eval ⟨dst, .load 36 x, ty, pos, after, g⟩).run Tryz.prog w = .ok (.value (.agg (stv s))) w := by
  unfold execOp
  simp only [hx, Instr.loadAt, Instr.sureAddr, Sem.run_bind, Sem.run_pure, Result.andThen_ok, run_loadVar_row w b 36 36 (stv s) (0, 0) _ hT Tryz.underlying36 rfl (rt_size s)]
end

set_option maxHeartbeats 4000000 in
theorem parses_in (T : List UInt8) (W : World) (hE : Env W) (hT : T.length ≤ 4000) :
    Calls Tryz.prog 3 #[.string (str T)] W (Says true W) := by
  have HE := Lib.hid hE
  have hz : (str T).size ≤ 4000 := hT
  have q4 : decide ((4000 : Int) < ((str T).size : Int)) = false := by simp; omega
  have q5 : decide (4000 < (str T).size) = false := by simp; omega
  have HB := both T
  clear hE
  go_enter Tryz.func3, Tryz.ntmps3
  go_wp2_with (fail)
  refine (anchor_any _ HE.out).mono ?_
  rintro e1 w1 ⟨rfl, hb1⟩
  have B1 := Lib.hid hb1
  have E1 := Lib.hid (HE.out.below hb1)
  clear hb1
  go_wp2_with (fail)
  refine (cparse2_any T (by omega) _ E1.out).mono ?_
  rintro e2 w2 ⟨hb2, hcase⟩
  have B2 := Lib.hid (B1.out.trans (hb2.mono B1.out.size))
  have E2 := Lib.hid (E1.out.below hb2)
  clear hb2
  rcases HB with ⟨x, d, hr, okx, txx, hp, okd, txd⟩ | ⟨hr, hp⟩
  · rcases hcase with ⟨d0, a, n, cap, hd0, rfl, hk, hn, _⟩ | ⟨hd0, _⟩
    rotate_left 1
    · rw [hp] at hd0; cases hd0
    rw [hp] at hd0
    injection hd0 with hd0
    subst hd0
    have hb3 : Below w2.heap.size w2 (w2.alloc (.cells (stv (mkS d a n cap)) 30)) := (Below.refl _ _).alloc (Nat.le_refl _) _
    have S3 := Lib.hid (StAt.new w2 (mkS d a n cap))
    have B3 := Lib.hid (B2.out.trans (hb3.mono B2.out.size))
    have E3 := Lib.hid (E2.out.below hb3)
    have K3 := Lib.hid (hk.below hb3)
    have HN := Lib.hid hn
    have HR := Lib.hid hr
    have OX := Lib.hid okx
    have TX := Lib.hid txx
    have OD := Lib.hid okd
    have TD := Lib.hid txd
    have HDL : Hid (d.l.length = n) := Lib.hid hk.1
    clear hb3 hk hn hr okx txx hp okd txd
    go_wp2_with (first | refine st_alloc rfl ?_ | ((with_reducible refine st_store_new (u := mkS d a n cap) ?_ ?_ ?_ ?_); (rfl); (rfl); (rfl)))
    refine (rparse_any T (by omega) _).mono ?_
    generalize w2.heap.size = g3 at *
    rw [HR.out]
    rintro e4 w4 ⟨hb4, ⟨x0, a4, n4, cap4, hx0, rfl, hk4, hn4⟩ | ⟨hx0, _⟩⟩
    rotate_left 1
    · cases hx0
    injection hx0 with hx0
    subst hx0
    have hb5 : Below w4.heap.size w4 (w4.alloc (.cells (stv (mkS x a4 n4 cap4)) 36)) := (Below.refl _ _).alloc (Nat.le_refl _) _
    have S5 := Lib.hid ((S3.out.later hb4).later hb5)
    have R5 := Lib.hid (RAt.new w4 (mkS x a4 n4 cap4))
    have hbb := hb4.trans (hb5.mono hb4.size)
    have B5 := Lib.hid (B3.out.trans (hbb.mono B3.out.size))
    have E5 := Lib.hid (E3.out.below hbb)
    have K5 := Lib.hid (K3.out.below hbb)
    have X5 := Lib.hid (hk4.below hb5)
    clear hb4 hb5 hbb hk4 S3 B3 E3 K3
    go_wp2_with (first | refine rt_alloc rfl ?_ | ((with_reducible refine rt_store_new (u := mkS x a4 n4 cap4) ?_ ?_ ?_ ?_); (rfl); (rfl); (rfl)) | ((with_reducible refine st_load (b := g3) (s := mkS d a n cap) ?_ ?_ ?_ ?_); (rfl); (with_reducible exact S5.out); (rfl)))
    refine (text_yes (mkS d a n cap) d.l _ E5.out K5.out (by rw [okD_eq d a n cap HDL.out]; exact OD.out)).mono ?_
    rw [txD_eq, TD.out]
    rintro e6 w6 ⟨rfl, hb6⟩
    generalize w4.heap.size = g5 at *
    have S6 := Lib.hid (S5.out.later hb6)
    have R6 := Lib.hid (R5.out.later hb6)
    have B6 := Lib.hid (B5.out.trans (hb6.mono B5.out.size))
    have K6 := Lib.hid (K5.out.below hb6)
    have X6 := Lib.hid (X5.out.below hb6)
    have hq : ((str T).toList == (str T).toList) = true := by simp
    clear hb6 S5 R5 B5 E5 K5 X5
    go_wp2
    have hS0 : Below w6.heap.size w6 w6.drew := below_drewN (Below.refl _ _) 1
    refine wp_region_held_drew (S := fun w' => Below w6.heap.size w6 w') (by kernel_rfl) hS0 (fun hHeld => ?_)
    refine wpAnyH_take (i := 0) (oi := ⟨some 44, _, _, _, _, _⟩) (v := .int .i64 0) rfl (by kernel_rfl) (by kernel_rfl) (by kernel_rfl) (fun _ _ _ h => h) (Or.inl ⟨by rfl, ?_⟩) (by assumption) ?_
    · (intro w' hSw; go_simp)
    try simp only [Act.put, List.setIfInBounds_toArray, List.set_cons_zero, List.set_cons_succ]
    refine wpAnyH_take (i := 1) (oi := ⟨some 45, _, _, _, _, _⟩) (v := .bool true) rfl (by kernel_rfl) (by kernel_rfl) (by kernel_rfl) (fun _ _ _ h => h) (Or.inl ⟨by rfl, ?_⟩) (by assumption) ?_
    · (intro w' hSw; go_simp)
    try simp only [Act.put, List.setIfInBounds_toArray, List.set_cons_zero, List.set_cons_succ]
    refine wpAnyH_take (i := 2) (oi := ⟨some 46, _, _, _, _, _⟩) (v := .bool true) rfl (by kernel_rfl) (by kernel_rfl) (by kernel_rfl) (fun _ _ _ h => h) (Or.inl ⟨by rfl, ?_⟩) (by assumption) ?_
    · (intro w' hSw; go_simp)
    try simp only [Act.put, List.setIfInBounds_toArray, List.set_cons_zero, List.set_cons_succ]
    refine wpAnyH_take (i := 3) (oi := ⟨some 47, _, _, _, _, _⟩) (v := .int .i64 0) rfl (by kernel_rfl) (by kernel_rfl) (by kernel_rfl) (fun _ _ _ h => h) (Or.inl ⟨by rfl, ?_⟩) (by assumption) ?_
    · (intro w' hSw; go_simp)
    try simp only [Act.put, List.setIfInBounds_toArray, List.set_cons_zero, List.set_cons_succ]
    refine wpAnyH_take (i := 4) (oi := ⟨some 48, _, _, _, _, _⟩) (v := .bool true) rfl (by kernel_rfl) (by kernel_rfl) (by kernel_rfl) (fun _ _ _ h => h) (Or.inl ⟨by rfl, ?_⟩) (by assumption) ?_
    · (intro w' hSw; go_simp)
    try simp only [Act.put, List.setIfInBounds_toArray, List.set_cons_zero, List.set_cons_succ]
    refine wpAnyH_take (i := 5) (oi := ⟨some 49, _, _, _, _, _⟩) (v := .bool true) rfl (by kernel_rfl) (by kernel_rfl) (by kernel_rfl) (fun _ _ _ h => h) (Or.inl ⟨by rfl, ?_⟩) (by assumption) ?_
    · (intro w' hSw; go_simp)
    try simp only [Act.put, List.setIfInBounds_toArray, List.set_cons_zero, List.set_cons_succ]
    refine wpAnyH_take (i := 6) (oi := ⟨some 50, _, _, _, _, _⟩) (v := .bool true) rfl (by kernel_rfl) (by kernel_rfl) (by kernel_rfl) (fun _ _ _ h => h) (Or.inl ⟨by rfl, ?_⟩) (by assumption) ?_
    · (intro w' hSw; go_simp)
    try simp only [Act.put, List.setIfInBounds_toArray, List.set_cons_zero, List.set_cons_succ]
    refine wpAnyH_take (i := 7) (oi := ⟨some 51, _, _, _, _, _⟩) (v := .string (str T)) rfl (by kernel_rfl) (by kernel_rfl) (by kernel_rfl) (fun _ _ _ h => h) (Or.inl ⟨by rfl, ?_⟩) (by assumption) ?_
    · (intro w' hSw; go_simp)
    try simp only [Act.put, List.setIfInBounds_toArray, List.set_cons_zero, List.set_cons_succ]
    refine wpAnyH_take (i := 8) (oi := ⟨some 52, _, _, _, _, _⟩) (v := .string (str T)) rfl (by kernel_rfl) (by kernel_rfl) (by kernel_rfl) (fun _ _ _ h => h) (Or.inl ⟨by rfl, ?_⟩) (by assumption) ?_
    · (intro w' hSw; go_simp)
    try simp only [Act.put, List.setIfInBounds_toArray, List.set_cons_zero, List.set_cons_succ]
    refine wpAnyH_take (i := 9) (oi := ⟨some 53, _, _, _, _, _⟩) (v := .bool true) rfl (by kernel_rfl) (by kernel_rfl) (by kernel_rfl) (fun _ _ _ h => h) (Or.inl ⟨by rfl, ?_⟩) (by assumption) ?_
    · (intro w' hSw; go_simp)
    try simp only [Act.put, List.setIfInBounds_toArray, List.set_cons_zero, List.set_cons_succ]
    refine wpAnyH_take (i := 10) (oi := ⟨some 54, _, _, _, _, _⟩) (v := .bool true) rfl (by kernel_rfl) (by kernel_rfl) (by kernel_rfl) (fun _ _ _ h => h) (Or.inl ⟨by rfl, ?_⟩) (by assumption) ?_
    · (intro w' hSw; go_simp)
    try simp only [Act.put, List.setIfInBounds_toArray, List.set_cons_zero, List.set_cons_succ]
    refine wpAnyH_take (i := 11) (oi := ⟨some 55, _, _, _, _, _⟩) (v := .bool true) rfl (by kernel_rfl) (by kernel_rfl) (by kernel_rfl) (fun _ _ _ h => h) (Or.inl ⟨by rfl, ?_⟩) (by assumption) ?_
    · (intro w' hSw; go_simp)
    try simp only [Act.put, List.setIfInBounds_toArray, List.set_cons_zero, List.set_cons_succ]
    refine wpAnyH_take (i := 12) (oi := ⟨some 56, _, _, _, _, _⟩) (v := .agg (stv (mkS d a n cap))) rfl (by kernel_rfl) (by kernel_rfl) (by kernel_rfl) (fun _ _ _ h => h) (Or.inl ⟨by rfl, ?_⟩) (by assumption) ?_
    · (intro w' hSw; exact run_st rfl (S6.out.later hSw))
    try simp only [Act.put, List.setIfInBounds_toArray, List.set_cons_zero, List.set_cons_succ]
    refine wpAnyH_take (i := 15) (oi := ⟨some 59, _, _, _, _, _⟩) (v := .agg (stv (mkS x a4 n4 cap4))) rfl (by kernel_rfl) (by kernel_rfl) (by kernel_rfl) (fun _ _ _ h => h) (Or.inl ⟨by rfl, ?_⟩) (by assumption) ?_
    · (intro w' hSw; exact run_rt rfl (R6.out.later hSw))
    try simp only [Act.put, List.setIfInBounds_toArray, List.set_cons_zero, List.set_cons_succ]
    refine wpAnyH_ready (rs := [13]) (by kernel_rfl) (by simp) ?_
    refine AllReadyH.cons rfl (fun K hK => ?_) AllReadyH.nil
    go_simp
    refine (made_any (mkS d a n cap) d.l _ (K6.out.below hS0) (by show n ≤ _; have h15 := (ok_parts OD.out).2.2.2.2.2.1; have h16 : d.l.length ≤ 15 := h15; have := HDL.out; omega)).mono ?_
    rintro e7 w7 ⟨hb7, a7, cap7, rfl, hk7⟩
    have hS7 := hS0.trans (hb7.mono hS0.size)
    refine hK.out _ _ hS7 (fun hHeld => ?_)
    clear hK K
    try simp only [Act.put, List.setIfInBounds_toArray, List.set_cons_zero, List.set_cons_succ]
    refine wpAnyH_ready (rs := [14]) (by kernel_rfl) (by simp) ?_
    refine AllReadyH.cons rfl (fun K hK => ?_) AllReadyH.nil
    go_simp
    refine (rtext_any d a7 n cap7 _ hk7 OD.out).mono ?_
    rintro e8 w8 ⟨rfl, hb8⟩
    rw [TD.out]
    have hS8 := hS7.trans (hb8.mono hS7.size)
    refine hK.out _ _ hS8 (fun hHeld => ?_)
    clear hK K
    try simp only [Act.put, List.setIfInBounds_toArray, List.set_cons_zero, List.set_cons_succ]
    refine wpAnyH_ready (rs := [16]) (by kernel_rfl) (by simp) ?_
    refine AllReadyH.cons rfl (fun K hK => ?_) AllReadyH.nil
    go_simp
    refine (rtext_any x a4 n4 cap4 _ (X6.out.below hS8) OX.out).mono ?_
    rintro e9 w9 ⟨rfl, hb9⟩
    rw [TX.out]
    have hS9 := hS8.trans (hb9.mono hS8.size)
    refine hK.out _ _ hS9 (fun hHeld => ?_)
    clear hK K
    try simp only [Act.put, List.setIfInBounds_toArray, List.set_cons_zero, List.set_cons_succ]
    refine wpAnyH_take (i := 17) (oi := ⟨some 61, _, _, _, _, _⟩) (v := .bool true) rfl (by kernel_rfl) (by kernel_rfl) (by kernel_rfl) (fun _ _ _ h => h) (Or.inl ⟨by rfl, ?_⟩) (by assumption) ?_
    · (intro w' hSw; go_simp)
    try simp only [Act.put, List.setIfInBounds_toArray, List.set_cons_zero, List.set_cons_succ]
    refine wpAnyH_take (i := 18) (oi := ⟨some 62, _, _, _, _, _⟩) (v := .bool true) rfl (by kernel_rfl) (by kernel_rfl) (by kernel_rfl) (fun _ _ _ h => h) (Or.inl ⟨by rfl, ?_⟩) (by assumption) ?_
    · (intro w' hSw; go_simp)
    try simp only [Act.put, List.setIfInBounds_toArray, List.set_cons_zero, List.set_cons_succ]
    refine wpAnyH_take (i := 19) (oi := ⟨some 2, _, _, _, _, _⟩) (v := .bool true) rfl (by kernel_rfl) (by kernel_rfl) (by kernel_rfl) (fun _ _ _ h => h) (Or.inl ⟨by rfl, ?_⟩) (by assumption) ?_
    · (intro w' hSw; go_simp)
    try simp only [Act.put, List.setIfInBounds_toArray, List.set_cons_zero, List.set_cons_succ]
    refine wpAnyH_done (by kernel_rfl) ?_ _
    go_wp2
    go_ret
    exact ⟨rfl, B6.out.trans (hS9.mono B6.out.size)⟩
  · rcases hcase with ⟨d0, a, n, cap, hd0, _⟩ | ⟨_, rfl⟩
    · rw [hp] at hd0; cases hd0
    have hb3 : Below w2.heap.size w2 (w2.alloc (.cells (stv Sv.zero) 30)) := (Below.refl _ _).alloc (Nat.le_refl _) _
    have S3 := Lib.hid (StAt.new w2 Sv.zero)
    have B3 := Lib.hid (B2.out.trans (hb3.mono B2.out.size))
    have HR := Lib.hid hr
    clear hb3 hr hp
    go_wp2_with (first | refine st_alloc rfl ?_ | ((with_reducible refine st_store_new (u := Sv.zero) ?_ ?_ ?_ ?_); (rfl); (rfl); (rfl)))
    refine (rparse_any T (by omega) _).mono ?_
    generalize w2.heap.size = g3 at *
    rw [HR.out]
    rintro e4 w4 ⟨hb4, ⟨x0, a4, n4, cap4, hx0, _⟩ | ⟨_, rfl⟩⟩
    · cases hx0
    have hb5 : Below w4.heap.size w4 (w4.alloc (.cells (stv Sv.zero) 36)) := (Below.refl _ _).alloc (Nat.le_refl _) _
    have S5 := Lib.hid ((S3.out.later hb4).later hb5)
    have hbb := hb4.trans (hb5.mono hb4.size)
    have B5 := Lib.hid (B3.out.trans (hbb.mono B3.out.size))
    clear hb4 hb5 hbb S3 B3
    have c0 := S5.out.box.1
    have c5 := S5.out.box.2.2.2.2.2
    have z0 : Sv.zero.i = 0 := rfl
    have z5 : (Value.slice Sv.zero.a Sv.zero.n Sv.zero.cap) = .slice none 0 0 := rfl
    rw [z0] at c0
    rw [z5] at c5
    go_wp2_with (first | refine rt_alloc rfl ?_ | ((with_reducible refine rt_store_new (u := Sv.zero) ?_ ?_ ?_ ?_); (rfl); (rfl); (rfl)))
    go_ret
    exact ⟨rfl, B5.out⟩

theorem parses_any (T : List UInt8) (W : World) (hE : Env W) : Calls Tryz.prog 3 #[.string (str T)] W (Says true W) := by
  by_cases hT : T.length ≤ 4000
  · exact parses_in T W hE hT
  · have hz : 4000 < (str T).size := by show 4000 < T.length; omega
    have q4 : decide ((4000 : Int) < ((str T).size : Int)) = true := by simp; omega
    have q5 : decide (4000 < (str T).size) = true := by simp; omega
    have HE := Lib.hid hE
    clear hE hT
    go_enter Tryz.func3, Tryz.ntmps3
    go_wp2_with (fail)
    refine (anchor_any _ HE.out).mono ?_
    rintro e1 w1 ⟨rfl, hb1⟩
    have B1 := Lib.hid hb1
    clear hb1
    go_wp2
    go_ret
    exact ⟨rfl, B1.out⟩
end Go.Proofs.YtmjbacmaafbdlaaGreatDoor
