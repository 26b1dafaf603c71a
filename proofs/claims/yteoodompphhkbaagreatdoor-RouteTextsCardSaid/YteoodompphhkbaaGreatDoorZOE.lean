/-
  WHAT IS PROVED: the contract of what makes a node's parts anew. Conditions: its block holds a right id and a right timeout.
-/
import Derived.Test.YteoodompphhkbaaGreatDoorZOD
namespace Go.Proofs.YteoodompphhkbaaGreatDoor.Nod
set_option maxRecDepth 100000
open Go.RowKit Go.Lib Go.Maps
open Go.Proofs.YteoodompphhkbaaGreatDoor.Ros (Turn Sub Rd Blk no zints)

/-- a node's cells, whatever its parts are -/
def ndr (n : Nd) (d : Nat) (a b c e : Value) (p : Int) : Array Value := (ndA n d ++ (tbL n.tab ++ [a, b, c, e, .int .i64 p])).toArray
section
variable {n : Nd} {d : Nat} {a b c e : Value} {p : Int}
theorem ndr_pre {k : Nat} (hk : k < 10) : (ndr n d a b c e p)[k]? = (ndA n d)[k]? := by
  unfold ndr
  rw [List.getElem?_toArray, List.getElem?_append_left (by simpa [ndA] using hk)]
theorem ndr_post (k : Nat) : (ndr n d a b c e p)[138 + k]? = ([a, b, c, e, .int .i64 p] : List Value)[k]? := by
  unfold ndr
  rw [List.getElem?_toArray, List.getElem?_append_right (by simp [ndA]; omega), List.getElem?_append_right (by rw [tbL_len]; simp [ndA]; omega), tbL_len]
  congr 1
  simp [ndA]; omega
theorem ndr_mid {k : Nat} (hk : k < 128) : (ndr n d a b c e p)[10 + k]? = (tbL n.tab)[k]? := by
  unfold ndr
  rw [List.getElem?_toArray, List.getElem?_append_right (by simp [ndA]), List.getElem?_append_left (by rw [tbL_len]; simp [ndA]; omega)]
  congr 1
  simp [ndA]
theorem ndr_set (k : Nat) (u : Value) : (ndr n d a b c e p).setIfInBounds (138 + k) u = (ndA n d ++ (tbL n.tab ++ ([a, b, c, e, .int .i64 p] : List Value).set k u)).toArray := by
  unfold ndr
  rw [List.setIfInBounds_toArray, List.set_append_right _ _ (by simp [ndA]; omega), List.set_append_right _ _ (by rw [tbL_len]; simp [ndA]; omega), tbL_len]
  congr 5
  simp [ndA]; omega
theorem ndr_set5 (x : Int) : (ndr n d a b c e p).setIfInBounds 5 (.int .i64 x) = ndr { n with ma := x } d a b c e p := by
  unfold ndr
  rw [List.setIfInBounds_toArray, List.set_append_left _ _ (by simp [ndA])]
  rfl
end
section
variable {w : World} {g d : Nat} {n : Nd} {a b c e : Value} {p : Int}
theorem raw_there (h : Blk w g 81 (ndr n d a b c e p)) : w.there g 10 128 := fun j hj => by
  refine ⟨?_, h.frozen _⟩
  rw [h.cell (10 + j), ndr_mid hj, List.getElem?_eq_getElem (by rw [tbL_len]; exact hj)]
  rfl
theorem raw_tab (h : Blk w g 81 (ndr n d a b c e p)) (u : K.C.Tab) : Blk (w.setCells g 10 (K.C.tb u).toList) g 81 (ndr { n with tab := u } d a b c e p) := by
  have := blk_setCells [a, b, c, e, .int .i64 p] (tbL n.tab) (tbL u) (ndA n d) w (by rw [tbL_len, tbL_len]) h
  exact this
end
section
variable {ops : Array Oper} {rest : List Oper} {Q : Exit → Act → World → Prop} {a : Act} {w : World} {dst : Option Tmp} {ty : TypeId} {pos : String} {after : Array Edge} {gd : Option (Nat × Bool)} {x y : Operand} {g : Nat}
theorem raw_store {u : K.C.Tab} (hx : a.eval x = .pointer (some ⟨g, 10, none⟩)) (hy : a.eval y = .agg (K.C.tb u)) (hT : w.there g 10 128) (hw : Region.wanted ⟨dst, .store 71 x y, ty, pos, after, gd⟩ (yielded ops a.tmps) = true)
    (h : wpList Tryz.prog ops Q rest (a.put dst undef) (w.setCells g 10 (K.C.tb u).toList)) : wpList Tryz.prog ops Q (⟨dst, .store 71 x y, ty, pos, after, gd⟩ :: rest) a w :=
  K.C.at_want hw fun _ hK => wp_store_mid 71 x y rfl g 10 (K.C.tb u) hx hy (by rw [K.C.tb_size]; exact hT) (K.C.tab_size u) (K.C.tb_cells u) (hK _ _ h)
end
set_option maxHeartbeats 4000000 in
theorem clear_any (C g d : Nat) (n : Nd) (a b c e : Value) (p : Int) (w : World) (h : Blk w g 81 (ndr n d a b c e p)) (hC : C ≤ g) (hok : Ok n) :
    Calls Tryz.prog 22 #[.pointer (some ⟨g, 0, none⟩)] w fun o w' => o = .returned (.tuple #[]) ∧ ∃ F', NdAt w' C g F' d n.clear ∧ Turn w w' (fun i => i = g) ∧ ∀ i, F' i → i = g ∨ w.heap.size ≤ i := by
  have H0 := Lib.hid h
  have HOK := Lib.hid hok
  have HGL : Hid (g < w.heap.size) := Lib.hid h.lt
  have hid1 : Ros.isIdB n.id = true := by have := hok.id; unfold Ros.isIdB; simp; omega
  have HT := Lib.hid hok.tm
  have c0 : w.cell? ⟨g, 0, none⟩ = some (.int .i64 n.id) := (h.cell 0).trans (ndr_pre (by omega))
  clear h hok
  go_enter Tryz.func22, Tryz.ntmps22
  go_wp2_with (fail)
  refine (Ros.new_yes n.id _ hid1).mono ?_
  rintro o w1 ⟨r, FR, rfl, hR, hb⟩
  have HR1 := Lib.hid hR
  have HB1 := Lib.hid hb
  have b1 := H0.out.below hb HGL.out
  have H1 := Lib.hid b1
  have q138 : w1.cell? ⟨g, 138, none⟩ = some a := (b1.cell (138 + 0)).trans (ndr_post 0)
  have z138 := b1.frozen 138
  clear hR hb b1 c0
  go_upto_region 1 with (fail)
  have b2 := H1.out.set_ (138 + 0) (.pointer (some ⟨r, 0, none⟩))
  rw [ndr_set] at b2
  have b2' : Blk (w1.setCell ⟨g, 138, none⟩ (.pointer (some ⟨r, 0, none⟩))) g 81 (ndr n d (.pointer (some ⟨r, 0, none⟩)) b c e p) := b2
  have k2 := turn_set w1 ⟨g, 138, none⟩ (.pointer (some ⟨r, 0, none⟩)) (fun i => i = g) rfl
  have hgr : ∀ i, FR i → ¬ i = g := fun i hi f => by have := HR1.out.lo i hi; have := HGL.out; omega
  have HR2 := Lib.hid (HR1.out.turn k2 hgr)
  have H2 := Lib.hid b2'
  have T2 : Hid (Turn w (w1.setCell ⟨g, 138, none⟩ (.pointer (some ⟨r, 0, none⟩))) (fun i => i = g)) := Lib.hid ((Turn.of_below HB1.out _).trans k2 (Sub.refl _ _))
  have HGR := Lib.hid hgr
  clear b2 b2' k2 hgr q138 z138 H1 HR1 HB1
  generalize w1.setCell ⟨g, 138, none⟩ (.pointer (some ⟨r, 0, none⟩)) = w2 at *
  have c1 : w2.cell? ⟨g, 1, none⟩ = some (.int .i64 n.T) := (H2.out.cell 1).trans (ndr_pre (by omega))
  go_wp2_with (fail)
  refine (Wat.new_yes n.T _ (by have := HT.out; omega) (by have := HT.out; omega)).mono ?_
  rintro o w3 ⟨wg, wb, rfl, hW, hb, hg1, hg2⟩
  have b1 := H2.out.below hb H2.out.lt
  have q139 : w3.cell? ⟨g, 139, none⟩ = some b := (b1.cell (138 + 1)).trans (ndr_post 1)
  have z139 := b1.frozen 139
  have HR3 := Lib.hid (HR2.out.below hb)
  have HW3 := Lib.hid hW
  have HB3 := Lib.hid hb
  have H3 := Lib.hid b1
  have HG1 := Lib.hid hg1
  have HG2 := Lib.hid hg2
  have HZ2 : Hid (w.heap.size ≤ w2.heap.size) := Lib.hid T2.out.size
  have HRL : Hid (∀ i, FR i → i < w2.heap.size) := Lib.hid HR2.out.lt
  clear hW hb b1 hg1 hg2 c1 HR2 H2
  go_upto_region 2 with (fail)
  have b2 := H3.out.set_ (138 + 1) (.pointer (some ⟨wg, 0, none⟩))
  rw [ndr_set] at b2
  have b2' : Blk (w3.setCell ⟨g, 139, none⟩ (.pointer (some ⟨wg, 0, none⟩))) g 81 (ndr n d (.pointer (some ⟨r, 0, none⟩)) (.pointer (some ⟨wg, 0, none⟩)) c e p) := b2
  have k2 := turn_set w3 ⟨g, 139, none⟩ (.pointer (some ⟨wg, 0, none⟩)) (fun i => i = g) rfl
  have HR4 := Lib.hid (HR3.out.turn k2 HGR.out)
  have HW4 := Lib.hid (wt_turn HW3.out k2 (fun f => by have := HG1.out; have := HGL.out; have := HZ2.out; omega) (fun f => by have := HG2.out; have := HGL.out; have := HZ2.out; omega))
  have H4 := Lib.hid b2'
  have T4 : Hid (Turn w (w3.setCell ⟨g, 139, none⟩ (.pointer (some ⟨wg, 0, none⟩))) (fun i => i = g)) := Lib.hid ((T2.out.then_ HB3.out).trans k2 (Sub.refl _ _))
  have HS34 : Hid (w2.heap.size ≤ (w3.setCell ⟨g, 139, none⟩ (.pointer (some ⟨wg, 0, none⟩))).heap.size) := Lib.hid (Nat.le_trans HB3.out.size k2.size)
  clear b2 b2' k2 q139 z139 H3 HR3 HW3 HB3 T2
  generalize w3.setCell ⟨g, 139, none⟩ (.pointer (some ⟨wg, 0, none⟩)) = w4 at *
  have c1 : w4.cell? ⟨g, 1, none⟩ = some (.int .i64 n.T) := (H4.out.cell 1).trans (ndr_pre (by omega))
  have hmul : IntKind.i64.wrap (2 * n.T) = 2 * n.T := by rw [IntKind.wrap_i64] <;> (have := HT.out; omega)
  go_wp2_with (fail)
  refine (Bok.new_yes (2 * n.T) _ (by have := HT.out; omega) (by have := HT.out; omega)).mono ?_
  rintro o w5 ⟨bg, bb, rfl, hW, hb, hg1, hg2⟩
  have b1 := H4.out.below hb H4.out.lt
  have q140 : w5.cell? ⟨g, 140, none⟩ = some c := (b1.cell (138 + 2)).trans (ndr_post 2)
  have z140 := b1.frozen 140
  have HR5 := Lib.hid (HR4.out.below hb)
  have HW5 := Lib.hid (wt_turn HW4.out (Turn.of_below hb no) (fun f => f) (fun f => f))
  have HK5 := Lib.hid hW
  have HB5 := Lib.hid hb
  have H5 := Lib.hid b1
  have HG3 := Lib.hid hg1
  have HG4 := Lib.hid hg2
  have HZ4 : Hid (w.heap.size ≤ w4.heap.size) := Lib.hid T4.out.size
  have HWL : Hid (wg < w4.heap.size ∧ wb < w4.heap.size) := Lib.hid ⟨HW4.out.lt, HW4.out.ltb⟩
  clear hW hb b1 hg1 hg2 c1 HR4 HW4 H4
  go_upto_region 3 with (fail)
  have b2 := H5.out.set_ (138 + 2) (.pointer (some ⟨bg, 0, none⟩))
  rw [ndr_set] at b2
  have b2' : Blk (w5.setCell ⟨g, 140, none⟩ (.pointer (some ⟨bg, 0, none⟩))) g 81 (ndr n d (.pointer (some ⟨r, 0, none⟩)) (.pointer (some ⟨wg, 0, none⟩)) (.pointer (some ⟨bg, 0, none⟩)) e p) := b2
  have k2 := turn_set w5 ⟨g, 140, none⟩ (.pointer (some ⟨bg, 0, none⟩)) (fun i => i = g) rfl
  have HR6 := Lib.hid (HR5.out.turn k2 HGR.out)
  have HW6 := Lib.hid (wt_turn HW5.out k2 (fun f => by have := HG1.out; have := HGL.out; have := HZ2.out; omega) (fun f => by have := HG2.out; have := HGL.out; have := HZ2.out; omega))
  have HK6 := Lib.hid (bk_turn HK5.out k2 (fun f => by have := HG3.out; have := HGL.out; have := HZ4.out; omega) (fun f => by have := HG4.out; have := HGL.out; have := HZ4.out; omega))
  have H6 := Lib.hid b2'
  have T6 : Hid (Turn w (w5.setCell ⟨g, 140, none⟩ (.pointer (some ⟨bg, 0, none⟩))) (fun i => i = g)) := Lib.hid ((T4.out.then_ HB5.out).trans k2 (Sub.refl _ _))
  have HS56 : Hid (w4.heap.size ≤ (w5.setCell ⟨g, 140, none⟩ (.pointer (some ⟨bg, 0, none⟩))).heap.size) := Lib.hid (Nat.le_trans HB5.out.size k2.size)
  clear b2 b2' k2 q140 z140 H5 HR5 HW5 HK5 HB5 T4
  generalize w5.setCell ⟨g, 140, none⟩ (.pointer (some ⟨bg, 0, none⟩)) = w6 at *
  have c1 : w6.cell? ⟨g, 1, none⟩ = some (.int .i64 n.T) := (H6.out.cell 1).trans (ndr_pre (by omega))
  go_wp2_with (fail)
  refine (Bal.bnew_yes n.T _ (by have := HT.out; omega) (by have := HT.out; omega)).mono ?_
  rintro o w7 hbm
  obtain ⟨z, FZ, rfl, hZ, hb⟩ := hbm
  have b1 := H6.out.below hb H6.out.lt
  have q141 : w7.cell? ⟨g, 141, none⟩ = some e := (b1.cell (138 + 3)).trans (ndr_post 3)
  have z141 := b1.frozen 141
  have HR7 := Lib.hid (HR6.out.below hb)
  have HW7 := Lib.hid (wt_turn HW6.out (Turn.of_below hb no) (fun f => f) (fun f => f))
  have HK7 := Lib.hid (bk_turn HK6.out (Turn.of_below hb no) (fun f => f) (fun f => f))
  have HZ7 := Lib.hid hZ
  have HB7 := Lib.hid hb
  have H7 := Lib.hid b1
  have HZ6 : Hid (w.heap.size ≤ w6.heap.size) := Lib.hid T6.out.size
  have HKL : Hid (bg < w6.heap.size ∧ bb < w6.heap.size) := Lib.hid ⟨HK6.out.lt, HK6.out.ltb⟩
  clear hZ hb b1 c1 HR6 HW6 HK6 H6
  go_upto_region 4 with (fail)
  have b2 := H7.out.set_ (138 + 3) (.pointer (some ⟨z, 0, none⟩))
  rw [ndr_set] at b2
  have b2' : Blk (w7.setCell ⟨g, 141, none⟩ (.pointer (some ⟨z, 0, none⟩))) g 81 (ndr n d (.pointer (some ⟨r, 0, none⟩)) (.pointer (some ⟨wg, 0, none⟩)) (.pointer (some ⟨bg, 0, none⟩)) (.pointer (some ⟨z, 0, none⟩)) p) := b2
  have k2 := turn_set w7 ⟨g, 141, none⟩ (.pointer (some ⟨z, 0, none⟩)) (fun i => i = g) rfl
  have HR8 := Lib.hid (HR7.out.turn k2 HGR.out)
  have HW8 := Lib.hid (wt_turn HW7.out k2 (fun f => by have := HG1.out; have := HGL.out; have := HZ2.out; omega) (fun f => by have := HG2.out; have := HGL.out; have := HZ2.out; omega))
  have HK8 := Lib.hid (bk_turn HK7.out k2 (fun f => by have := HG3.out; have := HGL.out; have := HZ4.out; omega) (fun f => by have := HG4.out; have := HGL.out; have := HZ4.out; omega))
  have HZ8 := Lib.hid (HZ7.out.turn (to_bal k2) (fun i hi f => by have := HZ7.out.lo i hi; have := HGL.out; have := HZ6.out; omega))
  have H8 := Lib.hid b2'
  have T8 : Hid (Turn w (w7.setCell ⟨g, 141, none⟩ (.pointer (some ⟨z, 0, none⟩))) (fun i => i = g)) := Lib.hid ((T6.out.then_ HB7.out).trans k2 (Sub.refl _ _))
  clear b2 b2' k2 q141 z141 H7 HR7 HW7 HK7 HZ7 HB7 T6
  generalize w7.setCell ⟨g, 141, none⟩ (.pointer (some ⟨z, 0, none⟩)) = w8 at *
  have HTH := Lib.hid (raw_there H8.out)
  have bT := raw_tab H8.out K.C.Tab.zero
  have q5 : (w8.setCells g 10 (K.C.tb K.C.Tab.zero).toList).cell? ⟨g, 5, none⟩ = some (.int .i64 n.ma) := (bT.cell 5).trans (ndr_pre (by omega))
  have z5 := bT.frozen 5
  have b5 := bT.set_ 5 (.int .i64 0)
  rw [ndr_set5] at b5
  have q142 : ((w8.setCells g 10 (K.C.tb K.C.Tab.zero).toList).setCell ⟨g, 5, none⟩ (.int .i64 0)).cell? ⟨g, 142, none⟩ = some (.int .i64 p) := (b5.cell (138 + 4)).trans (ndr_post 4)
  have z142 := b5.frozen 142
  have b6 := b5.set_ (138 + 4) (.int .i64 (-1))
  rw [ndr_set] at b6
  have b7 : Blk (((w8.setCells g 10 (K.C.tb K.C.Tab.zero).toList).setCell ⟨g, 5, none⟩ (.int .i64 0)).setCell ⟨g, 142, none⟩ (.int .i64 (-1))) g 81 (ndc n.clear d r wg bg z) := b6
  have kt : Turn w8 (((w8.setCells g 10 (K.C.tb K.C.Tab.zero).toList).setCell ⟨g, 5, none⟩ (.int .i64 0)).setCell ⟨g, 142, none⟩ (.int .i64 (-1))) (fun i => i = g) := ((turn_setCells w8 g 10 _ (fun i => i = g) rfl).trans (turn_set _ ⟨g, 5, none⟩ _ (fun i => i = g) rfl) (Sub.refl _ _)).trans (turn_set _ ⟨g, 142, none⟩ _ (fun i => i = g) rfl) (Sub.refl _ _)
  have H11 := Lib.hid b7
  have K11 := Lib.hid kt
  clear bT b5 b6 b7 kt
  go_wp2_with (first | refine K.C.at_build rfl ?_ | ((with_reducible refine raw_store (g := g) (u := K.C.Tab.zero) ?_ ?_ ?_ ?_ ?_); (rfl); (rfl); (with_reducible exact HTH.out); (rfl)))
  go_end0
  refine ⟨rfl, fun i => i = g ∨ FR i ∨ i = wg ∨ i = wb ∨ i = bg ∨ i = bb ∨ FZ i, ?_, T8.out.trans K11.out (Sub.refl _ _), ?_⟩
  · have g1 := HG1.out; have g2 := HG2.out; have g3 := HG3.out; have g4 := HG4.out; have hgl := HGL.out
    have s2 := HZ2.out; have s4 := HZ4.out; have s6 := HZ6.out; have s34 := HS34.out; have s56 := HS56.out; have wl := HWL.out; have kl := HKL.out
    have hr := HR8.out.turn K11.out HGR.out
    have hw := wt_turn HW8.out K11.out (fun f => by omega) (fun f => by omega)
    have hk := bk_turn HK8.out K11.out (fun f => by omega) (fun f => by omega)
    have hz := HZ8.out.turn (to_bal K11.out) (fun i hi f => by have := HZ8.out.lo i hi; omega)
    refine ⟨⟨r, wg, wb, bg, bb, z, FR, FZ, fun i => if i < w.heap.size then 0 else if i < w2.heap.size then 1 else if i < w4.heap.size then 2 else if i < w6.heap.size then 3 else 4, H11.out, ⟨hr.ex, hr.fg, hr.good, hr.lt, fun i hi => by have := hr.lo i hi; omega, hr.cb⟩, hw, hk, ⟨hz.ex, hz.fg, hz.fine, hz.lt, fun i hi => by have := hz.lo i hi; omega⟩, fun i hi => ⟨.inr (.inl hi), ?_⟩, ⟨.inr (.inr (.inl rfl)), ?_⟩, ⟨.inr (.inr (.inr (.inl rfl))), ?_⟩, ⟨.inr (.inr (.inr (.inr (.inl rfl)))), ?_⟩, ⟨.inr (.inr (.inr (.inr (.inr (.inl rfl))))), ?_⟩, fun i hi => ⟨.inr (.inr (.inr (.inr (.inr (.inr hi))))), ?_⟩, ?_⟩, .inl rfl, ?_, ?_, HOK.out.clear⟩
    · have h1 := hr.lo i hi; have h2 := HRL.out i hi
      simp only; rw [if_neg (by omega), if_pos h2]
    · simp only; rw [if_neg (by omega), if_neg (by omega), if_pos (by omega)]
    · simp only; rw [if_neg (by omega), if_neg (by omega), if_pos (by omega)]
    · simp only; rw [if_neg (by omega), if_neg (by omega), if_neg (by omega), if_pos (by omega)]
    · simp only; rw [if_neg (by omega), if_neg (by omega), if_neg (by omega), if_pos (by omega)]
    · have h1 := hz.lo i hi
      simp only; rw [if_neg (by omega), if_neg (by omega), if_neg (by omega), if_neg (by omega)]
    · simp only; rw [if_pos hgl]
    · rintro i (rfl | hi | rfl | rfl | rfl | rfl | hi)
      · exact H11.out.lt
      · exact hr.lt i hi
      · exact hw.lt
      · exact hw.ltb
      · exact hk.lt
      · exact hk.ltb
      · exact hz.lt i hi
    · rintro i (rfl | hi | rfl | rfl | rfl | rfl | hi)
      · exact hC
      · have := hr.lo i hi; omega
      · omega
      · omega
      · omega
      · omega
      · have := hz.lo i hi; omega
  · have g1 := HG1.out; have g2 := HG2.out; have g3 := HG3.out; have g4 := HG4.out; have s2 := HZ2.out; have s4 := HZ4.out; have s6 := HZ6.out
    rintro i (rfl | hi | rfl | rfl | rfl | rfl | hi)
    · exact .inl rfl
    · exact .inr (HR8.out.lo i hi)
    · exact .inr (by omega)
    · exact .inr (by omega)
    · exact .inr (by omega)
    · exact .inr (by omega)
    · exact .inr (by have := HZ8.out.lo i hi; omega)
end Go.Proofs.YteoodompphhkbaaGreatDoor.Nod
