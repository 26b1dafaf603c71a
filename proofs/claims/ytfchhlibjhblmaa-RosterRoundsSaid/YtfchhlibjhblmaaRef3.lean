/-
  WHAT IS PROVED: the contract of the document's own Add where one is taken up. Conditions: the sizes; the lists lie outside of the blocks F, which are there.
-/
import Derived.Test.YtfchhlibjhblmaaRef2
namespace Go.Proofs.Ytfchhlibjhblmaa
open Go.RowKit Go.Lib Go.Maps

theorem Turn.mono {w w' : World} {F G : Nat → Prop} (h : Turn w w' F) (hs : ∀ i, F i → G i) : Turn w w' G := ⟨h.os, h.tape, h.output, h.size, fun i hi hn => h.block i hi (fun f => hn (hs i f))⟩
theorem less_id {L : List Mb} {k : Nat} {x : Int} {p : Mb} (h : ∀ j q, j < k → L[j]? = some q → q.id < x) (hp : L[k]? = some p) (hx : p.id < x) : ∀ j q, j < k + 1 → L[j]? = some q → q.id < x := fun j q hj hq => by
  by_cases e : j = k
  · subst e; rw [hp] at hq; injection hq with hq; rw [← hq]; exact hx
  · exact h j q (by omega) hq
/-- a variable's list of members is written -/
theorem Vx.set1 {w : World} {b : Nat} {R : Ro} {A B : Option Addr} {n c m d : Nat} (h : Vx w b R A n c B m d) (L : List Mb) (A' : Option Addr) (n' c' : Nat) : Vx (w.setCell ⟨b, 1, none⟩ (.slice A' n' c')) b ⟨R.s, L, R.B, R.c⟩ A' n' c' B m d := Blk.set_ h 1 _
theorem Vx.set2 {w : World} {b : Nat} {R : Ro} {A B : Option Addr} {n c m d : Nat} (h : Vx w b R A n c B m d) (L : List Bn) (B' : Option Addr) (m' d' : Nat) : Vx (w.setCell ⟨b, 2, none⟩ (.slice B' m' d')) b ⟨R.s, R.L, L, R.c⟩ A n c B' m' d' := Blk.set_ h 2 _
theorem Vx.set3 {w : World} {b : Nat} {R : Ro} {A B : Option Addr} {n c m d : Nat} (h : Vx w b R A n c B m d) (k : Nat) : Vx (w.setCell ⟨b, 3, none⟩ (.int .i64 (k : Int))) b ⟨R.s, R.L, R.B, k⟩ A n c B m d := Blk.set_ h 3 _
theorem Vx.far {w : World} {b : Nat} {R : Ro} {A B : Option Addr} {n c m d : Nat} (h : Vx w b R A n c B m d) {p : Addr} (hp : b ≠ p.block) (u : Value) : Vx (w.setCell p u) b R A n c B m d := Blk.far h hp u

set_option maxHeartbeats 8000000 in
theorem radd_yes (R : Ro) (A B : Option Addr) (n c m d : Nat) (F : Nat → Prop) (x t : Int) (w : World) (hn : n ≤ 1000) (hm : m ≤ 100000) (h : Dc w F R A n c B m d) (hu : Up R.L) (hF : ∀ i, F i → i < w.heap.size) (he : addE R x t = 0) :
    Calls Try.prog 13 #[vD R A n c B m d, .int .i64 x, .int .i64 t] w (GivesD F (addR R x t) 0 w) := by
  obtain ⟨i0, hi0, hz0, hz1, hz2⟩ := info_parts rmem_info
  have HD := Lib.hid h
  have HUP := Lib.hid hu
  obtain ⟨hx1, hz1, hb1⟩ := two_vx w R A n c B m d
  have HX := Lib.hid hx1
  have HZ := Lib.hid hz1
  have HB := Lib.hid hb1
  clear hx1 hz1 hb1
  obtain ⟨hc, hq, hbn, h15⟩ := addE_zero he
  rw [addR_ok he]
  have H1 := Lib.hid (chk_zero hc).1
  have H2 := Lib.hid (chk_zero hc).2.1
  have t1 : (x == R.s) = false := by simpa using (chk_zero hc).2.2
  have HQ := Lib.hid hq
  have HFX : Hid (fnd R.L x = -1) := Lib.hid (fnd_not hq)
  have HU := Lib.hid hbn
  have HN := Lib.hid h.l.lenM
  have HF := Lib.hid hF
  have t2 : ((n : Int) == 15) = false := by have := h.l.lenM; simp; omega
  have hnc := h.lc
  have hcm := h.lm
  clear h hu he hq hc hbn h15 hF
  go_enter Try.func13, Try.ntmps13
  go_wp2_with (fail)
  refine (rid_any x _).mono ?_
  rintro e w1 ⟨rfl, hw⟩
  rw [hw] at HX HZ HB
  clear hw
  rw [H1.out]
  obtain ⟨a0, a1, a2, a3⟩ := HX.out.cells
  obtain ⟨z0, z1, z2, z3⟩ := HZ.out.cells
  have f0 := HZ.out.fz 0
  have f1 := HZ.out.fz 1
  have f2 := HZ.out.fz 2
  have f3 := HZ.out.fz 3
  go_wp2_with (fail)
  refine (rtime_any t _).mono ?_
  rintro e w2 ⟨rfl, rfl⟩
  rw [H2.out]
  go_wp2_with (fail)
  refine (find_any R A B n c m d F x _ hn (HD.out.below HB.out) HUP.out).mono ?_
  rintro e w2 ⟨rfl, hb2⟩
  rw [HFX.out]
  have HX2 := Lib.hid (HX.out.later hb2)
  have HZ2 := Lib.hid (HZ.out.later hb2)
  have HB2 := Lib.hid (HB.out.trans (hb2.mono HB.out.size))
  have HD2 := Lib.hid (HD.out.below HB2.out)
  clear hb2
  clear a0 a1 a2 a3 z0 z1 z2 z3 f0 f1 f2 f3
  obtain ⟨a0, a1, a2, a3⟩ := HX2.out.cells
  go_wp2_with (fail)
  refine (rbanned_any R A B n c m d F x t _ (by omega) HD2.out).mono ?_
  rintro e w3 ⟨rfl, hb3⟩
  rw [HU.out]
  have HX3 := Lib.hid (HX2.out.later hb3)
  have HZ3 := Lib.hid (HZ2.out.later hb3)
  have HB3 := Lib.hid (HB2.out.trans (hb3.mono HB2.out.size))
  have HD3 := Lib.hid (HD.out.below HB3.out)
  clear hb3
  clear a0 a1 a2 a3
  obtain ⟨a0, a1, a2, a3⟩ := HX3.out.cells
  go_wp2_with (fail)
  refine (unban_any R A B n c m d F x _ (by omega) HD3.out).mono ?_
  rintro e w4 ⟨hb4, v4, rfl, ho4⟩
  obtain ⟨m4, hm4⟩ : ∃ m4, (unB R.B x).length = m4 := ⟨_, rfl⟩
  rw [hm4] at ho4
  obtain ⟨B4, d4, rfl, hc4, hcm4⟩ := own_form ho4
  have HX4 := Lib.hid (HX3.out.later hb4)
  have HZ4 := Lib.hid (HZ3.out.later hb4)
  have HB4 := Lib.hid (HB3.out.trans (hb4.mono HB3.out.size))
  clear a0 a1 a2 a3
  obtain ⟨a0, a1, a2, a3⟩ := HX4.out.cells
  have j2 := HX4.out.fz 2
  obtain ⟨W5, HW5⟩ : ∃ W5, w4.setCell ⟨w.heap.size, 2, none⟩ (.slice B4 m4 d4) = W5 := ⟨_, rfl⟩
  have HX5 : Hid (Vx W5 w.heap.size ⟨R.s, R.L, unB R.B x, R.c⟩ A n c B4 m4 d4) := Lib.hid (by rw [← HW5]; exact HX4.out.set2 _ _ _ _)
  have HZ5 : Hid (Vx W5 (w.heap.size + 1) ⟨0, [], [], 0⟩ none 0 0 none 0 0) := Lib.hid (by rw [← HW5]; exact HZ4.out.far (by simp) _)
  have HB5 : Hid (Below w.heap.size w W5) := Lib.hid (by rw [← HW5]; exact below_set HB4.out (p := ⟨w.heap.size, 2, none⟩) (Nat.le_refl _) _)
  have HDL := Lib.hid (HD.out.below HB5.out).l.no_
  have HO5 : Hid (W5.ownsRow w3.heap.size 69 2 (.slice B4 m4 d4) m4 (flatB (unB R.B x))) := Lib.hid (by rw [← HW5]; exact own_turn ho4 (turn_set w4 ⟨w.heap.size, 2, none⟩ _) (fun k hk e => by have := (ho4.lt k hk).1; have := HX3.out.lt; simp only at e; omega))
  clear hb4 ho4 hm4
  obtain ⟨y0, y1, y2, y3⟩ := HX5.out.cells
  simp only at y0 y1 y2 y3
  go_wp2
  clear a0 a1 a2 a3
  obtain ⟨a0, a1, a2, a3⟩ := HX5.out.cells
  go_loop [8] (fun i => ∃ k : Nat, k ≤ n ∧ i = .int .i64 k ∧ ∀ j q, j < k → R.L[j]? = some q → q.id < x) (fun i => n - (intOf i).toNat)
  case atStart => exact ⟨0, by omega, rfl, fun j q hj => absurd hj (by omega)⟩
  case round =>
    obtain ⟨k, hk, rfl, hno⟩ := hrel
    have HNO := Lib.hid hno
    clear hno
    by_cases hlt : k < n
    · obtain ⟨ad, p, rfl, hp, _, _, d0, d1, d2, d3, d4'⟩ := HDL.out.atM hlt
      have HP := Lib.hid hp
      clear hp
      have t9 : ¬ c = k := by omega
      by_cases hx : p.id < x
      · have HNN := Lib.hid (less_id HNO.out HP.out hx)
        go_wp2
        go_round
        case rel => exact ⟨k + 1, by omega, by go_num, HNN.out⟩
        case measure => simp [intOf]; omega
      · have HPS : Hid (posL R.L x = k) := Lib.hid (pos_stop (by rw [HN.out]; omega) HNO.out (fun q hq => by rw [HP.out] at hq; injection hq with hq; rw [← hq]; omega))
        have t3 : decide (p.id < x) = false := by simpa using hx
        clear hx
        have HL : Hid (insL R.L ⟨x, 0, 0, 0, -1⟩ = R.L.take k ++ [⟨x, 0, 0, 0, -1⟩] ++ R.L.drop k) := Lib.hid (by rw [ins_new HQ.out, HPS.out, List.append_assoc]; rfl)
        have HL6 := Lib.hid ((HDL.out.takeM hk).below ((Below.refl _ _).alloc (Nat.le_refl _) (.cells #[] 41)))
        have HS6 : Hid (W5.heap.size ≤ (W5.alloc (.cells #[] 41)).heap.size) := Lib.hid (by simp)
        clear a0 a1 a2 a3
        obtain ⟨_, a1, _, _⟩ := HX5.out.cells
        have e1 : ∀ o, (W5.alloc o).cell? ⟨w.heap.size, 1, none⟩ = some (.slice (some ad) n c) := fun o => (HX5.out.later ((Below.refl _ _).alloc (Nat.le_refl _) o)).cells.2.1
        go_wp2_with (first | (at_builtin; refine wpList_append_rd _ rfl _ _ 29 rfl W5.heap.size 41 i0 _ 5 40 Try.underlying29 hi0 hz0 hz1 hz2 rfl (by omega) (.slice (some ⟨W5.heap.size, 0, none⟩) 0 0) 0 [] rfl (World.ownsRow_made W5 #[] 0 (Nat.le_refl _) (Nat.zero_le _) rfl) no (some ad) k c (flatM (R.L.take k)) rfl HL6.out (flatM_one _) (by unfold maxLen; omega) (by omega) HS6.out ?_; intro v6 w6 ho6 hg6 hat6; rw [Nat.zero_add, List.nil_append] at ho6; obtain ⟨A6, c6, rfl, hc6, hcm6⟩ := own_form ho6; have H6 := Lib.hid ho6; have HB6 := Lib.hid ((Below.refl W5.heap.size W5).alloc (Nat.le_refl _) (.cells #[] 41) |>.grown hg6 (by simp) (by intro k hk; simp [Value.ownBlock] at hk; omega)); have HL7 := Lib.hid (rd_mem w6 ⟨x, 0, 0, 0, -1⟩); have H6A := Lib.hid (H6.out.alloc (.cells #[.int .i64 x, .int .i64 0, .int .i64 0, .int .i64 0, .int .i64 (-1)] 41)); have HS7 : Hid (W5.heap.size ≤ (w6.alloc (.cells #[.int .i64 x, .int .i64 0, .int .i64 0, .int .i64 0, .int .i64 (-1)] 41)).heap.size) := Lib.hid (by have := HB6.out.size; simp; omega); clear ho6 hg6 hat6) | (at_builtin; refine wpList_append_rd _ rfl _ _ 29 rfl W5.heap.size 41 i0 _ 5 40 Try.underlying29 hi0 hz0 hz1 hz2 rfl (by omega) (.slice A6 k c6) k (flatM (R.L.take k)) rfl H6A.out no (some ⟨w6.heap.size, 0, none⟩) 1 1 (flatM [⟨x, 0, 0, 0, -1⟩]) rfl HL7.out (flatM_one _) (by unfold maxLen; omega) (by omega) HS7.out ?_; intro v7 w7 ho7 hg7 hat7; obtain ⟨A7, c7, rfl, hc7, hcm7⟩ := own_form ho7; have H7 := Lib.hid ho7; have HB7 := Lib.hid ((HB6.out.alloc HB6.out.size (.cells #[.int .i64 x, .int .i64 0, .int .i64 0, .int .i64 0, .int .i64 (-1)] 41)).grown hg7 (by have := HB6.out.size; simp; omega) (fun k hk => (H6A.out.lt k hk).1)); have HS8 : Hid (W5.heap.size ≤ w7.heap.size) := Lib.hid HB7.out.size; have q1 := (HX5.out.later HB7.out).cells.2.1; have HL8 : Hid (Rd w7 no 5 (some (ad.add (k * 5))) (n - k) (flatM (R.L.drop k))) := Lib.hid (by have := HDL.out.dropM (cap := c) hk hnc; rw [if_neg t9] at this; exact this.below HB7.out); clear ho7 hg7 hat7) | (at_builtin; refine wpList_append_rd _ rfl _ _ 29 rfl W5.heap.size 41 i0 _ 5 40 Try.underlying29 hi0 hz0 hz1 hz2 rfl (by omega) (.slice A7 (k + 1) c7) (k + 1) (flatM (R.L.take k) ++ flatM [⟨x, 0, 0, 0, -1⟩]) rfl H7.out no (some (ad.add (k * 5))) (n - k) (c - k) (flatM (R.L.drop k)) rfl HL8.out (flatM_one _) (by unfold maxLen; omega) (by omega) HS8.out ?_; intro v8 w8 ho8 hg8 hat8; obtain ⟨n8, hn8⟩ : ∃ n8, k + 1 + (n - k) = n8 := ⟨_, rfl⟩; rw [hn8] at ho8; obtain ⟨A8, c8, rfl, hc8, hcm8⟩ := own_form ho8; have H8 := Lib.hid ho8; have HB8 := Lib.hid (HB7.out.grown hg8 HB7.out.size (fun k hk => (H7.out.lt k hk).1)); have HX8 := Lib.hid (HX5.out.later HB8.out); have HZ8 := Lib.hid (HZ5.out.later HB8.out); obtain ⟨_, b1, _, _⟩ := HX8.out.cells; have j1 := HX8.out.fz 1; obtain ⟨W9, HW9⟩ : ∃ W9, w8.setCell ⟨w.heap.size, 1, none⟩ (.slice A8 n8 c8) = W9 := ⟨_, rfl⟩; have HX9 : Hid (Vx W9 w.heap.size ⟨R.s, insL R.L ⟨x, 0, 0, 0, -1⟩, unB R.B x, R.c⟩ A8 n8 c8 B4 m4 d4) := Lib.hid (by rw [← HW9]; exact HX8.out.set1 _ _ _ _); have HZ9 : Hid (Vx W9 (w.heap.size + 1) ⟨0, [], [], 0⟩ none 0 0 none 0 0) := Lib.hid (by rw [← HW9]; exact HZ8.out.far (by simp) _); obtain ⟨x0, x1, x2, x3⟩ := HX9.out.cells; obtain ⟨z0, z1, z2, z3⟩ := HZ9.out.cells; have f0 := HZ9.out.fz 0; have f1 := HZ9.out.fz 1; have f2 := HZ9.out.fz 2; have f3 := HZ9.out.fz 3; have HT9 : Hid (Turn w8 W9 (fun a => a = w.heap.size ∨ a = w.heap.size + 1)) := Lib.hid (by rw [← HW9]; exact (turn_set w8 ⟨w.heap.size, 1, none⟩ _).mono (fun i e => .inl e)); have HN8 := Lib.hid hn8; clear ho8 hg8 hat8 hn8))
        all_goals
          have HTF : Turn w8 ((((W9.setCell ⟨w.heap.size + 1, 0, none⟩ (.int .i64 R.s)).setCell ⟨w.heap.size + 1, 1, none⟩ (.slice A8 n8 c8)).setCell ⟨w.heap.size + 1, 2, none⟩ (.slice B4 m4 d4)).setCell ⟨w.heap.size + 1, 3, none⟩ (.int .i64 (R.c : Int))) (fun a => a = w.heap.size ∨ a = w.heap.size + 1) := HT9.out.trans ((turn4 W9 (w.heap.size + 1) 0 1 2 3 (.int .i64 R.s) (.slice A8 n8 c8) (.slice B4 m4 d4) (.int .i64 (R.c : Int))).mono (fun i e => .inr e)) (Sub.refl _ _)
          have hs5 : w.heap.size + 1 < W5.heap.size := HZ5.out.lt
          have hs3 : w.heap.size + 1 < w3.heap.size := HZ3.out.lt
          have hb8 := HB8.out
          have hlen : (insL R.L ⟨x, 0, 0, 0, -1⟩).length = n8 := by rw [HL.out, List.length_append, List.length_append, List.length_take, List.length_drop, HN.out, ← HN8.out]; first | (simp; done) | (simp; omega)
          have ho8 := own_turn H8.out HTF (fun k hk e => by have := (H8.out.lt k hk).1; omega)
          have ho4 := own_turn (own_below HO5.out (hb8.mono (Nat.le_refl _))) HTF (fun k hk e => by have := (HO5.out.lt k hk).1; omega)
          have hbf : Below w.heap.size w ((((W9.setCell ⟨w.heap.size + 1, 0, none⟩ (.int .i64 R.s)).setCell ⟨w.heap.size + 1, 1, none⟩ (.slice A8 n8 c8)).setCell ⟨w.heap.size + 1, 2, none⟩ (.slice B4 m4 d4)).setCell ⟨w.heap.size + 1, 3, none⟩ (.int .i64 (R.c : Int))) := HB5.out.trans ((hb8.mono HB5.out.size).trans (HTF.below (C := w.heap.size) (fun i e => by omega) (by have := HB5.out.size; have := hb8.size; omega)))
          refine bodyPost_ret (results_rbox (p := 6) (u := 7) rfl _ _ (w.heap.size + 1) ⟨R.s, insL R.L ⟨x, 0, 0, 0, -1⟩, unB R.B x, R.c⟩ A8 n8 c8 B4 m4 d4 rfl (HZ9.out.store ⟨R.s, insL R.L ⟨x, 0, 0, 0, -1⟩, unB R.B x, R.c⟩ A8 n8 c8 B4 m4 d4)) rfl ⟨A8, n8, c8, B4, m4, d4, rfl, ⟨?_, rd_own ho4 HF.out (by have := HB3.out.size; omega), hc8, hcm8, hc4, hcm4⟩, hbf⟩
          rw [HL.out, flatM_append, flatM_append]
          exact rd_own ho8 HF.out (by have := HB5.out.size; omega)
    · obtain rfl : k = n := by omega
      have HPS : Hid (posL R.L x = k) := Lib.hid (pos_stop (by rw [HN.out]; omega) HNO.out (fun q hq => by have := (List.getElem?_eq_some_iff.1 hq).1; rw [HN.out] at this; omega))
      have HL : Hid (insL R.L ⟨x, 0, 0, 0, -1⟩ = R.L.take k ++ [⟨x, 0, 0, 0, -1⟩] ++ R.L.drop k) := Lib.hid (by rw [ins_new HQ.out, HPS.out, List.append_assoc]; rfl)
      have HL6 := Lib.hid ((HDL.out.takeM hk).below ((Below.refl _ _).alloc (Nat.le_refl _) (.cells #[] 41)))
      have HS6 : Hid (W5.heap.size ≤ (W5.alloc (.cells #[] 41)).heap.size) := Lib.hid (by simp)
      clear a0 a1 a2 a3
      obtain ⟨_, a1, _, _⟩ := HX5.out.cells
      have e1 : ∀ o, (W5.alloc o).cell? ⟨w.heap.size, 1, none⟩ = some (.slice A k c) := fun o => (HX5.out.later ((Below.refl _ _).alloc (Nat.le_refl _) o)).cells.2.1
      go_wp2_with (first | (at_builtin; refine wpList_append_rd _ rfl _ _ 29 rfl W5.heap.size 41 i0 _ 5 40 Try.underlying29 hi0 hz0 hz1 hz2 rfl (by omega) (.slice (some ⟨W5.heap.size, 0, none⟩) 0 0) 0 [] rfl (World.ownsRow_made W5 #[] 0 (Nat.le_refl _) (Nat.zero_le _) rfl) no A k c (flatM (R.L.take k)) rfl HL6.out (flatM_one _) (by unfold maxLen; omega) (by omega) HS6.out ?_; intro v6 w6 ho6 hg6 hat6; rw [Nat.zero_add, List.nil_append] at ho6; obtain ⟨A6, c6, rfl, hc6, hcm6⟩ := own_form ho6; have H6 := Lib.hid ho6; have HB6 := Lib.hid ((Below.refl W5.heap.size W5).alloc (Nat.le_refl _) (.cells #[] 41) |>.grown hg6 (by simp) (by intro k hk; simp [Value.ownBlock] at hk; omega)); have HL7 := Lib.hid (rd_mem w6 ⟨x, 0, 0, 0, -1⟩); have H6A := Lib.hid (H6.out.alloc (.cells #[.int .i64 x, .int .i64 0, .int .i64 0, .int .i64 0, .int .i64 (-1)] 41)); have HS7 : Hid (W5.heap.size ≤ (w6.alloc (.cells #[.int .i64 x, .int .i64 0, .int .i64 0, .int .i64 0, .int .i64 (-1)] 41)).heap.size) := Lib.hid (by have := HB6.out.size; simp; omega); clear ho6 hg6 hat6) | (at_builtin; refine wpList_append_rd _ rfl _ _ 29 rfl W5.heap.size 41 i0 _ 5 40 Try.underlying29 hi0 hz0 hz1 hz2 rfl (by omega) (.slice A6 k c6) k (flatM (R.L.take k)) rfl H6A.out no (some ⟨w6.heap.size, 0, none⟩) 1 1 (flatM [⟨x, 0, 0, 0, -1⟩]) rfl HL7.out (flatM_one _) (by unfold maxLen; omega) (by omega) HS7.out ?_; intro v7 w7 ho7 hg7 hat7; obtain ⟨A7, c7, rfl, hc7, hcm7⟩ := own_form ho7; have H7 := Lib.hid ho7; have HB7 := Lib.hid ((HB6.out.alloc HB6.out.size (.cells #[.int .i64 x, .int .i64 0, .int .i64 0, .int .i64 0, .int .i64 (-1)] 41)).grown hg7 (by have := HB6.out.size; simp; omega) (fun k hk => (H6A.out.lt k hk).1)); have HS8 : Hid (W5.heap.size ≤ w7.heap.size) := Lib.hid HB7.out.size; have q1 := (HX5.out.later HB7.out).cells.2.1; clear ho7 hg7 hat7) | (at_builtin; refine wpList_append_rd _ rfl _ _ 29 rfl W5.heap.size 41 i0 _ 5 40 Try.underlying29 hi0 hz0 hz1 hz2 rfl (by omega) (.slice A7 (k + 1) c7) (k + 1) (flatM (R.L.take k) ++ flatM [⟨x, 0, 0, 0, -1⟩]) rfl H7.out no _ 0 (c - k) [] rfl (Rd.nil_ _ _ _ _) (fun _ h => by cases h) (by unfold maxLen; omega) (by omega) HS8.out ?_; intro v8 w8 ho8 hg8 hat8; obtain ⟨n8, hn8⟩ : ∃ n8, k + 1 + 0 = n8 := ⟨_, rfl⟩; rw [hn8] at ho8; obtain ⟨A8, c8, rfl, hc8, hcm8⟩ := own_form ho8; have H8 := Lib.hid ho8; have HB8 := Lib.hid (HB7.out.grown hg8 HB7.out.size (fun k hk => (H7.out.lt k hk).1)); have HX8 := Lib.hid (HX5.out.later HB8.out); have HZ8 := Lib.hid (HZ5.out.later HB8.out); obtain ⟨_, b1, _, _⟩ := HX8.out.cells; have j1 := HX8.out.fz 1; obtain ⟨W9, HW9⟩ : ∃ W9, w8.setCell ⟨w.heap.size, 1, none⟩ (.slice A8 n8 c8) = W9 := ⟨_, rfl⟩; have HX9 : Hid (Vx W9 w.heap.size ⟨R.s, insL R.L ⟨x, 0, 0, 0, -1⟩, unB R.B x, R.c⟩ A8 n8 c8 B4 m4 d4) := Lib.hid (by rw [← HW9]; exact HX8.out.set1 _ _ _ _); have HZ9 : Hid (Vx W9 (w.heap.size + 1) ⟨0, [], [], 0⟩ none 0 0 none 0 0) := Lib.hid (by rw [← HW9]; exact HZ8.out.far (by simp) _); obtain ⟨x0, x1, x2, x3⟩ := HX9.out.cells; obtain ⟨z0, z1, z2, z3⟩ := HZ9.out.cells; have f0 := HZ9.out.fz 0; have f1 := HZ9.out.fz 1; have f2 := HZ9.out.fz 2; have f3 := HZ9.out.fz 3; have HT9 : Hid (Turn w8 W9 (fun a => a = w.heap.size ∨ a = w.heap.size + 1)) := Lib.hid (by rw [← HW9]; exact (turn_set w8 ⟨w.heap.size, 1, none⟩ _).mono (fun i e => .inl e)); have HN8 := Lib.hid hn8; clear ho8 hg8 hat8 hn8))
      all_goals
        have HTF : Turn w8 ((((W9.setCell ⟨w.heap.size + 1, 0, none⟩ (.int .i64 R.s)).setCell ⟨w.heap.size + 1, 1, none⟩ (.slice A8 n8 c8)).setCell ⟨w.heap.size + 1, 2, none⟩ (.slice B4 m4 d4)).setCell ⟨w.heap.size + 1, 3, none⟩ (.int .i64 (R.c : Int))) (fun a => a = w.heap.size ∨ a = w.heap.size + 1) := HT9.out.trans ((turn4 W9 (w.heap.size + 1) 0 1 2 3 (.int .i64 R.s) (.slice A8 n8 c8) (.slice B4 m4 d4) (.int .i64 (R.c : Int))).mono (fun i e => .inr e)) (Sub.refl _ _)
        have hs5 : w.heap.size + 1 < W5.heap.size := HZ5.out.lt
        have hs3 : w.heap.size + 1 < w3.heap.size := HZ3.out.lt
        have hb8 := HB8.out
        have hlen : (insL R.L ⟨x, 0, 0, 0, -1⟩).length = n8 := by rw [HL.out, List.length_append, List.length_append, List.length_take, List.length_drop, HN.out, ← HN8.out]; first | (simp; done) | (simp; omega)
        have ho8 := own_turn H8.out HTF (fun k hk e => by have := (H8.out.lt k hk).1; omega)
        have ho4 := own_turn (own_below HO5.out (hb8.mono (Nat.le_refl _))) HTF (fun k hk e => by have := (HO5.out.lt k hk).1; omega)
        have hbf : Below w.heap.size w ((((W9.setCell ⟨w.heap.size + 1, 0, none⟩ (.int .i64 R.s)).setCell ⟨w.heap.size + 1, 1, none⟩ (.slice A8 n8 c8)).setCell ⟨w.heap.size + 1, 2, none⟩ (.slice B4 m4 d4)).setCell ⟨w.heap.size + 1, 3, none⟩ (.int .i64 (R.c : Int))) := HB5.out.trans ((hb8.mono HB5.out.size).trans (HTF.below (C := w.heap.size) (fun i e => by omega) (by have := HB5.out.size; have := hb8.size; omega)))
        refine bodyPost_ret (results_rbox (p := 6) (u := 7) rfl _ _ (w.heap.size + 1) ⟨R.s, insL R.L ⟨x, 0, 0, 0, -1⟩, unB R.B x, R.c⟩ A8 n8 c8 B4 m4 d4 rfl (HZ9.out.store ⟨R.s, insL R.L ⟨x, 0, 0, 0, -1⟩, unB R.B x, R.c⟩ A8 n8 c8 B4 m4 d4)) rfl ⟨A8, n8, c8, B4, m4, d4, rfl, ⟨?_, rd_own ho4 HF.out (by have := HB3.out.size; omega), hc8, hcm8, hc4, hcm4⟩, hbf⟩
        rw [HL.out, flatM_append, flatM_append, show R.L.drop k = [] from List.drop_eq_nil_of_le (by rw [HN.out]; exact Nat.le_refl _)]
        exact rd_own ho8 HF.out (by have := HB5.out.size; omega)
end Go.Proofs.Ytfchhlibjhblmaa
