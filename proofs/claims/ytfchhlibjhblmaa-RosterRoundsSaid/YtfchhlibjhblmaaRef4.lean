/-
  WHAT IS PROVED: the contract of the document's own Forget where one goes. Conditions: the sizes; the lists lie outside of the blocks F, which are there.
-/
import Derived.Test.YtfchhlibjhblmaaRef3
namespace Go.Proofs.Ytfchhlibjhblmaa
open Go.RowKit Go.Lib Go.Maps

set_option maxHeartbeats 8000000 in
theorem rfor_yes (R : Ro) (A B : Option Addr) (n c m d : Nat) (F : Nat → Prop) (x t : Int) (w : World) (hn : n ≤ 1000) (hm : m ≤ 100000) (h : Dc w F R A n c B m d) (hu : Up R.L) (hF : ∀ i, F i → i < w.heap.size) (he : forE R x t = 0) :
    Calls Try.prog 15 #[vD R A n c B m d, .int .i64 x, .int .i64 t] w (GivesD F (forR R x t) 0 w) := by
  obtain ⟨i0, hi0, hz0, hz1, hz2⟩ := info_parts rmem_info
  obtain ⟨ib, hib, hzb, hzb1, hzb2⟩ := info_parts ban_info
  have HD := Lib.hid h
  have HUP := Lib.hid hu
  obtain ⟨hx1, hz1, hb1⟩ := two_vx w R A n c B m d
  have HX := Lib.hid hx1
  have HZ := Lib.hid hz1
  have HB := Lib.hid hb1
  clear hx1 hz1 hb1
  obtain ⟨hc, hq⟩ := forE_zero he
  rw [forR_ok he]
  have H1 := Lib.hid (chk_zero hc).1
  have H2 := Lib.hid (chk_zero hc).2.1
  have t1 : (x == R.s) = false := by simpa using (chk_zero hc).2.2
  have hti := in_time (chk_zero hc).2.1
  obtain ⟨ht1, ht2⟩ := hti
  obtain ⟨k, hk⟩ : ∃ k, posL R.L x = k := ⟨_, rfl⟩
  have HFX : Hid (fnd R.L x = (k : Int)) := Lib.hid (by rw [fnd_has hq, hk])
  have HL : Hid (delL R.L x = R.L.take k ++ R.L.drop (k + 1)) := Lib.hid (by rw [del_at hu hq, hk])
  have HN := Lib.hid h.l.lenM
  have HBL := Lib.hid h.b.lenB
  have HF := Lib.hid hF
  have hkn : k < n := by rw [← hk, ← h.l.lenM]; exact pos_has hu hq
  have hnc := h.lc
  have hcm := h.lm
  clear h hu he hq hc hF hk
  go_enter Try.func15, Try.ntmps15
  go_wp2_with (fail)
  refine (rid_any x _).mono ?_
  rintro e w1 ⟨rfl, hw⟩
  rw [hw] at HX HZ HB
  clear hw
  rw [H1.out]
  obtain ⟨a0, a1, a2, a3⟩ := HX.out.cells
  obtain ⟨z0, z1, z2, z3⟩ := HZ.out.cells
  have f0 := HZ.out.fz 0
  have f1 := HZ.out.fz 1
  have f2 := HZ.out.fz 2
  have f3 := HZ.out.fz 3
  go_wp2_with (fail)
  refine (rtime_any t _).mono ?_
  rintro e w2 ⟨rfl, rfl⟩
  rw [H2.out]
  go_wp2_with (fail)
  refine (find_any R A B n c m d F x _ hn (HD.out.below HB.out) HUP.out).mono ?_
  rintro e w2 ⟨rfl, hb2⟩
  rw [HFX.out]
  have HX2 := Lib.hid (HX.out.later hb2)
  have HZ2 := Lib.hid (HZ.out.later hb2)
  have HB2 := Lib.hid (HB.out.trans (hb2.mono HB.out.size))
  have HD2 := Lib.hid (HD.out.below HB2.out)
  clear hb2
  clear a0 a1 a2 a3 z0 z1 z2 z3 f0 f1 f2 f3
  have HDL := Lib.hid HD2.out.l.no_
  obtain ⟨ad, p, rfl, _, _, _, _, _, _, _, _⟩ := HDL.out.atM hkn
  obtain ⟨a0, a1, a2, a3⟩ := HX2.out.cells
  by_cases hck : c = k + 1
  · obtain rfl : n = k + 1 := by omega
    subst hck
    have HL5 := Lib.hid ((HDL.out.takeM (k := k) (by omega)).below ((Below.refl _ _).alloc (Nat.le_refl _) (.cells #[] 41)))
    have HS5 : Hid (w2.heap.size ≤ (w2.alloc (.cells #[] 41)).heap.size) := Lib.hid (by simp)
    have e1 : ∀ o, (w2.alloc o).cell? ⟨w.heap.size, 1, none⟩ = some (.slice (some ad) (k + 1) (k + 1)) := fun o => (HX2.out.later ((Below.refl _ _).alloc (Nat.le_refl _) o)).cells.2.1
    go_wp2_with (first | (at_builtin; refine wpList_append_rd _ rfl _ _ 29 rfl w2.heap.size 41 i0 _ 5 40 Try.underlying29 hi0 hz0 hz1 hz2 rfl (by omega) (.slice (some ⟨w2.heap.size, 0, none⟩) 0 0) 0 [] rfl (World.ownsRow_made w2 #[] 0 (Nat.le_refl _) (Nat.zero_le _) rfl) no (some ad) k (k + 1) (flatM (R.L.take k)) rfl HL5.out (flatM_one _) (by unfold maxLen; omega) (by omega) HS5.out ?_; intro v5 w5 ho5 hg5 hat5; rw [Nat.zero_add, List.nil_append] at ho5; obtain ⟨A5, c5, rfl, hc5, hcm5⟩ := own_form ho5; have H5 := Lib.hid ho5; have HB5 := Lib.hid ((Below.refl w2.heap.size w2).alloc (Nat.le_refl _) (.cells #[] 41) |>.grown hg5 (by simp) (by intro k hk; simp [Value.ownBlock] at hk; omega)); have HS6 : Hid (w2.heap.size ≤ w5.heap.size) := Lib.hid HB5.out.size; have q1 := (HX2.out.later HB5.out).cells.2.1; clear ho5 hg5 hat5) | (at_builtin; refine wpList_append_rd _ rfl _ _ 29 rfl w2.heap.size 41 i0 _ 5 40 Try.underlying29 hi0 hz0 hz1 hz2 rfl (by omega) (.slice A5 k c5) k (flatM (R.L.take k)) rfl H5.out no _ 0 _ [] rfl (Rd.nil_ _ _ _ _) (fun _ h => by cases h) (by unfold maxLen; omega) (by omega) HS6.out ?_; intro v6 w6 ho6 hg6 hat6; obtain ⟨n6, hn6⟩ : ∃ n6, k + 0 = n6 := ⟨_, rfl⟩; rw [hn6] at ho6; obtain ⟨A6, c6, rfl, hc6, hcm6⟩ := own_form ho6; have HB6 := Lib.hid (HB5.out.grown hg6 HB5.out.size (fun k hk => (H5.out.lt k hk).1)); have HX6 := Lib.hid (HX2.out.later HB6.out); have HZ6 := Lib.hid (HZ2.out.later HB6.out); obtain ⟨_, b1, _, _⟩ := HX6.out.cells; have j1 := HX6.out.fz 1; obtain ⟨W7, HW7⟩ : ∃ W7, w6.setCell ⟨w.heap.size, 1, none⟩ (.slice A6 n6 c6) = W7 := ⟨_, rfl⟩; have HX7 : Hid (Vx W7 w.heap.size ⟨R.s, delL R.L x, R.B, R.c⟩ A6 n6 c6 B m d) := Lib.hid (by rw [← HW7]; exact HX6.out.set1 _ _ _ _); have HZ7 : Hid (Vx W7 (w.heap.size + 1) ⟨0, [], [], 0⟩ none 0 0 none 0 0) := Lib.hid (by rw [← HW7]; exact HZ6.out.far (by simp) _); have HB7 : Hid (Below w.heap.size w W7) := Lib.hid (by rw [← HW7]; exact below_set (HB2.out.trans (HB6.out.mono HB2.out.size)) (p := ⟨w.heap.size, 1, none⟩) (Nat.le_refl _) _); have H7 : Hid (W7.ownsRow w2.heap.size 41 5 (.slice A6 n6 c6) n6 (flatM (delL R.L x))) := Lib.hid (by rw [← HW7, HL.out, flatM_append]; refine own_turn ?_ (turn_set w6 ⟨w.heap.size, 1, none⟩ _) (fun k hk e => by have := (ho6.lt k hk).1; have := HX2.out.lt; simp only at e; omega); rw [show R.L.drop (k + 1) = [] from List.drop_eq_nil_of_le (by rw [HN.out]; exact Nat.le_refl _)]; exact ho6); have HD7 : Hid (Dc W7 no ⟨R.s, delL R.L x, R.B, R.c⟩ A6 n6 c6 B m d) := Lib.hid ⟨Rd.of_own H7.out rfl (fun _ _ f => f), (HD.out.below HB7.out).b.no_, hc6, hcm6, HD.out.bc, HD.out.bm⟩; obtain ⟨x0, x1, x2, x3⟩ := HX7.out.cells; simp only at x0 x1 x2 x3; clear ho6 hg6 hat6 hn6))
    refine (unban_any ⟨R.s, delL R.L x, R.B, R.c⟩ A6 B n6 c6 m d no x _ (by omega) HD7.out).mono ?_
    rintro e w8 ⟨hb8, v8, rfl, ho8⟩
    obtain ⟨m8, hm8⟩ : ∃ m8, (unB R.B x).length = m8 := ⟨_, rfl⟩
    simp only at ho8
    rw [hm8] at ho8
    have hm8l : m8 ≤ m := by rw [← hm8, ← HBL.out]; exact List.length_filter_le _ _
    obtain ⟨B8, d8, rfl, hc8, hcm8⟩ := own_form ho8
    have H8A := Lib.hid (ho8.alloc (.cells #[.int .i64 x, .int .i64 (t + 60000)] 69))
    have HB8 := Lib.hid hb8
    have HS9 : Hid (W7.heap.size ≤ (w8.alloc (.cells #[.int .i64 x, .int .i64 (t + 60000)] 69)).heap.size) := Lib.hid (by have := hb8.size; simp; omega)
    have HL9 := Lib.hid (rd_ban w8 ⟨x, t + 60000⟩)
    have HM8 := Lib.hid hm8
    clear hb8 ho8 hm8
    go_wp2_with (at_builtin; refine wpList_append_rd _ rfl _ _ 30 rfl W7.heap.size 69 ib _ 2 16 Try.underlying30 hib hzb hzb1 hzb2 rfl (by omega) (.slice B8 m8 d8) m8 (flatB (unB R.B x)) rfl H8A.out no (some ⟨w8.heap.size, 0, none⟩) 1 1 (flatB [⟨x, t + 60000⟩]) rfl HL9.out (flatB_one _) (by unfold maxLen; omega) (by omega) HS9.out ?_; intro v9 w9 ho9 hg9 hat9; obtain ⟨B9, d9, rfl, hc9, hcm9⟩ := own_form ho9; have H9 := Lib.hid ho9; have HB9 := Lib.hid ((HB8.out.alloc HB8.out.size (.cells #[.int .i64 x, .int .i64 (t + 60000)] 69)).grown hg9 (by have := HB8.out.size; simp; omega) (fun k hk => (H8A.out.lt k hk).1)); have HX9 := Lib.hid (HX7.out.later HB9.out); have HZ9 := Lib.hid (HZ7.out.later HB9.out); obtain ⟨_, _, b2, _⟩ := HX9.out.cells; have j2 := HX9.out.fz 2; obtain ⟨W10, HW10⟩ : ∃ W10, w9.setCell ⟨w.heap.size, 2, none⟩ (.slice B9 (m8 + 1) d9) = W10 := ⟨_, rfl⟩; have HX10 : Hid (Vx W10 w.heap.size ⟨R.s, delL R.L x, putB R.B ⟨x, t + 60000⟩, R.c⟩ A6 n6 c6 B9 (m8 + 1) d9) := Lib.hid (by rw [← HW10]; exact HX9.out.set2 _ _ _ _); have HZ10 : Hid (Vx W10 (w.heap.size + 1) ⟨0, [], [], 0⟩ none 0 0 none 0 0) := Lib.hid (by rw [← HW10]; exact HZ9.out.far (by simp) _); obtain ⟨y0, y1, y2, y3⟩ := HX10.out.cells; simp only at y0 y1 y2 y3; obtain ⟨z0, z1, z2, z3⟩ := HZ10.out.cells; have f0 := HZ10.out.fz 0; have f1 := HZ10.out.fz 1; have f2 := HZ10.out.fz 2; have f3 := HZ10.out.fz 3; have HT10 : Hid (Turn w9 W10 (fun a => a = w.heap.size ∨ a = w.heap.size + 1)) := Lib.hid (by rw [← HW10]; exact (turn_set w9 ⟨w.heap.size, 2, none⟩ _).mono (fun i e => .inl e)); clear ho9 hg9 hat9)
    all_goals
      have HTF : Turn w9 ((((W10.setCell ⟨w.heap.size + 1, 0, none⟩ (.int .i64 R.s)).setCell ⟨w.heap.size + 1, 1, none⟩ (.slice A6 n6 c6)).setCell ⟨w.heap.size + 1, 2, none⟩ (.slice B9 (m8 + 1) d9)).setCell ⟨w.heap.size + 1, 3, none⟩ (.int .i64 (R.c : Int))) (fun a => a = w.heap.size ∨ a = w.heap.size + 1) := HT10.out.trans ((turn4 W10 (w.heap.size + 1) 0 1 2 3 (.int .i64 R.s) (.slice A6 n6 c6) (.slice B9 (m8 + 1) d9) (.int .i64 (R.c : Int))).mono (fun i e => .inr e)) (Sub.refl _ _)
      have hs7 : w.heap.size + 1 < W7.heap.size := HZ7.out.lt
      have hs2 : w.heap.size + 1 < w2.heap.size := HZ2.out.lt
      have hb9 := HB9.out
      have ho9 := own_turn H9.out HTF (fun k hk e => by have := (H9.out.lt k hk).1; omega)
      have ho7 := own_turn (own_below H7.out (hb9.mono (Nat.le_refl _))) HTF (fun k hk e => by have := (H7.out.lt k hk).1; omega)
      have hbf : Below w.heap.size w ((((W10.setCell ⟨w.heap.size + 1, 0, none⟩ (.int .i64 R.s)).setCell ⟨w.heap.size + 1, 1, none⟩ (.slice A6 n6 c6)).setCell ⟨w.heap.size + 1, 2, none⟩ (.slice B9 (m8 + 1) d9)).setCell ⟨w.heap.size + 1, 3, none⟩ (.int .i64 (R.c : Int))) := HB7.out.trans ((hb9.mono HB7.out.size).trans (HTF.below (C := w.heap.size) (fun i e => by omega) (by have := HB7.out.size; have := hb9.size; omega)))
      refine bodyPost_ret (results_rbox (p := 6) (u := 7) rfl _ _ (w.heap.size + 1) ⟨R.s, delL R.L x, putB R.B ⟨x, t + 60000⟩, R.c⟩ A6 n6 c6 B9 (m8 + 1) d9 rfl (HZ10.out.store ⟨R.s, delL R.L x, putB R.B ⟨x, t + 60000⟩, R.c⟩ A6 n6 c6 B9 (m8 + 1) d9)) rfl ⟨A6, n6, c6, B9, m8 + 1, d9, rfl, ⟨rd_own ho7 HF.out (by omega), ?_, hc6, hcm6, hc9, hcm9⟩, hbf⟩
      unfold putB
      rw [flatB_append]
      exact rd_own ho9 HF.out (by have := HB7.out.size; omega)
  · have t9 : ¬ c = k + 1 := hck
    have HL5 := Lib.hid ((HDL.out.takeM (k := k) (by omega)).below ((Below.refl _ _).alloc (Nat.le_refl _) (.cells #[] 41)))
    have HS5 : Hid (w2.heap.size ≤ (w2.alloc (.cells #[] 41)).heap.size) := Lib.hid (by simp)
    have e1 : ∀ o, (w2.alloc o).cell? ⟨w.heap.size, 1, none⟩ = some (.slice (some ad) n c) := fun o => (HX2.out.later ((Below.refl _ _).alloc (Nat.le_refl _) o)).cells.2.1
    go_wp2_with (first | (at_builtin; refine wpList_append_rd _ rfl _ _ 29 rfl w2.heap.size 41 i0 _ 5 40 Try.underlying29 hi0 hz0 hz1 hz2 rfl (by omega) (.slice (some ⟨w2.heap.size, 0, none⟩) 0 0) 0 [] rfl (World.ownsRow_made w2 #[] 0 (Nat.le_refl _) (Nat.zero_le _) rfl) no (some ad) k c (flatM (R.L.take k)) rfl HL5.out (flatM_one _) (by unfold maxLen; omega) (by omega) HS5.out ?_; intro v5 w5 ho5 hg5 hat5; rw [Nat.zero_add, List.nil_append] at ho5; obtain ⟨A5, c5, rfl, hc5, hcm5⟩ := own_form ho5; have H5 := Lib.hid ho5; have HB5 := Lib.hid ((Below.refl w2.heap.size w2).alloc (Nat.le_refl _) (.cells #[] 41) |>.grown hg5 (by simp) (by intro k hk; simp [Value.ownBlock] at hk; omega)); have HS6 : Hid (w2.heap.size ≤ w5.heap.size) := Lib.hid HB5.out.size; have q1 := (HX2.out.later HB5.out).cells.2.1; have HL6 : Hid (Rd w5 no 5 (some (ad.add ((k + 1) * 5))) (n - (k + 1)) (flatM (R.L.drop (k + 1)))) := Lib.hid (by have := HDL.out.dropM (k := k + 1) (cap := c) (by omega) hnc; rw [if_neg t9] at this; exact this.below HB5.out); clear ho5 hg5 hat5) | (at_builtin; refine wpList_append_rd _ rfl _ _ 29 rfl w2.heap.size 41 i0 _ 5 40 Try.underlying29 hi0 hz0 hz1 hz2 rfl (by omega) (.slice A5 k c5) k (flatM (R.L.take k)) rfl H5.out no (some (ad.add ((k + 1) * 5))) (n - (k + 1)) (c - (k + 1)) (flatM (R.L.drop (k + 1))) rfl HL6.out (flatM_one _) (by unfold maxLen; omega) (by omega) HS6.out ?_; intro v6 w6 ho6 hg6 hat6; obtain ⟨n6, hn6⟩ : ∃ n6, k + (n - (k + 1)) = n6 := ⟨_, rfl⟩; rw [hn6] at ho6; obtain ⟨A6, c6, rfl, hc6, hcm6⟩ := own_form ho6; have HB6 := Lib.hid (HB5.out.grown hg6 HB5.out.size (fun k hk => (H5.out.lt k hk).1)); have HX6 := Lib.hid (HX2.out.later HB6.out); have HZ6 := Lib.hid (HZ2.out.later HB6.out); obtain ⟨_, b1, _, _⟩ := HX6.out.cells; have j1 := HX6.out.fz 1; obtain ⟨W7, HW7⟩ : ∃ W7, w6.setCell ⟨w.heap.size, 1, none⟩ (.slice A6 n6 c6) = W7 := ⟨_, rfl⟩; have HX7 : Hid (Vx W7 w.heap.size ⟨R.s, delL R.L x, R.B, R.c⟩ A6 n6 c6 B m d) := Lib.hid (by rw [← HW7]; exact HX6.out.set1 _ _ _ _); have HZ7 : Hid (Vx W7 (w.heap.size + 1) ⟨0, [], [], 0⟩ none 0 0 none 0 0) := Lib.hid (by rw [← HW7]; exact HZ6.out.far (by simp) _); have HB7 : Hid (Below w.heap.size w W7) := Lib.hid (by rw [← HW7]; exact below_set (HB2.out.trans (HB6.out.mono HB2.out.size)) (p := ⟨w.heap.size, 1, none⟩) (Nat.le_refl _) _); have H7 : Hid (W7.ownsRow w2.heap.size 41 5 (.slice A6 n6 c6) n6 (flatM (delL R.L x))) := Lib.hid (by rw [← HW7, HL.out, flatM_append]; refine own_turn ?_ (turn_set w6 ⟨w.heap.size, 1, none⟩ _) (fun k hk e => by have := (ho6.lt k hk).1; have := HX2.out.lt; simp only at e; omega); exact ho6); have HD7 : Hid (Dc W7 no ⟨R.s, delL R.L x, R.B, R.c⟩ A6 n6 c6 B m d) := Lib.hid ⟨Rd.of_own H7.out rfl (fun _ _ f => f), (HD.out.below HB7.out).b.no_, hc6, hcm6, HD.out.bc, HD.out.bm⟩; obtain ⟨x0, x1, x2, x3⟩ := HX7.out.cells; simp only at x0 x1 x2 x3; clear ho6 hg6 hat6 hn6))
    refine (unban_any ⟨R.s, delL R.L x, R.B, R.c⟩ A6 B n6 c6 m d no x _ (by omega) HD7.out).mono ?_
    rintro e w8 ⟨hb8, v8, rfl, ho8⟩
    obtain ⟨m8, hm8⟩ : ∃ m8, (unB R.B x).length = m8 := ⟨_, rfl⟩
    simp only at ho8
    rw [hm8] at ho8
    have hm8l : m8 ≤ m := by rw [← hm8, ← HBL.out]; exact List.length_filter_le _ _
    obtain ⟨B8, d8, rfl, hc8, hcm8⟩ := own_form ho8
    have H8A := Lib.hid (ho8.alloc (.cells #[.int .i64 x, .int .i64 (t + 60000)] 69))
    have HB8 := Lib.hid hb8
    have HS9 : Hid (W7.heap.size ≤ (w8.alloc (.cells #[.int .i64 x, .int .i64 (t + 60000)] 69)).heap.size) := Lib.hid (by have := hb8.size; simp; omega)
    have HL9 := Lib.hid (rd_ban w8 ⟨x, t + 60000⟩)
    have HM8 := Lib.hid hm8
    clear hb8 ho8 hm8
    go_wp2_with (at_builtin; refine wpList_append_rd _ rfl _ _ 30 rfl W7.heap.size 69 ib _ 2 16 Try.underlying30 hib hzb hzb1 hzb2 rfl (by omega) (.slice B8 m8 d8) m8 (flatB (unB R.B x)) rfl H8A.out no (some ⟨w8.heap.size, 0, none⟩) 1 1 (flatB [⟨x, t + 60000⟩]) rfl HL9.out (flatB_one _) (by unfold maxLen; omega) (by omega) HS9.out ?_; intro v9 w9 ho9 hg9 hat9; obtain ⟨B9, d9, rfl, hc9, hcm9⟩ := own_form ho9; have H9 := Lib.hid ho9; have HB9 := Lib.hid ((HB8.out.alloc HB8.out.size (.cells #[.int .i64 x, .int .i64 (t + 60000)] 69)).grown hg9 (by have := HB8.out.size; simp; omega) (fun k hk => (H8A.out.lt k hk).1)); have HX9 := Lib.hid (HX7.out.later HB9.out); have HZ9 := Lib.hid (HZ7.out.later HB9.out); obtain ⟨_, _, b2, _⟩ := HX9.out.cells; have j2 := HX9.out.fz 2; obtain ⟨W10, HW10⟩ : ∃ W10, w9.setCell ⟨w.heap.size, 2, none⟩ (.slice B9 (m8 + 1) d9) = W10 := ⟨_, rfl⟩; have HX10 : Hid (Vx W10 w.heap.size ⟨R.s, delL R.L x, putB R.B ⟨x, t + 60000⟩, R.c⟩ A6 n6 c6 B9 (m8 + 1) d9) := Lib.hid (by rw [← HW10]; exact HX9.out.set2 _ _ _ _); have HZ10 : Hid (Vx W10 (w.heap.size + 1) ⟨0, [], [], 0⟩ none 0 0 none 0 0) := Lib.hid (by rw [← HW10]; exact HZ9.out.far (by simp) _); obtain ⟨y0, y1, y2, y3⟩ := HX10.out.cells; simp only at y0 y1 y2 y3; obtain ⟨z0, z1, z2, z3⟩ := HZ10.out.cells; have f0 := HZ10.out.fz 0; have f1 := HZ10.out.fz 1; have f2 := HZ10.out.fz 2; have f3 := HZ10.out.fz 3; have HT10 : Hid (Turn w9 W10 (fun a => a = w.heap.size ∨ a = w.heap.size + 1)) := Lib.hid (by rw [← HW10]; exact (turn_set w9 ⟨w.heap.size, 2, none⟩ _).mono (fun i e => .inl e)); clear ho9 hg9 hat9)
    all_goals
      have HTF : Turn w9 ((((W10.setCell ⟨w.heap.size + 1, 0, none⟩ (.int .i64 R.s)).setCell ⟨w.heap.size + 1, 1, none⟩ (.slice A6 n6 c6)).setCell ⟨w.heap.size + 1, 2, none⟩ (.slice B9 (m8 + 1) d9)).setCell ⟨w.heap.size + 1, 3, none⟩ (.int .i64 (R.c : Int))) (fun a => a = w.heap.size ∨ a = w.heap.size + 1) := HT10.out.trans ((turn4 W10 (w.heap.size + 1) 0 1 2 3 (.int .i64 R.s) (.slice A6 n6 c6) (.slice B9 (m8 + 1) d9) (.int .i64 (R.c : Int))).mono (fun i e => .inr e)) (Sub.refl _ _)
      have hs7 : w.heap.size + 1 < W7.heap.size := HZ7.out.lt
      have hs2 : w.heap.size + 1 < w2.heap.size := HZ2.out.lt
      have hb9 := HB9.out
      have ho9 := own_turn H9.out HTF (fun k hk e => by have := (H9.out.lt k hk).1; omega)
      have ho7 := own_turn (own_below H7.out (hb9.mono (Nat.le_refl _))) HTF (fun k hk e => by have := (H7.out.lt k hk).1; omega)
      have hbf : Below w.heap.size w ((((W10.setCell ⟨w.heap.size + 1, 0, none⟩ (.int .i64 R.s)).setCell ⟨w.heap.size + 1, 1, none⟩ (.slice A6 n6 c6)).setCell ⟨w.heap.size + 1, 2, none⟩ (.slice B9 (m8 + 1) d9)).setCell ⟨w.heap.size + 1, 3, none⟩ (.int .i64 (R.c : Int))) := HB7.out.trans ((hb9.mono HB7.out.size).trans (HTF.below (C := w.heap.size) (fun i e => by omega) (by have := HB7.out.size; have := hb9.size; omega)))
      refine bodyPost_ret (results_rbox (p := 6) (u := 7) rfl _ _ (w.heap.size + 1) ⟨R.s, delL R.L x, putB R.B ⟨x, t + 60000⟩, R.c⟩ A6 n6 c6 B9 (m8 + 1) d9 rfl (HZ10.out.store ⟨R.s, delL R.L x, putB R.B ⟨x, t + 60000⟩, R.c⟩ A6 n6 c6 B9 (m8 + 1) d9)) rfl ⟨A6, n6, c6, B9, m8 + 1, d9, rfl, ⟨rd_own ho7 HF.out (by omega), ?_, hc6, hcm6, hc9, hcm9⟩, hbf⟩
      unfold putB
      rw [flatB_append]
      exact rd_own ho9 HF.out (by have := HB7.out.size; omega)
end Go.Proofs.Ytfchhlibjhblmaa
