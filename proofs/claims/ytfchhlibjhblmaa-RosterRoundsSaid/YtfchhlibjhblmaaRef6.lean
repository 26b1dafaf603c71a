/-
  WHAT IS PROVED: the contract of the document's own Set, in all cases. Conditions: the sizes; the lists lie outside of the blocks F, which are there.
-/
import Derived.Test.YtfchhlibjhblmaaRef5
namespace Go.Proofs.Ytfchhlibjhblmaa
open Go.RowKit Go.Lib Go.Maps

set_option maxHeartbeats 1000000 in
theorem rset_ok (R : Ro) (A B : Option Addr) (n c m d : Nat) (F : Nat → Prop) (p : Mb) (w : World) (hn : n ≤ 1000) (h : Dc w F R A n c B m d) (hu : Up R.L) (hF : ∀ i, F i → i < w.heap.size) (hq : hasL R.L p.id = true) (hv : rightB p = true) :
    Calls Try.prog 17 #[vD R A n c B m d, vM p] w (GivesD F ⟨R.s, R.L.set (posL R.L p.id) p, R.B, R.c⟩ 0 w) := by
  obtain ⟨i0, hi0, hz0, hz1, hz2⟩ := info_parts rmem_info
  have HD := Lib.hid h
  have HUP := Lib.hid hu
  obtain ⟨hx1, hm1, hz1, hb1⟩ := three_vx w R A n c B m d p
  have HX := Lib.hid hx1
  have HM := Lib.hid hm1
  have HZ := Lib.hid hz1
  have HB := Lib.hid hb1
  have m0 := hm1.cells.1
  obtain ⟨a0, a1, a2, a3⟩ := hx1.cells
  clear hx1 hm1 hz1 hb1
  obtain ⟨x, hp, _⟩ := has_at hu hq
  obtain ⟨k, hk⟩ : ∃ k, posL R.L p.id = k := ⟨_, rfl⟩
  have HFX : Hid (fnd R.L p.id = (k : Int)) := Lib.hid (by rw [fnd_has hq, hk])
  rw [hk] at hp ⊢
  have HP := Lib.hid hp
  have HF := Lib.hid hF
  have hkn : k < n := by rw [← h.l.lenM]; exact (List.getElem?_eq_some_iff.1 hp).1
  clear h hu hq hk hp hF
  obtain ⟨i, ma, co, o, f⟩ := p
  obtain ⟨q, HI⟩ : ∃ q, Hid (isIdB ma = q) := ⟨_, Lib.hid rfl⟩
  obtain ⟨t, HT⟩ : ∃ t, Hid (isTimeB f = t) := ⟨_, Lib.hid rfl⟩
  rw [right_parts] at hv
  simp only [HI.out, HT.out] at hv
  simp only [Bool.and_eq_true, Bool.or_eq_true, decide_eq_true_eq, Bool.not_eq_true', decide_eq_false_iff_not] at hv
  obtain ⟨h0, ⟨h2, h3⟩, ⟨h4, h5⟩, h6⟩ := hv
  have t2 : decide (co < 0) = false := by simp; omega
  have t3 : decide (281474976710656 < co) = false := by simp; omega
  have t4 : decide (o < 0) = false := by simp; omega
  have t5 : decide (281474976710656 < o) = false := by simp; omega
  clear h2 h3 h4 h5
  rcases h0 with h0 | ⟨rfl, h1⟩
  · subst h0
    by_cases h7 : f = -1
    · subst h7
      clear h6
      go_enter Try.func17, Try.ntmps17
      go_wp2_with (fail)
      refine (find_any R A B n c m d F _ _ hn (HD.out.below HB.out) HUP.out).mono ?_
      rintro e w2 ⟨rfl, hb2⟩
      rw [HFX.out]
      have HX2 := Lib.hid (HX.out.later hb2)
      have HM2 := Lib.hid (HM.out.later hb2)
      have HZ2 := Lib.hid (HZ.out.later hb2)
      have HB2 := Lib.hid (HB.out.trans (hb2.mono HB.out.size))
      clear hb2 m0 a0 a1 a2 a3
      obtain ⟨a0, a1, a2, a3⟩ := HX2.out.cells
      obtain ⟨m0, m1, m2, m3, m4⟩ := HM2.out.cells
      try simp only at m0 m1 m2 m3 m4
      have HL5 := Lib.hid ((HD.out.below HB2.out).l.no_.below ((Below.refl _ _).alloc (Nat.le_refl _) (.cells #[] 41)))
      have HS5 : Hid (w2.heap.size ≤ (w2.alloc (.cells #[] 41)).heap.size) := Lib.hid (by simp)
      have e1 : ∀ o, (w2.alloc o).cell? ⟨w.heap.size, 1, none⟩ = some (.slice A n c) := fun o => (HX2.out.later ((Below.refl _ _).alloc (Nat.le_refl _) o)).cells.2.1
      go_wp2_with (at_builtin; refine wpList_append_rd _ rfl _ _ 29 rfl w2.heap.size 41 i0 _ 5 40 Try.underlying29 hi0 hz0 hz1 hz2 rfl (by omega) (.slice (some ⟨w2.heap.size, 0, none⟩) 0 0) 0 [] rfl (World.ownsRow_made w2 #[] 0 (Nat.le_refl _) (Nat.zero_le _) rfl) no A n c (flatM R.L) rfl HL5.out (flatM_one _) (by unfold maxLen; omega) (by omega) HS5.out ?_; intro v5 w5 ho5 hg5 hat5; rw [Nat.zero_add, List.nil_append] at ho5; obtain ⟨A5, c5, rfl, hc5, hcm5⟩ := own_form ho5; obtain ⟨g5, rfl⟩ : ∃ g5, A5 = some ⟨g5, 0, none⟩ := (by rcases ho5.2 with ⟨_, h0⟩ | ⟨gr, _, _, e, _⟩; (· omega); (· injection e with e _ _; exact ⟨gr, e⟩)); have HB5 := Lib.hid ((Below.refl w2.heap.size w2).alloc (Nat.le_refl _) (.cells #[] 41) |>.grown hg5 (by simp) (by intro k hk; simp [Value.ownBlock] at hk; omega)); have HX5 := Lib.hid (HX2.out.later HB5.out); have HM5 := Lib.hid (HM2.out.later HB5.out); have HZ5 := Lib.hid (HZ2.out.later HB5.out); have b1 := HX5.out.cells.2.1; have j1 := HX5.out.fz 1; have hg5' := (ho5.lt g5 rfl).1; have hzl := HZ2.out.lt; obtain ⟨W7, HW7⟩ : ∃ W7, w5.setCell ⟨w.heap.size, 1, none⟩ (.slice (some ⟨g5, 0, none⟩) n c5) = W7 := ⟨_, rfl⟩; have HX7 : Hid (Vx W7 w.heap.size R (some ⟨g5, 0, none⟩) n c5 B m d) := Lib.hid (by rw [← HW7]; exact HX5.out.set1 R.L _ _ _); have HM7 : Hid (Mx W7 (w.heap.size + 1) ⟨i, 0, co, o, (-1)⟩) := Lib.hid (by rw [← HW7]; exact HM5.out.far (by simp) _); have HZ7 : Hid (Vx W7 (w.heap.size + 2) ⟨0, [], [], 0⟩ none 0 0 none 0 0) := Lib.hid (by rw [← HW7]; exact HZ5.out.far (by simp) _); have HB7 : Hid (Below w.heap.size w W7) := Lib.hid (by rw [← HW7]; exact below_set (HB2.out.trans (HB5.out.mono HB2.out.size)) (p := ⟨w.heap.size, 1, none⟩) (Nat.le_refl _) _); have H7 : W7.ownsRow w2.heap.size 41 5 (.slice (some ⟨g5, 0, none⟩) n c5) n (flatM R.L) := (by rw [← HW7]; exact own_turn ho5 (turn_set w5 ⟨w.heap.size, 1, none⟩ _) (fun k hk e => by have := (ho5.lt k hk).1; simp only at e; omega)); obtain ⟨x0, x1, x2, x3⟩ := HX7.out.cells; obtain ⟨n0, n1, n2, n3, n4⟩ := HM7.out.cells; simp only at n0 n1 n2 n3 n4; obtain ⟨⟨d0, d1, d2, d3, d4⟩, hfz⟩ := own_cells H7 HP.out; have g0 := hfz (k * 5); have g1 := hfz (k * 5 + 1); have g2 := hfz (k * 5 + 2); have g3 := hfz (k * 5 + 3); have g4 := hfz (k * 5 + 4); obtain ⟨W8, HW8⟩ : ∃ W8, (((((W7.setCell ⟨g5, k * 5, none⟩ (.int .i64 i)).setCell ⟨g5, k * 5 + 1, none⟩ (.int .i64 0)).setCell ⟨g5, k * 5 + 2, none⟩ (.int .i64 co)).setCell ⟨g5, k * 5 + 3, none⟩ (.int .i64 o)).setCell ⟨g5, k * 5 + 4, none⟩ (.int .i64 (-1))) = W8 := ⟨_, rfl⟩; have HT8 : Hid (Turn W7 W8 (fun a => a = g5)) := Lib.hid (by rw [← HW8]; exact turn5 W7 g5 _ _ _ _ _ _ _ _ _ _); have H8 : Hid (W8.ownsRow w2.heap.size 41 5 (.slice (some ⟨g5, 0, none⟩) n c5) n (flatM (R.L.set k ⟨i, 0, co, o, (-1)⟩))) := Lib.hid (by rw [← HW8]; exact own_whole H7 HP.out ⟨i, 0, co, o, (-1)⟩); have HX8 := Lib.hid (HX7.out.turn HT8.out (by omega)); have HZ8 := Lib.hid (HZ7.out.turn HT8.out (by omega)); obtain ⟨y0, y1, y2, y3⟩ := HX8.out.cells; obtain ⟨z0, z1, z2, z3⟩ := HZ8.out.cells; have f0 := HZ8.out.fz 0; have f1 := HZ8.out.fz 1; have f2 := HZ8.out.fz 2; have f3 := HZ8.out.fz 3; have HG5 := Lib.hid hg5'; clear ho5 hg5 hat5 H7 hfz hg5')
      have HTF : Turn W8 ((((W8.setCell ⟨w.heap.size + 2, 0, none⟩ (.int .i64 R.s)).setCell ⟨w.heap.size + 2, 1, none⟩ (.slice (some ⟨g5, 0, none⟩) n c5)).setCell ⟨w.heap.size + 2, 2, none⟩ (.slice B m d)).setCell ⟨w.heap.size + 2, 3, none⟩ (.int .i64 (R.c : Int))) (fun a => a = w.heap.size + 2) := turn4 W8 (w.heap.size + 2) 0 1 2 3 (.int .i64 R.s) (.slice (some ⟨g5, 0, none⟩) n c5) (.slice B m d) (.int .i64 (R.c : Int))
      have hgg := HG5.out
      have ho8 := own_turn H8.out HTF (fun k hk e => by have := (H8.out.lt k hk).1; omega)
      have h78 : Below w.heap.size W7 W8 := HT8.out.below (fun i e => by omega) HB7.out.size
      have hbf : Below w.heap.size w ((((W8.setCell ⟨w.heap.size + 2, 0, none⟩ (.int .i64 R.s)).setCell ⟨w.heap.size + 2, 1, none⟩ (.slice (some ⟨g5, 0, none⟩) n c5)).setCell ⟨w.heap.size + 2, 2, none⟩ (.slice B m d)).setCell ⟨w.heap.size + 2, 3, none⟩ (.int .i64 (R.c : Int))) := HB7.out.trans (h78.trans (HTF.below (C := w.heap.size) (fun i e => by omega) (by have := HB7.out.size; have := h78.size; omega)))
      exact bodyPost_ret (results_rbox (p := 4) (u := 5) rfl _ _ (w.heap.size + 2) ⟨R.s, R.L.set k ⟨i, 0, co, o, (-1)⟩, R.B, R.c⟩ (some ⟨g5, 0, none⟩) n c5 B m d rfl (HZ8.out.store ⟨R.s, R.L.set k ⟨i, 0, co, o, (-1)⟩, R.B, R.c⟩ (some ⟨g5, 0, none⟩) n c5 B m d)) rfl ⟨some ⟨g5, 0, none⟩, n, c5, B, m, d, rfl, ⟨rd_own ho8 HF.out (by omega), (HD.out.below hbf).b, hc5, hcm5, HD.out.bc, HD.out.bm⟩, hbf⟩
    · obtain rfl : t = true := by rcases h6 with h6 | h6; (· exact absurd h6 h7); (· exact h6)
      have t6 : (f != -1) = true := by simpa using h7
      clear h6 h7
      go_enter Try.func17, Try.ntmps17
      go_wp2_with (fail)
      refine (find_any R A B n c m d F _ _ hn (HD.out.below HB.out) HUP.out).mono ?_
      rintro e w2 ⟨rfl, hb2⟩
      rw [HFX.out]
      have HX2 := Lib.hid (HX.out.later hb2)
      have HM2 := Lib.hid (HM.out.later hb2)
      have HZ2 := Lib.hid (HZ.out.later hb2)
      have HB2 := Lib.hid (HB.out.trans (hb2.mono HB.out.size))
      clear hb2 m0 a0 a1 a2 a3
      obtain ⟨a0, a1, a2, a3⟩ := HX2.out.cells
      obtain ⟨m0, m1, m2, m3, m4⟩ := HM2.out.cells
      try simp only at m0 m1 m2 m3 m4
      go_wp2_with (fail)
      refine (rtime_any f _).mono ?_
      rintro e w9 ⟨rfl, rfl⟩
      rw [HT.out]
      have HL5 := Lib.hid ((HD.out.below HB2.out).l.no_.below ((Below.refl _ _).alloc (Nat.le_refl _) (.cells #[] 41)))
      have HS5 : Hid (w2.heap.size ≤ (w2.alloc (.cells #[] 41)).heap.size) := Lib.hid (by simp)
      have e1 : ∀ o, (w2.alloc o).cell? ⟨w.heap.size, 1, none⟩ = some (.slice A n c) := fun o => (HX2.out.later ((Below.refl _ _).alloc (Nat.le_refl _) o)).cells.2.1
      go_wp2_with (at_builtin; refine wpList_append_rd _ rfl _ _ 29 rfl w2.heap.size 41 i0 _ 5 40 Try.underlying29 hi0 hz0 hz1 hz2 rfl (by omega) (.slice (some ⟨w2.heap.size, 0, none⟩) 0 0) 0 [] rfl (World.ownsRow_made w2 #[] 0 (Nat.le_refl _) (Nat.zero_le _) rfl) no A n c (flatM R.L) rfl HL5.out (flatM_one _) (by unfold maxLen; omega) (by omega) HS5.out ?_; intro v5 w5 ho5 hg5 hat5; rw [Nat.zero_add, List.nil_append] at ho5; obtain ⟨A5, c5, rfl, hc5, hcm5⟩ := own_form ho5; obtain ⟨g5, rfl⟩ : ∃ g5, A5 = some ⟨g5, 0, none⟩ := (by rcases ho5.2 with ⟨_, h0⟩ | ⟨gr, _, _, e, _⟩; (· omega); (· injection e with e _ _; exact ⟨gr, e⟩)); have HB5 := Lib.hid ((Below.refl w2.heap.size w2).alloc (Nat.le_refl _) (.cells #[] 41) |>.grown hg5 (by simp) (by intro k hk; simp [Value.ownBlock] at hk; omega)); have HX5 := Lib.hid (HX2.out.later HB5.out); have HM5 := Lib.hid (HM2.out.later HB5.out); have HZ5 := Lib.hid (HZ2.out.later HB5.out); have b1 := HX5.out.cells.2.1; have j1 := HX5.out.fz 1; have hg5' := (ho5.lt g5 rfl).1; have hzl := HZ2.out.lt; obtain ⟨W7, HW7⟩ : ∃ W7, w5.setCell ⟨w.heap.size, 1, none⟩ (.slice (some ⟨g5, 0, none⟩) n c5) = W7 := ⟨_, rfl⟩; have HX7 : Hid (Vx W7 w.heap.size R (some ⟨g5, 0, none⟩) n c5 B m d) := Lib.hid (by rw [← HW7]; exact HX5.out.set1 R.L _ _ _); have HM7 : Hid (Mx W7 (w.heap.size + 1) ⟨i, 0, co, o, f⟩) := Lib.hid (by rw [← HW7]; exact HM5.out.far (by simp) _); have HZ7 : Hid (Vx W7 (w.heap.size + 2) ⟨0, [], [], 0⟩ none 0 0 none 0 0) := Lib.hid (by rw [← HW7]; exact HZ5.out.far (by simp) _); have HB7 : Hid (Below w.heap.size w W7) := Lib.hid (by rw [← HW7]; exact below_set (HB2.out.trans (HB5.out.mono HB2.out.size)) (p := ⟨w.heap.size, 1, none⟩) (Nat.le_refl _) _); have H7 : W7.ownsRow w2.heap.size 41 5 (.slice (some ⟨g5, 0, none⟩) n c5) n (flatM R.L) := (by rw [← HW7]; exact own_turn ho5 (turn_set w5 ⟨w.heap.size, 1, none⟩ _) (fun k hk e => by have := (ho5.lt k hk).1; simp only at e; omega)); obtain ⟨x0, x1, x2, x3⟩ := HX7.out.cells; obtain ⟨n0, n1, n2, n3, n4⟩ := HM7.out.cells; simp only at n0 n1 n2 n3 n4; obtain ⟨⟨d0, d1, d2, d3, d4⟩, hfz⟩ := own_cells H7 HP.out; have g0 := hfz (k * 5); have g1 := hfz (k * 5 + 1); have g2 := hfz (k * 5 + 2); have g3 := hfz (k * 5 + 3); have g4 := hfz (k * 5 + 4); obtain ⟨W8, HW8⟩ : ∃ W8, (((((W7.setCell ⟨g5, k * 5, none⟩ (.int .i64 i)).setCell ⟨g5, k * 5 + 1, none⟩ (.int .i64 0)).setCell ⟨g5, k * 5 + 2, none⟩ (.int .i64 co)).setCell ⟨g5, k * 5 + 3, none⟩ (.int .i64 o)).setCell ⟨g5, k * 5 + 4, none⟩ (.int .i64 f)) = W8 := ⟨_, rfl⟩; have HT8 : Hid (Turn W7 W8 (fun a => a = g5)) := Lib.hid (by rw [← HW8]; exact turn5 W7 g5 _ _ _ _ _ _ _ _ _ _); have H8 : Hid (W8.ownsRow w2.heap.size 41 5 (.slice (some ⟨g5, 0, none⟩) n c5) n (flatM (R.L.set k ⟨i, 0, co, o, f⟩))) := Lib.hid (by rw [← HW8]; exact own_whole H7 HP.out ⟨i, 0, co, o, f⟩); have HX8 := Lib.hid (HX7.out.turn HT8.out (by omega)); have HZ8 := Lib.hid (HZ7.out.turn HT8.out (by omega)); obtain ⟨y0, y1, y2, y3⟩ := HX8.out.cells; obtain ⟨z0, z1, z2, z3⟩ := HZ8.out.cells; have f0 := HZ8.out.fz 0; have f1 := HZ8.out.fz 1; have f2 := HZ8.out.fz 2; have f3 := HZ8.out.fz 3; have HG5 := Lib.hid hg5'; clear ho5 hg5 hat5 H7 hfz hg5')
      have HTF : Turn W8 ((((W8.setCell ⟨w.heap.size + 2, 0, none⟩ (.int .i64 R.s)).setCell ⟨w.heap.size + 2, 1, none⟩ (.slice (some ⟨g5, 0, none⟩) n c5)).setCell ⟨w.heap.size + 2, 2, none⟩ (.slice B m d)).setCell ⟨w.heap.size + 2, 3, none⟩ (.int .i64 (R.c : Int))) (fun a => a = w.heap.size + 2) := turn4 W8 (w.heap.size + 2) 0 1 2 3 (.int .i64 R.s) (.slice (some ⟨g5, 0, none⟩) n c5) (.slice B m d) (.int .i64 (R.c : Int))
      have hgg := HG5.out
      have ho8 := own_turn H8.out HTF (fun k hk e => by have := (H8.out.lt k hk).1; omega)
      have h78 : Below w.heap.size W7 W8 := HT8.out.below (fun i e => by omega) HB7.out.size
      have hbf : Below w.heap.size w ((((W8.setCell ⟨w.heap.size + 2, 0, none⟩ (.int .i64 R.s)).setCell ⟨w.heap.size + 2, 1, none⟩ (.slice (some ⟨g5, 0, none⟩) n c5)).setCell ⟨w.heap.size + 2, 2, none⟩ (.slice B m d)).setCell ⟨w.heap.size + 2, 3, none⟩ (.int .i64 (R.c : Int))) := HB7.out.trans (h78.trans (HTF.below (C := w.heap.size) (fun i e => by omega) (by have := HB7.out.size; have := h78.size; omega)))
      exact bodyPost_ret (results_rbox (p := 4) (u := 5) rfl _ _ (w.heap.size + 2) ⟨R.s, R.L.set k ⟨i, 0, co, o, f⟩, R.B, R.c⟩ (some ⟨g5, 0, none⟩) n c5 B m d rfl (HZ8.out.store ⟨R.s, R.L.set k ⟨i, 0, co, o, f⟩, R.B, R.c⟩ (some ⟨g5, 0, none⟩) n c5 B m d)) rfl ⟨some ⟨g5, 0, none⟩, n, c5, B, m, d, rfl, ⟨rd_own ho8 HF.out (by omega), (HD.out.below hbf).b, hc5, hcm5, HD.out.bc, HD.out.bm⟩, hbf⟩
  · by_cases h0 : ma = 0
    · subst h0
      have := in_id HI.out
      omega
    · have t0 : (ma != 0) = true := by simpa using h0
      have t1 : (ma == i) = false := by simpa using h1
      clear h0 h1
      by_cases h7 : f = -1
      · subst h7
        clear h6
        go_enter Try.func17, Try.ntmps17
        go_wp2_with (fail)
        refine (find_any R A B n c m d F _ _ hn (HD.out.below HB.out) HUP.out).mono ?_
        rintro e w2 ⟨rfl, hb2⟩
        rw [HFX.out]
        have HX2 := Lib.hid (HX.out.later hb2)
        have HM2 := Lib.hid (HM.out.later hb2)
        have HZ2 := Lib.hid (HZ.out.later hb2)
        have HB2 := Lib.hid (HB.out.trans (hb2.mono HB.out.size))
        clear hb2 m0 a0 a1 a2 a3
        obtain ⟨a0, a1, a2, a3⟩ := HX2.out.cells
        obtain ⟨m0, m1, m2, m3, m4⟩ := HM2.out.cells
        try simp only at m0 m1 m2 m3 m4
        go_wp2_with (fail)
        refine (rid_any ma _).mono ?_
        rintro e w9 ⟨rfl, rfl⟩
        rw [HI.out]
        have HL5 := Lib.hid ((HD.out.below HB2.out).l.no_.below ((Below.refl _ _).alloc (Nat.le_refl _) (.cells #[] 41)))
        have HS5 : Hid (w2.heap.size ≤ (w2.alloc (.cells #[] 41)).heap.size) := Lib.hid (by simp)
        have e1 : ∀ o, (w2.alloc o).cell? ⟨w.heap.size, 1, none⟩ = some (.slice A n c) := fun o => (HX2.out.later ((Below.refl _ _).alloc (Nat.le_refl _) o)).cells.2.1
        go_wp2_with (at_builtin; refine wpList_append_rd _ rfl _ _ 29 rfl w2.heap.size 41 i0 _ 5 40 Try.underlying29 hi0 hz0 hz1 hz2 rfl (by omega) (.slice (some ⟨w2.heap.size, 0, none⟩) 0 0) 0 [] rfl (World.ownsRow_made w2 #[] 0 (Nat.le_refl _) (Nat.zero_le _) rfl) no A n c (flatM R.L) rfl HL5.out (flatM_one _) (by unfold maxLen; omega) (by omega) HS5.out ?_; intro v5 w5 ho5 hg5 hat5; rw [Nat.zero_add, List.nil_append] at ho5; obtain ⟨A5, c5, rfl, hc5, hcm5⟩ := own_form ho5; obtain ⟨g5, rfl⟩ : ∃ g5, A5 = some ⟨g5, 0, none⟩ := (by rcases ho5.2 with ⟨_, h0⟩ | ⟨gr, _, _, e, _⟩; (· omega); (· injection e with e _ _; exact ⟨gr, e⟩)); have HB5 := Lib.hid ((Below.refl w2.heap.size w2).alloc (Nat.le_refl _) (.cells #[] 41) |>.grown hg5 (by simp) (by intro k hk; simp [Value.ownBlock] at hk; omega)); have HX5 := Lib.hid (HX2.out.later HB5.out); have HM5 := Lib.hid (HM2.out.later HB5.out); have HZ5 := Lib.hid (HZ2.out.later HB5.out); have b1 := HX5.out.cells.2.1; have j1 := HX5.out.fz 1; have hg5' := (ho5.lt g5 rfl).1; have hzl := HZ2.out.lt; obtain ⟨W7, HW7⟩ : ∃ W7, w5.setCell ⟨w.heap.size, 1, none⟩ (.slice (some ⟨g5, 0, none⟩) n c5) = W7 := ⟨_, rfl⟩; have HX7 : Hid (Vx W7 w.heap.size R (some ⟨g5, 0, none⟩) n c5 B m d) := Lib.hid (by rw [← HW7]; exact HX5.out.set1 R.L _ _ _); have HM7 : Hid (Mx W7 (w.heap.size + 1) ⟨i, ma, co, o, (-1)⟩) := Lib.hid (by rw [← HW7]; exact HM5.out.far (by simp) _); have HZ7 : Hid (Vx W7 (w.heap.size + 2) ⟨0, [], [], 0⟩ none 0 0 none 0 0) := Lib.hid (by rw [← HW7]; exact HZ5.out.far (by simp) _); have HB7 : Hid (Below w.heap.size w W7) := Lib.hid (by rw [← HW7]; exact below_set (HB2.out.trans (HB5.out.mono HB2.out.size)) (p := ⟨w.heap.size, 1, none⟩) (Nat.le_refl _) _); have H7 : W7.ownsRow w2.heap.size 41 5 (.slice (some ⟨g5, 0, none⟩) n c5) n (flatM R.L) := (by rw [← HW7]; exact own_turn ho5 (turn_set w5 ⟨w.heap.size, 1, none⟩ _) (fun k hk e => by have := (ho5.lt k hk).1; simp only at e; omega)); obtain ⟨x0, x1, x2, x3⟩ := HX7.out.cells; obtain ⟨n0, n1, n2, n3, n4⟩ := HM7.out.cells; simp only at n0 n1 n2 n3 n4; obtain ⟨⟨d0, d1, d2, d3, d4⟩, hfz⟩ := own_cells H7 HP.out; have g0 := hfz (k * 5); have g1 := hfz (k * 5 + 1); have g2 := hfz (k * 5 + 2); have g3 := hfz (k * 5 + 3); have g4 := hfz (k * 5 + 4); obtain ⟨W8, HW8⟩ : ∃ W8, (((((W7.setCell ⟨g5, k * 5, none⟩ (.int .i64 i)).setCell ⟨g5, k * 5 + 1, none⟩ (.int .i64 ma)).setCell ⟨g5, k * 5 + 2, none⟩ (.int .i64 co)).setCell ⟨g5, k * 5 + 3, none⟩ (.int .i64 o)).setCell ⟨g5, k * 5 + 4, none⟩ (.int .i64 (-1))) = W8 := ⟨_, rfl⟩; have HT8 : Hid (Turn W7 W8 (fun a => a = g5)) := Lib.hid (by rw [← HW8]; exact turn5 W7 g5 _ _ _ _ _ _ _ _ _ _); have H8 : Hid (W8.ownsRow w2.heap.size 41 5 (.slice (some ⟨g5, 0, none⟩) n c5) n (flatM (R.L.set k ⟨i, ma, co, o, (-1)⟩))) := Lib.hid (by rw [← HW8]; exact own_whole H7 HP.out ⟨i, ma, co, o, (-1)⟩); have HX8 := Lib.hid (HX7.out.turn HT8.out (by omega)); have HZ8 := Lib.hid (HZ7.out.turn HT8.out (by omega)); obtain ⟨y0, y1, y2, y3⟩ := HX8.out.cells; obtain ⟨z0, z1, z2, z3⟩ := HZ8.out.cells; have f0 := HZ8.out.fz 0; have f1 := HZ8.out.fz 1; have f2 := HZ8.out.fz 2; have f3 := HZ8.out.fz 3; have HG5 := Lib.hid hg5'; clear ho5 hg5 hat5 H7 hfz hg5')
        have HTF : Turn W8 ((((W8.setCell ⟨w.heap.size + 2, 0, none⟩ (.int .i64 R.s)).setCell ⟨w.heap.size + 2, 1, none⟩ (.slice (some ⟨g5, 0, none⟩) n c5)).setCell ⟨w.heap.size + 2, 2, none⟩ (.slice B m d)).setCell ⟨w.heap.size + 2, 3, none⟩ (.int .i64 (R.c : Int))) (fun a => a = w.heap.size + 2) := turn4 W8 (w.heap.size + 2) 0 1 2 3 (.int .i64 R.s) (.slice (some ⟨g5, 0, none⟩) n c5) (.slice B m d) (.int .i64 (R.c : Int))
        have hgg := HG5.out
        have ho8 := own_turn H8.out HTF (fun k hk e => by have := (H8.out.lt k hk).1; omega)
        have h78 : Below w.heap.size W7 W8 := HT8.out.below (fun i e => by omega) HB7.out.size
        have hbf : Below w.heap.size w ((((W8.setCell ⟨w.heap.size + 2, 0, none⟩ (.int .i64 R.s)).setCell ⟨w.heap.size + 2, 1, none⟩ (.slice (some ⟨g5, 0, none⟩) n c5)).setCell ⟨w.heap.size + 2, 2, none⟩ (.slice B m d)).setCell ⟨w.heap.size + 2, 3, none⟩ (.int .i64 (R.c : Int))) := HB7.out.trans (h78.trans (HTF.below (C := w.heap.size) (fun i e => by omega) (by have := HB7.out.size; have := h78.size; omega)))
        exact bodyPost_ret (results_rbox (p := 4) (u := 5) rfl _ _ (w.heap.size + 2) ⟨R.s, R.L.set k ⟨i, ma, co, o, (-1)⟩, R.B, R.c⟩ (some ⟨g5, 0, none⟩) n c5 B m d rfl (HZ8.out.store ⟨R.s, R.L.set k ⟨i, ma, co, o, (-1)⟩, R.B, R.c⟩ (some ⟨g5, 0, none⟩) n c5 B m d)) rfl ⟨some ⟨g5, 0, none⟩, n, c5, B, m, d, rfl, ⟨rd_own ho8 HF.out (by omega), (HD.out.below hbf).b, hc5, hcm5, HD.out.bc, HD.out.bm⟩, hbf⟩
      · obtain rfl : t = true := by rcases h6 with h6 | h6; (· exact absurd h6 h7); (· exact h6)
        have t6 : (f != -1) = true := by simpa using h7
        clear h6 h7
        go_enter Try.func17, Try.ntmps17
        go_wp2_with (fail)
        refine (find_any R A B n c m d F _ _ hn (HD.out.below HB.out) HUP.out).mono ?_
        rintro e w2 ⟨rfl, hb2⟩
        rw [HFX.out]
        have HX2 := Lib.hid (HX.out.later hb2)
        have HM2 := Lib.hid (HM.out.later hb2)
        have HZ2 := Lib.hid (HZ.out.later hb2)
        have HB2 := Lib.hid (HB.out.trans (hb2.mono HB.out.size))
        clear hb2 m0 a0 a1 a2 a3
        obtain ⟨a0, a1, a2, a3⟩ := HX2.out.cells
        obtain ⟨m0, m1, m2, m3, m4⟩ := HM2.out.cells
        try simp only at m0 m1 m2 m3 m4
        go_wp2_with (fail)
        refine (rid_any ma _).mono ?_
        rintro e w9 ⟨rfl, rfl⟩
        rw [HI.out]
        go_wp2_with (fail)
        refine (rtime_any f _).mono ?_
        rintro e w9 ⟨rfl, rfl⟩
        rw [HT.out]
        have HL5 := Lib.hid ((HD.out.below HB2.out).l.no_.below ((Below.refl _ _).alloc (Nat.le_refl _) (.cells #[] 41)))
        have HS5 : Hid (w2.heap.size ≤ (w2.alloc (.cells #[] 41)).heap.size) := Lib.hid (by simp)
        have e1 : ∀ o, (w2.alloc o).cell? ⟨w.heap.size, 1, none⟩ = some (.slice A n c) := fun o => (HX2.out.later ((Below.refl _ _).alloc (Nat.le_refl _) o)).cells.2.1
        go_wp2_with (at_builtin; refine wpList_append_rd _ rfl _ _ 29 rfl w2.heap.size 41 i0 _ 5 40 Try.underlying29 hi0 hz0 hz1 hz2 rfl (by omega) (.slice (some ⟨w2.heap.size, 0, none⟩) 0 0) 0 [] rfl (World.ownsRow_made w2 #[] 0 (Nat.le_refl _) (Nat.zero_le _) rfl) no A n c (flatM R.L) rfl HL5.out (flatM_one _) (by unfold maxLen; omega) (by omega) HS5.out ?_; intro v5 w5 ho5 hg5 hat5; rw [Nat.zero_add, List.nil_append] at ho5; obtain ⟨A5, c5, rfl, hc5, hcm5⟩ := own_form ho5; obtain ⟨g5, rfl⟩ : ∃ g5, A5 = some ⟨g5, 0, none⟩ := (by rcases ho5.2 with ⟨_, h0⟩ | ⟨gr, _, _, e, _⟩; (· omega); (· injection e with e _ _; exact ⟨gr, e⟩)); have HB5 := Lib.hid ((Below.refl w2.heap.size w2).alloc (Nat.le_refl _) (.cells #[] 41) |>.grown hg5 (by simp) (by intro k hk; simp [Value.ownBlock] at hk; omega)); have HX5 := Lib.hid (HX2.out.later HB5.out); have HM5 := Lib.hid (HM2.out.later HB5.out); have HZ5 := Lib.hid (HZ2.out.later HB5.out); have b1 := HX5.out.cells.2.1; have j1 := HX5.out.fz 1; have hg5' := (ho5.lt g5 rfl).1; have hzl := HZ2.out.lt; obtain ⟨W7, HW7⟩ : ∃ W7, w5.setCell ⟨w.heap.size, 1, none⟩ (.slice (some ⟨g5, 0, none⟩) n c5) = W7 := ⟨_, rfl⟩; have HX7 : Hid (Vx W7 w.heap.size R (some ⟨g5, 0, none⟩) n c5 B m d) := Lib.hid (by rw [← HW7]; exact HX5.out.set1 R.L _ _ _); have HM7 : Hid (Mx W7 (w.heap.size + 1) ⟨i, ma, co, o, f⟩) := Lib.hid (by rw [← HW7]; exact HM5.out.far (by simp) _); have HZ7 : Hid (Vx W7 (w.heap.size + 2) ⟨0, [], [], 0⟩ none 0 0 none 0 0) := Lib.hid (by rw [← HW7]; exact HZ5.out.far (by simp) _); have HB7 : Hid (Below w.heap.size w W7) := Lib.hid (by rw [← HW7]; exact below_set (HB2.out.trans (HB5.out.mono HB2.out.size)) (p := ⟨w.heap.size, 1, none⟩) (Nat.le_refl _) _); have H7 : W7.ownsRow w2.heap.size 41 5 (.slice (some ⟨g5, 0, none⟩) n c5) n (flatM R.L) := (by rw [← HW7]; exact own_turn ho5 (turn_set w5 ⟨w.heap.size, 1, none⟩ _) (fun k hk e => by have := (ho5.lt k hk).1; simp only at e; omega)); obtain ⟨x0, x1, x2, x3⟩ := HX7.out.cells; obtain ⟨n0, n1, n2, n3, n4⟩ := HM7.out.cells; simp only at n0 n1 n2 n3 n4; obtain ⟨⟨d0, d1, d2, d3, d4⟩, hfz⟩ := own_cells H7 HP.out; have g0 := hfz (k * 5); have g1 := hfz (k * 5 + 1); have g2 := hfz (k * 5 + 2); have g3 := hfz (k * 5 + 3); have g4 := hfz (k * 5 + 4); obtain ⟨W8, HW8⟩ : ∃ W8, (((((W7.setCell ⟨g5, k * 5, none⟩ (.int .i64 i)).setCell ⟨g5, k * 5 + 1, none⟩ (.int .i64 ma)).setCell ⟨g5, k * 5 + 2, none⟩ (.int .i64 co)).setCell ⟨g5, k * 5 + 3, none⟩ (.int .i64 o)).setCell ⟨g5, k * 5 + 4, none⟩ (.int .i64 f)) = W8 := ⟨_, rfl⟩; have HT8 : Hid (Turn W7 W8 (fun a => a = g5)) := Lib.hid (by rw [← HW8]; exact turn5 W7 g5 _ _ _ _ _ _ _ _ _ _); have H8 : Hid (W8.ownsRow w2.heap.size 41 5 (.slice (some ⟨g5, 0, none⟩) n c5) n (flatM (R.L.set k ⟨i, ma, co, o, f⟩))) := Lib.hid (by rw [← HW8]; exact own_whole H7 HP.out ⟨i, ma, co, o, f⟩); have HX8 := Lib.hid (HX7.out.turn HT8.out (by omega)); have HZ8 := Lib.hid (HZ7.out.turn HT8.out (by omega)); obtain ⟨y0, y1, y2, y3⟩ := HX8.out.cells; obtain ⟨z0, z1, z2, z3⟩ := HZ8.out.cells; have f0 := HZ8.out.fz 0; have f1 := HZ8.out.fz 1; have f2 := HZ8.out.fz 2; have f3 := HZ8.out.fz 3; have HG5 := Lib.hid hg5'; clear ho5 hg5 hat5 H7 hfz hg5')
        have HTF : Turn W8 ((((W8.setCell ⟨w.heap.size + 2, 0, none⟩ (.int .i64 R.s)).setCell ⟨w.heap.size + 2, 1, none⟩ (.slice (some ⟨g5, 0, none⟩) n c5)).setCell ⟨w.heap.size + 2, 2, none⟩ (.slice B m d)).setCell ⟨w.heap.size + 2, 3, none⟩ (.int .i64 (R.c : Int))) (fun a => a = w.heap.size + 2) := turn4 W8 (w.heap.size + 2) 0 1 2 3 (.int .i64 R.s) (.slice (some ⟨g5, 0, none⟩) n c5) (.slice B m d) (.int .i64 (R.c : Int))
        have hgg := HG5.out
        have ho8 := own_turn H8.out HTF (fun k hk e => by have := (H8.out.lt k hk).1; omega)
        have h78 : Below w.heap.size W7 W8 := HT8.out.below (fun i e => by omega) HB7.out.size
        have hbf : Below w.heap.size w ((((W8.setCell ⟨w.heap.size + 2, 0, none⟩ (.int .i64 R.s)).setCell ⟨w.heap.size + 2, 1, none⟩ (.slice (some ⟨g5, 0, none⟩) n c5)).setCell ⟨w.heap.size + 2, 2, none⟩ (.slice B m d)).setCell ⟨w.heap.size + 2, 3, none⟩ (.int .i64 (R.c : Int))) := HB7.out.trans (h78.trans (HTF.below (C := w.heap.size) (fun i e => by omega) (by have := HB7.out.size; have := h78.size; omega)))
        exact bodyPost_ret (results_rbox (p := 4) (u := 5) rfl _ _ (w.heap.size + 2) ⟨R.s, R.L.set k ⟨i, ma, co, o, f⟩, R.B, R.c⟩ (some ⟨g5, 0, none⟩) n c5 B m d rfl (HZ8.out.store ⟨R.s, R.L.set k ⟨i, ma, co, o, f⟩, R.B, R.c⟩ (some ⟨g5, 0, none⟩) n c5 B m d)) rfl ⟨some ⟨g5, 0, none⟩, n, c5, B, m, d, rfl, ⟨rd_own ho8 HF.out (by omega), (HD.out.below hbf).b, hc5, hcm5, HD.out.bc, HD.out.bm⟩, hbf⟩
theorem rset_any (R : Ro) (A B : Option Addr) (n c m d : Nat) (F : Nat → Prop) (p : Mb) (w : World) (hn : n ≤ 1000) (h : Dc w F R A n c B m d) (hu : Up R.L) (hF : ∀ i, F i → i < w.heap.size) :
    Calls Try.prog 17 #[vD R A n c B m d, vM p] w (GivesD F (setR R p) (setE R p) w) := by
  cases hq : hasL R.L p.id
  · rw [show setE R p = 30 by unfold setE; rw [hq]; rfl, show setR R p = R by unfold setR setE; rw [hq]; rfl]
    exact rset_none R A B n c m d F p w hn h hu hq
  · cases hv : rightB p
    · rw [show setE R p = 10 by unfold setE; rw [hq, hv]; rfl, show setR R p = R by unfold setR setE; rw [hq, hv]; rfl]
      exact rset_bad R A B n c m d F p w hn h hu hq hv
    · have he : setE R p = 0 := by unfold setE; rw [hq, hv]; rfl
      rw [show setR R p = ⟨R.s, R.L.set (posL R.L p.id) p, R.B, R.c⟩ by unfold setR; rw [he, ins_old hu hq]; rfl, he]
      exact rset_ok R A B n c m d F p w hn h hu hF hq hv
end Go.Proofs.Ytfchhlibjhblmaa
