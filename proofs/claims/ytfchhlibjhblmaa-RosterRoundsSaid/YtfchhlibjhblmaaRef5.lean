/-
  WHAT IS PROVED: the contract of the document's own Set. Conditions: the sizes; the lists lie outside of the blocks F, which are there.
-/
import Derived.Test.YtfchhlibjhblmaaRef4
namespace Go.Proofs.Ytfchhlibjhblmaa
open Go.RowKit Go.Lib Go.Maps

/-- a variable of the document's type Member -/
def Mx (w : World) (b : Nat) (p : Mb) : Prop := Blk w b 41 (rowM p)
theorem Mx.cells {w : World} {b : Nat} {r : Mb} (h : Mx w b r) : w.cell? ⟨b, 0, none⟩ = some (.int .i64 r.id) ∧ w.cell? ⟨b, 1, none⟩ = some (.int .i64 r.ma) ∧ w.cell? ⟨b, 2, none⟩ = some (.int .i64 r.co) ∧ w.cell? ⟨b, 3, none⟩ = some (.int .i64 r.of_) ∧ w.cell? ⟨b, 4, none⟩ = some (.int .i64 r.fa) :=
  ⟨Blk.cell h 0, Blk.cell h 1, Blk.cell h 2, Blk.cell h 3, Blk.cell h 4⟩
theorem Mx.later {w w' : World} {b : Nat} {r : Mb} (h : Mx w b r) (hb : Below w.heap.size w w') : Mx w' b r := Blk.below h hb (Blk.lt h)
theorem Mx.far {w : World} {b : Nat} {r : Mb} (h : Mx w b r) {q : Addr} (hp : b ≠ q.block) (u : Value) : Mx (w.setCell q u) b r := Blk.far h hp u
theorem three_vx (w : World) (R : Ro) (A : Option Addr) (n c : Nat) (B : Option Addr) (m d : Nat) (p : Mb) :
    Vx (((w.alloc (.cells #[.int .i64 R.s, .slice A n c, .slice B m d, .int .i64 (R.c : Int)] 32)).alloc (.cells #[.int .i64 p.id, .int .i64 p.ma, .int .i64 p.co, .int .i64 p.of_, .int .i64 p.fa] 41)).alloc (.cells #[.int .i64 0, .slice none 0 0, .slice none 0 0, .int .i64 0] 32)) w.heap.size R A n c B m d ∧ Mx (((w.alloc (.cells #[.int .i64 R.s, .slice A n c, .slice B m d, .int .i64 (R.c : Int)] 32)).alloc (.cells #[.int .i64 p.id, .int .i64 p.ma, .int .i64 p.co, .int .i64 p.of_, .int .i64 p.fa] 41)).alloc (.cells #[.int .i64 0, .slice none 0 0, .slice none 0 0, .int .i64 0] 32)) (w.heap.size + 1) p ∧ Vx (((w.alloc (.cells #[.int .i64 R.s, .slice A n c, .slice B m d, .int .i64 (R.c : Int)] 32)).alloc (.cells #[.int .i64 p.id, .int .i64 p.ma, .int .i64 p.co, .int .i64 p.of_, .int .i64 p.fa] 41)).alloc (.cells #[.int .i64 0, .slice none 0 0, .slice none 0 0, .int .i64 0] 32)) (w.heap.size + 2) ⟨0, [], [], 0⟩ none 0 0 none 0 0 ∧ Below w.heap.size w (((w.alloc (.cells #[.int .i64 R.s, .slice A n c, .slice B m d, .int .i64 (R.c : Int)] 32)).alloc (.cells #[.int .i64 p.id, .int .i64 p.ma, .int .i64 p.co, .int .i64 p.of_, .int .i64 p.fa] 41)).alloc (.cells #[.int .i64 0, .slice none 0 0, .slice none 0 0, .int .i64 0] 32)) :=
  ⟨Blk.alloc (Blk.alloc (Blk.new w _ _) _) _,
   Blk.alloc (by have := Blk.new (w.alloc (.cells #[.int .i64 R.s, .slice A n c, .slice B m d, .int .i64 (R.c : Int)] 32)) 41 (rowM p); simpa using this) _,
   (by have := Vx.new ((w.alloc (.cells #[.int .i64 R.s, .slice A n c, .slice B m d, .int .i64 (R.c : Int)] 32)).alloc (.cells #[.int .i64 p.id, .int .i64 p.ma, .int .i64 p.co, .int .i64 p.of_, .int .i64 p.fa] 41)) ⟨0, [], [], 0⟩ none 0 0 none 0 0 rfl; simpa using this),
   (((Below.refl _ w).alloc (Nat.le_refl _) _).alloc (by simp) _).alloc (by simp; omega) _⟩

set_option maxHeartbeats 2000000 in
theorem rset_none (R : Ro) (A B : Option Addr) (n c m d : Nat) (F : Nat → Prop) (p : Mb) (w : World) (hn : n ≤ 1000) (h : Dc w F R A n c B m d) (hu : Up R.L) (hq : hasL R.L p.id = false) :
    Calls Try.prog 17 #[vD R A n c B m d, vM p] w (GivesD F R 30 w) := by
  have HD := Lib.hid h
  have HUP := Lib.hid hu
  obtain ⟨hx1, hm1, hz1, hb1⟩ := three_vx w R A n c B m d p
  have HX := Lib.hid hx1
  have HM := Lib.hid hm1
  have HZ := Lib.hid hz1
  have HB := Lib.hid hb1
  have m0 := hm1.cells.1
  obtain ⟨a0, a1, a2, a3⟩ := hx1.cells
  clear hx1 hm1 hz1 hb1
  have HFX : Hid (fnd R.L p.id = -1) := Lib.hid (fnd_not hq)
  clear h hu hq
  go_enter Try.func17, Try.ntmps17
  go_wp2_with (fail)
  refine (find_any R A B n c m d F _ _ hn (HD.out.below HB.out) HUP.out).mono ?_
  rintro e w2 ⟨rfl, hb2⟩
  rw [HFX.out]
  have HX2 := Lib.hid (HX.out.later hb2)
  have HM2 := Lib.hid (HM.out.later hb2)
  have HZ2 := Lib.hid (HZ.out.later hb2)
  have HB2 := Lib.hid (HB.out.trans (hb2.mono HB.out.size))
  clear hb2 m0 a0 a1 a2 a3
  obtain ⟨a0, a1, a2, a3⟩ := HX2.out.cells
  obtain ⟨m0, m1, m2, m3, m4⟩ := HM2.out.cells
  try simp only at m0 m1 m2 m3 m4
  obtain ⟨z0, z1, z2, z3⟩ := HZ2.out.cells
  have f0 := HZ2.out.fz 0
  have f1 := HZ2.out.fz 1
  have f2 := HZ2.out.fz 2
  have f3 := HZ2.out.fz 3
  go_wp2
  exact bodyPost_ret (results_rbox (p := 4) (u := 5) rfl _ _ (w.heap.size + 2) R A n c B m d rfl (HZ2.out.store R A n c B m d)) rfl ⟨A, n, c, B, m, d, rfl, HD.out.below (below4 HB2.out (by omega) 0 1 2 3 _ _ _ _), below4 HB2.out (by omega) 0 1 2 3 _ _ _ _⟩

set_option maxHeartbeats 1000000 in
theorem rset_bad (R : Ro) (A B : Option Addr) (n c m d : Nat) (F : Nat → Prop) (p : Mb) (w : World) (hn : n ≤ 1000) (h : Dc w F R A n c B m d) (hu : Up R.L) (hq : hasL R.L p.id = true) (hv : rightB p = false) :
    Calls Try.prog 17 #[vD R A n c B m d, vM p] w (GivesD F R 10 w) := by
  have HD := Lib.hid h
  have HUP := Lib.hid hu
  obtain ⟨hx1, hm1, hz1, hb1⟩ := three_vx w R A n c B m d p
  have HX := Lib.hid hx1
  have HM := Lib.hid hm1
  have HZ := Lib.hid hz1
  have HB := Lib.hid hb1
  have m0 := hm1.cells.1
  obtain ⟨a0, a1, a2, a3⟩ := hx1.cells
  clear hx1 hm1 hz1 hb1
  obtain ⟨k, hk⟩ : ∃ k, posL R.L p.id = k := ⟨_, rfl⟩
  have HFX : Hid (fnd R.L p.id = (k : Int)) := Lib.hid (by rw [fnd_has hq, hk])
  clear h hu hq hk
  obtain ⟨i, ma, co, o, f⟩ := p
  obtain ⟨q, HI⟩ : ∃ q, Hid (isIdB ma = q) := ⟨_, Lib.hid rfl⟩
  obtain ⟨t, HT⟩ : ∃ t, Hid (isTimeB f = t) := ⟨_, Lib.hid rfl⟩
  rw [right_parts] at hv
  simp only [HI.out, HT.out] at hv
  rcases (by omega : ma = 0 ∨ (ma ≠ 0 ∧ ma = i) ∨ (ma ≠ 0 ∧ ma ≠ i)) with h0 | ⟨h0, h1⟩ | ⟨h0, h1⟩
  · subst h0
    rw [show decide ((0 : Int) = 0) = true by simp, Bool.true_or, Bool.true_and] at hv
    rcases (by omega : co < 0 ∨ 281474976710656 < co ∨ (0 ≤ co ∧ co ≤ 281474976710656)) with h2 | h2 | ⟨h2, h3⟩
    · have t2 : co < 0 := h2
      clear hv h2
      go_enter Try.func17, Try.ntmps17
      go_wp2_with (fail)
      refine (find_any R A B n c m d F _ _ hn (HD.out.below HB.out) HUP.out).mono ?_
      rintro e w2 ⟨rfl, hb2⟩
      rw [HFX.out]
      have HX2 := Lib.hid (HX.out.later hb2)
      have HM2 := Lib.hid (HM.out.later hb2)
      have HZ2 := Lib.hid (HZ.out.later hb2)
      have HB2 := Lib.hid (HB.out.trans (hb2.mono HB.out.size))
      clear hb2 m0 a0 a1 a2 a3
      obtain ⟨a0, a1, a2, a3⟩ := HX2.out.cells
      obtain ⟨m0, m1, m2, m3, m4⟩ := HM2.out.cells
      try simp only at m0 m1 m2 m3 m4
      obtain ⟨z0, z1, z2, z3⟩ := HZ2.out.cells
      have f0 := HZ2.out.fz 0
      have f1 := HZ2.out.fz 1
      have f2 := HZ2.out.fz 2
      have f3 := HZ2.out.fz 3
      go_wp2
      exact bodyPost_ret (results_rbox (p := 4) (u := 5) rfl _ _ (w.heap.size + 2) R A n c B m d rfl (HZ2.out.store R A n c B m d)) rfl ⟨A, n, c, B, m, d, rfl, HD.out.below (below4 HB2.out (by omega) 0 1 2 3 _ _ _ _), below4 HB2.out (by omega) 0 1 2 3 _ _ _ _⟩
    · have t2 : decide (co < 0) = false := by simp; omega
      have t3 : decide (281474976710656 < co) = true := by simp; omega
      clear hv h2
      go_enter Try.func17, Try.ntmps17
      go_wp2_with (fail)
      refine (find_any R A B n c m d F _ _ hn (HD.out.below HB.out) HUP.out).mono ?_
      rintro e w2 ⟨rfl, hb2⟩
      rw [HFX.out]
      have HX2 := Lib.hid (HX.out.later hb2)
      have HM2 := Lib.hid (HM.out.later hb2)
      have HZ2 := Lib.hid (HZ.out.later hb2)
      have HB2 := Lib.hid (HB.out.trans (hb2.mono HB.out.size))
      clear hb2 m0 a0 a1 a2 a3
      obtain ⟨a0, a1, a2, a3⟩ := HX2.out.cells
      obtain ⟨m0, m1, m2, m3, m4⟩ := HM2.out.cells
      try simp only at m0 m1 m2 m3 m4
      obtain ⟨z0, z1, z2, z3⟩ := HZ2.out.cells
      have f0 := HZ2.out.fz 0
      have f1 := HZ2.out.fz 1
      have f2 := HZ2.out.fz 2
      have f3 := HZ2.out.fz 3
      go_wp2
      exact bodyPost_ret (results_rbox (p := 4) (u := 5) rfl _ _ (w.heap.size + 2) R A n c B m d rfl (HZ2.out.store R A n c B m d)) rfl ⟨A, n, c, B, m, d, rfl, HD.out.below (below4 HB2.out (by omega) 0 1 2 3 _ _ _ _), below4 HB2.out (by omega) 0 1 2 3 _ _ _ _⟩
    · rw [show decide (0 ≤ co ∧ co ≤ 281474976710656) = true by simp; omega] at hv
      have t2 : decide (co < 0) = false := by simp; omega
      have t3 : decide (281474976710656 < co) = false := by simp; omega
      rcases (by omega : o < 0 ∨ 281474976710656 < o ∨ (0 ≤ o ∧ o ≤ 281474976710656)) with h4 | h4 | ⟨h4, h5⟩
      · have t4 : o < 0 := h4
        clear hv h2 h3 h4
        go_enter Try.func17, Try.ntmps17
        go_wp2_with (fail)
        refine (find_any R A B n c m d F _ _ hn (HD.out.below HB.out) HUP.out).mono ?_
        rintro e w2 ⟨rfl, hb2⟩
        rw [HFX.out]
        have HX2 := Lib.hid (HX.out.later hb2)
        have HM2 := Lib.hid (HM.out.later hb2)
        have HZ2 := Lib.hid (HZ.out.later hb2)
        have HB2 := Lib.hid (HB.out.trans (hb2.mono HB.out.size))
        clear hb2 m0 a0 a1 a2 a3
        obtain ⟨a0, a1, a2, a3⟩ := HX2.out.cells
        obtain ⟨m0, m1, m2, m3, m4⟩ := HM2.out.cells
        try simp only at m0 m1 m2 m3 m4
        obtain ⟨z0, z1, z2, z3⟩ := HZ2.out.cells
        have f0 := HZ2.out.fz 0
        have f1 := HZ2.out.fz 1
        have f2 := HZ2.out.fz 2
        have f3 := HZ2.out.fz 3
        go_wp2
        exact bodyPost_ret (results_rbox (p := 4) (u := 5) rfl _ _ (w.heap.size + 2) R A n c B m d rfl (HZ2.out.store R A n c B m d)) rfl ⟨A, n, c, B, m, d, rfl, HD.out.below (below4 HB2.out (by omega) 0 1 2 3 _ _ _ _), below4 HB2.out (by omega) 0 1 2 3 _ _ _ _⟩
      · have t4 : decide (o < 0) = false := by simp; omega
        have t5 : decide (281474976710656 < o) = true := by simp; omega
        clear hv h2 h3 h4
        go_enter Try.func17, Try.ntmps17
        go_wp2_with (fail)
        refine (find_any R A B n c m d F _ _ hn (HD.out.below HB.out) HUP.out).mono ?_
        rintro e w2 ⟨rfl, hb2⟩
        rw [HFX.out]
        have HX2 := Lib.hid (HX.out.later hb2)
        have HM2 := Lib.hid (HM.out.later hb2)
        have HZ2 := Lib.hid (HZ.out.later hb2)
        have HB2 := Lib.hid (HB.out.trans (hb2.mono HB.out.size))
        clear hb2 m0 a0 a1 a2 a3
        obtain ⟨a0, a1, a2, a3⟩ := HX2.out.cells
        obtain ⟨m0, m1, m2, m3, m4⟩ := HM2.out.cells
        try simp only at m0 m1 m2 m3 m4
        obtain ⟨z0, z1, z2, z3⟩ := HZ2.out.cells
        have f0 := HZ2.out.fz 0
        have f1 := HZ2.out.fz 1
        have f2 := HZ2.out.fz 2
        have f3 := HZ2.out.fz 3
        go_wp2
        exact bodyPost_ret (results_rbox (p := 4) (u := 5) rfl _ _ (w.heap.size + 2) R A n c B m d rfl (HZ2.out.store R A n c B m d)) rfl ⟨A, n, c, B, m, d, rfl, HD.out.below (below4 HB2.out (by omega) 0 1 2 3 _ _ _ _), below4 HB2.out (by omega) 0 1 2 3 _ _ _ _⟩
      · rw [show decide (0 ≤ o ∧ o ≤ 281474976710656) = true by simp; omega] at hv
        have t4 : decide (o < 0) = false := by simp; omega
        have t5 : decide (281474976710656 < o) = false := by simp; omega
        have h6 : f ≠ -1 := fun e => by simp [e] at hv
        obtain rfl : t = false := by simpa [h6] using hv
        have t6 : (f != -1) = true := by simpa using h6
        clear hv h6 h2 h3 h4 h5
        go_enter Try.func17, Try.ntmps17
        go_wp2_with (fail)
        refine (find_any R A B n c m d F _ _ hn (HD.out.below HB.out) HUP.out).mono ?_
        rintro e w2 ⟨rfl, hb2⟩
        rw [HFX.out]
        have HX2 := Lib.hid (HX.out.later hb2)
        have HM2 := Lib.hid (HM.out.later hb2)
        have HZ2 := Lib.hid (HZ.out.later hb2)
        have HB2 := Lib.hid (HB.out.trans (hb2.mono HB.out.size))
        clear hb2 m0 a0 a1 a2 a3
        obtain ⟨a0, a1, a2, a3⟩ := HX2.out.cells
        obtain ⟨m0, m1, m2, m3, m4⟩ := HM2.out.cells
        try simp only at m0 m1 m2 m3 m4
        go_wp2_with (fail)
        refine (rtime_any f _).mono ?_
        rintro e w9 ⟨rfl, rfl⟩
        rw [HT.out]
        obtain ⟨z0, z1, z2, z3⟩ := HZ2.out.cells
        have f0 := HZ2.out.fz 0
        have f1 := HZ2.out.fz 1
        have f2 := HZ2.out.fz 2
        have f3 := HZ2.out.fz 3
        go_wp2
        exact bodyPost_ret (results_rbox (p := 4) (u := 5) rfl _ _ (w.heap.size + 2) R A n c B m d rfl (HZ2.out.store R A n c B m d)) rfl ⟨A, n, c, B, m, d, rfl, HD.out.below (below4 HB2.out (by omega) 0 1 2 3 _ _ _ _), below4 HB2.out (by omega) 0 1 2 3 _ _ _ _⟩
  · subst h1
    have t0 : (ma != 0) = true := by simpa using h0
    clear hv h0
    cases q
    · go_enter Try.func17, Try.ntmps17
      go_wp2_with (fail)
      refine (find_any R A B n c m d F _ _ hn (HD.out.below HB.out) HUP.out).mono ?_
      rintro e w2 ⟨rfl, hb2⟩
      rw [HFX.out]
      have HX2 := Lib.hid (HX.out.later hb2)
      have HM2 := Lib.hid (HM.out.later hb2)
      have HZ2 := Lib.hid (HZ.out.later hb2)
      have HB2 := Lib.hid (HB.out.trans (hb2.mono HB.out.size))
      clear hb2 m0 a0 a1 a2 a3
      obtain ⟨a0, a1, a2, a3⟩ := HX2.out.cells
      obtain ⟨m0, m1, m2, m3, m4⟩ := HM2.out.cells
      try simp only at m0 m1 m2 m3 m4
      go_wp2_with (fail)
      refine (rid_any ma _).mono ?_
      rintro e w9 ⟨rfl, rfl⟩
      rw [HI.out]
      obtain ⟨z0, z1, z2, z3⟩ := HZ2.out.cells
      have f0 := HZ2.out.fz 0
      have f1 := HZ2.out.fz 1
      have f2 := HZ2.out.fz 2
      have f3 := HZ2.out.fz 3
      go_wp2
      exact bodyPost_ret (results_rbox (p := 4) (u := 5) rfl _ _ (w.heap.size + 2) R A n c B m d rfl (HZ2.out.store R A n c B m d)) rfl ⟨A, n, c, B, m, d, rfl, HD.out.below (below4 HB2.out (by omega) 0 1 2 3 _ _ _ _), below4 HB2.out (by omega) 0 1 2 3 _ _ _ _⟩
    · go_enter Try.func17, Try.ntmps17
      go_wp2_with (fail)
      refine (find_any R A B n c m d F _ _ hn (HD.out.below HB.out) HUP.out).mono ?_
      rintro e w2 ⟨rfl, hb2⟩
      rw [HFX.out]
      have HX2 := Lib.hid (HX.out.later hb2)
      have HM2 := Lib.hid (HM.out.later hb2)
      have HZ2 := Lib.hid (HZ.out.later hb2)
      have HB2 := Lib.hid (HB.out.trans (hb2.mono HB.out.size))
      clear hb2 m0 a0 a1 a2 a3
      obtain ⟨a0, a1, a2, a3⟩ := HX2.out.cells
      obtain ⟨m0, m1, m2, m3, m4⟩ := HM2.out.cells
      try simp only at m0 m1 m2 m3 m4
      go_wp2_with (fail)
      refine (rid_any ma _).mono ?_
      rintro e w9 ⟨rfl, rfl⟩
      rw [HI.out]
      obtain ⟨z0, z1, z2, z3⟩ := HZ2.out.cells
      have f0 := HZ2.out.fz 0
      have f1 := HZ2.out.fz 1
      have f2 := HZ2.out.fz 2
      have f3 := HZ2.out.fz 3
      go_wp2
      exact bodyPost_ret (results_rbox (p := 4) (u := 5) rfl _ _ (w.heap.size + 2) R A n c B m d rfl (HZ2.out.store R A n c B m d)) rfl ⟨A, n, c, B, m, d, rfl, HD.out.below (below4 HB2.out (by omega) 0 1 2 3 _ _ _ _), below4 HB2.out (by omega) 0 1 2 3 _ _ _ _⟩
  · have t0 : (ma != 0) = true := by simpa using h0
    have t1 : (ma == i) = false := by simpa using h1
    cases q
    · clear hv h0 h1
      go_enter Try.func17, Try.ntmps17
      go_wp2_with (fail)
      refine (find_any R A B n c m d F _ _ hn (HD.out.below HB.out) HUP.out).mono ?_
      rintro e w2 ⟨rfl, hb2⟩
      rw [HFX.out]
      have HX2 := Lib.hid (HX.out.later hb2)
      have HM2 := Lib.hid (HM.out.later hb2)
      have HZ2 := Lib.hid (HZ.out.later hb2)
      have HB2 := Lib.hid (HB.out.trans (hb2.mono HB.out.size))
      clear hb2 m0 a0 a1 a2 a3
      obtain ⟨a0, a1, a2, a3⟩ := HX2.out.cells
      obtain ⟨m0, m1, m2, m3, m4⟩ := HM2.out.cells
      try simp only at m0 m1 m2 m3 m4
      go_wp2_with (fail)
      refine (rid_any ma _).mono ?_
      rintro e w9 ⟨rfl, rfl⟩
      rw [HI.out]
      obtain ⟨z0, z1, z2, z3⟩ := HZ2.out.cells
      have f0 := HZ2.out.fz 0
      have f1 := HZ2.out.fz 1
      have f2 := HZ2.out.fz 2
      have f3 := HZ2.out.fz 3
      go_wp2
      exact bodyPost_ret (results_rbox (p := 4) (u := 5) rfl _ _ (w.heap.size + 2) R A n c B m d rfl (HZ2.out.store R A n c B m d)) rfl ⟨A, n, c, B, m, d, rfl, HD.out.below (below4 HB2.out (by omega) 0 1 2 3 _ _ _ _), below4 HB2.out (by omega) 0 1 2 3 _ _ _ _⟩
    · rw [show decide (ma = 0) = false by simpa using h0, show decide (ma = i) = false by simpa using h1] at hv
      simp only [Bool.false_or, Bool.not_false, Bool.and_self, Bool.true_and] at hv
      clear h0 h1
      rcases (by omega : co < 0 ∨ 281474976710656 < co ∨ (0 ≤ co ∧ co ≤ 281474976710656)) with h2 | h2 | ⟨h2, h3⟩
      · have t2 : co < 0 := h2
        clear hv h2
        go_enter Try.func17, Try.ntmps17
        go_wp2_with (fail)
        refine (find_any R A B n c m d F _ _ hn (HD.out.below HB.out) HUP.out).mono ?_
        rintro e w2 ⟨rfl, hb2⟩
        rw [HFX.out]
        have HX2 := Lib.hid (HX.out.later hb2)
        have HM2 := Lib.hid (HM.out.later hb2)
        have HZ2 := Lib.hid (HZ.out.later hb2)
        have HB2 := Lib.hid (HB.out.trans (hb2.mono HB.out.size))
        clear hb2 m0 a0 a1 a2 a3
        obtain ⟨a0, a1, a2, a3⟩ := HX2.out.cells
        obtain ⟨m0, m1, m2, m3, m4⟩ := HM2.out.cells
        try simp only at m0 m1 m2 m3 m4
        go_wp2_with (fail)
        refine (rid_any ma _).mono ?_
        rintro e w9 ⟨rfl, rfl⟩
        rw [HI.out]
        obtain ⟨z0, z1, z2, z3⟩ := HZ2.out.cells
        have f0 := HZ2.out.fz 0
        have f1 := HZ2.out.fz 1
        have f2 := HZ2.out.fz 2
        have f3 := HZ2.out.fz 3
        go_wp2
        exact bodyPost_ret (results_rbox (p := 4) (u := 5) rfl _ _ (w.heap.size + 2) R A n c B m d rfl (HZ2.out.store R A n c B m d)) rfl ⟨A, n, c, B, m, d, rfl, HD.out.below (below4 HB2.out (by omega) 0 1 2 3 _ _ _ _), below4 HB2.out (by omega) 0 1 2 3 _ _ _ _⟩
      · have t2 : decide (co < 0) = false := by simp; omega
        have t3 : decide (281474976710656 < co) = true := by simp; omega
        clear hv h2
        go_enter Try.func17, Try.ntmps17
        go_wp2_with (fail)
        refine (find_any R A B n c m d F _ _ hn (HD.out.below HB.out) HUP.out).mono ?_
        rintro e w2 ⟨rfl, hb2⟩
        rw [HFX.out]
        have HX2 := Lib.hid (HX.out.later hb2)
        have HM2 := Lib.hid (HM.out.later hb2)
        have HZ2 := Lib.hid (HZ.out.later hb2)
        have HB2 := Lib.hid (HB.out.trans (hb2.mono HB.out.size))
        clear hb2 m0 a0 a1 a2 a3
        obtain ⟨a0, a1, a2, a3⟩ := HX2.out.cells
        obtain ⟨m0, m1, m2, m3, m4⟩ := HM2.out.cells
        try simp only at m0 m1 m2 m3 m4
        go_wp2_with (fail)
        refine (rid_any ma _).mono ?_
        rintro e w9 ⟨rfl, rfl⟩
        rw [HI.out]
        obtain ⟨z0, z1, z2, z3⟩ := HZ2.out.cells
        have f0 := HZ2.out.fz 0
        have f1 := HZ2.out.fz 1
        have f2 := HZ2.out.fz 2
        have f3 := HZ2.out.fz 3
        go_wp2
        exact bodyPost_ret (results_rbox (p := 4) (u := 5) rfl _ _ (w.heap.size + 2) R A n c B m d rfl (HZ2.out.store R A n c B m d)) rfl ⟨A, n, c, B, m, d, rfl, HD.out.below (below4 HB2.out (by omega) 0 1 2 3 _ _ _ _), below4 HB2.out (by omega) 0 1 2 3 _ _ _ _⟩
      · rw [show decide (0 ≤ co ∧ co ≤ 281474976710656) = true by simp; omega] at hv
        have t2 : decide (co < 0) = false := by simp; omega
        have t3 : decide (281474976710656 < co) = false := by simp; omega
        rcases (by omega : o < 0 ∨ 281474976710656 < o ∨ (0 ≤ o ∧ o ≤ 281474976710656)) with h4 | h4 | ⟨h4, h5⟩
        · have t4 : o < 0 := h4
          clear hv h2 h3 h4
          go_enter Try.func17, Try.ntmps17
          go_wp2_with (fail)
          refine (find_any R A B n c m d F _ _ hn (HD.out.below HB.out) HUP.out).mono ?_
          rintro e w2 ⟨rfl, hb2⟩
          rw [HFX.out]
          have HX2 := Lib.hid (HX.out.later hb2)
          have HM2 := Lib.hid (HM.out.later hb2)
          have HZ2 := Lib.hid (HZ.out.later hb2)
          have HB2 := Lib.hid (HB.out.trans (hb2.mono HB.out.size))
          clear hb2 m0 a0 a1 a2 a3
          obtain ⟨a0, a1, a2, a3⟩ := HX2.out.cells
          obtain ⟨m0, m1, m2, m3, m4⟩ := HM2.out.cells
          try simp only at m0 m1 m2 m3 m4
          go_wp2_with (fail)
          refine (rid_any ma _).mono ?_
          rintro e w9 ⟨rfl, rfl⟩
          rw [HI.out]
          obtain ⟨z0, z1, z2, z3⟩ := HZ2.out.cells
          have f0 := HZ2.out.fz 0
          have f1 := HZ2.out.fz 1
          have f2 := HZ2.out.fz 2
          have f3 := HZ2.out.fz 3
          go_wp2
          exact bodyPost_ret (results_rbox (p := 4) (u := 5) rfl _ _ (w.heap.size + 2) R A n c B m d rfl (HZ2.out.store R A n c B m d)) rfl ⟨A, n, c, B, m, d, rfl, HD.out.below (below4 HB2.out (by omega) 0 1 2 3 _ _ _ _), below4 HB2.out (by omega) 0 1 2 3 _ _ _ _⟩
        · have t4 : decide (o < 0) = false := by simp; omega
          have t5 : decide (281474976710656 < o) = true := by simp; omega
          clear hv h2 h3 h4
          go_enter Try.func17, Try.ntmps17
          go_wp2_with (fail)
          refine (find_any R A B n c m d F _ _ hn (HD.out.below HB.out) HUP.out).mono ?_
          rintro e w2 ⟨rfl, hb2⟩
          rw [HFX.out]
          have HX2 := Lib.hid (HX.out.later hb2)
          have HM2 := Lib.hid (HM.out.later hb2)
          have HZ2 := Lib.hid (HZ.out.later hb2)
          have HB2 := Lib.hid (HB.out.trans (hb2.mono HB.out.size))
          clear hb2 m0 a0 a1 a2 a3
          obtain ⟨a0, a1, a2, a3⟩ := HX2.out.cells
          obtain ⟨m0, m1, m2, m3, m4⟩ := HM2.out.cells
          try simp only at m0 m1 m2 m3 m4
          go_wp2_with (fail)
          refine (rid_any ma _).mono ?_
          rintro e w9 ⟨rfl, rfl⟩
          rw [HI.out]
          obtain ⟨z0, z1, z2, z3⟩ := HZ2.out.cells
          have f0 := HZ2.out.fz 0
          have f1 := HZ2.out.fz 1
          have f2 := HZ2.out.fz 2
          have f3 := HZ2.out.fz 3
          go_wp2
          exact bodyPost_ret (results_rbox (p := 4) (u := 5) rfl _ _ (w.heap.size + 2) R A n c B m d rfl (HZ2.out.store R A n c B m d)) rfl ⟨A, n, c, B, m, d, rfl, HD.out.below (below4 HB2.out (by omega) 0 1 2 3 _ _ _ _), below4 HB2.out (by omega) 0 1 2 3 _ _ _ _⟩
        · rw [show decide (0 ≤ o ∧ o ≤ 281474976710656) = true by simp; omega] at hv
          have t4 : decide (o < 0) = false := by simp; omega
          have t5 : decide (281474976710656 < o) = false := by simp; omega
          have h6 : f ≠ -1 := fun e => by simp [e] at hv
          obtain rfl : t = false := by simpa [h6] using hv
          have t6 : (f != -1) = true := by simpa using h6
          clear hv h6 h2 h3 h4 h5
          go_enter Try.func17, Try.ntmps17
          go_wp2_with (fail)
          refine (find_any R A B n c m d F _ _ hn (HD.out.below HB.out) HUP.out).mono ?_
          rintro e w2 ⟨rfl, hb2⟩
          rw [HFX.out]
          have HX2 := Lib.hid (HX.out.later hb2)
          have HM2 := Lib.hid (HM.out.later hb2)
          have HZ2 := Lib.hid (HZ.out.later hb2)
          have HB2 := Lib.hid (HB.out.trans (hb2.mono HB.out.size))
          clear hb2 m0 a0 a1 a2 a3
          obtain ⟨a0, a1, a2, a3⟩ := HX2.out.cells
          obtain ⟨m0, m1, m2, m3, m4⟩ := HM2.out.cells
          try simp only at m0 m1 m2 m3 m4
          go_wp2_with (fail)
          refine (rid_any ma _).mono ?_
          rintro e w9 ⟨rfl, rfl⟩
          rw [HI.out]
          go_wp2_with (fail)
          refine (rtime_any f _).mono ?_
          rintro e w9 ⟨rfl, rfl⟩
          rw [HT.out]
          obtain ⟨z0, z1, z2, z3⟩ := HZ2.out.cells
          have f0 := HZ2.out.fz 0
          have f1 := HZ2.out.fz 1
          have f2 := HZ2.out.fz 2
          have f3 := HZ2.out.fz 3
          go_wp2
          exact bodyPost_ret (results_rbox (p := 4) (u := 5) rfl _ _ (w.heap.size + 2) R A n c B m d rfl (HZ2.out.store R A n c B m d)) rfl ⟨A, n, c, B, m, d, rfl, HD.out.below (below4 HB2.out (by omega) 0 1 2 3 _ _ _ _), below4 HB2.out (by omega) 0 1 2 3 _ _ _ _⟩
end Go.Proofs.Ytfchhlibjhblmaa
