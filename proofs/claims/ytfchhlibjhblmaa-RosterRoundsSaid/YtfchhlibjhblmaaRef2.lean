/-
  WHAT IS PROVED: contracts of the document's own Add and Forget. Conditions: the sizes; the lists lie outside of the blocks F, which are there.
-/
import Derived.Test.YtfchhlibjhblmaaRef1
namespace Go.Proofs.Ytfchhlibjhblmaa
open Go.RowKit Go.Lib Go.Maps

/-- the document's roster and a number are handed back; nothing that was there turns -/
def GivesD (F : Nat → Prop) (R' : Ro) (r : Int) (w : World) (e : Ending) (w' : World) : Prop :=
  ∃ A n c B m d, e = .returned (.tuple #[vD R' A n c B m d, .int .i64 r]) ∧ Dc w' F R' A n c B m d ∧ Below w.heap.size w w'
theorem results_rbox {fn : Func} {p u : Tmp} (h : fn.results = #[.cell p 32, .tmp u]) (tmps : Array Value) (w : World) (b : Nat) (R : Ro) (A : Option Addr) (n c : Nat) (B : Option Addr) (m d : Nat)
    (hp : tmps.getD p undef = .pointer (some ⟨b, 0, none⟩)) (hb : Vx w b R A n c B m d) : (results fn tmps).run Try.prog w = .ok (.tuple #[vD R A n c B m d, tmps.getD u undef]) w := by
  rw [results_cell_tmp h, hp]
  have hs : (Try.prog.info? 32).map (·.size) = some (#[Value.int .i64 R.s, .slice A n c, .slice B m d, .int .i64 (R.c : Int)] : Array Value).size := by
    rw [show (#[Value.int .i64 R.s, .slice A n c, .slice B m d, .int .i64 (R.c : Int)] : Array Value).size = 4 from rfl]; kernel_rfl
  simp [asAddr, run_loadVar_row w b 32 32 #[.int .i64 R.s, .slice A n c, .slice B m d, .int .i64 (R.c : Int)] (0, 0) _ hb Try.underlying32 rfl hs, Result.andThen]
theorem below4 {B : Nat} {w w' : World} (h : Below B w w') {c : Nat} (hc : B ≤ c) (i j k l : Nat) (x y z u : Value) : Below B w ((((w'.setCell ⟨c, i, none⟩ x).setCell ⟨c, j, none⟩ y).setCell ⟨c, k, none⟩ z).setCell ⟨c, l, none⟩ u) :=
  below_set (below_set (below_set (below_set h (p := ⟨c, i, none⟩) hc x) (p := ⟨c, j, none⟩) hc y) (p := ⟨c, k, none⟩) hc z) (p := ⟨c, l, none⟩) hc u
theorem turn4 (w : World) (b i j k l : Nat) (x y z u : Value) : Turn w ((((w.setCell ⟨b, i, none⟩ x).setCell ⟨b, j, none⟩ y).setCell ⟨b, k, none⟩ z).setCell ⟨b, l, none⟩ u) (fun a => a = b) :=
  ((((turn_set w ⟨b, i, none⟩ x).trans (turn_set _ ⟨b, j, none⟩ y) (Sub.refl _ _)).trans (turn_set _ ⟨b, k, none⟩ z) (Sub.refl _ _)).trans (turn_set _ ⟨b, l, none⟩ u) (Sub.refl _ _))
/-- a box of the argument and a result of noughts -/
theorem two_vx (w : World) (R : Ro) (A : Option Addr) (n c : Nat) (B : Option Addr) (m d : Nat) :
    Vx ((w.alloc (.cells #[.int .i64 R.s, .slice A n c, .slice B m d, .int .i64 (R.c : Int)] 32)).alloc (.cells #[.int .i64 0, .slice none 0 0, .slice none 0 0, .int .i64 0] 32)) w.heap.size R A n c B m d ∧
    Vx ((w.alloc (.cells #[.int .i64 R.s, .slice A n c, .slice B m d, .int .i64 (R.c : Int)] 32)).alloc (.cells #[.int .i64 0, .slice none 0 0, .slice none 0 0, .int .i64 0] 32)) (w.heap.size + 1) ⟨0, [], [], 0⟩ none 0 0 none 0 0 ∧
    Below w.heap.size w ((w.alloc (.cells #[.int .i64 R.s, .slice A n c, .slice B m d, .int .i64 (R.c : Int)] 32)).alloc (.cells #[.int .i64 0, .slice none 0 0, .slice none 0 0, .int .i64 0] 32)) :=
  ⟨Blk.alloc (Blk.new w _ _) _, (by have := Vx.new (w.alloc (.cells #[.int .i64 R.s, .slice A n c, .slice B m d, .int .i64 (R.c : Int)] 32)) ⟨0, [], [], 0⟩ none 0 0 none 0 0 rfl; simpa using this), ((Below.refl _ w).alloc (Nat.le_refl _) _).alloc (by simp) _⟩
theorem rd_mem (w : World) (p : Mb) : Rd (w.alloc (.cells #[.int .i64 p.id, .int .i64 p.ma, .int .i64 p.co, .int .i64 p.of_, .int .i64 p.fa] 41)) no 5 (some ⟨w.heap.size, 0, none⟩) 1 (flatM [p]) := Rd.new w no (fun _ f => f.elim) 5 1 #[.int .i64 p.id, .int .i64 p.ma, .int .i64 p.co, .int .i64 p.of_, .int .i64 p.fa] _ rfl
/-- an own row, told as a list to be read outside of F -/
theorem rd_own {w W : World} {F : Nat → Prop} {base s n c : Nat} {A : Option Addr} {e : TypeId} {xs : List Value} (h : w.ownsRow base e s (.slice A n c) n xs) (hF : ∀ i, F i → i < W.heap.size) (hb : W.heap.size ≤ base) : Rd w F s A n xs :=
  Rd.of_own h rfl (fun k hk f => by have := (h.lt k hk).1; have := hF k f; omega)

set_option maxHeartbeats 2000000 in
theorem radd_form (R : Ro) (A B : Option Addr) (n c m d : Nat) (F : Nat → Prop) (x t : Int) (w : World) (h : Dc w F R A n c B m d) (hu : Up R.L) (h0 : isIdB x = false ∨ isTimeB t = false) :
    Calls Try.prog 13 #[vD R A n c B m d, .int .i64 x, .int .i64 t] w (GivesD F R 10 w) := by
  have HD := Lib.hid h
  have HUP := Lib.hid hu
  obtain ⟨hx1, hz1, hb1⟩ := two_vx w R A n c B m d
  have HX := Lib.hid hx1
  have HZ := Lib.hid hz1
  have HB := Lib.hid hb1
  clear hx1 hz1 hb1
  obtain ⟨b1, H1⟩ : ∃ b, Hid (isIdB x = b) := ⟨_, Lib.hid rfl⟩
  obtain ⟨b2, H2⟩ : ∃ b, Hid (isTimeB t = b) := ⟨_, Lib.hid rfl⟩
  have H0 : Hid (b1 = false ∨ b2 = false) := Lib.hid (by rw [← H1.out, ← H2.out]; exact h0)
  clear h hu h0
  go_enter Try.func13, Try.ntmps13
  go_wp2_with (fail)
  refine (rid_any x _).mono ?_
  rintro e w1 ⟨rfl, hw⟩
  rw [hw] at HX HZ HB
  clear hw
  rw [H1.out]
  obtain ⟨a0, a1, a2, a3⟩ := HX.out.cells
  obtain ⟨z0, z1, z2, z3⟩ := HZ.out.cells
  have f0 := HZ.out.fz 0
  have f1 := HZ.out.fz 1
  have f2 := HZ.out.fz 2
  have f3 := HZ.out.fz 3
  cases b1
  · skip
    go_wp2
    exact bodyPost_ret (results_rbox (p := 6) (u := 7) rfl _ _ (w.heap.size + 1) R A n c B m d rfl (HZ.out.store R A n c B m d)) rfl ⟨A, n, c, B, m, d, rfl, HD.out.below (below4 HB.out (by omega) 0 1 2 3 _ _ _ _), below4 HB.out (by omega) 0 1 2 3 _ _ _ _⟩
  · skip
    go_wp2_with (fail)
    refine (rtime_any t _).mono ?_
    rintro e w2 ⟨rfl, rfl⟩
    rw [H2.out]
    cases b2
    · skip
      go_wp2
      exact bodyPost_ret (results_rbox (p := 6) (u := 7) rfl _ _ (w.heap.size + 1) R A n c B m d rfl (HZ.out.store R A n c B m d)) rfl ⟨A, n, c, B, m, d, rfl, HD.out.below (below4 HB.out (by omega) 0 1 2 3 _ _ _ _), below4 HB.out (by omega) 0 1 2 3 _ _ _ _⟩
    · exact absurd H0.out (by decide)
set_option maxHeartbeats 2000000 in
theorem radd_self (R : Ro) (A B : Option Addr) (n c m d : Nat) (F : Nat → Prop) (x t : Int) (w : World) (h : Dc w F R A n c B m d) (hu : Up R.L) (h1 : isIdB x = true) (h2 : isTimeB t = true) (h3 : x = R.s) :
    Calls Try.prog 13 #[vD R A n c B m d, .int .i64 x, .int .i64 t] w (GivesD F R 33 w) := by
  have HD := Lib.hid h
  have HUP := Lib.hid hu
  obtain ⟨hx1, hz1, hb1⟩ := two_vx w R A n c B m d
  have HX := Lib.hid hx1
  have HZ := Lib.hid hz1
  have HB := Lib.hid hb1
  clear hx1 hz1 hb1
  have H1 := Lib.hid h1
  have H2 := Lib.hid h2
  have t1 : (x == R.s) = true := by simpa using h3
  clear h hu h1 h2 h3
  go_enter Try.func13, Try.ntmps13
  go_wp2_with (fail)
  refine (rid_any x _).mono ?_
  rintro e w1 ⟨rfl, hw⟩
  rw [hw] at HX HZ HB
  clear hw
  rw [H1.out]
  obtain ⟨a0, a1, a2, a3⟩ := HX.out.cells
  obtain ⟨z0, z1, z2, z3⟩ := HZ.out.cells
  have f0 := HZ.out.fz 0
  have f1 := HZ.out.fz 1
  have f2 := HZ.out.fz 2
  have f3 := HZ.out.fz 3
  go_wp2_with (fail)
  refine (rtime_any t _).mono ?_
  rintro e w2 ⟨rfl, rfl⟩
  rw [H2.out]
  go_wp2
  exact bodyPost_ret (results_rbox (p := 6) (u := 7) rfl _ _ (w.heap.size + 1) R A n c B m d rfl (HZ.out.store R A n c B m d)) rfl ⟨A, n, c, B, m, d, rfl, HD.out.below (below4 HB.out (by omega) 0 1 2 3 _ _ _ _), below4 HB.out (by omega) 0 1 2 3 _ _ _ _⟩

set_option maxHeartbeats 2000000 in
theorem rfor_form (R : Ro) (A B : Option Addr) (n c m d : Nat) (F : Nat → Prop) (x t : Int) (w : World) (h : Dc w F R A n c B m d) (hu : Up R.L) (h0 : isIdB x = false ∨ isTimeB t = false) :
    Calls Try.prog 15 #[vD R A n c B m d, .int .i64 x, .int .i64 t] w (GivesD F R 10 w) := by
  have HD := Lib.hid h
  have HUP := Lib.hid hu
  obtain ⟨hx1, hz1, hb1⟩ := two_vx w R A n c B m d
  have HX := Lib.hid hx1
  have HZ := Lib.hid hz1
  have HB := Lib.hid hb1
  clear hx1 hz1 hb1
  obtain ⟨b1, H1⟩ : ∃ b, Hid (isIdB x = b) := ⟨_, Lib.hid rfl⟩
  obtain ⟨b2, H2⟩ : ∃ b, Hid (isTimeB t = b) := ⟨_, Lib.hid rfl⟩
  have H0 : Hid (b1 = false ∨ b2 = false) := Lib.hid (by rw [← H1.out, ← H2.out]; exact h0)
  clear h hu h0
  go_enter Try.func15, Try.ntmps15
  go_wp2_with (fail)
  refine (rid_any x _).mono ?_
  rintro e w1 ⟨rfl, hw⟩
  rw [hw] at HX HZ HB
  clear hw
  rw [H1.out]
  obtain ⟨a0, a1, a2, a3⟩ := HX.out.cells
  obtain ⟨z0, z1, z2, z3⟩ := HZ.out.cells
  have f0 := HZ.out.fz 0
  have f1 := HZ.out.fz 1
  have f2 := HZ.out.fz 2
  have f3 := HZ.out.fz 3
  cases b1
  · skip
    go_wp2
    exact bodyPost_ret (results_rbox (p := 6) (u := 7) rfl _ _ (w.heap.size + 1) R A n c B m d rfl (HZ.out.store R A n c B m d)) rfl ⟨A, n, c, B, m, d, rfl, HD.out.below (below4 HB.out (by omega) 0 1 2 3 _ _ _ _), below4 HB.out (by omega) 0 1 2 3 _ _ _ _⟩
  · skip
    go_wp2_with (fail)
    refine (rtime_any t _).mono ?_
    rintro e w2 ⟨rfl, rfl⟩
    rw [H2.out]
    cases b2
    · skip
      go_wp2
      exact bodyPost_ret (results_rbox (p := 6) (u := 7) rfl _ _ (w.heap.size + 1) R A n c B m d rfl (HZ.out.store R A n c B m d)) rfl ⟨A, n, c, B, m, d, rfl, HD.out.below (below4 HB.out (by omega) 0 1 2 3 _ _ _ _), below4 HB.out (by omega) 0 1 2 3 _ _ _ _⟩
    · exact absurd H0.out (by decide)
set_option maxHeartbeats 2000000 in
theorem rfor_self (R : Ro) (A B : Option Addr) (n c m d : Nat) (F : Nat → Prop) (x t : Int) (w : World) (h : Dc w F R A n c B m d) (hu : Up R.L) (h1 : isIdB x = true) (h2 : isTimeB t = true) (h3 : x = R.s) :
    Calls Try.prog 15 #[vD R A n c B m d, .int .i64 x, .int .i64 t] w (GivesD F R 33 w) := by
  have HD := Lib.hid h
  have HUP := Lib.hid hu
  obtain ⟨hx1, hz1, hb1⟩ := two_vx w R A n c B m d
  have HX := Lib.hid hx1
  have HZ := Lib.hid hz1
  have HB := Lib.hid hb1
  clear hx1 hz1 hb1
  have H1 := Lib.hid h1
  have H2 := Lib.hid h2
  have t1 : (x == R.s) = true := by simpa using h3
  clear h hu h1 h2 h3
  go_enter Try.func15, Try.ntmps15
  go_wp2_with (fail)
  refine (rid_any x _).mono ?_
  rintro e w1 ⟨rfl, hw⟩
  rw [hw] at HX HZ HB
  clear hw
  rw [H1.out]
  obtain ⟨a0, a1, a2, a3⟩ := HX.out.cells
  obtain ⟨z0, z1, z2, z3⟩ := HZ.out.cells
  have f0 := HZ.out.fz 0
  have f1 := HZ.out.fz 1
  have f2 := HZ.out.fz 2
  have f3 := HZ.out.fz 3
  go_wp2_with (fail)
  refine (rtime_any t _).mono ?_
  rintro e w2 ⟨rfl, rfl⟩
  rw [H2.out]
  go_wp2
  exact bodyPost_ret (results_rbox (p := 6) (u := 7) rfl _ _ (w.heap.size + 1) R A n c B m d rfl (HZ.out.store R A n c B m d)) rfl ⟨A, n, c, B, m, d, rfl, HD.out.below (below4 HB.out (by omega) 0 1 2 3 _ _ _ _), below4 HB.out (by omega) 0 1 2 3 _ _ _ _⟩

theorem fnd_has {L : List Mb} {x : Int} (h : hasL L x = true) : fnd L x = (posL L x : Int) := if_pos h
theorem fnd_not {L : List Mb} {x : Int} (h : hasL L x = false) : fnd L x = -1 := if_neg (by rw [h]; decide)
set_option maxHeartbeats 2000000 in
theorem radd_known (R : Ro) (A B : Option Addr) (n c m d : Nat) (F : Nat → Prop) (x t : Int) (w : World) (hn : n ≤ 1000) (h : Dc w F R A n c B m d) (hu : Up R.L) (he : chkE R.s x t = 0) (hq : hasL R.L x = true) :
    Calls Try.prog 13 #[vD R A n c B m d, .int .i64 x, .int .i64 t] w (GivesD F R 32 w) := by
  have HD := Lib.hid h
  have HUP := Lib.hid hu
  obtain ⟨hx1, hz1, hb1⟩ := two_vx w R A n c B m d
  have HX := Lib.hid hx1
  have HZ := Lib.hid hz1
  have HB := Lib.hid hb1
  clear hx1 hz1 hb1
  have H1 := Lib.hid (chk_zero he).1
  have H2 := Lib.hid (chk_zero he).2.1
  have t1 : (x == R.s) = false := by simpa using (chk_zero he).2.2
  obtain ⟨k, hk⟩ : ∃ k, posL R.L x = k := ⟨_, rfl⟩
  have HFX : Hid (fnd R.L x = (k : Int)) := Lib.hid (by rw [fnd_has hq, hk])
  clear h hu he hq hk
  go_enter Try.func13, Try.ntmps13
  go_wp2_with (fail)
  refine (rid_any x _).mono ?_
  rintro e w1 ⟨rfl, hw⟩
  rw [hw] at HX HZ HB
  clear hw
  rw [H1.out]
  obtain ⟨a0, a1, a2, a3⟩ := HX.out.cells
  obtain ⟨z0, z1, z2, z3⟩ := HZ.out.cells
  have f0 := HZ.out.fz 0
  have f1 := HZ.out.fz 1
  have f2 := HZ.out.fz 2
  have f3 := HZ.out.fz 3
  go_wp2_with (fail)
  refine (rtime_any t _).mono ?_
  rintro e w2 ⟨rfl, rfl⟩
  rw [H2.out]
  go_wp2_with (fail)
  refine (find_any R A B n c m d F x _ hn (HD.out.below HB.out) HUP.out).mono ?_
  rintro e w2 ⟨rfl, hb2⟩
  rw [HFX.out]
  have HX2 := Lib.hid (HX.out.later hb2)
  have HZ2 := Lib.hid (HZ.out.later hb2)
  have HB2 := Lib.hid (HB.out.trans (hb2.mono HB.out.size))
  have HD2 := Lib.hid (HD.out.below HB2.out)
  clear hb2
  clear a0 a1 a2 a3 z0 z1 z2 z3 f0 f1 f2 f3
  obtain ⟨a0, a1, a2, a3⟩ := HX2.out.cells
  obtain ⟨z0, z1, z2, z3⟩ := HZ2.out.cells
  have f0 := HZ2.out.fz 0
  have f1 := HZ2.out.fz 1
  have f2 := HZ2.out.fz 2
  have f3 := HZ2.out.fz 3
  go_wp2
  exact bodyPost_ret (results_rbox (p := 6) (u := 7) rfl _ _ (w.heap.size + 1) R A n c B m d rfl (HZ2.out.store R A n c B m d)) rfl ⟨A, n, c, B, m, d, rfl, HD.out.below (below4 HB2.out (by omega) 0 1 2 3 _ _ _ _), below4 HB2.out (by omega) 0 1 2 3 _ _ _ _⟩
set_option maxHeartbeats 2000000 in
theorem radd_rest (R : Ro) (A B : Option Addr) (n c m d : Nat) (F : Nat → Prop) (x t : Int) (w : World) (hn : n ≤ 1000) (hm : m ≤ 100000) (h : Dc w F R A n c B m d) (hu : Up R.L) (he : chkE R.s x t = 0) (hq : hasL R.L x = false) (u : Bool) (hb : banB R.B x t = u) (h15 : u = true ∨ (u = false ∧ n = 15)) :
    Calls Try.prog 13 #[vD R A n c B m d, .int .i64 x, .int .i64 t] w (GivesD F R (if u = true then 34 else 31) w) := by
  have HD := Lib.hid h
  have HUP := Lib.hid hu
  obtain ⟨hx1, hz1, hb1⟩ := two_vx w R A n c B m d
  have HX := Lib.hid hx1
  have HZ := Lib.hid hz1
  have HB := Lib.hid hb1
  clear hx1 hz1 hb1
  have H1 := Lib.hid (chk_zero he).1
  have H2 := Lib.hid (chk_zero he).2.1
  have t1 : (x == R.s) = false := by simpa using (chk_zero he).2.2
  have HFX : Hid (fnd R.L x = -1) := Lib.hid (fnd_not hq)
  have HU := Lib.hid hb
  clear h hu he hq hb
  rcases h15 with rfl | ⟨rfl, rfl⟩
  · rw [if_pos rfl]
    go_enter Try.func13, Try.ntmps13
    go_wp2_with (fail)
    refine (rid_any x _).mono ?_
    rintro e w1 ⟨rfl, hw⟩
    rw [hw] at HX HZ HB
    clear hw
    rw [H1.out]
    obtain ⟨a0, a1, a2, a3⟩ := HX.out.cells
    obtain ⟨z0, z1, z2, z3⟩ := HZ.out.cells
    have f0 := HZ.out.fz 0
    have f1 := HZ.out.fz 1
    have f2 := HZ.out.fz 2
    have f3 := HZ.out.fz 3
    go_wp2_with (fail)
    refine (rtime_any t _).mono ?_
    rintro e w2 ⟨rfl, rfl⟩
    rw [H2.out]
    go_wp2_with (fail)
    refine (find_any R A B n c m d F x _ hn (HD.out.below HB.out) HUP.out).mono ?_
    rintro e w2 ⟨rfl, hb2⟩
    rw [HFX.out]
    have HX2 := Lib.hid (HX.out.later hb2)
    have HZ2 := Lib.hid (HZ.out.later hb2)
    have HB2 := Lib.hid (HB.out.trans (hb2.mono HB.out.size))
    have HD2 := Lib.hid (HD.out.below HB2.out)
    clear hb2
    clear a0 a1 a2 a3 z0 z1 z2 z3 f0 f1 f2 f3
    obtain ⟨a0, a1, a2, a3⟩ := HX2.out.cells
    obtain ⟨z0, z1, z2, z3⟩ := HZ2.out.cells
    have f0 := HZ2.out.fz 0
    have f1 := HZ2.out.fz 1
    have f2 := HZ2.out.fz 2
    have f3 := HZ2.out.fz 3
    go_wp2_with (fail)
    refine (rbanned_any R A B n c m d F x t _ (by omega) HD2.out).mono ?_
    rintro e w3 ⟨rfl, hb3⟩
    rw [HU.out]
    have HX3 := Lib.hid (HX2.out.later hb3)
    have HZ3 := Lib.hid (HZ2.out.later hb3)
    have HB3 := Lib.hid (HB2.out.trans (hb3.mono HB2.out.size))
    have HD3 := Lib.hid (HD.out.below HB3.out)
    clear hb3
    clear a0 a1 a2 a3 z0 z1 z2 z3 f0 f1 f2 f3
    obtain ⟨a0, a1, a2, a3⟩ := HX3.out.cells
    obtain ⟨z0, z1, z2, z3⟩ := HZ3.out.cells
    have f0 := HZ3.out.fz 0
    have f1 := HZ3.out.fz 1
    have f2 := HZ3.out.fz 2
    have f3 := HZ3.out.fz 3
    go_wp2
    exact bodyPost_ret (results_rbox (p := 6) (u := 7) rfl _ _ (w.heap.size + 1) R A n c B m d rfl (HZ3.out.store R A n c B m d)) rfl ⟨A, n, c, B, m, d, rfl, HD.out.below (below4 HB3.out (by omega) 0 1 2 3 _ _ _ _), below4 HB3.out (by omega) 0 1 2 3 _ _ _ _⟩
  · rw [if_neg (by decide)]
    go_enter Try.func13, Try.ntmps13
    go_wp2_with (fail)
    refine (rid_any x _).mono ?_
    rintro e w1 ⟨rfl, hw⟩
    rw [hw] at HX HZ HB
    clear hw
    rw [H1.out]
    obtain ⟨a0, a1, a2, a3⟩ := HX.out.cells
    obtain ⟨z0, z1, z2, z3⟩ := HZ.out.cells
    have f0 := HZ.out.fz 0
    have f1 := HZ.out.fz 1
    have f2 := HZ.out.fz 2
    have f3 := HZ.out.fz 3
    go_wp2_with (fail)
    refine (rtime_any t _).mono ?_
    rintro e w2 ⟨rfl, rfl⟩
    rw [H2.out]
    go_wp2_with (fail)
    refine (find_any R A B 15 c m d F x _ hn (HD.out.below HB.out) HUP.out).mono ?_
    rintro e w2 ⟨rfl, hb2⟩
    rw [HFX.out]
    have HX2 := Lib.hid (HX.out.later hb2)
    have HZ2 := Lib.hid (HZ.out.later hb2)
    have HB2 := Lib.hid (HB.out.trans (hb2.mono HB.out.size))
    have HD2 := Lib.hid (HD.out.below HB2.out)
    clear hb2
    clear a0 a1 a2 a3 z0 z1 z2 z3 f0 f1 f2 f3
    obtain ⟨a0, a1, a2, a3⟩ := HX2.out.cells
    obtain ⟨z0, z1, z2, z3⟩ := HZ2.out.cells
    have f0 := HZ2.out.fz 0
    have f1 := HZ2.out.fz 1
    have f2 := HZ2.out.fz 2
    have f3 := HZ2.out.fz 3
    go_wp2_with (fail)
    refine (rbanned_any R A B 15 c m d F x t _ (by omega) HD2.out).mono ?_
    rintro e w3 ⟨rfl, hb3⟩
    rw [HU.out]
    have HX3 := Lib.hid (HX2.out.later hb3)
    have HZ3 := Lib.hid (HZ2.out.later hb3)
    have HB3 := Lib.hid (HB2.out.trans (hb3.mono HB2.out.size))
    have HD3 := Lib.hid (HD.out.below HB3.out)
    clear hb3
    clear a0 a1 a2 a3 z0 z1 z2 z3 f0 f1 f2 f3
    obtain ⟨a0, a1, a2, a3⟩ := HX3.out.cells
    obtain ⟨z0, z1, z2, z3⟩ := HZ3.out.cells
    have f0 := HZ3.out.fz 0
    have f1 := HZ3.out.fz 1
    have f2 := HZ3.out.fz 2
    have f3 := HZ3.out.fz 3
    go_wp2
    exact bodyPost_ret (results_rbox (p := 6) (u := 7) rfl _ _ (w.heap.size + 1) R A 15 c B m d rfl (HZ3.out.store R A 15 c B m d)) rfl ⟨A, 15, c, B, m, d, rfl, HD.out.below (below4 HB3.out (by omega) 0 1 2 3 _ _ _ _), below4 HB3.out (by omega) 0 1 2 3 _ _ _ _⟩
set_option maxHeartbeats 2000000 in
theorem rfor_none (R : Ro) (A B : Option Addr) (n c m d : Nat) (F : Nat → Prop) (x t : Int) (w : World) (hn : n ≤ 1000) (h : Dc w F R A n c B m d) (hu : Up R.L) (he : chkE R.s x t = 0) (hq : hasL R.L x = false) :
    Calls Try.prog 15 #[vD R A n c B m d, .int .i64 x, .int .i64 t] w (GivesD F R 30 w) := by
  have HD := Lib.hid h
  have HUP := Lib.hid hu
  obtain ⟨hx1, hz1, hb1⟩ := two_vx w R A n c B m d
  have HX := Lib.hid hx1
  have HZ := Lib.hid hz1
  have HB := Lib.hid hb1
  clear hx1 hz1 hb1
  have H1 := Lib.hid (chk_zero he).1
  have H2 := Lib.hid (chk_zero he).2.1
  have t1 : (x == R.s) = false := by simpa using (chk_zero he).2.2
  have HFX : Hid (fnd R.L x = -1) := Lib.hid (fnd_not hq)
  clear h hu he hq
  go_enter Try.func15, Try.ntmps15
  go_wp2_with (fail)
  refine (rid_any x _).mono ?_
  rintro e w1 ⟨rfl, hw⟩
  rw [hw] at HX HZ HB
  clear hw
  rw [H1.out]
  obtain ⟨a0, a1, a2, a3⟩ := HX.out.cells
  obtain ⟨z0, z1, z2, z3⟩ := HZ.out.cells
  have f0 := HZ.out.fz 0
  have f1 := HZ.out.fz 1
  have f2 := HZ.out.fz 2
  have f3 := HZ.out.fz 3
  go_wp2_with (fail)
  refine (rtime_any t _).mono ?_
  rintro e w2 ⟨rfl, rfl⟩
  rw [H2.out]
  go_wp2_with (fail)
  refine (find_any R A B n c m d F x _ hn (HD.out.below HB.out) HUP.out).mono ?_
  rintro e w2 ⟨rfl, hb2⟩
  rw [HFX.out]
  have HX2 := Lib.hid (HX.out.later hb2)
  have HZ2 := Lib.hid (HZ.out.later hb2)
  have HB2 := Lib.hid (HB.out.trans (hb2.mono HB.out.size))
  have HD2 := Lib.hid (HD.out.below HB2.out)
  clear hb2
  clear a0 a1 a2 a3 z0 z1 z2 z3 f0 f1 f2 f3
  obtain ⟨a0, a1, a2, a3⟩ := HX2.out.cells
  obtain ⟨z0, z1, z2, z3⟩ := HZ2.out.cells
  have f0 := HZ2.out.fz 0
  have f1 := HZ2.out.fz 1
  have f2 := HZ2.out.fz 2
  have f3 := HZ2.out.fz 3
  go_wp2
  exact bodyPost_ret (results_rbox (p := 6) (u := 7) rfl _ _ (w.heap.size + 1) R A n c B m d rfl (HZ2.out.store R A n c B m d)) rfl ⟨A, n, c, B, m, d, rfl, HD.out.below (below4 HB2.out (by omega) 0 1 2 3 _ _ _ _), below4 HB2.out (by omega) 0 1 2 3 _ _ _ _⟩
end Go.Proofs.Ytfchhlibjhblmaa
