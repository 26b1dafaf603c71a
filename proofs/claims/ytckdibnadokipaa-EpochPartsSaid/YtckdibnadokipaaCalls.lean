/-
  WHAT IS PROVED: contracts of See, Stand, Grant, Win and Bump, and of the document's examples. Condition: that a sum does not pass an int's bounds follows from the epochs being right.
-/
import Derived.Test.YtckdibnadokipaaFns
import Derived.Test.YtckdibnadokipaaSame
import Derived.Laws.ResultCell
import Derived.Laws.Rows
namespace Go.Proofs.Ytckdibnadokipaa
open Go.RowKit Go.Lib

/-- epochs and an error are handed back; nothing that was there has turned -/
def Gives (r : Ep) (f : Int) (w : World) (e : Ending) (w' : World) : Prop := e = .returned (.tuple #[vEp r, .int .i64 f]) ∧ Below w.heap.size w w'

theorem below_set {B : Nat} {w w' : World} (h : Below B w w') {p : Addr} (hp : B ≤ p.block) (u : Value) : Below B w (w'.setCell p u) :=
  ⟨h.os, h.tape, h.output, by simpa [World.setCell] using h.size, fun i hi => (Below.heap_setCell w' p u i (by omega)).trans (h.block i hi)⟩

/-- a variable of type Epochs that may be written -/
def Bx (w : World) (b : Nat) (r : Ep) : Prop := Blk w b 23 #[.int .i64 r.cur, .int .i64 r.vote, .int .i64 r.conf]
section
variable {w w' : World} {b : Nat} {r : Ep}
theorem Bx.new (w : World) (r : Ep) {b : Nat} (hb : b = w.heap.size) : Bx (w.alloc (.cells #[.int .i64 r.cur, .int .i64 r.vote, .int .i64 r.conf] 23)) b r := by subst hb; exact Blk.new _ _ _
theorem Bx.lt (h : Bx w b r) : b < w.heap.size := Blk.lt h
theorem Bx.below {B : Nat} (h : Bx w b r) (hb : Below B w w') (hlt : b < B) : Bx w' b r := Blk.below h hb hlt
theorem Bx.later (h : Bx w b r) (hb : Below w.heap.size w w') : Bx w' b r := Blk.below h hb h.lt
theorem Bx.alloc (h : Bx w b r) (o : Obj) : Bx (w.alloc o) b r := Blk.alloc h o
theorem Bx.far (h : Bx w b r) {p : Addr} (hp : b ≠ p.block) (u : Value) : Bx (w.setCell p u) b r := Blk.far h hp u
theorem Bx.far3 (h : Bx w b r) {c i j k : Nat} (hp : b ≠ c) (x y z : Value) : Bx (((w.setCell ⟨c, i, none⟩ x).setCell ⟨c, j, none⟩ y).setCell ⟨c, k, none⟩ z) b r := ((h.far (p := ⟨c, i, none⟩) hp x).far (p := ⟨c, j, none⟩) hp y).far (p := ⟨c, k, none⟩) hp z
theorem Bx.box (h : Bx w b r) : BoxAt w b r := ⟨Blk.cell h 0, Blk.cell h 1, Blk.cell h 2⟩
theorem Bx.c0 (h : Bx w b r) : w.cell? ⟨b, 0, none⟩ = some (.int .i64 r.cur) := Blk.cell h 0
theorem Bx.c1 (h : Bx w b r) : w.cell? ⟨b, 1, none⟩ = some (.int .i64 r.vote) := Blk.cell h 1
theorem Bx.c2 (h : Bx w b r) : w.cell? ⟨b, 2, none⟩ = some (.int .i64 r.conf) := Blk.cell h 2
theorem Bx.fz (h : Bx w b r) (i : Nat) : w.frozen? ⟨b, i, none⟩ = false := Blk.frozen h i
theorem Bx.store (h : Bx w b r) (s : Ep) : Bx (((w.setCell ⟨b, 0, none⟩ (.int .i64 s.cur)).setCell ⟨b, 1, none⟩ (.int .i64 s.vote)).setCell ⟨b, 2, none⟩ (.int .i64 s.conf)) b s := by
  have h3 := ((Blk.set_ h 0 (.int .i64 s.cur)).set_ 1 (.int .i64 s.vote)).set_ 2 (.int .i64 s.conf)
  exact h3
theorem Bx.set0 (h : Bx w b r) (x : Int) : Bx (w.setCell ⟨b, 0, none⟩ (.int .i64 x)) b ⟨x, r.vote, r.conf⟩ := Blk.set_ h 0 (.int .i64 x)
theorem Bx.set1 (h : Bx w b r) (x : Int) : Bx (w.setCell ⟨b, 1, none⟩ (.int .i64 x)) b ⟨r.cur, x, r.conf⟩ := Blk.set_ h 1 (.int .i64 x)
theorem Bx.set2 (h : Bx w b r) (x : Int) : Bx (w.setCell ⟨b, 2, none⟩ (.int .i64 x)) b ⟨r.cur, r.vote, x⟩ := Blk.set_ h 2 (.int .i64 x)
end
theorem below3 {B : Nat} {w w' : World} (h : Below B w w') {c i j k : Nat} (hc : B ≤ c) (x y z : Value) : Below B w (((w'.setCell ⟨c, i, none⟩ x).setCell ⟨c, j, none⟩ y).setCell ⟨c, k, none⟩ z) :=
  below_set (below_set (below_set h (p := ⟨c, i, none⟩) hc x) (p := ⟨c, j, none⟩) hc y) (p := ⟨c, k, none⟩) hc z
/-- a box of one's own and a result of noughts, behind a call -/
theorem two_boxes {w w1 : World} {r s : Ep} (hb1 : Below ((w.alloc (.cells #[.int .i64 r.cur, .int .i64 r.vote, .int .i64 r.conf] 23)).alloc (.cells #[.int .i64 s.cur, .int .i64 s.vote, .int .i64 s.conf] 23)).heap.size
    ((w.alloc (.cells #[.int .i64 r.cur, .int .i64 r.vote, .int .i64 r.conf] 23)).alloc (.cells #[.int .i64 s.cur, .int .i64 s.vote, .int .i64 s.conf] 23)) w1) :
    Bx w1 w.heap.size r ∧ Bx w1 (w.heap.size + 1) s ∧ Below w.heap.size w w1 :=
  ⟨((Bx.new w r rfl).alloc _).later hb1, (Bx.new _ s (by simp)).later hb1, (((Below.refl _ w).alloc (Nat.le_refl _) _).alloc (by simp) _).trans (hb1.mono (by simp; omega))⟩


theorem results_box {fn : Func} {p u : Tmp} (h : fn.results = #[.cell p 23, .tmp u]) (tmps : Array Value) (w : World) (b : Nat) (r : Ep)
    (hp : tmps.getD p undef = .pointer (some ⟨b, 0, none⟩)) (hb : Bx w b r) : (results fn tmps).run Try.prog w = .ok (.tuple #[vEp r, tmps.getD u undef]) w := by
  rw [results_cell_tmp h, hp]
  have hs : (Try.prog.info? 23).map (·.size) = some (#[Value.int .i64 r.cur, Value.int .i64 r.vote, Value.int .i64 r.conf] : Array Value).size := by
    rw [show (#[Value.int .i64 r.cur, Value.int .i64 r.vote, Value.int .i64 r.conf] : Array Value).size = 3 from rfl]; kernel_rfl
  simp [asAddr, run_loadVar_row w b 23 23 #[.int .i64 r.cur, .int .i64 r.vote, .int .i64 r.conf] (0, 0) _ hb Try.underlying23 rfl hs, Result.andThen]

set_option maxHeartbeats 1000000 in
theorem see_any (r : Ep) (n : Int) (w : World) : Calls Try.prog 13 #[vEp r, .int .i64 n] w (Gives (seeE r n) (seeF r n) w) := by
  obtain ⟨b, HB⟩ : ∃ b, Hid (takesB r n = b) := ⟨_, Lib.hid rfl⟩
  cases b
  · have HE := Lib.hid (see_no HB.out)
    rw [HE.out.1, HE.out.2]
    go_enter Try.func13, Try.ntmps13
    go_wp2_with (fail)
    refine (takes_any r n _).mono ?_
    rintro e w1 ⟨rfl, hb1⟩
    rw [HB.out]
    obtain ⟨k1, k2, hb2⟩ := two_boxes (s := Ep.zero) hb1
    have k2' : Bx w1 (w.heap.size + 1) ⟨0, 0, 0⟩ := k2
    obtain ⟨a0, a1, a2⟩ := k1.box
    obtain ⟨z0, z1, z2⟩ := k2'.box
    have f0 := k2.fz 0
    have f1 := k2.fz 1
    have f2 := k2.fz 2
    have g0 := k1.fz 0
    have g1 := k1.fz 1
    have g2 := k1.fz 2
    have hb3 := fun x y z => below3 hb2 (c := w.heap.size + 1) (i := 0) (j := 1) (k := 2) (by omega) x y z
    have K1 := Lib.hid k1
    have K2 := Lib.hid k2
    have HB2 := Lib.hid hb2
    clear hb1 k1 k2 k2' hb2
    go_wp2
    exact bodyPost_ret (results_box (p := 4) (u := 5) rfl _ _ (w.heap.size + 1) _ rfl (K2.out.store Ep.zero)) rfl ⟨rfl, hb3 _ _ _⟩
  · have HE := Lib.hid (see_yes HB.out)
    rw [HE.out.1, HE.out.2]
    go_enter Try.func13, Try.ntmps13
    go_wp2_with (fail)
    refine (takes_any r n _).mono ?_
    rintro e w1 ⟨rfl, hb1⟩
    rw [HB.out]
    obtain ⟨k1, k2, hb2⟩ := two_boxes (s := Ep.zero) hb1
    have k2' : Bx w1 (w.heap.size + 1) ⟨0, 0, 0⟩ := k2
    obtain ⟨a0, a1, a2⟩ := k1.box
    obtain ⟨z0, z1, z2⟩ := k2'.box
    have f0 := k2.fz 0
    have f1 := k2.fz 1
    have f2 := k2.fz 2
    have g0 := k1.fz 0
    have g1 := k1.fz 1
    have g2 := k1.fz 2
    have hb3 := fun x y z => below3 hb2 (c := w.heap.size + 1) (i := 0) (j := 1) (k := 2) (by omega) x y z
    have K1 := Lib.hid k1
    have K2 := Lib.hid k2
    have HB2 := Lib.hid hb2
    clear hb1 k1 k2 k2' hb2
    go_wp2
    exact bodyPost_ret (results_box (p := 4) (u := 5) rfl _ _ (w.heap.size + 1) _ rfl ((K2.out.far (p := ⟨w.heap.size, 0, none⟩) (by simp) _).store ⟨max r.cur n, r.vote, r.conf⟩)) rfl ⟨rfl, below3 (below_set HB2.out (p := ⟨w.heap.size, 0, none⟩) (by simp) _) (by omega) _ _ _⟩

set_option maxHeartbeats 1000000 in
theorem stand_any (r : Ep) (w : World) : Calls Try.prog 17 #[vEp r] w (Gives (standE r) (standF r) w) := by
  obtain ⟨b, HB⟩ : ∃ b, Hid (okB r = b) := ⟨_, Lib.hid rfl⟩
  cases b
  · have HE := Lib.hid (stand_no HB.out)
    rw [HE.out.1, HE.out.2]
    go_enter Try.func17, Try.ntmps17
    go_wp2_with (fail)
    refine (right_any r _).mono ?_
    rintro e w1 ⟨rfl, hb1⟩
    rw [HB.out]
    obtain ⟨k1, k2, hb2⟩ := two_boxes (s := Ep.zero) hb1
    have k2' : Bx w1 (w.heap.size + 1) ⟨0, 0, 0⟩ := k2
    obtain ⟨a0, a1, a2⟩ := k1.box
    obtain ⟨z0, z1, z2⟩ := k2'.box
    have f0 := k2.fz 0
    have f1 := k2.fz 1
    have f2 := k2.fz 2
    have g0 := k1.fz 0
    have g1 := k1.fz 1
    have g2 := k1.fz 2
    have K1 := Lib.hid k1
    have K2 := Lib.hid k2
    have HB2 := Lib.hid hb2
    clear hb1 k1 k2 k2' hb2
    go_wp2
    exact bodyPost_ret (results_box (p := 2) (u := 3) rfl _ _ (w.heap.size + 1) _ rfl (K2.out.store Ep.zero)) rfl ⟨rfl, below3 HB2.out (by omega) _ _ _⟩
  · by_cases h : r.cur = 281474976710656
    · have HE := Lib.hid (stand_big HB.out h)
      rw [HE.out.1, HE.out.2]
      have t1 : (r.cur == 281474976710656) = true := by simpa using h
      clear h
      go_enter Try.func17, Try.ntmps17
      go_wp2_with (fail)
      refine (right_any r _).mono ?_
      rintro e w1 ⟨rfl, hb1⟩
      rw [HB.out]
      obtain ⟨k1, k2, hb2⟩ := two_boxes (s := Ep.zero) hb1
      have k2' : Bx w1 (w.heap.size + 1) ⟨0, 0, 0⟩ := k2
      obtain ⟨a0, a1, a2⟩ := k1.box
      obtain ⟨z0, z1, z2⟩ := k2'.box
      have f0 := k2.fz 0
      have f1 := k2.fz 1
      have f2 := k2.fz 2
      have g0 := k1.fz 0
      have g1 := k1.fz 1
      have g2 := k1.fz 2
      have K1 := Lib.hid k1
      have K2 := Lib.hid k2
      have HB2 := Lib.hid hb2
      clear hb1 k1 k2 k2' hb2
      go_wp2
      exact bodyPost_ret (results_box (p := 2) (u := 3) rfl _ _ (w.heap.size + 1) _ rfl (K2.out.store Ep.zero)) rfl ⟨rfl, below3 HB2.out (by omega) _ _ _⟩
    · have HE := Lib.hid (stand_yes HB.out h)
      rw [HE.out.1, HE.out.2]
      have t1 : (r.cur == 281474976710656) = false := by simpa using h
      have t2 : r.cur ≤ 281474976710656 := (ok_iff.1 HB.out).1.2
      have t3 : 0 ≤ r.cur := (ok_iff.1 HB.out).1.1
      clear h
      go_enter Try.func17, Try.ntmps17
      go_wp2_with (fail)
      refine (right_any r _).mono ?_
      rintro e w1 ⟨rfl, hb1⟩
      rw [HB.out]
      obtain ⟨k1, k2, hb2⟩ := two_boxes (s := Ep.zero) hb1
      have k2' : Bx w1 (w.heap.size + 1) ⟨0, 0, 0⟩ := k2
      obtain ⟨a0, a1, a2⟩ := k1.box
      obtain ⟨z0, z1, z2⟩ := k2'.box
      have f0 := k2.fz 0
      have f1 := k2.fz 1
      have f2 := k2.fz 2
      have g0 := k1.fz 0
      have g1 := k1.fz 1
      have g2 := k1.fz 2
      have K1 := Lib.hid k1
      have K2 := Lib.hid k2
      have HB2 := Lib.hid hb2
      clear hb1 k1 k2 k2' hb2
      go_wp2
      exact bodyPost_ret (results_box (p := 2) (u := 3) rfl _ _ (w.heap.size + 1) _ rfl ((K2.out.far (p := ⟨w.heap.size, 0, none⟩) (by simp) _).store ⟨r.cur + 1, r.vote, r.conf⟩)) rfl ⟨rfl, below3 (below_set HB2.out (p := ⟨w.heap.size, 0, none⟩) (by simp) _) (by omega) _ _ _⟩

set_option maxHeartbeats 1000000 in
theorem grant_any (r : Ep) (n : Int) (w : World) : Calls Try.prog 19 #[vEp r, .int .i64 n] w (Gives (grantE r n) (grantF r n) w) := by
  obtain ⟨b, HB⟩ : ∃ b, Hid (takesB r n = b) := ⟨_, Lib.hid rfl⟩
  cases b
  · have HE := Lib.hid (grant_no HB.out)
    rw [HE.out.1, HE.out.2]
    go_enter Try.func19, Try.ntmps19
    go_wp2_with (fail)
    refine (takes_any r n _).mono ?_
    rintro e w1 ⟨rfl, hb1⟩
    rw [HB.out]
    obtain ⟨k1, k2, hb2⟩ := two_boxes (s := Ep.zero) hb1
    have k2' : Bx w1 (w.heap.size + 1) ⟨0, 0, 0⟩ := k2
    obtain ⟨a0, a1, a2⟩ := k1.box
    obtain ⟨z0, z1, z2⟩ := k2'.box
    have f0 := k2.fz 0
    have f1 := k2.fz 1
    have f2 := k2.fz 2
    have g0 := k1.fz 0
    have g1 := k1.fz 1
    have g2 := k1.fz 2
    have K1 := Lib.hid k1
    have K2 := Lib.hid k2
    have HB2 := Lib.hid hb2
    clear hb1 k1 k2 k2' hb2
    go_wp2
    exact bodyPost_ret (results_box (p := 4) (u := 5) rfl _ _ (w.heap.size + 1) _ rfl (K2.out.store Ep.zero)) rfl ⟨rfl, below3 HB2.out (by omega) _ _ _⟩
  · by_cases h1 : n ≤ r.vote
    · have HE := Lib.hid (grant_late HB.out (.inl h1))
      rw [HE.out.1, HE.out.2]
      go_enter Try.func19, Try.ntmps19
      go_wp2_with (fail)
      refine (takes_any r n _).mono ?_
      rintro e w1 ⟨rfl, hb1⟩
      rw [HB.out]
      obtain ⟨k1, k2, hb2⟩ := two_boxes (s := Ep.zero) hb1
      have k2' : Bx w1 (w.heap.size + 1) ⟨0, 0, 0⟩ := k2
      obtain ⟨a0, a1, a2⟩ := k1.box
      obtain ⟨z0, z1, z2⟩ := k2'.box
      have f0 := k2.fz 0
      have f1 := k2.fz 1
      have f2 := k2.fz 2
      have g0 := k1.fz 0
      have g1 := k1.fz 1
      have g2 := k1.fz 2
      have K1 := Lib.hid k1
      have K2 := Lib.hid k2
      have HB2 := Lib.hid hb2
      clear hb1 k1 k2 k2' hb2
      go_wp2
      exact bodyPost_ret (results_box (p := 4) (u := 5) rfl _ _ (w.heap.size + 1) _ rfl (K2.out.store Ep.zero)) rfl ⟨rfl, below3 HB2.out (by omega) _ _ _⟩
    · by_cases h2 : n < r.cur
      · have HE := Lib.hid (grant_late HB.out (.inr h2))
        rw [HE.out.1, HE.out.2]
        have t1 : decide (n ≤ r.vote) = false := by simp; omega
        clear h1
        go_enter Try.func19, Try.ntmps19
        go_wp2_with (fail)
        refine (takes_any r n _).mono ?_
        rintro e w1 ⟨rfl, hb1⟩
        rw [HB.out]
        obtain ⟨k1, k2, hb2⟩ := two_boxes (s := Ep.zero) hb1
        have k2' : Bx w1 (w.heap.size + 1) ⟨0, 0, 0⟩ := k2
        obtain ⟨a0, a1, a2⟩ := k1.box
        obtain ⟨z0, z1, z2⟩ := k2'.box
        have f0 := k2.fz 0
        have f1 := k2.fz 1
        have f2 := k2.fz 2
        have g0 := k1.fz 0
        have g1 := k1.fz 1
        have g2 := k1.fz 2
        have K1 := Lib.hid k1
        have K2 := Lib.hid k2
        have HB2 := Lib.hid hb2
        clear hb1 k1 k2 k2' hb2
        go_wp2
        exact bodyPost_ret (results_box (p := 4) (u := 5) rfl _ _ (w.heap.size + 1) _ rfl (K2.out.store Ep.zero)) rfl ⟨rfl, below3 HB2.out (by omega) _ _ _⟩
      · have HE := Lib.hid (grant_yes HB.out (by omega))
        rw [HE.out.1, HE.out.2]
        have t1 : decide (n ≤ r.vote) = false := by simp; omega
        have t2 : decide (n < r.cur) = false := by simp; omega
        clear h1 h2
        go_enter Try.func19, Try.ntmps19
        go_wp2_with (fail)
        refine (takes_any r n _).mono ?_
        rintro e w1 ⟨rfl, hb1⟩
        rw [HB.out]
        obtain ⟨k1, k2, hb2⟩ := two_boxes (s := Ep.zero) hb1
        have k2' : Bx w1 (w.heap.size + 1) ⟨0, 0, 0⟩ := k2
        obtain ⟨a0, a1, a2⟩ := k1.box
        obtain ⟨z0, z1, z2⟩ := k2'.box
        have f0 := k2.fz 0
        have f1 := k2.fz 1
        have f2 := k2.fz 2
        have g0 := k1.fz 0
        have g1 := k1.fz 1
        have g2 := k1.fz 2
        have K1 := Lib.hid k1
        have K2 := Lib.hid k2
        have HB2 := Lib.hid hb2
        clear hb1 k1 k2 k2' hb2
        go_wp2
        exact bodyPost_ret (results_box (p := 4) (u := 5) rfl _ _ (w.heap.size + 1) _ rfl (((K2.out.far (p := ⟨w.heap.size, 0, none⟩) (by simp) _).far (p := ⟨w.heap.size, 1, none⟩) (by simp) _).store ⟨n, n, r.conf⟩)) rfl ⟨rfl, below3 (below_set (below_set HB2.out (p := ⟨w.heap.size, 0, none⟩) (by simp) _) (p := ⟨w.heap.size, 1, none⟩) (by simp) _) (by omega) _ _ _⟩

set_option maxHeartbeats 1000000 in
theorem win_any (r : Ep) (n : Int) (w : World) : Calls Try.prog 20 #[vEp r, .int .i64 n] w (Gives (winE r n) (winF r n) w) := by
  obtain ⟨b, HB⟩ : ∃ b, Hid (takesB r n = b) := ⟨_, Lib.hid rfl⟩
  cases b
  · have HE := Lib.hid (win_no HB.out)
    rw [HE.out.1, HE.out.2]
    go_enter Try.func20, Try.ntmps20
    go_wp2_with (fail)
    refine (takes_any r n _).mono ?_
    rintro e w1 ⟨rfl, hb1⟩
    rw [HB.out]
    obtain ⟨k1, k2, hb2⟩ := two_boxes (s := Ep.zero) hb1
    have k2' : Bx w1 (w.heap.size + 1) ⟨0, 0, 0⟩ := k2
    obtain ⟨a0, a1, a2⟩ := k1.box
    obtain ⟨z0, z1, z2⟩ := k2'.box
    have f0 := k2.fz 0
    have f1 := k2.fz 1
    have f2 := k2.fz 2
    have g0 := k1.fz 0
    have g1 := k1.fz 1
    have g2 := k1.fz 2
    have K1 := Lib.hid k1
    have K2 := Lib.hid k2
    have HB2 := Lib.hid hb2
    clear hb1 k1 k2 k2' hb2
    go_wp2
    exact bodyPost_ret (results_box (p := 4) (u := 5) rfl _ _ (w.heap.size + 1) _ rfl (K2.out.store Ep.zero)) rfl ⟨rfl, below3 HB2.out (by omega) _ _ _⟩
  · by_cases h1 : r.cur < n
    · have HE := Lib.hid (win_late HB.out (.inl h1))
      rw [HE.out.1, HE.out.2]
      go_enter Try.func20, Try.ntmps20
      go_wp2_with (fail)
      refine (takes_any r n _).mono ?_
      rintro e w1 ⟨rfl, hb1⟩
      rw [HB.out]
      obtain ⟨k1, k2, hb2⟩ := two_boxes (s := Ep.zero) hb1
      have k2' : Bx w1 (w.heap.size + 1) ⟨0, 0, 0⟩ := k2
      obtain ⟨a0, a1, a2⟩ := k1.box
      obtain ⟨z0, z1, z2⟩ := k2'.box
      have f0 := k2.fz 0
      have f1 := k2.fz 1
      have f2 := k2.fz 2
      have g0 := k1.fz 0
      have g1 := k1.fz 1
      have g2 := k1.fz 2
      have K1 := Lib.hid k1
      have K2 := Lib.hid k2
      have HB2 := Lib.hid hb2
      clear hb1 k1 k2 k2' hb2
      go_wp2
      exact bodyPost_ret (results_box (p := 4) (u := 5) rfl _ _ (w.heap.size + 1) _ rfl (K2.out.store Ep.zero)) rfl ⟨rfl, below3 HB2.out (by omega) _ _ _⟩
    · by_cases h2 : n ≤ r.conf
      · have HE := Lib.hid (win_late HB.out (.inr h2))
        rw [HE.out.1, HE.out.2]
        have t1 : decide (r.cur < n) = false := by simp; omega
        clear h1
        go_enter Try.func20, Try.ntmps20
        go_wp2_with (fail)
        refine (takes_any r n _).mono ?_
        rintro e w1 ⟨rfl, hb1⟩
        rw [HB.out]
        obtain ⟨k1, k2, hb2⟩ := two_boxes (s := Ep.zero) hb1
        have k2' : Bx w1 (w.heap.size + 1) ⟨0, 0, 0⟩ := k2
        obtain ⟨a0, a1, a2⟩ := k1.box
        obtain ⟨z0, z1, z2⟩ := k2'.box
        have f0 := k2.fz 0
        have f1 := k2.fz 1
        have f2 := k2.fz 2
        have g0 := k1.fz 0
        have g1 := k1.fz 1
        have g2 := k1.fz 2
        have K1 := Lib.hid k1
        have K2 := Lib.hid k2
        have HB2 := Lib.hid hb2
        clear hb1 k1 k2 k2' hb2
        go_wp2
        exact bodyPost_ret (results_box (p := 4) (u := 5) rfl _ _ (w.heap.size + 1) _ rfl (K2.out.store Ep.zero)) rfl ⟨rfl, below3 HB2.out (by omega) _ _ _⟩
      · have HE := Lib.hid (win_yes HB.out (by omega))
        rw [HE.out.1, HE.out.2]
        have t1 : decide (r.cur < n) = false := by simp; omega
        have t2 : decide (n ≤ r.conf) = false := by simp; omega
        clear h1 h2
        go_enter Try.func20, Try.ntmps20
        go_wp2_with (fail)
        refine (takes_any r n _).mono ?_
        rintro e w1 ⟨rfl, hb1⟩
        rw [HB.out]
        obtain ⟨k1, k2, hb2⟩ := two_boxes (s := Ep.zero) hb1
        have k2' : Bx w1 (w.heap.size + 1) ⟨0, 0, 0⟩ := k2
        obtain ⟨a0, a1, a2⟩ := k1.box
        obtain ⟨z0, z1, z2⟩ := k2'.box
        have f0 := k2.fz 0
        have f1 := k2.fz 1
        have f2 := k2.fz 2
        have g0 := k1.fz 0
        have g1 := k1.fz 1
        have g2 := k1.fz 2
        have K1 := Lib.hid k1
        have K2 := Lib.hid k2
        have HB2 := Lib.hid hb2
        clear hb1 k1 k2 k2' hb2
        go_wp2
        exact bodyPost_ret (results_box (p := 4) (u := 5) rfl _ _ (w.heap.size + 1) _ rfl ((K2.out.far (p := ⟨w.heap.size, 2, none⟩) (by simp) _).store ⟨r.cur, r.vote, n⟩)) rfl ⟨rfl, below3 (below_set HB2.out (p := ⟨w.heap.size, 2, none⟩) (by simp) _) (by omega) _ _ _⟩
end Go.Proofs.Ytckdibnadokipaa
