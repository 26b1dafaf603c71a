/-
  WHAT IS PROVED: contracts of met, Ping, Pong and Waits. Condition: the object is a watch.
-/
import Derived.Test.YtcphodnenhnalaaWatch
namespace Go.Proofs.Ytcphodnenhnalaa
open Go.RowKit Go.Lib Go.Maps

/-- a variable of the program's peer type, that may be written -/
def Bx (w : World) (b : Nat) (p : Pr) : Prop := Blk w b 52 #[.int .i64 p.last, .bool p.waits, .int .i64 p.since]
section
variable {w w' : World} {b : Nat} {p : Pr}
theorem Bx.new (w : World) (p : Pr) {b : Nat} (hb : b = w.heap.size) : Bx (w.alloc (.cells #[.int .i64 p.last, .bool p.waits, .int .i64 p.since] 52)) b p := by subst hb; exact Blk.new _ _ _
theorem Bx.lt (h : Bx w b p) : b < w.heap.size := Blk.lt h
theorem Bx.later (h : Bx w b p) (hb : Below w.heap.size w w') : Bx w' b p := Blk.below h hb h.lt
theorem Bx.alloc (h : Bx w b p) (o : Obj) : Bx (w.alloc o) b p := Blk.alloc h o
theorem Bx.far (h : Bx w b p) {a : Addr} (hp : b ≠ a.block) (u : Value) : Bx (w.setCell a u) b p := Blk.far h hp u
theorem Bx.kept {row : Option Nat} (h : Bx w b p) (hg : w.grownBy w' row) (hne : some b ≠ row) : Bx w' b p := Blk.grown h hg hne
theorem Bx.c0 (h : Bx w b p) : w.cell? ⟨b, 0, none⟩ = some (.int .i64 p.last) := Blk.cell h 0
theorem Bx.c1 (h : Bx w b p) : w.cell? ⟨b, 1, none⟩ = some (.bool p.waits) := Blk.cell h 1
theorem Bx.c2 (h : Bx w b p) : w.cell? ⟨b, 2, none⟩ = some (.int .i64 p.since) := Blk.cell h 2
theorem Bx.fz (h : Bx w b p) (i : Nat) : w.frozen? ⟨b, i, none⟩ = false := Blk.frozen h i
theorem Bx.store (h : Bx w b p) (s : Pr) : Bx (((w.setCell ⟨b, 0, none⟩ (.int .i64 s.last)).setCell ⟨b, 1, none⟩ (.bool s.waits)).setCell ⟨b, 2, none⟩ (.int .i64 s.since)) b s := by
  have h3 := ((Blk.set_ h 0 (.int .i64 s.last)).set_ 1 (.bool s.waits)).set_ 2 (.int .i64 s.since)
  exact h3
theorem Bx.set0 (h : Bx w b p) (x : Int) : Bx (w.setCell ⟨b, 0, none⟩ (.int .i64 x)) b ⟨p.id, x, p.waits, p.since⟩ := Blk.set_ h 0 (.int .i64 x)
theorem Bx.set12 (h : Bx w b p) (y : Bool) (z : Int) : Bx ((w.setCell ⟨b, 1, none⟩ (.bool y)).setCell ⟨b, 2, none⟩ (.int .i64 z)) b ⟨p.id, p.last, y, z⟩ := by
  have h2 := (Blk.set_ h 1 (.bool y)).set_ 2 (.int .i64 z)
  exact h2
end
theorem results_box {fn : Func} {p u : Tmp} (h : fn.results = #[.cell p 52, .tmp u]) (tmps : Array Value) (w : World) (b : Nat) (r : Pr)
    (hp : tmps.getD p undef = .pointer (some ⟨b, 0, none⟩)) (hb : Bx w b r) : (results fn tmps).run Try.prog w = .ok (.tuple #[vPr r, tmps.getD u undef]) w := by
  rw [results_cell_tmp h, hp]
  have hs : (Try.prog.info? 52).map (·.size) = some (#[Value.int .i64 r.last, Value.bool r.waits, Value.int .i64 r.since] : Array Value).size := by
    rw [show (#[Value.int .i64 r.last, Value.bool r.waits, Value.int .i64 r.since] : Array Value).size = 3 from rfl]; kernel_rfl
  simp [asAddr, run_loadVar_row w b 52 52 #[.int .i64 r.last, .bool r.waits, .int .i64 r.since] (0, 0) _ hb Try.underlying52 rfl hs, Result.andThen]
theorem max_if (a b : Int) : (if a < b then b else a) = max a b := by omega
abbrev zPr : Pr := ⟨0, 0, false, 0⟩
/-- what met hands back -/
def metP (L : List Pr) (x t : Int) : Pr := if metE L x t = 0 then ⟨(getL L x).id, max (getL L x).last t, (getL L x).waits, (getL L x).since⟩ else zPr
/-- a peer and an error; nothing that was there has turned -/
def Gives (r : Pr) (f : Int) (w : World) (e : Ending) (w' : World) : Prop := e = .returned (.tuple #[vPr r, .int .i64 f]) ∧ Below w.heap.size w w'

set_option maxHeartbeats 1000000 in
theorem met_form (g : Nat) (x t : Int) (w : World) (h0 : isIdB x = false ∨ isTimeB t = false) :
    Calls Try.prog 25 #[.pointer (some ⟨g, 0, none⟩), .int .i64 x, .int .i64 t] w (Gives zPr 10 w) := by
  obtain ⟨b1, B1⟩ : ∃ b, Hid (isIdB x = b) := ⟨_, Lib.hid rfl⟩
  obtain ⟨b2, B2⟩ : ∃ b, Hid (isTimeB t = b) := ⟨_, Lib.hid rfl⟩
  have H0 : Hid (b1 = false ∨ b2 = false) := Lib.hid (by rw [← B1.out, ← B2.out]; exact h0)
  have k1 : Bx (w.alloc (.cells #[.int .i64 0, .bool false, .int .i64 0] 52)) w.heap.size zPr := Bx.new w zPr rfl
  have z0 := k1.c0
  have z1 := k1.c1
  have z2 := k1.c2
  have f0 := k1.fz 0
  have f1 := k1.fz 1
  have f2 := k1.fz 2
  have K1 := Lib.hid k1
  have HB : Hid (Below w.heap.size w (w.alloc (.cells #[.int .i64 0, .bool false, .int .i64 0] 52))) := Lib.hid ((Below.refl _ _).alloc (Nat.le_refl _) _)
  clear h0 k1
  go_enter Try.func25, Try.ntmps25
  go_wp2_with (fail)
  refine (isid_any x _).mono ?_
  rintro e w1 ⟨rfl, rfl⟩
  rw [B1.out]
  cases b1
  · go_wp2
    exact bodyPost_ret (results_box (p := 6) (u := 7) rfl _ _ w.heap.size _ rfl K1.out) rfl ⟨rfl, HB.out⟩
  · go_wp2_with (fail)
    refine (istime_any t _).mono ?_
    rintro e w1 ⟨rfl, rfl⟩
    rw [B2.out]
    cases b2
    · go_wp2
      exact bodyPost_ret (results_box (p := 6) (u := 7) rfl _ _ w.heap.size _ rfl K1.out) rfl ⟨rfl, HB.out⟩
    · exact absurd H0.out (by decide)
set_option maxHeartbeats 1000000 in
theorem met_none (g b : Nat) (T : Int) (L : List Pr) (x t : Int) (w : World) (h : Wt w g b T L) (h1 : isIdB x = true) (h2 : isTimeB t = true) (h3 : hasL L x = false) :
    Calls Try.prog 25 #[.pointer (some ⟨g, 0, none⟩), .int .i64 x, .int .i64 t] w (Gives zPr 30 w) := by
  have HIX : Hid (inInt x) := Lib.hid (by have := in_id h1; unfold inInt; omega)
  have B1 := Lib.hid h1
  have B2 := Lib.hid h2
  have HQ := Lib.hid h3
  have HP := Lib.hid (get_no h3)
  have HB : Hid (Below w.heap.size w (w.alloc (.cells #[.int .i64 0, .bool false, .int .i64 0] 52))) := Lib.hid ((Below.refl _ _).alloc (Nat.le_refl _) _)
  have HH := Lib.hid (h.below HB.out)
  have c1 := HH.out.c1
  have k1 : Bx ((w.alloc (.cells #[.int .i64 0, .bool false, .int .i64 0] 52)).alloc (.cells #[.int .i64 0, .bool false, .int .i64 0] 52)) w.heap.size zPr := (Bx.new w zPr rfl).alloc _
  have z0 := k1.c0
  have z1 := k1.c1
  have z2 := k1.c2
  have f0 := k1.fz 0
  have f1 := k1.fz 1
  have f2 := k1.fz 2
  have K1 := Lib.hid k1
  clear h h1 h2 h3 k1
  go_enter Try.func25, Try.ntmps25
  go_wp2_with (fail)
  refine (isid_any x _).mono ?_
  rintro e w1 ⟨rfl, rfl⟩
  rw [B1.out]
  go_wp2_with (fail)
  refine (istime_any t _).mono ?_
  rintro e w1 ⟨rfl, rfl⟩
  rw [B2.out]
  go_wp2_with (at_lookup; refine wpList_look_ok _ rfl _ _ rfl b L x ⟨x, 0, false, 0⟩ false rfl rfl HH.out.map HIX.out HP.out HQ.out ?_)
  exact bodyPost_ret (results_box (p := 6) (u := 7) rfl _ _ w.heap.size _ rfl K1.out) rfl ⟨rfl, HB.out.alloc (by simp) _⟩
set_option maxHeartbeats 1000000 in
theorem met_ok (g b : Nat) (T : Int) (L : List Pr) (x t : Int) (w : World) (h : Wt w g b T L) (h1 : isIdB x = true) (h2 : isTimeB t = true) (h3 : hasL L x = true) (p : Pr) (hp : getL L x = p) :
    Calls Try.prog 25 #[.pointer (some ⟨g, 0, none⟩), .int .i64 x, .int .i64 t] w (Gives ⟨p.id, max p.last t, p.waits, p.since⟩ 0 w) := by
  have HIX : Hid (inInt x) := Lib.hid (by have := in_id h1; unfold inInt; omega)
  have B1 := Lib.hid h1
  have B2 := Lib.hid h2
  have HQ := Lib.hid h3
  have HP := Lib.hid hp
  have HB : Hid (Below w.heap.size w (w.alloc (.cells #[.int .i64 0, .bool false, .int .i64 0] 52))) := Lib.hid ((Below.refl _ _).alloc (Nat.le_refl _) _)
  have HH := Lib.hid (h.below HB.out)
  have c1 := HH.out.c1
  have k1 : Bx ((w.alloc (.cells #[.int .i64 0, .bool false, .int .i64 0] 52)).alloc (.cells #[.int .i64 p.last, .bool p.waits, .int .i64 p.since] 52)) w.heap.size zPr := (Bx.new w zPr rfl).alloc _
  have k2 : Bx ((w.alloc (.cells #[.int .i64 0, .bool false, .int .i64 0] 52)).alloc (.cells #[.int .i64 p.last, .bool p.waits, .int .i64 p.since] 52)) (w.heap.size + 1) p := Bx.new _ p (by simp)
  have z0 := k1.c0
  have z1 := k1.c1
  have z2 := k1.c2
  have f0 := k1.fz 0
  have f1 := k1.fz 1
  have f2 := k1.fz 2
  have y0 := k2.c0
  have y1 := k2.c1
  have y2 := k2.c2
  have e0 := k2.fz 0
  have K1 := Lib.hid k1
  have K2 := Lib.hid k2
  have HM1 : Hid (t ≤ p.last → max p.last t = p.last) := Lib.hid (by omega)
  have HM2 : Hid (p.last < t → max p.last t = t) := Lib.hid (by omega)
  clear h h1 h2 h3 k1 k2 hp
  go_enter Try.func25, Try.ntmps25
  go_wp2_with (fail)
  refine (isid_any x _).mono ?_
  rintro e w1 ⟨rfl, rfl⟩
  rw [B1.out]
  go_wp2_with (fail)
  refine (istime_any t _).mono ?_
  rintro e w1 ⟨rfl, rfl⟩
  rw [B2.out]
  go_wp2_with (at_lookup; refine wpList_look_ok _ rfl _ _ rfl b L x p true rfl rfl HH.out.map HIX.out HP.out HQ.out ?_)
  all_goals exact bodyPost_ret (results_box (p := 6) (u := 7) rfl _ _ w.heap.size ⟨p.id, max p.last t, p.waits, p.since⟩ rfl (by first | rw [HM1.out ‹_›]; exact (Bx.new w p rfl).alloc _ | rw [HM2.out ‹_›]; exact (Bx.new w ⟨p.id, t, p.waits, p.since⟩ rfl).alloc _)) rfl ⟨rfl, ((Below.refl _ w).alloc (Nat.le_refl _) _).alloc (by simp) _⟩
theorem met_any (g b : Nat) (T : Int) (L : List Pr) (x t : Int) (w : World) (h : Wt w g b T L) :
    Calls Try.prog 25 #[.pointer (some ⟨g, 0, none⟩), .int .i64 x, .int .i64 t] w (Gives (metP L x t) (metE L x t) w) := by
  by_cases hc : isIdB x = true ∧ isTimeB t = true
  · cases h3 : hasL L x
    · have he := metE_none hc.1 hc.2 h3
      unfold metP
      rw [he, if_neg (by decide)]
      exact met_none g b T L x t w h hc.1 hc.2 h3
    · have he := metE_ok hc.1 hc.2 h3
      unfold metP
      rw [he, if_pos rfl]
      exact met_ok g b T L x t w h hc.1 hc.2 h3 _ rfl
  · have h0 : isIdB x = false ∨ isTimeB t = false := by
      by_cases h1 : isIdB x = true
      · exact .inr (by simpa using fun h2 => hc ⟨h1, h2⟩)
      · exact .inl (by simpa using h1)
    have he := metE_form (L := L) h0
    unfold metP
    rw [he, if_neg (by decide)]
    exact met_form g x t w h0
end Go.Proofs.Ytcphodnenhnalaa
