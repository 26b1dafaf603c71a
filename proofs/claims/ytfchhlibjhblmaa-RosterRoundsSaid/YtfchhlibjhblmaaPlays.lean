/-
  WHAT IS PROVED: the law RosterPlays answers true for all arguments: after each step of a play the roster and the document's own answer alike. No condition beyond those of the given row.
-/
import Derived.Test.YtfchhlibjhblmaaArgs
namespace Go.Proofs.Ytfchhlibjhblmaa
open Go.RowKit Go.Lib Go.Maps

/-- a play's state: the roster of block g, the document's own in the variable of block x -/
structure Pl (W w : World) (g x : Nat) (F : Nat → Prop) (R : Ro) (A : Option Addr) (n c : Nat) (B : Option Addr) (m d : Nat) : Prop where
  rs : Rs w W.heap.size g F R
  dc : Dc w (fun i => F i ∨ i = x) R A n c B m d
  vx : Vx w x R A n c B m d
  nx : ¬ F x
  bel : Below W.heap.size W w
  hx : W.heap.size ≤ x
section
variable {W w w' w4 w6 : World} {g x : Nat} {F F6 : Nat → Prop} {R RT : Ro} {A B AT BT : Option Addr} {n c m d nT cT mT dT : Nat}
theorem Pl.below (h : Pl W w g x F R A n c B m d) (hb : Below w.heap.size w w') : Pl W w' g x F R A n c B m d :=
  ⟨h.rs.below hb, h.dc.below hb, h.vx.later hb, h.nx, h.bel.trans (hb.mono h.bel.size), h.hx⟩
theorem Pl.lt (h : Pl W w g x F R A n c B m d) : ∀ i, (F i ∨ i = x) → i < w.heap.size := by
  rintro i (hi | rfl)
  · exact h.rs.lt i hi
  · exact h.vx.lt
theorem Pl.n15 (h : Pl W w g x F R A n c B m d) : n ≤ 15 := by have := h.dc.l.lenM; have := h.rs.good.len; omega
/-- the document's own is put in the variable -/
theorem Pl.mid (h : Pl W w g x F R A n c B m d) (hb : Below w.heap.size w w4) (hd : Dc w4 (fun i => F i ∨ i = x) RT AT nT cT BT mT dT) :
    Rs ((((w4.setCell ⟨x, 0, none⟩ (.int .i64 RT.s)).setCell ⟨x, 1, none⟩ (.slice AT nT cT)).setCell ⟨x, 2, none⟩ (.slice BT mT dT)).setCell ⟨x, 3, none⟩ (.int .i64 (RT.c : Int))) W.heap.size g F R ∧ Dc ((((w4.setCell ⟨x, 0, none⟩ (.int .i64 RT.s)).setCell ⟨x, 1, none⟩ (.slice AT nT cT)).setCell ⟨x, 2, none⟩ (.slice BT mT dT)).setCell ⟨x, 3, none⟩ (.int .i64 (RT.c : Int))) (fun i => F i ∨ i = x) RT AT nT cT BT mT dT ∧ Vx ((((w4.setCell ⟨x, 0, none⟩ (.int .i64 RT.s)).setCell ⟨x, 1, none⟩ (.slice AT nT cT)).setCell ⟨x, 2, none⟩ (.slice BT mT dT)).setCell ⟨x, 3, none⟩ (.int .i64 (RT.c : Int))) x RT AT nT cT BT mT dT ∧ Below W.heap.size W ((((w4.setCell ⟨x, 0, none⟩ (.int .i64 RT.s)).setCell ⟨x, 1, none⟩ (.slice AT nT cT)).setCell ⟨x, 2, none⟩ (.slice BT mT dT)).setCell ⟨x, 3, none⟩ (.int .i64 (RT.c : Int))) ∧ Turn w4 ((((w4.setCell ⟨x, 0, none⟩ (.int .i64 RT.s)).setCell ⟨x, 1, none⟩ (.slice AT nT cT)).setCell ⟨x, 2, none⟩ (.slice BT mT dT)).setCell ⟨x, 3, none⟩ (.int .i64 (RT.c : Int))) (fun i => i = x) := by
  have ht := turn4 w4 x 0 1 2 3 (.int .i64 RT.s) (.slice AT nT cT) (.slice BT mT dT) (.int .i64 (RT.c : Int))
  have h4 := h.below hb
  exact ⟨h4.rs.turn ht (fun i hi e => h.nx (by rw [← e]; exact hi)), hd.turn (ht.mono (fun i e => .inr e)) (Sub.refl _ _), h4.vx.store RT AT nT cT BT mT dT, below4 h4.bel h.hx 0 1 2 3 _ _ _ _, ht⟩
/-- .. and the roster does the same -/
theorem Pl.fin (h : Pl W w g x F R A n c B m d) (hd : Dc w' (fun i => F i ∨ i = x) RT AT nT cT BT mT dT) (hv : Vx w' x RT AT nT cT BT mT dT) (hb : Below W.heap.size W w') (hr0 : Rs w' W.heap.size g F R)
    (hr : Rs w6 W.heap.size g F6 RT) (ht : Turn w' w6 F) (hs : Sub w' F F6) : Pl W w6 g x F6 RT AT nT cT BT mT dT :=
  ⟨hr, hd.turn (ht.mono (fun i e => .inl e)) (fun i hi e => by rcases e with e | e; (· exact .inl (hs i hi e)); (· exact .inr e)), hv.turn ht h.nx, fun f => h.nx (hs x hv.lt f), hb.trans (ht.below hr0.lo hr0.cle), h.hx⟩
end
theorem add_small (R : Ro) (x t : Int) : (addR R x t).c = R.c ∧ (addR R x t).B.length ≤ R.B.length := by
  unfold addR
  split
  · exact ⟨rfl, List.length_filter_le _ _⟩
  · exact ⟨rfl, Nat.le_refl _⟩
theorem for_small (R : Ro) (x t : Int) : (forR R x t).c = R.c ∧ (forR R x t).B.length ≤ R.B.length + 1 := by
  unfold forR
  split
  · refine ⟨rfl, ?_⟩
    show (putB R.B _).length ≤ _
    unfold putB
    rw [List.length_append]
    have := List.length_filter_le (fun b : Bn => !decide (b.id = x)) R.B
    simpa [unB] using this
  · exact ⟨rfl, by omega⟩
theorem set_small (R : Ro) (m : Mb) : (setR R m).c = R.c ∧ (setR R m).B.length ≤ R.B.length := by
  unfold setR
  split <;> exact ⟨rfl, Nat.le_refl _⟩
theorem next_small {R : Ro} (h : Good R) (n x : Int) : (nextR R n x).c ≤ R.c + 15 ∧ (nextR R n x).B.length = R.B.length := by
  refine ⟨?_, rfl⟩
  show R.c + numN (butL R.L x) n ≤ _
  have h1 := num_le (butL R.L x) n
  have h2 := but_len R.L x
  have h3 := h.len
  omega
def Sx (w : World) (b : Nat) (s : St) : Prop := Blk w b 36 #[.int .i64 s.how, .int .i64 s.now, .int .i64 s.n, .int .i64 s.m.id, .int .i64 s.m.ma, .int .i64 s.m.co, .int .i64 s.m.of_, .int .i64 s.m.fa]
theorem Sx.cells {w : World} {b : Nat} {s : St} (h : Sx w b s) : w.cell? ⟨b, 0, none⟩ = some (.int .i64 s.how) ∧ w.cell? ⟨b, 1, none⟩ = some (.int .i64 s.now) ∧ w.cell? ⟨b, 2, none⟩ = some (.int .i64 s.n) ∧ w.cell? ⟨b, 3, none⟩ = some (.int .i64 s.m.id) ∧ w.cell? ⟨b, 4, none⟩ = some (.int .i64 s.m.ma) ∧ w.cell? ⟨b, 5, none⟩ = some (.int .i64 s.m.co) ∧ w.cell? ⟨b, 6, none⟩ = some (.int .i64 s.m.of_) ∧ w.cell? ⟨b, 7, none⟩ = some (.int .i64 s.m.fa) :=
  ⟨Blk.cell h 0, Blk.cell h 1, Blk.cell h 2, Blk.cell h 3, Blk.cell h 4, Blk.cell h 5, Blk.cell h 6, Blk.cell h 7⟩
theorem Sx.later {w w' : World} {b : Nat} {s : St} (h : Sx w b s) (hb : Below w.heap.size w w') : Sx w' b s := Blk.below h hb (Blk.lt h)
theorem Sx.turn {w w' : World} {b : Nat} {s : St} {F : Nat → Prop} (h : Sx w b s) (hb : Turn w w' F) (hF : ¬ F b) : Sx w' b s := Blk.turn h hb hF

set_option maxRecDepth 100000 in
set_option maxHeartbeats 4000000 in
theorem plays_in (self : Int) (A0 : Option Addr) (n0 c0 : Nat) (l : List St) (ask now : Int) (W : World) (hs : isIdB self = true) (hn : n0 ≤ 100) (hr : ActsAt W A0 n0 l) (hfit : ∀ s ∈ l, s.fits) (hask : inInt ask) :
    Calls Try.prog 3 #[.int .i64 self, .slice A0 n0 c0, .int .i64 ask, .int .i64 now] W (Says true W) := by
  have d0 : (n0 : Int) ≤ 100 := by omega
  have HR := Lib.hid hr
  have HFT := Lib.hid hfit
  have HAS := Lib.hid hask
  have HSF := Lib.hid hs
  clear hr hfit hask hs
  go_enter Try.func3, Try.ntmps3
  go_wp2_with (fail)
  refine (anchor_any _).mono ?_
  rintro e w0 ⟨rfl, hb0⟩
  have HB0 := Lib.hid hb0
  clear hb0
  go_wp2_with (fail)
  refine (new_yes self _ HSF.out).mono ?_
  rintro e w1 ⟨g, F0, rfl, k1, hb1⟩
  have K1 := Lib.hid (k1.low HB0.out.size)
  have HB1 := Lib.hid (HB0.out.trans (hb1.mono HB0.out.size))
  clear k1 hb1
  go_wp2_with (fail)
  refine (rid_any self _).mono ?_
  rintro e w2 ⟨rfl, rfl⟩
  rw [HSF.out]
  obtain ⟨x, hx⟩ : ∃ x, w1.heap.size = x := ⟨_, rfl⟩
  have HP0 : Hid (Pl W (w1.alloc (.cells #[.int .i64 self, .slice none 0 0, .slice none 0 0, .int .i64 0] 32)) g x F0 ⟨self, [], [], 0⟩ none 0 0 none 0 0) :=
    Lib.hid ⟨K1.out.alloc _, ⟨Rd.nil_ _ _ _ _, Rd.nil_ _ _ _ _, by omega, by omega, by omega, by omega⟩, by rw [← hx]; exact Vx.new w1 ⟨self, [], [], 0⟩ none 0 0 none 0 0 rfl, fun f => by have := K1.out.lt _ f; omega, HB1.out.alloc HB1.out.size _, by rw [← hx]; exact HB1.out.size⟩
  go_wp2
  go_loopw [46] (fun i wr => ∃ (k : Nat) (F : Nat → Prop) (R : Ro) (A : Option Addr) (n c : Nat) (B : Option Addr) (m d : Nat), k ≤ n0 ∧ i = .int .i64 k ∧ Pl W wr g x F R A n c B m d ∧ R.c ≤ 15 * k ∧ R.B.length ≤ k) (fun i _ => n0 - (RowKit.intOf i).toNat)
  case atStart => exact ⟨0, F0, _, none, 0, 0, none, 0, 0, by omega, rfl, HP0.out, by simp, by simp⟩
  case round =>
    clear HP0 hx
    obtain ⟨w3, rfl⟩ : ∃ w3, w3 = wr := ⟨_, rfl⟩
    obtain ⟨k, F, R, A, n, c, B, m, d, hk, rfl, hp, hcu, hbl⟩ := hrel
    have HP := Lib.hid hp
    clear hp
    by_cases hlt : k < n0
    · obtain ⟨ad, s, rfl, hs, hbk, a0, a1, a2, a3, a4, a5, a6, a7⟩ := (HR.out.below (Nat.le_refl _) HP.out.bel).at_ hlt
      have HXF := Lib.hid (HFT.out s (List.mem_of_getElem? hs))
      have HAL : Hid (Below w3.heap.size w3 (w3.alloc (.cells #[.int .i64 s.how, .int .i64 s.now, .int .i64 s.n, .int .i64 s.m.id, .int .i64 s.m.ma, .int .i64 s.m.co, .int .i64 s.m.of_, .int .i64 s.m.fa] 36))) := Lib.hid ((Below.refl _ _).alloc (Nat.le_refl _) _)
      have P := Lib.hid (HP.out.below HAL.out)
      have HS : Hid (Sx (w3.alloc (.cells #[.int .i64 s.how, .int .i64 s.now, .int .i64 s.n, .int .i64 s.m.id, .int .i64 s.m.ma, .int .i64 s.m.co, .int .i64 s.m.of_, .int .i64 s.m.fa] 36)) w3.heap.size s) := Lib.hid (Blk.new _ _ _)
      have HXS : Hid (x < w3.heap.size) := Lib.hid HP.out.vx.lt
      have hx0 := P.out.vx.cells.1
      have hx1 := P.out.vx.cells.2.1
      have hx2 := P.out.vx.cells.2.2.1
      have hx3 := P.out.vx.cells.2.2.2
      obtain ⟨c0, c1, c2, c3, c4, c5, c6, c7⟩ := HS.out.cells
      obtain ⟨ho, na, nn, ⟨i, ma, co, of_, fa⟩⟩ := s
      simp only at c0 c1 c2 c3 c4 c5 c6 c7 a0 a1 a2 a3 a4 a5 a6 a7 P HS HAL hx0 hx1 hx2 hx3
      have hml : m ≤ 100 := by have h1 := P.out.dc.b.lenB; omega
      clear hs HP
      by_cases x1 : ho = 1
      · subst x1
        obtain ⟨er, HE⟩ : ∃ er : Int, Hid (addE R i na = er) := ⟨_, Lib.hid rfl⟩
        obtain ⟨RT, HRT⟩ : ∃ y, Hid (addR R i na = y) := ⟨_, Lib.hid rfl⟩
        have hsm := add_small R i na
        rw [HRT.out] at hsm
        have HSM := Lib.hid hsm
        have hn15 := P.out.n15
        clear hsm
        go_wp2_with (fail)
        refine (radd_any R A B n c m d (fun i => F i ∨ i = x) i na _ (by omega) (by omega) P.out.dc P.out.rs.good.up P.out.lt).mono ?_
        rintro e w4 ⟨AT, nT, cT, BT, mT, dT, rfl, hd4, hb4⟩
        rw [HE.out, HRT.out]
        rw [HRT.out] at hd4
        have HM4 := Lib.hid (P.out.mid hb4 hd4)
        have HX4 := Lib.hid (P.out.vx.later hb4)
        have HS4 := Lib.hid (HS.out.later hb4)
        clear hd4 hb4 c0 c1 c2 c3 c4 c5 c6 c7
        obtain ⟨c0, c1, c2, c3, c4, c5, c6, c7⟩ := HS4.out.cells
        simp only at c0 c1 c2 c3 c4 c5 c6 c7
        have x0 := HX4.out.cells.1
        have x1 := HX4.out.cells.2.1
        have x2 := HX4.out.cells.2.2.1
        have x3 := HX4.out.cells.2.2.2
        have f0 := HX4.out.fz 0
        have f1 := HX4.out.fz 1
        have f2 := HX4.out.fz 2
        have f3 := HX4.out.fz 3
        obtain ⟨W5, HW5⟩ : ∃ W5, ((((w4.setCell ⟨x, 0, none⟩ (.int .i64 RT.s)).setCell ⟨x, 1, none⟩ (.slice AT nT cT)).setCell ⟨x, 2, none⟩ (.slice BT mT dT)).setCell ⟨x, 3, none⟩ (.int .i64 (RT.c : Int))) = W5 := ⟨_, rfl⟩
        have hm5 := HM4.out
        rw [HW5] at hm5
        obtain ⟨hr5, hd5, hv5, hb5, ht5⟩ := hm5
        have HS5 := Lib.hid (HS4.out.turn ht5 (by have := HXS.out; omega))
        have HR5 := Lib.hid hr5
        have HD5 := Lib.hid hd5
        have HV5 := Lib.hid hv5
        have HB5 := Lib.hid hb5
        obtain ⟨e0, e1, e2, e3, e4, e5, e6, e7⟩ := HS5.out.cells
        simp only at e0 e1 e2 e3 e4 e5 e6 e7
        clear hr5 hd5 hv5 hb5 ht5
        go_wp2_with (fail)
        refine (add_any W.heap.size g F R _ HR5.out i na).mono ?_
        rintro e w6 ⟨rfl, F6, k6, t6, s6⟩
        rw [HE.out]
        rw [HRT.out] at k6
        have P6 := Lib.hid (P.out.fin HD5.out HV5.out HB5.out HR5.out k6 t6 s6)
        have te : (er != er) = false := by simp
        clear k6 t6 s6 c0 c1 c2 c3 c4 c5 c6 c7 x0 x1 x2 x3 f0 f1 f2 f3 e0 e1 e2 e3 e4 e5 e6 e7
        obtain ⟨x0, x1, x2, x3⟩ := P6.out.vx.cells
        go_wp2_with (fail)
        refine (like_any W.heap.size g F6 RT _ _ _ _ _ _ ask now _ P6.out.rs (P6.out.dc.weak (fun i _ f => .inl f)) (by have h1 := P6.out.dc.b.lenB; have h2 := HSM.out.2; omega) HAS.out).mono ?_
        rintro e w9 ⟨rfl, hb9⟩
        have P9 := Lib.hid (P6.out.below hb9)
        clear hb9
        go_wp2
        go_roundw
        case rel => exact ⟨k + 1, F6, RT, AT, nT, cT, BT, mT, dT, by omega, by go_num, P9.out, by have h1 := HSM.out.1; omega, by have h2 := HSM.out.2; omega⟩
        case measure => simp [RowKit.intOf]; omega
      · by_cases x2 : ho = 2
        · subst x2
          obtain ⟨er, HE⟩ : ∃ er : Int, Hid (forE R i na = er) := ⟨_, Lib.hid rfl⟩
          obtain ⟨RT, HRT⟩ : ∃ y, Hid (forR R i na = y) := ⟨_, Lib.hid rfl⟩
          have hsm := for_small R i na
          rw [HRT.out] at hsm
          have HSM := Lib.hid hsm
          have hn15 := P.out.n15
          clear hsm
          go_wp2_with (fail)
          refine (rfor_any R A B n c m d (fun i => F i ∨ i = x) i na _ (by omega) (by omega) P.out.dc P.out.rs.good.up P.out.lt).mono ?_
          rintro e w4 ⟨AT, nT, cT, BT, mT, dT, rfl, hd4, hb4⟩
          rw [HE.out, HRT.out]
          rw [HRT.out] at hd4
          have HM4 := Lib.hid (P.out.mid hb4 hd4)
          have HX4 := Lib.hid (P.out.vx.later hb4)
          have HS4 := Lib.hid (HS.out.later hb4)
          clear hd4 hb4 c0 c1 c2 c3 c4 c5 c6 c7
          obtain ⟨c0, c1, c2, c3, c4, c5, c6, c7⟩ := HS4.out.cells
          simp only at c0 c1 c2 c3 c4 c5 c6 c7
          have x0 := HX4.out.cells.1
          have x1 := HX4.out.cells.2.1
          have x2 := HX4.out.cells.2.2.1
          have x3 := HX4.out.cells.2.2.2
          have f0 := HX4.out.fz 0
          have f1 := HX4.out.fz 1
          have f2 := HX4.out.fz 2
          have f3 := HX4.out.fz 3
          obtain ⟨W5, HW5⟩ : ∃ W5, ((((w4.setCell ⟨x, 0, none⟩ (.int .i64 RT.s)).setCell ⟨x, 1, none⟩ (.slice AT nT cT)).setCell ⟨x, 2, none⟩ (.slice BT mT dT)).setCell ⟨x, 3, none⟩ (.int .i64 (RT.c : Int))) = W5 := ⟨_, rfl⟩
          have hm5 := HM4.out
          rw [HW5] at hm5
          obtain ⟨hr5, hd5, hv5, hb5, ht5⟩ := hm5
          have HS5 := Lib.hid (HS4.out.turn ht5 (by have := HXS.out; omega))
          have HR5 := Lib.hid hr5
          have HD5 := Lib.hid hd5
          have HV5 := Lib.hid hv5
          have HB5 := Lib.hid hb5
          obtain ⟨e0, e1, e2, e3, e4, e5, e6, e7⟩ := HS5.out.cells
          simp only at e0 e1 e2 e3 e4 e5 e6 e7
          clear hr5 hd5 hv5 hb5 ht5
          go_wp2_with (fail)
          refine (forget_any W.heap.size g F R _ HR5.out (by omega) i na).mono ?_
          rintro e w6 ⟨rfl, F6, k6, t6, s6⟩
          rw [HE.out]
          rw [HRT.out] at k6
          have P6 := Lib.hid (P.out.fin HD5.out HV5.out HB5.out HR5.out k6 t6 s6)
          have te : (er != er) = false := by simp
          clear k6 t6 s6 c0 c1 c2 c3 c4 c5 c6 c7 x0 x1 x2 x3 f0 f1 f2 f3 e0 e1 e2 e3 e4 e5 e6 e7
          obtain ⟨x0, x1, x2, x3⟩ := P6.out.vx.cells
          go_wp2_with (fail)
          refine (like_any W.heap.size g F6 RT _ _ _ _ _ _ ask now _ P6.out.rs (P6.out.dc.weak (fun i _ f => .inl f)) (by have h1 := P6.out.dc.b.lenB; have h2 := HSM.out.2; omega) HAS.out).mono ?_
          rintro e w9 ⟨rfl, hb9⟩
          have P9 := Lib.hid (P6.out.below hb9)
          clear hb9
          go_wp2
          go_roundw
          case rel => exact ⟨k + 1, F6, RT, AT, nT, cT, BT, mT, dT, by omega, by go_num, P9.out, by have h1 := HSM.out.1; omega, by have h2 := HSM.out.2; omega⟩
          case measure => simp [RowKit.intOf]; omega
        · by_cases x3 : ho = 3
          · subst x3
            obtain ⟨er, HE⟩ : ∃ er : Int, Hid (setE R ⟨i, ma, co, of_, fa⟩ = er) := ⟨_, Lib.hid rfl⟩
            obtain ⟨RT, HRT⟩ : ∃ y, Hid (setR R ⟨i, ma, co, of_, fa⟩ = y) := ⟨_, Lib.hid rfl⟩
            have hsm := set_small R ⟨i, ma, co, of_, fa⟩
            rw [HRT.out] at hsm
            have HSM := Lib.hid hsm
            have hn15 := P.out.n15
            clear hsm
            go_wp2_with (fail)
            refine (rset_any R A B n c m d (fun i => F i ∨ i = x) ⟨i, ma, co, of_, fa⟩ _ (by omega) P.out.dc P.out.rs.good.up P.out.lt).mono ?_
            rintro e w4 ⟨AT, nT, cT, BT, mT, dT, rfl, hd4, hb4⟩
            rw [HE.out, HRT.out]
            rw [HRT.out] at hd4
            have HM4 := Lib.hid (P.out.mid hb4 hd4)
            have HX4 := Lib.hid (P.out.vx.later hb4)
            have HS4 := Lib.hid (HS.out.later hb4)
            clear hd4 hb4 c0 c1 c2 c3 c4 c5 c6 c7
            obtain ⟨c0, c1, c2, c3, c4, c5, c6, c7⟩ := HS4.out.cells
            simp only at c0 c1 c2 c3 c4 c5 c6 c7
            have x0 := HX4.out.cells.1
            have x1 := HX4.out.cells.2.1
            have x2 := HX4.out.cells.2.2.1
            have x3 := HX4.out.cells.2.2.2
            have f0 := HX4.out.fz 0
            have f1 := HX4.out.fz 1
            have f2 := HX4.out.fz 2
            have f3 := HX4.out.fz 3
            obtain ⟨W5, HW5⟩ : ∃ W5, ((((w4.setCell ⟨x, 0, none⟩ (.int .i64 RT.s)).setCell ⟨x, 1, none⟩ (.slice AT nT cT)).setCell ⟨x, 2, none⟩ (.slice BT mT dT)).setCell ⟨x, 3, none⟩ (.int .i64 (RT.c : Int))) = W5 := ⟨_, rfl⟩
            have hm5 := HM4.out
            rw [HW5] at hm5
            obtain ⟨hr5, hd5, hv5, hb5, ht5⟩ := hm5
            have HS5 := Lib.hid (HS4.out.turn ht5 (by have := HXS.out; omega))
            have HR5 := Lib.hid hr5
            have HD5 := Lib.hid hd5
            have HV5 := Lib.hid hv5
            have HB5 := Lib.hid hb5
            obtain ⟨e0, e1, e2, e3, e4, e5, e6, e7⟩ := HS5.out.cells
            simp only at e0 e1 e2 e3 e4 e5 e6 e7
            clear hr5 hd5 hv5 hb5 ht5
            go_wp2_with (fail)
            refine (set_any W.heap.size g F R _ HR5.out ⟨i, ma, co, of_, fa⟩).mono ?_
            rintro e w6 ⟨rfl, F6, k6, t6, s6⟩
            rw [HE.out]
            rw [HRT.out] at k6
            have P6 := Lib.hid (P.out.fin HD5.out HV5.out HB5.out HR5.out k6 t6 s6)
            have te : (er != er) = false := by simp
            clear k6 t6 s6 c0 c1 c2 c3 c4 c5 c6 c7 x0 x1 x2 x3 f0 f1 f2 f3 e0 e1 e2 e3 e4 e5 e6 e7
            obtain ⟨x0, x1, x2, x3⟩ := P6.out.vx.cells
            go_wp2_with (fail)
            refine (like_any W.heap.size g F6 RT _ _ _ _ _ _ ask now _ P6.out.rs (P6.out.dc.weak (fun i _ f => .inl f)) (by have h1 := P6.out.dc.b.lenB; have h2 := HSM.out.2; omega) HAS.out).mono ?_
            rintro e w9 ⟨rfl, hb9⟩
            have P9 := Lib.hid (P6.out.below hb9)
            clear hb9
            go_wp2
            go_roundw
            case rel => exact ⟨k + 1, F6, RT, AT, nT, cT, BT, mT, dT, by omega, by go_num, P9.out, by have h1 := HSM.out.1; omega, by have h2 := HSM.out.2; omega⟩
            case measure => simp [RowKit.intOf]; omega
          · by_cases x4 : ho = 4
            · subst x4

              obtain ⟨RT, HRT⟩ : ∃ y, Hid (nextR R nn i = y) := ⟨_, Lib.hid rfl⟩
              obtain ⟨LT, HLT⟩ : ∃ y, Hid (nextL R nn i = y) := ⟨_, Lib.hid rfl⟩
              have hsm := next_small P.out.rs.good nn i
              rw [HRT.out] at hsm
              have HSM := Lib.hid hsm
              have hn15 := P.out.n15
              clear hsm
              go_wp2_with (fail)
              refine (rnext_any R A B n c m d (fun i => F i ∨ i = x) nn i _ (by omega) P.out.dc (by omega) P.out.lt).mono ?_
              rintro e w4 ⟨AT, nT, cT, BT, mT, dT, Av, kv, cv, rfl, hd4, hl4, hkv, hcv, hb4⟩
              rw [HRT.out]
              rw [HRT.out] at hd4
              rw [HLT.out] at hl4
              have HM4 := Lib.hid (P.out.mid hb4 hd4)
              have HX4 := Lib.hid (P.out.vx.later hb4)
              have HS4 := Lib.hid (HS.out.later hb4)
              have HL4 := Lib.hid hl4
              clear hd4 hb4 hl4 c0 c1 c2 c3 c4 c5 c6 c7
              obtain ⟨c0, c1, c2, c3, c4, c5, c6, c7⟩ := HS4.out.cells
              simp only at c0 c1 c2 c3 c4 c5 c6 c7
              have x0 := HX4.out.cells.1
              have x1 := HX4.out.cells.2.1
              have x2 := HX4.out.cells.2.2.1
              have x3 := HX4.out.cells.2.2.2
              have f0 := HX4.out.fz 0
              have f1 := HX4.out.fz 1
              have f2 := HX4.out.fz 2
              have f3 := HX4.out.fz 3
              obtain ⟨W5, HW5⟩ : ∃ W5, ((((w4.setCell ⟨x, 0, none⟩ (.int .i64 RT.s)).setCell ⟨x, 1, none⟩ (.slice AT nT cT)).setCell ⟨x, 2, none⟩ (.slice BT mT dT)).setCell ⟨x, 3, none⟩ (.int .i64 (RT.c : Int))) = W5 := ⟨_, rfl⟩
              have hm5 := HM4.out
              rw [HW5] at hm5
              obtain ⟨hr5, hd5, hv5, hb5, ht5⟩ := hm5
              have HS5 := Lib.hid (HS4.out.turn ht5 (by have := HXS.out; omega))
              have HL5 := Lib.hid (HL4.out.turn (ht5.mono (fun i e => .inr e)) (Sub.refl _ _))
              have HR5 := Lib.hid hr5
              have HD5 := Lib.hid hd5
              have HV5 := Lib.hid hv5
              have HB5 := Lib.hid hb5
              obtain ⟨e0, e1, e2, e3, e4, e5, e6, e7⟩ := HS5.out.cells
              simp only at e0 e1 e2 e3 e4 e5 e6 e7
              clear hr5 hd5 hv5 hb5 ht5
              go_wp2_with (fail)
              refine (next_any W.heap.size g F R _ HR5.out (by omega) nn i).mono ?_
              rintro e w6 ⟨⟨v6, rfl, ho6⟩, k6, t6⟩
              rw [HRT.out] at k6
              rw [HLT.out] at ho6
              obtain ⟨q6, hq6⟩ : ∃ q6, LT.length = q6 := ⟨_, rfl⟩
              rw [hq6] at ho6
              obtain ⟨A6, c6', rfl, hc6, hcm6⟩ := own_form ho6
              have HO6 : Hid (Rd w6 no 1 A6 q6 (zints LT)) := Lib.hid (Rd.of_own ho6 rfl (fun _ _ f => f))
              have HL6 := Lib.hid (HL5.out.turn (t6.mono (fun i e => .inl e)) (Sub.refl _ _))
              have P6 := Lib.hid (P.out.fin HD5.out HV5.out HB5.out HR5.out k6 t6 (Sub.refl _ _))
              clear k6 t6 ho6 c0 c1 c2 c3 c4 c5 c6 c7 x0 x1 x2 x3 f0 f1 f2 f3 e0 e1 e2 e3 e4 e5 e6 e7
              go_wp2_with (fail)
              refine (same_any A6 Av q6 _ kv cv LT LT no _ _ (by omega) (by omega) HO6.out HL6.out).mono ?_
              rintro e w7 ⟨rfl, rfl⟩
              rw [same_yes rfl]
              obtain ⟨x0, x1, x2, x3⟩ := P6.out.vx.cells
              go_wp2_with (fail)
              refine (like_any W.heap.size g F RT _ _ _ _ _ _ ask now _ P6.out.rs (P6.out.dc.weak (fun i _ f => .inl f)) (by have h1 := P6.out.dc.b.lenB; have h2 := HSM.out.2; omega) HAS.out).mono ?_
              rintro e w9 ⟨rfl, hb9⟩
              have P9 := Lib.hid (P6.out.below hb9)
              clear hb9
              go_wp2
              go_roundw
              case rel => exact ⟨k + 1, F, RT, AT, nT, cT, BT, mT, dT, by omega, by go_num, P9.out, by have h1 := HSM.out.1; omega, by have h2 := HSM.out.2; omega⟩
              case measure => simp [RowKit.intOf]; omega
            · have t1 : (ho == 1) = false := by simpa using x1
              have t2 : (ho == 2) = false := by simpa using x2
              have t3 : (ho == 3) = false := by simpa using x3
              have t4 : (ho == 4) = false := by simpa using x4
              skip
              go_wp2_with (fail)
              refine (like_any W.heap.size g F R _ _ _ _ _ _ ask now _ P.out.rs (P.out.dc.weak (fun i _ f => .inl f)) (by omega) HAS.out).mono ?_
              rintro e w9 ⟨rfl, hb9⟩
              have P9 := Lib.hid (P.out.below hb9)
              clear hb9
              go_wp2
              go_roundw
              case rel => exact ⟨k + 1, F, R, A, n, c, B, m, d, by omega, by go_num, P9.out, by omega, by omega⟩
              case measure => simp [RowKit.intOf]; omega
    · obtain rfl : k = n0 := by omega
      go_wp2
      go_ret
      exact ⟨rfl, HP.out.bel⟩
set_option maxRecDepth 100000 in
set_option maxHeartbeats 2000000 in
theorem plays_out (self : Int) (A0 : Option Addr) (n0 c0 : Nat) (ask now : Int) (W : World) (h : isIdB self = false ∨ (isIdB self = true ∧ 100 < n0)) :
    Calls Try.prog 3 #[.int .i64 self, .slice A0 n0 c0, .int .i64 ask, .int .i64 now] W (Says true W) := by
  rcases h with h | ⟨h, hn⟩
  · have HSF := Lib.hid h
    clear h
    go_enter Try.func3, Try.ntmps3
    go_wp2_with (fail)
    refine (anchor_any _).mono ?_
    rintro e w0 ⟨rfl, hb0⟩
    have HB0 := Lib.hid hb0
    clear hb0
    go_wp2_with (fail)
    refine (new_no self _ HSF.out).mono ?_
    rintro e w1 ⟨rfl, rfl⟩
    go_wp2_with (fail)
    refine (rid_any self _).mono ?_
    rintro e w2 ⟨rfl, rfl⟩
    rw [HSF.out]
    go_wp2
    go_ret
    exact ⟨rfl, HB0.out⟩
  · have HSF := Lib.hid h
    clear h
    go_enter Try.func3, Try.ntmps3
    go_wp2_with (fail)
    refine (anchor_any _).mono ?_
    rintro e w0 ⟨rfl, hb0⟩
    have HB0 := Lib.hid hb0
    clear hb0
    go_wp2_with (fail)
    refine (new_yes self _ HSF.out).mono ?_
    rintro e w1 ⟨g, F0, rfl, k1, hb1⟩
    have HB1 := Lib.hid (HB0.out.trans (hb1.mono HB0.out.size))
    clear k1 hb1
    go_wp2_with (fail)
    refine (rid_any self _).mono ?_
    rintro e w2 ⟨rfl, rfl⟩
    rw [HSF.out]
    go_wp2
    go_ret
    exact ⟨rfl, HB1.out⟩
theorem plays_any (self : Int) (A0 : Option Addr) (n0 c0 : Nat) (l : List St) (ask now : Int) (W : World) (hr : ActsAt W A0 n0 l) (hfit : ∀ s ∈ l, s.fits) (hask : inInt ask) :
    Calls Try.prog 3 #[.int .i64 self, .slice A0 n0 c0, .int .i64 ask, .int .i64 now] W (Says true W) := by
  cases hs : isIdB self
  · exact plays_out self A0 n0 c0 ask now W (.inl hs)
  · by_cases hn : n0 ≤ 100
    · exact plays_in self A0 n0 c0 l ask now W hs hn hr hfit hask
    · exact plays_out self A0 n0 c0 ask now W (.inr ⟨hs, by omega⟩)
end Go.Proofs.Ytfchhlibjhblmaa
