/-
  WHAT IS PROVED: the law NetFull answers true for all arguments. Condition: the message's bytes are there.
-/
import Derived.Test.YtblmfjndemfkjaaAnchor
namespace Go.Proofs.Ytblmfjndemfkjaa
open Go.RowKit Go.Lib
set_option maxRecDepth 100000

set_option maxHeartbeats 4000000 in
theorem netfull_in (f t : Int) (A : Option Addr) (n c : Nat) (d : List UInt8) (q p : Nat) (W : World) (hr : Good W no ⟨f, t, A, n, c, d⟩) (hn : n ≤ 20) (hq : q ≤ 50) (hp : p < 4096) :
    Calls Try.prog 4 #[.agg #[.int .i64 f, .int .i64 t, .slice A n c], .int .i64 (q : Int), .int .i64 (p : Int)] W (Says true W) := by
  obtain ⟨W1, hW1⟩ : ∃ x, W.alloc (.cells #[.int .i64 f, .int .i64 t, .slice A n c] 29) = x := ⟨_, rfl⟩
  have hb1 : Below W.heap.size W W1 := by rw [← hW1]; exact (Below.refl _ _).alloc (Nat.le_refl _) _
  have HX1 : Hid (Bx W1 W.heap.size ⟨f, t, A, n, c, d⟩) := Lib.hid (by rw [← hW1]; exact Bx.new W ⟨f, t, A, n, c, d⟩)
  have HB1 := Lib.hid hb1
  have HR1 := Lib.hid (hr.below hb1)
  have d1 : decide ((20 : Int) < (n : Int)) = false := by simp; omega
  have d2 : decide ((q : Int) < 0) = false := by simp
  have d3 : decide ((50 : Int) < (q : Int)) = false := by simp; omega
  have d4 : decide ((p : Int) < 0) = false := by simp
  have d5 : decide ((4096 : Int) ≤ (p : Int)) = false := by simp; omega
  clear hr hb1
  go_enter Try.func4, Try.ntmps4
  go_wp2_with (fail)
  refine (anchor_any _).mono ?_
  rintro e w0 ⟨rfl, hb0⟩
  have HB0 := Lib.hid (HB1.out.trans (hb0.mono HB1.out.size))
  have HX0 := Lib.hid (HX1.out.later hb0)
  have HR0 := Lib.hid (HR1.out.below hb0)
  obtain ⟨x0, x1, x2⟩ := HX0.out.cells
  dsimp only at x0 x1 x2
  clear hb0 hW1 HX1 HR1 HB1
  go_wp2_with (fail)
  refine (new_any w0).mono ?_
  rintro e w2 ⟨g, rfl, hn2, hb2⟩
  have HN2 := Lib.hid hn2
  have HB2 := Lib.hid hb2
  have HC := Lib.hid HX0.out.lt
  clear hn2 hb2 x0 x1 x2
  go_wp2
  go_loopw [35] (fun i wr => ∃ (k : Nat) (ls : List Ms), k ≤ 4096 ∧ i = .int .i64 k ∧ ls.length = k ∧ Nt wr w0.heap.size g no ls 0 ∧ Below w0.heap.size w0 wr) (fun i _ => 4096 - (RowKit.intOf i).toNat)
  case atStart => exact ⟨0, [], by omega, rfl, rfl, HN2.out, HB2.out⟩
  case round =>
    obtain ⟨w3, rfl⟩ : ∃ w3, w3 = wr := ⟨_, rfl⟩
    obtain ⟨k, ls, hk, rfl, hls, hnt, hb3⟩ := hrel
    have HLS := Lib.hid hls
    have HN3 := Lib.hid hnt
    have HB3 := Lib.hid hb3
    have HX3 := Lib.hid (HX0.out.later hb3)
    have HR3 := Lib.hid (HR0.out.below hb3)
    obtain ⟨x0, x1, x2⟩ := HX3.out.cells
    dsimp only at x0 x1 x2
    clear hls hnt hb3
    by_cases hlt : k < 4096
    · have z1 : ((k : Int) < 4096) := by omega
      go_wp2_with (fail)
      refine (put_yes w0.heap.size g no ls 0 w3 HN3.out ⟨f, t, A, n, c, d⟩ no HR3.out (by rw [HLS.out]; exact hlt)).mono ?_
      rintro e w4 ⟨m1, _, rfl, hn4, ht4⟩
      have HN4 := Lib.hid hn4
      have HB4 := Lib.hid (HB3.out.trans (ht4.low HB3.out.size))
      clear hn4 ht4
      go_wp2
      go_roundw
      case rel => exact ⟨k + 1, ls ++ [m1], by omega, by go_num, by rw [List.length_append, HLS.out]; rfl, HN4.out, HB4.out⟩
      case measure => simp [RowKit.intOf]; omega
    · obtain rfl : k = 4096 := by omega
      go_wp2
      go_loopw [43] (fun i wr => ∃ (k : Nat), k ≤ q ∧ i = .int .i64 k ∧ Nt wr w0.heap.size g no ls (k : Int) ∧ Below w0.heap.size w0 wr) (fun i _ => q - (RowKit.intOf i).toNat)
      case atStart => exact ⟨0, by omega, rfl, HN3.out, HB3.out⟩
      case round =>
        obtain ⟨w5, rfl⟩ : ∃ w5, w5 = wr := ⟨_, rfl⟩
        obtain ⟨k, hk, rfl, hnt, hb5⟩ := hrel
        have HN5 := Lib.hid hnt
        have HB5 := Lib.hid hb5
        have HX5 := Lib.hid (HX0.out.later hb5)
        have HR5 := Lib.hid (HR0.out.below hb5)
        clear x0 x1 x2
        obtain ⟨x0, x1, x2⟩ := HX5.out.cells
        dsimp only at x0 x1 x2
        clear hnt hb5
        by_cases hlt : k < q
        · go_wp2_with (fail)
          refine (put_no w0.heap.size g no ls k w5 HN5.out ⟨f, t, A, n, c, d⟩ HLS.out (by omega) (by omega)).mono ?_
          rintro e w6 ⟨rfl, hn6, ht6⟩
          have HN6 := Lib.hid hn6
          have HB6 := Lib.hid (HB5.out.trans (ht6.low HB5.out.size))
          clear hn6 ht6
          go_wp2_with (fail)
          refine (double_no w0.heap.size g no ls _ w6 HN6.out (p : Int) (.inr HLS.out)).mono ?_
          rintro e w7 ⟨rfl, rfl⟩
          go_wp2
          go_roundw
          case rel => exact ⟨_, .int .i64 ((k + 1 : Nat) : Int), _, _, _, _, _, _, _, _, _, _, _, ⟨k + 1, by omega, rfl, HN6.out, HB6.out⟩, rfl⟩
          case measure => simp [RowKit.intOf]; omega
        · obtain rfl : k = q := by omega
          have tk : ((k : Int) != (k : Int)) = false := by simp
          go_wp2_with (fail)
          refine (lost_any w0.heap.size g no ls _ w5 HN5.out).mono ?_
          rintro e w6 ⟨rfl, rfl⟩
          go_wp2_with (fail)
          refine (len_any w0.heap.size g no ls _ w5 HN5.out).mono ?_
          rintro e w6 ⟨rfl, rfl⟩
          rw [HLS.out]
          obtain ⟨m1, hm1⟩ : ∃ m, ls[p]? = some m := ⟨_, List.getElem?_eq_getElem (by rw [HLS.out]; exact hp)⟩
          have HWL : Hid ((without ls p).length = 4095) := Lib.hid (by have h1 := without_len (l := ls) (i := p) (by rw [HLS.out]; exact hp); have h2 := HLS.out; omega)
          go_wp2_with (fail)
          refine (take_yes w0.heap.size g no ls _ w5 HN5.out p m1 hm1).mono ?_
          rintro e w6 ⟨rfl, hn6, ht6, _⟩
          obtain ⟨f1, t1, A1, n1, c1, d1'⟩ := m1
          have hal : Below w6.heap.size w6 (w6.alloc (.cells #[.int .i64 f1, .int .i64 t1, .slice A1 n1 c1] 29)) := (Below.refl _ _).alloc (Nat.le_refl _) _
          have HN6 := Lib.hid (Nt.below hn6 hal)
          have hb6 := HB5.out.trans (ht6.low HB5.out.size)
          have HB6 := Lib.hid (hb6.trans (hal.mono hb6.size))
          obtain ⟨m2, hm2⟩ : ∃ m, (without ls p)[0]? = some m := ⟨_, List.getElem?_eq_getElem (by rw [HWL.out]; decide)⟩
          have HM2 := Lib.hid hm2
          have HL7 : Hid (∀ m, (without ls p ++ [m]).length = 4096) := Lib.hid (fun m => by rw [List.length_append, HWL.out]; rfl)
          obtain ⟨lw, hlw⟩ : ∃ x, without ls p = x := ⟨_, rfl⟩
          rw [hlw] at HN6 HM2 HL7 HWL
          clear hn6 ht6 hal hb6 hm1 hm2 hlw
          go_wp2_with (fail)
          refine (double_yes w0.heap.size g no lw _ _ HN6.out 0 m2 HM2.out (by rw [HWL.out]; decide)).mono ?_
          rintro e w7 ⟨m3, _, rfl, hn7, ht7⟩
          have HN7 := Lib.hid hn7
          have HB7 := Lib.hid (HB6.out.trans (ht7.low HB6.out.size))
          have HX7 := Lib.hid (HX0.out.later HB7.out)
          clear x0 x1 x2
          obtain ⟨x0, x1, x2⟩ := HX7.out.cells
          dsimp only at x0 x1 x2
          clear hn7 ht7
          go_wp2_with (fail)
          refine (len_any w0.heap.size g no _ _ w7 HN7.out).mono ?_
          rintro e w8 ⟨rfl, rfl⟩
          rw [HL7.out]
          go_wp2_with (fail)
          refine (put_no w0.heap.size g no _ k w7 HN7.out ⟨f, t, A, n, c, d⟩ (HL7.out _) (by omega) (by omega)).mono ?_
          rintro e w8 ⟨rfl, _, ht8⟩
          have HB8 := Lib.hid (HB7.out.trans (ht8.low HB7.out.size))
          clear ht8
          go_wp2
          go_ret
          exact ⟨rfl, HB0.out.trans (HB8.out.mono HB0.out.size)⟩
set_option maxHeartbeats 4000000 in
theorem netfull_out (f t : Int) (A : Option Addr) (n c : Nat) (q p : Int) (W : World) (h : 20 < n ∨ (n ≤ 20 ∧ q < 0) ∨ (n ≤ 20 ∧ 0 ≤ q ∧ 50 < q) ∨ (n ≤ 20 ∧ 0 ≤ q ∧ q ≤ 50 ∧ p < 0) ∨ (n ≤ 20 ∧ 0 ≤ q ∧ q ≤ 50 ∧ 0 ≤ p ∧ 4096 ≤ p)) :
    Calls Try.prog 4 #[.agg #[.int .i64 f, .int .i64 t, .slice A n c], .int .i64 q, .int .i64 p] W (Says true W) := by
  obtain ⟨W1, hW1⟩ : ∃ x, W.alloc (.cells #[.int .i64 f, .int .i64 t, .slice A n c] 29) = x := ⟨_, rfl⟩
  have hb1 : Below W.heap.size W W1 := by rw [← hW1]; exact (Below.refl _ _).alloc (Nat.le_refl _) _
  have HX1 : Hid (Bx W1 W.heap.size ⟨f, t, A, n, c, []⟩) := Lib.hid (by rw [← hW1]; exact Bx.new W ⟨f, t, A, n, c, []⟩)
  have HB1 := Lib.hid hb1
  clear hb1
  rcases h with h | ⟨h1, h⟩ | ⟨h1, h2, h⟩ | ⟨h1, h2, h3, h⟩ | ⟨h1, h2, h3, h4, h⟩
  all_goals
    go_enter Try.func4, Try.ntmps4
    go_wp2_with (fail)
    refine (anchor_any _).mono ?_
    rintro e w0 ⟨rfl, hb0⟩
    have HB0 := Lib.hid (HB1.out.trans (hb0.mono HB1.out.size))
    obtain ⟨x0, x1, x2⟩ := (HX1.out.later hb0).cells
    dsimp only at x0 x1 x2
    clear hb0 hW1 HX1
    go_wp2
    go_ret
    exact ⟨rfl, HB0.out⟩
theorem netfull_any (m : Ms) (q p : Int) (W : World) (hr : Rd W no 1 m.A m.n (bs m.d)) (hc : m.n ≤ m.c) (hm : m.c ≤ 9223372036854775807) :
    Calls Try.prog 4 #[vM m, .int .i64 q, .int .i64 p] W (Says true W) := by
  obtain ⟨f, t, A, n, c, d⟩ := m
  dsimp only at hr hc hm
  by_cases h1 : n ≤ 20
  · by_cases h2 : 0 ≤ q
    · by_cases h3 : q ≤ 50
      · by_cases h4 : 0 ≤ p
        · by_cases h5 : p < 4096
          · obtain ⟨q', rfl⟩ := Int.eq_ofNat_of_zero_le h2
            obtain ⟨p', rfl⟩ := Int.eq_ofNat_of_zero_le h4
            exact netfull_in f t A n c d q' p' W ⟨hr, hc, hm, by show n ≤ 1000000; omega⟩ h1 (by omega) (by omega)
          · exact netfull_out f t A n c q p W (.inr (.inr (.inr (.inr ⟨h1, h2, h3, h4, by omega⟩))))
        · exact netfull_out f t A n c q p W (.inr (.inr (.inr (.inl ⟨h1, h2, h3, by omega⟩))))
      · exact netfull_out f t A n c q p W (.inr (.inr (.inl ⟨h1, h2, by omega⟩)))
    · exact netfull_out f t A n c q p W (.inr (.inl ⟨h1, by omega⟩))
  · exact netfull_out f t A n c q p W (.inl (by omega))
end Go.Proofs.Ytblmfjndemfkjaa
