/-
  WHAT IS PROVED: the law CommandTexts answers true: any line has the document's text, or none. Conditions: the library's variables and the program's own hold what is laid there; a key has less than 2^61 bytes.
-/
import Derived.Test.YtogaaomedfpdnaaDoorAn
namespace Go.Proofs.YtogaaomedfpdnaaDoor
set_option maxRecDepth 100000
open Go.RowKit Go.Lib

set_option maxHeartbeats 1000000 in
theorem texts_any (l : Ln) (hl : okL l) (w : World) (hE : Env w) : Calls Tryd.prog 4 #[.agg (lnA l)] w (Says true w) := by
  have hlv : lnA l = #[.int .i64 l.k, .int .i64 l.i, .int .u64 (l.s : Int), .string (str l.y)] := rfl
  have hb0 : Below w.heap.size w (w.alloc (.cells #[.int .i64 l.k, .int .i64 l.i, .int .u64 (l.s : Int), .string (str l.y)] 26)) := (Below.refl _ w).alloc (Nat.le_refl _) _
  have HK0 : Hid (Blk (w.alloc (.cells #[.int .i64 l.k, .int .i64 l.i, .int .u64 (l.s : Int), .string (str l.y)] 26)) w.heap.size 26 (lnA l)) := Lib.hid (Blk.new w _ _)
  have HB0 := Lib.hid hb0
  have HE0 := Lib.hid (hE.below hb0)
  clear hb0 hE
  have HT : Hid (∀ W, Env W → Calls Tryd.prog 11 #[.agg #[.int .i64 l.k, .int .i64 l.i, .int .u64 (l.s : Int), .string (str l.y)]] W (GivesT (textC l) W)) := Lib.hid fun W hW => text_any l hl W hW
  have HL : Hid (∀ W, Calls Tryd.prog 10 #[.agg #[.int .i64 l.k, .int .i64 l.i, .int .u64 (l.s : Int), .string (str l.y)]] W fun e w' => e = .returned (.agg (lnA l)) ∧ Below W.heap.size W w') := Lib.hid fun W => lawline_any l W
  have HRT : Hid (∀ W, Calls Tryd.prog 12 #[.agg #[.int .i64 l.k, .int .i64 l.i, .int .u64 (l.s : Int), .string (str l.y)]] W (RTextPost l W)) := Lib.hid fun W => rtext_any l hl W
  have hz4 : (str l.y).size = l.y.length := rfl
  go_enter Tryd.func4, Tryd.ntmps4
  go_wp2_with (fail)
  refine (anchor_any _ HE0.out).mono ?_
  rintro e1 w1 ⟨rfl, hb1⟩
  have K1 := Lib.hid (HK0.out.below hb1 (by simp))
  have B1 := Lib.hid (HB0.out.trans (hb1.mono HB0.out.size))
  have E1 := Lib.hid (HE0.out.below hb1)
  clear hb1 HK0 HB0 HE0
  have c0 : w1.cell? ⟨w.heap.size, 0, none⟩ = some (.int .i64 l.k) := K1.out.cell 0
  have c1 : w1.cell? ⟨w.heap.size, 1, none⟩ = some (.int .i64 l.i) := K1.out.cell 1
  have c2 : w1.cell? ⟨w.heap.size, 2, none⟩ = some (.int .u64 (l.s : Int)) := K1.out.cell 2
  have c3 : w1.cell? ⟨w.heap.size, 3, none⟩ = some (.string (str l.y)) := K1.out.cell 3
  by_cases hbig : 9000 < l.y.length
  · have hd : decide ((9000 : Int) < (l.y.length : Int)) = true := decide_eq_true (by omega)
    go_wp2
    go_ret
    exact ⟨rfl, B1.out⟩
  · have hd : decide ((9000 : Int) < (l.y.length : Int)) = false := decide_eq_false (by omega)
    go_wp2_with (fail)
    refine (HT.out _ E1.out).mono ?_
    rintro e2 w2 ⟨rfl, hb2⟩
    have K2 := Lib.hid (K1.out.below hb2 K1.out.lt)
    have B2 := Lib.hid (B1.out.trans (hb2.mono B1.out.size))
    clear hb2 K1 B1 E1 c0 c1 c2 c3 HT
    have c0 : w2.cell? ⟨w.heap.size, 0, none⟩ = some (.int .i64 l.k) := K2.out.cell 0
    have c1 : w2.cell? ⟨w.heap.size, 1, none⟩ = some (.int .i64 l.i) := K2.out.cell 1
    have c2 : w2.cell? ⟨w.heap.size, 2, none⟩ = some (.int .u64 (l.s : Int)) := K2.out.cell 2
    have c3 : w2.cell? ⟨w.heap.size, 3, none⟩ = some (.string (str l.y)) := K2.out.cell 3
    rcases text_two l with ⟨hp, ht⟩ | ⟨hp, ht⟩
    · rw [ht]
      have HP := Lib.hid hp
      clear hp ht
      go_wp2_with (fail)
      refine (HL.out _).mono ?_
      rintro e3 w3 ⟨rfl, hb3⟩
      have B3 := Lib.hid (B2.out.trans (hb3.mono B2.out.size))
      clear hb3 B2 K2 c0 c1 c2 c3
      go_wp2_with (fail)
      refine (HRT.out _).mono ?_
      rintro e4 w4 ⟨hb4, s, rfl, hs⟩
      have B4 := Lib.hid (B3.out.trans (hb4.mono B3.out.size))
      obtain rfl := hs HP.out
      rw [decide_eq_true HP.out]
      have hq : ((str (writC l)).toList == (str (writC l)).toList) = true := by simp
      clear hb4 B3 HP hs
      generalize writC l = t at *
      go_wp2
      go_ret
      exact ⟨rfl, B4.out⟩
    · rw [ht]
      have HP := Lib.hid hp
      clear hp ht
      go_wp2_with (fail)
      refine (HL.out _).mono ?_
      rintro e3 w3 ⟨rfl, hb3⟩
      have B3 := Lib.hid (B2.out.trans (hb3.mono B2.out.size))
      clear hb3 B2 K2 c0 c1 c2 c3
      go_wp2_with (fail)
      refine (HRT.out _).mono ?_
      rintro e4 w4 ⟨hb4, s, rfl, hs⟩
      have B4 := Lib.hid (B3.out.trans (hb4.mono B3.out.size))
      rw [decide_eq_false HP.out]
      have hq0 : (str ([] : List UInt8)).toList.isEmpty = true := by rw [str_toList]; rfl
      clear hb4 B3 HP hs
      go_wp2
      go_ret
      exact ⟨rfl, B4.out⟩
end Go.Proofs.YtogaaomedfpdnaaDoor
