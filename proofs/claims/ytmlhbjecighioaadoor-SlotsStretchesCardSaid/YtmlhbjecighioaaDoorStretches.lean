/-
  WHAT IS PROVED: the walk of the law SlotsStretches. Condition: strconv's errors hold errors.
-/
import Derived.Test.YtmlhbjecighioaaDoorLaid
namespace Go.Proofs.YtmlhbjecighioaaDoor
open Go.RowKit

def accN (a : Nat) : Nat → Nat
  | 0 => 0
  | j + 1 => accN a j ||| 2 ^ (a + j)
theorem acc_bit (a : Nat) : ∀ j i, (accN a j).testBit i = decide (a ≤ i ∧ i < a + j)
  | 0, i => by simp [accN]
  | j + 1, i => by
    rw [accN, Nat.testBit_or, acc_bit a j i, Nat.testBit_two_pow, Bool.eq_iff_iff]
    simp
    omega
theorem acc_lt (a : Nat) : ∀ j, a + j ≤ 64 → accN a j < 18446744073709551616
  | 0, _ => by show 0 < _; decide
  | j + 1, h => or_lt (acc_lt a j (by omega)) (Nat.lt_of_lt_of_le (Nat.pow_lt_pow_right (by omega) (show a + j < 64 by omega)) (Nat.le_refl _))
theorem acc_span {a b : Nat} (h : a ≤ b) (hb : b < 64) : accN a (b + 1 - a) = spanN a b := by
  refine ext64 (acc_lt a _ (by omega)) (span_lt a b) fun i _ => ?_
  rw [acc_bit, span_bit hb]
  simp; omega
theorem span_one {a b : Nat} (h : a ≤ b) (hb : b < 64) : txt (spanN a b) = part (a, b) := by
  have hc : Canon 0 [(a, b)] := ⟨Nat.zero_le _, h, hb, trivial⟩
  have e := txt_set hc
  have e2 : setOf [(a, b)] = spanN a b := by simp [setOf]
  rw [e2] at e
  rw [e]; simp [tx, tx']
theorem span_two {a b c d : Nat} (h1 : a ≤ b) (h2 : b + 2 ≤ c) (h3 : c ≤ d) (h4 : d < 64) : txt (spanN a b ||| spanN c d) = part (a, b) ++ 32 :: part (c, d) := by
  have hc : Canon 0 [(a, b), (c, d)] := ⟨Nat.zero_le _, h1, by show b < 64; omega, h2, h3, h4, trivial⟩
  have e := txt_set hc
  have e2 : setOf [(a, b), (c, d)] = spanN a b ||| spanN c d := by simp [setOf]
  rw [e2] at e
  rw [e]; simp [tx, tx']
theorem span_join {a b d : Nat} (h1 : a ≤ b) (h3 : b + 1 ≤ d) (h4 : d < 64) : spanN a b ||| spanN (b + 1) d = spanN a d := by
  refine ext64 (or_lt (span_lt _ _) (span_lt _ _)) (span_lt _ _) fun i _ => ?_
  rw [Nat.testBit_or, span_bit (by omega), span_bit h4, span_bit h4]
  simp; omega
theorem of_one {x : Nat} (h : x < 64) : ofP [(x : Int)] = (spanN x x, 0) := by
  unfold ofP
  rw [if_pos (by unfold allSlots; simp [slotB_yes (show (0 : Int) ≤ x by omega) (show (x : Int) < 64 by omega)])]
  simp [ofSet]
theorem wrap_pow {n : Nat} (h : n < 64) : IntKind.u64.wrap ((2 : Int) ^ n) = ((2 ^ n : Nat) : Int) := by
  have h1 : (2 : Nat) ^ n < 18446744073709551616 := Nat.lt_of_lt_of_le (Nat.pow_lt_pow_right (by omega) h) (Nat.le_refl _)
  have h2 : (2 : Int) ^ n = ((2 ^ n : Nat) : Int) := by rw [Int.natCast_pow]; rfl
  rw [h2, IntKind.wrap_u64]
  generalize (2 : Nat) ^ n = x at *
  omega
theorem one_reads (w : World) (z : Int) : ∀ g, g ≠ w.heap.size → Reads (w.alloc (.cells #[.int .i64 z] 3)) g (some ⟨w.heap.size, 0, none⟩) 1 (zints [z]) := fun g hg => by
  refine ⟨rfl, fun _ => ⟨_, rfl, by simp, fun e => hg e.symm, fun j u hu => ?_⟩⟩
  have hB : Blk (w.alloc (.cells #[.int .i64 z] 3)) w.heap.size 3 #[.int .i64 z] := Blk.new _ _ _
  have e : (⟨w.heap.size, 0, none⟩ : Addr).add j = ⟨w.heap.size, j, none⟩ := add_mk _ _
  rw [e, hB.cell j]
  simpa [zints] using hu
/-- a slot's own text, as the law asks for it -/
theorem of_new (x : Nat) (hx : x < 64) (w : World) : Calls Tryd.prog 11 #[.slice (some ⟨w.heap.size, 0, none⟩) 1 1] (w.alloc (.cells #[.int .i64 (x : Int)] 3)) fun e w' => e = .returned (.tuple #[.int .u64 (spanN x x : Nat), .int .i64 0]) ∧ Below w.heap.size w w' := by
  refine (of_any _ 1 1 [(x : Int)] (w.heap.size + 1) _ (by omega) (one_reads w x _ (by omega))).mono ?_
  rintro e w' ⟨rfl, m, rfl⟩
  rw [of_one hx]
  exact ⟨rfl, below_drewN ((Below.refl _ _).alloc (Nat.le_refl _) _) m⟩
theorem text_one (x : Nat) (hx : x < 64) (w : World) : Calls Tryd.prog 16 #[.int .u64 (spanN x x : Nat)] w fun e w' => e = .returned (.string (str (dig x))) ∧ Below w.heap.size w w' := by
  have h := text_any (spanN x x) (span_lt _ _) w
  rw [span_one (Nat.le_refl x) hx, show part (x, x) = dig x by simp [part]] at h
  exact h
theorem dig_part (x : Nat) : part (x, x) = dig x := by simp [part]

set_option maxRecDepth 100000 in
set_option maxHeartbeats 2000000 in
theorem piece_any (a b : Nat) (h : a ≤ b) (hb : b < 64) (w : World) : Calls Tryd.prog 21 #[.int .i64 (a : Int), .int .i64 (b : Int)] w fun e w' =>
    e = .returned (.tuple #[.int .u64 (spanN a b : Nat), .string (str (part (a, b)))]) ∧ Below w.heap.size w w' := by
  have HS := Lib.hid (acc_span h hb)
  have hab : (a : Int) ≤ b := by omega
  go_enter Tryd.func21, Tryd.ntmps21
  go_wp2
  go_loop [6, 7] (fun s i => ∃ j : Nat, a + j ≤ b + 1 ∧ i = .int .i64 (a + j : Nat) ∧ s = .int .u64 (accN a j : Nat)) (fun _ i => 64 - (intOf i).toNat)
  case atStart => exact ⟨0, by omega, rfl, rfl⟩
  case round =>
    obtain ⟨j, hj, rfl, rfl⟩ := hrel
    by_cases hlt : a + j ≤ b
    · have HA : Hid (accN a (j + 1) = accN a j ||| 2 ^ (a + j)) := rfl
      have HO := Lib.hid (u64_or_nat (accN a j) (2 ^ (a + j)) (acc_lt a j (by omega)) (Nat.lt_of_lt_of_le (Nat.pow_lt_pow_right (by omega) (show a + j < 64 by omega)) (Nat.le_refl _)))
      have HW := Lib.hid (wrap_pow (show a + j < 64 by omega))
      go_wp2
      go_round
      case rel => exact ⟨j + 1, by omega, by go_num, by rw [HW.out, HO.out, HA.out]⟩
      case measure => simp [intOf]; omega
    · obtain rfl : j = b + 1 - a := by omega
      rw [HS.out]
      have hsp : ((a + (b + 1 - a) : Nat) : Int) = (b : Int) + 1 := by omega
      have l1 : (str (dig a)).size ≤ 2 := dig_le a
      have l2 : (str (dig b)).size ≤ 2 := dig_le b
      clear hlt hj
      generalize a + (b + 1 - a) = q at *
      by_cases heq : a = b
      · subst heq
        have HP := Lib.hid (dig_part a)
        go_wp2_with (fail)
        refine (of_new a hb _).mono ?_
        rintro e w2 ⟨rfl, hb2⟩
        go_wp2_with (fail)
        refine (of_new a hb _).mono ?_
        rintro e w3 ⟨rfl, hb3⟩
        have hb3' := hb2.trans (hb3.mono hb2.size)
        clear hb2 hb3
        go_wp2_with (fail)
        refine (text_one a hb _).mono ?_
        rintro e w4 ⟨rfl, hb4⟩
        have hb4' := hb3'.trans (hb4.mono hb3'.size)
        clear hb3' hb4
        go_wp2
        go_ret2
        exact ⟨by rw [HP.out]; rfl, hb4'⟩
      · have HP : Hid (part (a, b) = dig a ++ 45 :: dig b) := by show _ = _; simp [part, heq]
        have hn : ((a : Int) == (b : Int)) = false := by rw [beq_eq_false_iff_ne]; omega
        clear heq
        go_wp2_with (fail)
        refine (of_new a (by omega) _).mono ?_
        rintro e w2 ⟨rfl, hb2⟩
        go_wp2_with (fail)
        refine (of_new b hb _).mono ?_
        rintro e w3 ⟨rfl, hb3⟩
        have hb3' := hb2.trans (hb3.mono hb2.size)
        clear hb2 hb3
        go_wp2_with (fail)
        refine (text_one a (by omega) _).mono ?_
        rintro e w4 ⟨rfl, hb4⟩
        have hb4' := hb3'.trans (hb4.mono hb3'.size)
        clear hb3' hb4
        go_wp2_with (fail)
        refine (text_one b hb _).mono ?_
        rintro e w5 ⟨rfl, hb5⟩
        have hb5' := hb4'.trans (hb5.mono hb4'.size)
        clear hb4' hb5
        go_wp2
        go_ret2
        refine ⟨?_, hb5'⟩
        rw [HP.out]
        show Ending.returned (.tuple #[.int .u64 (spanN a b : Nat), .string (str (dig a) ++ str [45] ++ str (dig b))]) = _
        rw [str_app, str_app]; simp

set_option maxRecDepth 100000 in
set_option maxHeartbeats 4000000 in
theorem stretches_in (a b c d : Nat) (w : World) (hE : Errs w) (h1 : a ≤ b) (h2 : b + 1 ≤ c) (h3 : c ≤ d) (h4 : d < 64) :
    Calls Tryd.prog 8 #[.int .i64 (a : Int), .int .i64 (b : Int), .int .i64 (c : Int), .int .i64 (d : Int)] w (Says true w) := by
  have q1 : (0 : Int) ≤ a := by omega
  have q2 : (a : Int) ≤ b := by omega
  have q3 : (b : Int) < c := by omega
  have q4 : (c : Int) ≤ d := by omega
  have q5 : (d : Int) ≤ 63 := by omega
  have HB : Hid (b < 64) := by show b < 64; omega
  have HT1 : Hid (∀ W, Calls Tryd.prog 16 #[.int .u64 (spanN a b : Nat)] W fun e w' => e = .returned (.string (str (part (a, b)))) ∧ Below W.heap.size W w') := fun W => by
    have := text_any (spanN a b) (span_lt _ _) W
    rwa [span_one h1 HB.out] at this
  have HT2 : Hid (∀ W, Calls Tryd.prog 16 #[.int .u64 (spanN c d : Nat)] W fun e w' => e = .returned (.string (str (part (c, d)))) ∧ Below W.heap.size W w') := fun W => by
    have := text_any (spanN c d) (span_lt _ _) W
    rwa [span_one h3 h4] at this
  have k1 : ((str (part (a, b))).toList == (str (part (a, b))).toList) = true := by simp
  have s1 : (str (part (a, b))).size ≤ 5 := part_le _
  have s2 : (str (part (c, d))).size ≤ 5 := part_le _
  have HO := Lib.hid (u64_or_nat (spanN a b) (spanN c d) (span_lt _ _) (span_lt _ _))
  go_enter Tryd.func8, Tryd.ntmps8
  go_wp2_with (fail)
  refine (anchor_any w hE).mono ?_
  rintro e w1 ⟨rfl, hb1⟩
  go_wp2_with (fail)
  refine (piece_any a b h1 HB.out _).mono ?_
  rintro e w2 ⟨rfl, hb2⟩
  have hb2' := hb1.trans (hb2.mono hb1.size)
  clear hb1 hb2
  go_wp2_with (fail)
  refine (piece_any c d h3 h4 _).mono ?_
  rintro e w3 ⟨rfl, hb3⟩
  have hb3' := hb2'.trans (hb3.mono hb2'.size)
  clear hb2' hb3
  go_wp2_with (fail)
  refine (HT1.out _).mono ?_
  rintro e w4 ⟨rfl, hb4⟩
  have hb4' := hb3'.trans (hb4.mono hb3'.size)
  clear hb3' hb4
  go_wp2_with (fail)
  refine (HT2.out _).mono ?_
  rintro e w5 ⟨rfl, hb5⟩
  have hb5' := hb4'.trans (hb5.mono hb4'.size)
  clear hb4' hb5
  by_cases hc : c = b + 1
  · have hcq : ((c : Int) == (b : Int) + 1) = true := by rw [beq_iff_eq]; omega
    have HT3 : Hid (∀ W, Calls Tryd.prog 16 #[.int .u64 (bits .or .u64 (spanN a b : Nat) (spanN c d : Nat))] W fun e w' => e = .returned (.string (str (part (a, d)))) ∧ Below W.heap.size W w') := fun W => by
      have := text_any (spanN a d) (span_lt _ _) W
      rw [span_one (by omega) h4] at this
      rw [HO.out, hc, span_join h1 (by omega) h4]
      exact this
    clear hc
    go_wp2_with (fail)
    refine (piece_any a d (by omega) h4 _).mono ?_
    rintro e w6 ⟨rfl, hb6⟩
    have hb6' := hb5'.trans (hb6.mono hb5'.size)
    clear hb5' hb6
    go_wp2_with (fail)
    refine (HT3.out _).mono ?_
    rintro e w7 ⟨rfl, hb7⟩
    have hb7' := hb6'.trans (hb7.mono hb6'.size)
    clear hb6' hb7
    go_wp2
    go_ret
    refine ⟨?_, hb7'⟩
    first | rfl | (simp)
  · have hcq : ((c : Int) == (b : Int) + 1) = false := by rw [beq_eq_false_iff_ne]; omega
    have HT3 : Hid (∀ W, Calls Tryd.prog 16 #[.int .u64 (bits .or .u64 (spanN a b : Nat) (spanN c d : Nat))] W fun e w' => e = .returned (.string (str (part (a, b) ++ 32 :: part (c, d)))) ∧ Below W.heap.size W w') := fun W => by
      have := text_any (spanN a b ||| spanN c d) (or_lt (span_lt _ _) (span_lt _ _)) W
      rw [span_two h1 (by omega) h3 h4] at this
      rw [HO.out]
      exact this
    clear hc
    go_wp2_with (fail)
    refine (HT3.out _).mono ?_
    rintro e w7 ⟨rfl, hb7⟩
    have hb7' := hb5'.trans (hb7.mono hb5'.size)
    clear hb5' hb7
    go_wp2
    go_ret
    refine ⟨?_, hb7'⟩
    show Ending.returned (.bool ((str (part (a, b) ++ 32 :: part (c, d))).toList == (str (part (a, b)) ++ str [32] ++ str (part (c, d))).toList)) = _
    rw [str_app, str_app]; simp

set_option maxRecDepth 100000 in
set_option maxHeartbeats 2000000 in
theorem stretches_out (a b c d : Int) (w : World) (hE : Errs w) (h : a < 0 ∨ (0 ≤ a ∧ b < a) ∨ (0 ≤ a ∧ a ≤ b ∧ c ≤ b) ∨ (0 ≤ a ∧ a ≤ b ∧ b < c ∧ d < c) ∨ (0 ≤ a ∧ a ≤ b ∧ b < c ∧ c ≤ d ∧ 63 < d)) :
    Calls Tryd.prog 8 #[.int .i64 a, .int .i64 b, .int .i64 c, .int .i64 d] w (Says true w) := by
  rcases h with h | ⟨g1, h⟩ | ⟨g1, g2, h⟩ | ⟨g1, g2, g3, h⟩ | ⟨g1, g2, g3, g4, h⟩
  all_goals
    go_enter Tryd.func8, Tryd.ntmps8
    go_wp2_with (fail)
    refine (anchor_any w hE).mono ?_
    rintro e w1 ⟨rfl, hb1⟩
    go_wp2
    go_ret
    exact ⟨rfl, hb1⟩
theorem stretches_walk (a b c d : Int) (w : World) (hE : Errs w) : Calls Tryd.prog 8 #[.int .i64 a, .int .i64 b, .int .i64 c, .int .i64 d] w (Says true w) := by
  by_cases h : a < 0 ∨ (0 ≤ a ∧ b < a) ∨ (0 ≤ a ∧ a ≤ b ∧ c ≤ b) ∨ (0 ≤ a ∧ a ≤ b ∧ b < c ∧ d < c) ∨ (0 ≤ a ∧ a ≤ b ∧ b < c ∧ c ≤ d ∧ 63 < d)
  · exact stretches_out a b c d w hE h
  · obtain ⟨x, rfl⟩ := Int.eq_ofNat_of_zero_le (show 0 ≤ a by omega)
    obtain ⟨y, rfl⟩ := Int.eq_ofNat_of_zero_le (show 0 ≤ b by omega)
    obtain ⟨z, rfl⟩ := Int.eq_ofNat_of_zero_le (show 0 ≤ c by omega)
    obtain ⟨u, rfl⟩ := Int.eq_ofNat_of_zero_le (show 0 ≤ d by omega)
    exact stretches_in x y z u w hE (by omega) (by omega) (by omega) (by omega)
end Go.Proofs.YtmlhbjecighioaaDoor
