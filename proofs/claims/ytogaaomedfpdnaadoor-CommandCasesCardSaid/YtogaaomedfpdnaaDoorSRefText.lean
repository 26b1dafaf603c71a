/-
  WHAT IS PROVED: contracts of the document's digits and text. Condition: none.
-/
import Derived.Test.YtogaaomedfpdnaaDoorSFlags
import Derived.Test.YtogaaomedfpdnaaDoorBack
namespace Go.Proofs.YtogaaomedfpdnaaDoor.S
open Go.RowKit

theorem byte_back (c : UInt8) (w : World) : (convert 42 9 (.slice (some ⟨w.heap.size, 0, none⟩) 1 1)).run Tryd.prog (w.alloc (.cells #[.int .u8 (c.toNat : Int)] 5)) = .ok (.string (str [c])) (w.alloc (.cells #[.int .u8 (c.toNat : Int)] 5)) := by
  refine bytes_back (g := w.heap.size + 1) ⟨rfl, fun _ => ⟨_, rfl, by simp, by show w.heap.size ≠ w.heap.size + 1; omega, fun j u hu => ?_⟩⟩
  have hB : Blk (w.alloc (.cells #[.int .u8 (c.toNat : Int)] 5)) w.heap.size 5 #[.int .u8 (c.toNat : Int)] := Blk.new _ _ _
  have e : (⟨w.heap.size, 0, none⟩ : Addr).add j = ⟨w.heap.size, j, none⟩ := add_mk _ _
  rw [e, hB.cell j]
  simpa [bs] using hu

set_option maxRecDepth 100000 in
theorem digit_any (n : Nat) (hn : n < 10) (w : World) : Calls Tryd.prog 22 #[.int .i64 (n : Int)] w fun e w' => e = .returned (.string (str (dig n))) ∧ Below w.heap.size w w' := by
  have hc : ((UInt8.ofNat (48 + n)).toNat : Int) = 48 + n := by
    have : (UInt8.ofNat (48 + n)).toNat = 48 + n := by simp; omega
    rw [this]; omega
  have hb := byte_back (UInt8.ofNat (48 + n)) w
  rw [hc] at hb
  have HD : Hid (dig n = [UInt8.ofNat (48 + n)]) := by show _ = _; unfold dig; rw [if_pos hn]
  have h1 : (n : Int) < 10 := by omega
  clear hc
  generalize [UInt8.ofNat (48 + n)] = l at *
  go_enter Tryd.func22, Tryd.ntmps22
  go_wp2
  go_ret
  exact ⟨by rw [HD.out]; rfl, (Below.refl _ _).alloc (Nat.le_refl _) _⟩
set_option maxRecDepth 100000 in
theorem digits_any (n : Nat) (hn : n < 64) (w : World) : Calls Tryd.prog 22 #[.int .i64 (n : Int)] w fun e w' => e = .returned (.string (str (dig n))) ∧ Below w.heap.size w w' := by
  by_cases h : n < 10
  · exact digit_any n h w
  · have HD : Hid (dig n = dig (n / 10) ++ dig (n % 10)) := by
      show _ = _
      unfold dig
      rw [if_neg h, if_pos (show n / 10 < 10 by omega), if_pos (show n % 10 < 10 by omega)]; rfl
    have HA : Hid (∀ W, Calls Tryd.prog 22 #[.int .i64 ((n : Int) / 10)] W fun e w' => e = .returned (.string (str (dig (n / 10)))) ∧ Below W.heap.size W w') := fun W => digit_any (n / 10) (by omega) W
    have HB : Hid (∀ W, Calls Tryd.prog 22 #[.int .i64 ((n : Int) % 10)] W fun e w' => e = .returned (.string (str (dig (n % 10)))) ∧ Below W.heap.size W w') := fun W => digit_any (n % 10) (by omega) W
    have h0 : (0 : Int) ≤ n := by omega
    have h1 : (10 : Int) ≤ n := by omega
    have h2 : (n : Int) < 64 := by omega
    have s1 : (str (dig (n / 10))).size ≤ 2 := dig_le _
    have s2 : (str (dig (n % 10))).size ≤ 2 := dig_le _
    clear h
    go_enter Tryd.func22, Tryd.ntmps22
    go_wp2_with (fail)
    refine (HA.out _).mono ?_
    rintro e w1 ⟨rfl, hb1⟩
    go_wp2_with (fail)
    refine (HB.out _).mono ?_
    rintro e w2 ⟨rfl, hb2⟩
    have hb2' := hb1.trans (hb2.mono hb1.size)
    go_wp2
    go_ret
    refine ⟨?_, hb2'⟩
    rw [HD.out, ← str_app]; rfl

theorem tx_nil {F : List (Nat × Nat)} : tx F = [] ↔ F = [] := ⟨fun h => by
  by_cases e : F = []
  · exact e
  · exact absurd h (tx_ne e), fun h => by rw [h]; rfl⟩
theorem skip_start {s k : Nat} (h : s.testBit k = true) : isStart s (k + 1) = false := by simp [isStart, h]

set_option maxRecDepth 100000 in
set_option maxHeartbeats 8000000 in
theorem reftext_any (s : Nat) (hs : s < 18446744073709551616) (w : World) : Calls Tryd.prog 23 #[.agg (fl s)] w fun e w' => e = .returned (.string (str (txt s))) ∧ Below w.heap.size w w' := by
  have hB : Blk (w.alloc (.cells (fl s) 57)) w.heap.size 57 (fl s) := Blk.new _ _ _
  have hb : Below w.heap.size w (w.alloc (.cells (fl s) 57)) := (Below.refl _ _).alloc (Nat.le_refl _) _
  have HC : Hid (∀ W, Below (w.heap.size + 1) (w.alloc (.cells (fl s) 57)) W → ∀ k, k < 64 → W.cell? ⟨w.heap.size, k, none⟩ = some (.bool (s.testBit k))) := fun W hW k hk =>
    (hW.cell (p := ⟨w.heap.size, k, none⟩) (Nat.lt_succ_self _)).trans ((hB.cell k).trans (fl_at s hk))
  have hsz : (w.alloc (.cells (fl s) 57)).heap.size = w.heap.size + 1 := by simp
  have hr0 := Below.refl (w.heap.size + 1) (w.alloc (.cells (fl s) 57))
  clear hB
  generalize hF : fl s = F at *
  go_enter Tryd.func23, Tryd.ntmps23
  go_wp2
  generalize w.alloc (.cells F 57) = w1 at *
  clear hF
  go_loopw [3, 4] (fun x i wr => ∃ k : Nat, k ≤ 64 ∧ i = .int .i64 k ∧ x = .string (str (tx (upto s k))) ∧ Below (w.heap.size + 1) w1 wr) (fun _ i _ => 64 - (intOf i).toNat)
  case atStart => exact ⟨0, by omega, rfl, rfl, hr0⟩
  case round =>
    obtain ⟨k, hk, rfl, rfl, hbr⟩ := hrel
    by_cases hlt : k < 64
    · have hc := HC.out wr hbr k hlt
      by_cases hst : isStart s k = true
      · have hbit : s.testBit k = true := by unfold isStart at hst; simp at hst; exact hst.1
        have HS : Hid (tx (upto s (k + 1)) = if tx (upto s k) = [] then part (k, lst s k) else tx (upto s k) ++ 32 :: part (k, lst s k)) := by
          show _ = _
          rw [upto_yes hst, tx_snoc]
          by_cases e : upto s k = []
          · rw [if_pos e, if_pos (tx_nil.2 e)]
          · rw [if_neg e, if_neg (fun h => e (tx_nil.1 h))]
        have hge : k ≤ lst s k := last_ge s 64 k
        have hll := lst_lt hs hlt
        have HA : Hid (∀ j, k < j → j ≤ lst s k → s.testBit j = true) := by show _; exact last_all s 64 k
        have HX : Hid (s.testBit (lst s k + 1) = false) := last_end hs 64 k (by omega)
        have hTl : (tx (upto s k)).length ≤ 384 := by have h1 := tx_len (upto s k); have h2 := upto_le (s := s) hk; omega
        have hpre : k = 0 ∨ ∃ j, k = j + 1 ∧ s.testBit j = false := by
          unfold isStart at hst
          simp at hst
          rcases hst.2 with h | h
          · exact .inl h
          · rcases Nat.eq_zero_or_pos k with h0 | h0
            · exact .inl h0
            · exact .inr ⟨k - 1, by omega, h⟩
        rw [hbit] at hc
        clear hst hbit
        generalize lst s k = L at *
        generalize tx (upto s k) = T at *
        have hsw : w.heap.size + 1 ≤ wr.heap.size := by have := hbr.size; omega
        have hpre2 : (k : Int) ≤ 0 ∨ ((0 : Int) < k ∧ wr.cell? ⟨w.heap.size, k - 1, none⟩ = some (.bool false)) := by
          rcases hpre with rfl | ⟨j, rfl, hj⟩
          · exact .inl (by omega)
          · refine .inr ⟨by omega, ?_⟩
            have := HC.out wr hbr j (by omega)
            rw [hj] at this
            exact this
        clear hpre
        have hd1 : (str (dig k)).size ≤ 2 := dig_le _
        have hd2 : (str (dig L)).size ≤ 2 := dig_le _
        rcases hpre2 with h0 | ⟨h0, hcp⟩
        all_goals
          go_wp2_with (fail)
          obtain ⟨wo, rfl⟩ : ∃ wo : World, wo = wr := ⟨_, rfl⟩
          go_loop [5] (fun x => ∃ l : Nat, k ≤ l ∧ l ≤ L ∧ x = .int .i64 l) (fun x => L - (intOf x).toNat)
          case atStart => exact ⟨k, Nat.le_refl _, hge, rfl⟩
          case round =>
            obtain ⟨l, hl1, hl2, rfl⟩ := hrel
            by_cases hlL : l < L
            · have hcl := HC.out wo hbr (l + 1) (by omega)
              rw [HA.out (l + 1) (by omega) (by omega)] at hcl
              have hl63 : (l : Int) < 63 := by omega
              go_wp2
              go_round
              case rel => exact ⟨l + 1, by omega, by omega, by go_num⟩
              case measure => simp [intOf]; omega
            · obtain rfl : l = L := by omega
              have hend : (63 : Int) ≤ l ∨ ((l : Int) < 63 ∧ wo.cell? ⟨w.heap.size, l + 1, none⟩ = some (.bool false)) := by
                by_cases h63 : l < 63
                · refine .inr ⟨by omega, ?_⟩
                  have := HC.out wo hbr (l + 1) (by omega)
                  rw [HX.out] at this
                  exact this
                · exact .inl (by omega)
              rcases hend with hend | ⟨hend, hcl⟩
              all_goals
                by_cases hT : T = []
                · subst hT
                  have he : (str []).toList.isEmpty = true := by rw [str_toList]; rfl
                  have HS2 : Hid (tx (upto s (k + 1)) = part (k, l)) := by show _ = _; rw [HS.out, if_pos rfl]
                  have ka1 : str [] ++ str (dig k) = str (dig k) := by rw [str_app]; rfl
                  have hz : (str ([] : List UInt8)).size ≤ 0 := Nat.le_refl _
                  clear HS
                  go_wp2_with (fail)
                  refine (digits_any k hlt _).mono ?_
                  rintro e w2 ⟨rfl, hb2⟩
                  have hb2' := hbr.trans (hb2.mono hsw)
                  by_cases hkl : k = l
                  · have hlk : decide (k < l) = false := by rw [decide_eq_false_iff_not]; omega
                    have HS3 : Hid (tx (upto s (k + 1)) = dig k) := by show _ = _; rw [HS2.out, ← hkl]; simp [part]
                    clear hkl HS2
                    go_wp2
                    go_roundw
                    case rel => exact ⟨k + 1, by omega, by go_num, by rw [HS3.out], hb2'⟩
                    case measure => simp [intOf]; omega
                  · have hlk : decide (k < l) = true := by rw [decide_eq_true_eq]; omega
                    have HS3 : Hid (tx (upto s (k + 1)) = dig k ++ 45 :: dig l) := by show _ = _; rw [HS2.out]; simp [part, hkl]
                    have ka2 : ({ data := #[45] } : ByteArray) ++ str (dig l) = str (45 :: dig l) := by show str [45] ++ str (dig l) = _; rw [str_app]; rfl
                    have ka3 : str (dig k) ++ str (45 :: dig l) = str (dig k ++ 45 :: dig l) := str_app _ _
                    have hd3 : (str (45 :: dig l)).size ≤ 3 := by rw [str_size, List.length_cons]; have := dig_le l; omega
                    clear hkl HS2
                    have hsw2 : w.heap.size + 1 ≤ w2.heap.size := Nat.le_trans hsw hb2.size
                    go_wp2_with (fail)
                    refine (digits_any l hll _).mono ?_
                    rintro e w3 ⟨rfl, hb3⟩
                    have hb3' := hb2'.trans (hb3.mono hsw2)
                    go_wp2
                    go_roundw
                    case rel => exact ⟨k + 1, by omega, by go_num, by rw [HS3.out], hb3'⟩
                    case measure => simp [intOf]; omega
                · have he : (str T).toList.isEmpty = false := by rw [str_toList]; simpa using hT
                  have HS2 : Hid (tx (upto s (k + 1)) = T ++ 32 :: part (k, l)) := by show _ = _; rw [HS.out, if_neg hT]
                  have ka0 : str T ++ ({ data := #[32] } : ByteArray) = str (T ++ [32]) := by show str T ++ str [32] = _; rw [str_app]
                  have ka1 : str (T ++ [32]) ++ str (dig k) = str (T ++ 32 :: dig k) := by rw [str_app]; simp
                  have hs0 : (str T).size ≤ 384 := hTl
                  have hs1 : (str (T ++ [32])).size ≤ 385 := by rw [str_size]; simp; omega
                  have hs2 : (str (T ++ 32 :: dig k)).size ≤ 387 := by rw [str_size]; have := dig_le k; simp; omega
                  clear HS hT
                  go_wp2_with (fail)
                  refine (digits_any k hlt _).mono ?_
                  rintro e w2 ⟨rfl, hb2⟩
                  have hb2' := hbr.trans (hb2.mono hsw)
                  by_cases hkl : k = l
                  · have hlk : decide (k < l) = false := by rw [decide_eq_false_iff_not]; omega
                    have HS3 : Hid (tx (upto s (k + 1)) = T ++ 32 :: dig k) := by show _ = _; rw [HS2.out, ← hkl]; simp [part]
                    clear hkl HS2
                    go_wp2
                    go_roundw
                    case rel => exact ⟨k + 1, by omega, by go_num, by rw [HS3.out], hb2'⟩
                    case measure => simp [intOf]; omega
                  · have hlk : decide (k < l) = true := by rw [decide_eq_true_eq]; omega
                    have HS3 : Hid (tx (upto s (k + 1)) = T ++ 32 :: (dig k ++ 45 :: dig l)) := by show _ = _; rw [HS2.out]; simp [part, hkl]
                    have ka2 : ({ data := #[45] } : ByteArray) ++ str (dig l) = str (45 :: dig l) := by show str [45] ++ str (dig l) = _; rw [str_app]; rfl
                    have ka3 : str (T ++ 32 :: dig k) ++ str (45 :: dig l) = str (T ++ 32 :: (dig k ++ 45 :: dig l)) := by rw [str_app]; simp
                    have hd3 : (str (45 :: dig l)).size ≤ 3 := by rw [str_size, List.length_cons]; have := dig_le l; omega
                    clear hkl HS2
                    have hsw2 : w.heap.size + 1 ≤ w2.heap.size := Nat.le_trans hsw hb2.size
                    go_wp2_with (fail)
                    refine (digits_any l hll _).mono ?_
                    rintro e w3 ⟨rfl, hb3⟩
                    have hb3' := hb2'.trans (hb3.mono hsw2)
                    go_wp2
                    go_roundw
                    case rel => exact ⟨k + 1, by omega, by go_num, by rw [HS3.out], hb3'⟩
                    case measure => simp [intOf]; omega
      · have hst' : isStart s k = false := by simpa using hst
        have HS : Hid (tx (upto s (k + 1)) = tx (upto s k)) := by show _ = _; rw [upto_no hst']
        have hcase : s.testBit k = false ∨ (s.testBit k = true ∧ ∃ j, k = j + 1 ∧ s.testBit j = true) := by
          unfold isStart at hst'
          cases e : s.testBit k with
          | false => exact .inl rfl
          | true =>
            rw [e] at hst'
            simp at hst'
            exact .inr ⟨rfl, k - 1, by omega, hst'.2⟩
        clear hst hst'
        generalize tx (upto s k) = T at *
        rcases hcase with h0 | ⟨h1, j, rfl, h2⟩
        · rw [h0] at hc
          clear h0
          go_wp2
          go_roundw
          case rel => exact ⟨k + 1, by omega, by go_num, by rw [HS.out], hbr⟩
          case measure => simp [intOf]; omega
        · rw [h1] at hc
          have hc2 := HC.out wr hbr j (by omega)
          rw [h2] at hc2
          clear h1 h2
          go_wp2
          go_roundw
          case rel => exact ⟨j + 1 + 1, by omega, by go_num, by rw [HS.out], hbr⟩
          case measure => simp [intOf]; omega
    · obtain rfl : k = 64 := by omega
      go_wp2
      go_ret
      exact ⟨rfl, hb.trans (hbr.mono (Nat.le_succ _))⟩
end Go.Proofs.YtogaaomedfpdnaaDoor.S
