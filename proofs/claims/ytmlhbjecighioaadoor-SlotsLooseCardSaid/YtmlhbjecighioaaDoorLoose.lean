/-
  WHAT IS PROVED: the walk of the law SlotsLoose. Condition: strconv's errors hold errors.
-/
import Derived.Test.YtmlhbjecighioaaDoorLaid
import Derived.Test.YtmlhbjecighioaaDoorLoosePlain
namespace Go.Proofs.YtmlhbjecighioaaDoor
open Go.RowKit

theorem blank_app (a : List UInt8) : ({ data := #[32] } : ByteArray) ++ str a = str (32 :: a) := by
  show str [32] ++ str a = _
  rw [str_app]; rfl
theorem app_blank (a : List UInt8) : str a ++ ({ data := #[32] } : ByteArray) = str (a ++ [32]) := by
  show str a ++ str [32] = _
  rw [str_app]
theorem app_blanks (a : List UInt8) : str a ++ ({ data := #[32, 32] } : ByteArray) = str (a ++ [32, 32]) := by
  show str a ++ str [32, 32] = _
  rw [str_app]

set_option maxRecDepth 100000 in
set_option maxHeartbeats 4000000 in
theorem loose_walk (s t : Nat) (hs : s < 18446744073709551616) (ht : t < 18446744073709551616) (w : World) (hE : Errs w) :
    Calls Tryd.prog 9 #[.int .u64 (s : Int), .int .u64 (t : Int)] w (Says true w) := by
  have la := txt_len hs
  have lb := txt_len ht
  have HT : Hid (∀ W, Calls Tryd.prog 16 #[.int .u64 (s : Int)] W fun e w' => e = .returned (.string (str (txt s))) ∧ Below W.heap.size W w') := fun W => text_any s hs W
  have HT2 : Hid (∀ W, Calls Tryd.prog 16 #[.int .u64 (t : Int)] W fun e w' => e = .returned (.string (str (txt t))) ∧ Below W.heap.size W w') := fun W => text_any t ht W
  have HL : Hid (∀ W, Calls Tryd.prog 14 #[.int .u64 (s : Int)] W (Listed (slotsTo s 64) W)) := fun W => list_any s hs W
  have HL2 : Hid (∀ W, Calls Tryd.prog 14 #[.int .u64 (t : Int)] W (Listed (slotsTo t 64) W)) := fun W => list_any t ht W
  have HF : Hid (∀ x y, (s.testBit x = true ∧ ∀ i, s.testBit i = true → i ≤ x) → (t.testBit y = true ∧ ∀ i, t.testBit i = true → y ≤ i) → parseP (txt s ++ 32 :: txt t) = if x + 1 < y then (s ||| t, 0) else (0, 60)) := fun x y => two_order hs ht
  have HX : Hid (∀ x c, (slotsTo s 64).length = c + 1 → (slotsTo s 64)[c]? = some x → s.testBit x = true ∧ ∀ i, s.testBit i = true → i ≤ x) := fun x c => slots_last hs
  have HY : Hid (∀ y, (slotsTo t 64)[0]? = some y → t.testBit y = true ∧ ∀ i, t.testBit i = true → y ≤ i) := fun y => slots_first ht
  have HO := Lib.hid (u64_or_nat s t hs ht)
  generalize txt s = a at *
  generalize txt t = b at *
  have k1 := blank_app a
  have k2 := app_blank a
  have k3 := app_blanks a
  have k4 := str_app (a ++ [32, 32]) b
  have k5 := str_app (a ++ [32]) b
  have s1 : (str a).size ≤ 192 := la
  have s2 : (str b).size ≤ 192 := lb
  have s3 : (str (a ++ [32, 32])).size ≤ 194 := by rw [str_size]; simp; omega
  have s4 : (str (a ++ [32])).size ≤ 193 := by rw [str_size]; simp; omega
  go_enter Tryd.func9, Tryd.ntmps9
  go_wp2_with (fail)
  refine (anchor_any w hE).mono ?_
  rintro e w1 ⟨rfl, hb1⟩
  go_wp2_with (fail)
  refine (HT.out w1).mono ?_
  rintro e w2 ⟨rfl, hb2⟩
  have hb2' := hb1.trans (hb2.mono hb1.size)
  clear hb1 hb2
  go_wp2_with (fail)
  refine (HT2.out w2).mono ?_
  rintro e w3 ⟨rfl, hb3⟩
  have hb3' := hb2'.trans (hb3.mono hb2'.size)
  clear hb2' hb3
  go_wp2_with (fail)
  have hB : Blk (w3.alloc (.cells #[.string (str (32 :: a)), .string (str (a ++ [32])), .string (str (a ++ 32 :: 32 :: b))] 9)) w3.heap.size 9 #[.string (str (32 :: a)), .string (str (a ++ [32])), .string (str (a ++ 32 :: 32 :: b))] := Blk.new _ _ _
  have hb4 := hb3'.trans ((Below.refl w3.heap.size w3).alloc (Nat.le_refl _) (.cells #[.string (str (32 :: a)), .string (str (a ++ [32])), .string (str (a ++ 32 :: 32 :: b))] 9) |>.mono hb3'.size)
  have hx3 : ∀ k, k < 3 → ∃ x : List UInt8, (#[.string (str (32 :: a)), .string (str (a ++ [32])), .string (str (a ++ 32 :: 32 :: b))] : Array Value)[k]? = some (.string (str x)) ∧ parseP x = (0, 60) ∧ x.length ≤ 1000 := by
    intro k hk
    match k, hk with
    | 0, _ => exact ⟨_, rfl, parse_ahead a, by simp; omega⟩
    | 1, _ => exact ⟨_, rfl, parse_behind a, by simp; omega⟩
    | 2, _ => exact ⟨_, rfl, parse_twice a b, by simp; omega⟩
  have HX3 := Lib.hid hx3
  clear hx3 hb3'
  generalize (#[.string (str (32 :: a)), .string (str (a ++ [32])), .string (str (a ++ 32 :: 32 :: b))] : Array Value) = X at *
  generalize w3.heap.size = g at *
  go_loopw [31] (fun i wr => ∃ k : Nat, k ≤ 3 ∧ i = .int .i64 k ∧ Below w.heap.size w wr ∧ Blk wr g 9 X) (fun i _ => 3 - (intOf i).toNat)
  case atStart => exact ⟨0, by omega, rfl, hb4, hB⟩
  case round =>
    obtain ⟨k, hk, rfl, hb, hB⟩ := hrel
    by_cases hlt : k < 3
    · obtain ⟨x, hx, hp, hxl⟩ := HX3.out k hlt
      have hcell : wr.cell? ⟨g, k, none⟩ = some (.string (str x)) := (hB.cell k).trans hx
      have HP := Lib.hid hp
      clear hx hp
      go_wp2_with (fail)
      refine (parse_any x (by omega) _ (hE.below hb)).mono ?_
      rintro e w5 ⟨rfl, hb5⟩
      rw [HP.out]
      have hbg := hB.lt
      have hB5 := hB.below hb5 hbg
      have hb5' := hb.trans (hb5.mono hb.size)
      clear hb5 hB hb
      go_wp2
      go_roundw
      case rel => exact ⟨k + 1, by omega, by go_num, hb5', hB5⟩
      case measure => simp [intOf]; omega
    · obtain rfl : k = 3 := by omega
      clear hB HX3
      generalize slotsTo s 64 = F at *
      generalize slotsTo t 64 = G at *
      go_wp2_with (fail)
      refine (HL.out wr).mono ?_
      rintro e w5 ⟨hb5, A, c, rfl, hc1, hc2, hr⟩
      have hb5' := hb.trans (hb5.mono hb.size)
      clear hb hb5
      go_wp2_with (fail)
      refine (HL2.out w5).mono ?_
      rintro e w6 ⟨hb6, A2, c2, rfl, hd1, hd2, hr2⟩
      have hb6' := hb5'.trans (hb6.mono hb5'.size)
      have hrF := (hr w5.heap.size (.inl (Nat.le_refl _))).below hb6
      have hrG := hr2 w6.heap.size (.inl (Nat.le_refl _))
      clear hr hr2 hb5' hb6
      by_cases hF : F.length = 0
      · rw [hF]
        go_wp2
        go_ret
        exact ⟨rfl, hb6'⟩
      · by_cases hG : G.length = 0
        · have hF0 : ((F.length : Int) == 0) = false := by rw [beq_eq_false_iff_ne]; omega
          rw [hG]
          clear hF
          go_wp2
          go_ret
          exact ⟨rfl, hb6'⟩
        · obtain ⟨f, hf⟩ : ∃ f, F.length = f + 1 := ⟨F.length - 1, by omega⟩
          obtain ⟨q, hq⟩ : ∃ q, G.length = q + 1 := ⟨G.length - 1, by omega⟩
          obtain ⟨ad, u, rfl, hu, hcF⟩ := hrF.at_ (k := f) (by omega)
          obtain ⟨ad2, u2, rfl, hu2, hcG⟩ := hrG.at_ (k := 0) (by omega)
          obtain ⟨x, hx, rfl⟩ : ∃ x, F[f]? = some x ∧ u = .int .i64 (x : Nat) := by
            unfold ints at hu; rw [List.getElem?_map] at hu
            cases e : F[f]? with
            | none => rw [e] at hu; cases hu
            | some c => rw [e] at hu; injection hu with hu; exact ⟨c, rfl, hu.symm⟩
          obtain ⟨y, hy, rfl⟩ : ∃ y, G[0]? = some y ∧ u2 = .int .i64 (y : Nat) := by
            unfold ints at hu2; rw [List.getElem?_map] at hu2
            cases e : G[0]? with
            | none => rw [e] at hu2; cases hu2
            | some c => rw [e] at hu2; injection hu2 with hu2; exact ⟨c, rfl, hu2.symm⟩
          have hxs := HX.out x f hf hx
          have hys := HY.out y hy
          have hxl := bit_lt hs hxs.1
          have hyl := bit_lt ht hys.1
          have HP := Lib.hid (HF.out x y hxs hys)
          have ea : ad2.add 0 = ad2 := by unfold Addr.add; rfl
          rw [ea] at hcG
          rw [hf] at hc1 ⊢
          rw [hq] at hd1 ⊢
          have q1 : ((f : Int) + 1 == 0) = false := by rw [beq_eq_false_iff_ne]; omega
          have q2 : ((q : Int) + 1 == 0) = false := by rw [beq_eq_false_iff_ne]; omega
          clear hF hG hx hy hu hu2 hxs hys ea hrF hrG HX HY HF hf hq HL HL2
          have hE6 := hE.below hb6'
          by_cases hxy : x + 1 < y
          · have HP2 : Hid (parseP (a ++ 32 :: b) = (s ||| t, 0)) := by show _ = _; rw [HP.out, if_pos hxy]
            clear HP
            go_wp2_with (fail)
            refine (parse_any (a ++ 32 :: b) (by simp; omega) _ hE6).mono ?_
            rintro e w7 ⟨rfl, hb7⟩
            rw [HP2.out]
            have hc7 := (hb7.cell (lt_of_cell hcF)).trans hcF
            have hd7 := (hb7.cell (lt_of_cell hcG)).trans hcG
            have hb7' := hb6'.trans (hb7.mono hb6'.size)
            clear hb7 hcF hcG
            have hxy' : decide ((x : Int) + 1 < (y : Int)) = true := by rw [decide_eq_true_eq]; omega
            clear hxy
            go_wp2
            go_quiet (fail)
            go_wp2
            go_ret
            refine ⟨?_, below_drewN hb7' _⟩
            show Ending.returned (.bool (((s ||| t : Nat) : Int) == bits .or .u64 (s : Int) (t : Int))) = _
            rw [HO.out]; simp
          · have HP2 : Hid (parseP (a ++ 32 :: b) = (0, 60)) := by show _ = _; rw [HP.out, if_neg hxy]
            clear HP
            go_wp2_with (fail)
            refine (parse_any (a ++ 32 :: b) (by simp; omega) _ hE6).mono ?_
            rintro e w7 ⟨rfl, hb7⟩
            rw [HP2.out]
            have hc7 := (hb7.cell (lt_of_cell hcF)).trans hcF
            have hd7 := (hb7.cell (lt_of_cell hcG)).trans hcG
            have hb7' := hb6'.trans (hb7.mono hb6'.size)
            clear hb7 hcF hcG
            have hxy' : decide ((x : Int) + 1 < (y : Int)) = false := by rw [decide_eq_false_iff_not]; omega
            clear hxy
            go_wp2
            go_quiet (fail)
            go_wp2
            go_ret
            exact ⟨rfl, below_drewN hb7' _⟩
end Go.Proofs.YtmlhbjecighioaaDoor
