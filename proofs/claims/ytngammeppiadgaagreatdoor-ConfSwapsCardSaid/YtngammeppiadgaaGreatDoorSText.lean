/-
  WHAT IS PROVED: the contract of a set's text. Condition: none.
-/
import Derived.Test.YtngammeppiadgaaGreatDoorSList
import Derived.Test.YtngammeppiadgaaGreatDoorShelf
import Derived.Lib.Join
import Derived.Lib.ItoaNum
namespace Go.Proofs.YtngammeppiadgaaGreatDoor.S
open Go.RowKit

theorem dec_dig {n : Nat} (h : n < 100) : Lib.decDigits n = dig n := by
  unfold Lib.decDigits dig
  by_cases h1 : n < 10
  · simp [h1]
  · rw [dif_neg h1, if_neg h1]
    unfold Lib.decDigits
    rw [dif_pos (by omega)]
    rfl
theorem itoa_any (n : Nat) (h : n < 64) (w : World) : Calls Tryz.prog 37 #[.int .i64 (n : Int)] w fun e w' => e = .returned (.string (str (dig n))) ∧ w = w' :=
  (Tryz.strconv_Itoa_small n (by omega) w).mono fun _ _ ⟨he, hw⟩ => ⟨by rw [he, dec_dig (by omega)]; rfl, hw.symm⟩
theorem str_app (a b : List UInt8) : str a ++ str b = str (a ++ b) := by
  apply ByteArray.ext
  simp [str]

set_option maxRecDepth 100000 in
theorem part_any (a b : Nat) (ha : a < 64) (hb : b < 64) (w : World) : Calls Tryz.prog 57 #[.int .i64 (a : Int), .int .i64 (b : Int)] w fun e w' => e = .returned (.string (str (part (a, b)))) ∧ w = w' := by
  by_cases h : a = b
  · subst h
    have HP : Hid (part (a, a) = dig a) := by show _ = _; simp [part]
    go_enter Tryz.func57, Tryz.ntmps57
    go_wp2_with (go_at_call 37; refine (itoa_any a ha _).mono ?_; rintro e w' ⟨rfl, rfl⟩)
    go_ret
    exact ⟨by rw [HP.out]; rfl, rfl⟩
  · have HP : Hid (part (a, b) = dig a ++ 45 :: dig b) := by show _ = _; simp [part, h]
    have hn : ((a : Int) == (b : Int)) = false := by simpa using (by omega : (a : Int) ≠ b)
    have s1 : (str (dig a)).size ≤ 2 := dig_le a
    have s2 : (str (dig b)).size ≤ 2 := dig_le b
    clear h
    go_enter Tryz.func57, Tryz.ntmps57
    go_wp2_with (fail)
    refine (itoa_any a ha _).mono ?_
    rintro e w' ⟨rfl, rfl⟩
    go_wp2_with (fail)
    refine (itoa_any b hb _).mono ?_
    rintro e w' ⟨rfl, rfl⟩
    go_wp2
    go_ret
    refine ⟨?_, rfl⟩
    rw [HP.out]
    show Ending.returned (.string (str (dig a) ++ str [45] ++ str (dig b))) = _
    rw [str_app, str_app]; simp

def strs (L : List (Nat × Nat)) : List Value := L.map fun p => Value.string (str (part p))
theorem strs_append (L M : List (Nat × Nat)) : strs (L ++ M) = strs L ++ strs M := by simp [strs]
theorem str_info : (Tryz.prog.info? 9).map (fun i => (i.zero, i.size, i.bytes)) = some (some (.string ⟨#[]⟩), 1, 16) := by kernel_rfl
theorem join_tx (L : List (Nat × Nat)) : Lib.join (L.map part) [32] = tx L := by
  cases L with
  | nil => rfl
  | cons p r =>
    rw [List.map_cons, Lib.join_cons, tx, tx', Lib.joinTail]
    congr 1
    simp [List.flatMap, List.map_map, Function.comp_def]
theorem upto_le {s n : Nat} (hn : n ≤ 64) : (upto s n).length ≤ 64 := by
  unfold upto
  have := List.length_filter_le (isStart s) (List.range n)
  simp at this ⊢; omega

theorem add_mk (b j : Nat) : (⟨b, 0, none⟩ : Addr).add j = ⟨b, j, none⟩ := by
  unfold Addr.add
  by_cases h : j = 0 <;> simp [h]
/-- Join of the parts, however many -/
theorem join_any (L : List (Nat × Nat)) (base : Nat) (v : Value) (w : World) (h : w.ownsRow base 9 1 v L.length (strs L)) (hL : L.length ≤ 64) :
    Calls Tryz.prog 23 #[v, .string ⟨#[32]⟩] w fun e w' => e = .returned (.string (str (tx L))) ∧ Below w.heap.size w w' := by
  rcases h.2 with ⟨rfl, hn⟩ | ⟨b, cap, cur, rfl, hb, hh, hnc, hcm, _⟩
  · have : L = [] := by simpa [strs] using hn
    subst this
    exact (Tryz.strings_Join_none none 0 _ w).mono fun _ _ ⟨he, hw⟩ => ⟨he, hw ▸ Below.refl _ _⟩
  · have hlt : b < w.heap.size := by
      rcases Nat.lt_or_ge b w.heap.size with hlt | hge
      · exact hlt
      · rw [Array.getElem?_eq_none hge] at hh; cases hh
    have hj : Lib.join ((L.map fun p => str (part p)).map (·.data.toList)) (⟨#[32]⟩ : ByteArray).data.toList = tx L := by
      rw [← join_tx, List.map_map]; rfl
    have hl : (L.map fun p => str (part p)).length = L.length := by simp
    have key := Tryz.strings_Join b 0 cap (L.map fun p => str (part p)) ⟨#[32]⟩ w (fun j x hx => by
      have := h.cells rfl j (.string x) (by unfold strs; rw [List.getElem?_map] at hx ⊢; cases e : L[j]? <;> simp_all)
      rw [add_mk] at this
      rw [Nat.zero_add]; exact this) hlt (by omega) (by omega) (by rw [hj]; have := tx_len L; omega)
    rw [hj, hl] at key
    exact key

theorem start_no {s k : Nat} (h : s.testBit k = false) : isStart s k = false := by simp [isStart, h]
theorem start_yes {s k : Nat} (h : s.testBit k = true) (hp : k = 0 ∨ s.testBit k = false ∨ s.testBit (k - 1) = false) : isStart s k = true := by
  rcases hp with rfl | hp | hp
  · simp [isStart, h]
  · rw [h] at hp; cases hp
  · simp [isStart, h, hp]

set_option maxRecDepth 100000 in
set_option maxHeartbeats 2000000 in
theorem text_any (s : Nat) (hs : s < 18446744073709551616) (w : World) : Calls Tryz.prog 38 #[.int .u64 (s : Int)] w fun e w' => e = .returned (.string (str (txt s))) ∧ Below w.heap.size w w' := by
  obtain ⟨i0, hi0, hz0, hz1, hz2⟩ := info_parts str_info
  have HI : Hid (Tryz.prog.info? 9 = some i0) := hi0
  have HZ0 := Lib.hid hz0
  have HZ1 := Lib.hid hz1
  have HZ2 := Lib.hid hz2
  clear hi0 hz0 hz1 hz2
  go_enter Tryz.func38, Tryz.ntmps38
  go_wp2
  go_loopw [3, 4] (fun va i wr => ∃ k : Nat, k ≤ 64 ∧ i = .int .i64 k ∧ Below w.heap.size w wr ∧ wr.ownsRow w.heap.size 9 1 va (upto s k).length (strs (upto s k)) ∧ (k = 0 ∨ s.testBit k = false ∨ s.testBit (k - 1) = false)) (fun _ i _ => 64 - (intOf i).toNat)
  case atStart => exact ⟨0, by omega, rfl, Below.refl _ _, ⟨rfl, .inl ⟨rfl, rfl⟩⟩, .inl rfl⟩
  case round =>
    obtain ⟨k, hk, rfl, hb, hown, hp⟩ := hrel
    have hle := upto_le (s := s) hk
    by_cases hlt : k < 64
    · have HH := Lib.hid (has_at (s := s) hlt)
      by_cases hbit : s.testBit k = true
      · have hst := start_yes hbit hp
        have HS := Lib.hid (upto_run hs hst)
        have HB := Lib.hid hbit
        have hge : k ≤ lst s k := last_ge s 64 k
        have hll := lst_lt hs hlt
        have HE := Lib.hid (last_end hs 64 k (by omega))
        have HA : Hid (∀ j, k < j → j ≤ lst s k → s.testBit j = true) := by show _; exact last_all s 64 k
        have HX : Hid (s.testBit (lst s k + 1) = false) := HE.out
        clear hbit hp hst HE
        have hbs := hb.size
        generalize upto s k = F at *
        generalize lst s k = L at *
        go_wp2_with (fail)
        refine (has_any s hs (k : Int) _).mono ?_
        rintro e w2 ⟨rfl, rfl⟩
        rw [HH.out, HB.out]
        go_wp2_with (fail)
        obtain ⟨wo, rfl⟩ : ∃ wo : World, wo = wr := ⟨_, rfl⟩
        go_loop [5] (fun j => ∃ l : Nat, k ≤ l ∧ l ≤ L ∧ j = .int .i64 l) (fun j => L - (intOf j).toNat)
        case atStart => exact ⟨k, by omega, by omega, rfl⟩
        case round =>
          obtain ⟨l, hl1, hl2, rfl⟩ := hrel
          by_cases hll2 : l < L
          · have HY : Hid (hasB s ((l : Int) + 1) = true) := by
              show _ = _
              have := has_at (s := s) (i := l + 1) (by omega)
              rw [HA.out (l + 1) (by omega) (by omega)] at this
              exact this
            go_wp2_with (fail)
            refine (has_any s hs ((l : Int) + 1) _).mono ?_
            rintro e w2 ⟨rfl, rfl⟩
            rw [HY.out]
            go_wp2
            go_round
            case rel => exact ⟨l + 1, by omega, by omega, by go_num⟩
            case measure => simp [intOf]; omega
          · obtain rfl : l = L := by omega
            have HY : Hid (hasB s ((l : Int) + 1) = false) := by
              show _ = _
              by_cases h64 : l + 1 < 64
              · have := has_at (s := s) (i := l + 1) h64
                rw [HX.out] at this
                exact this
              · exact has_out (.inr (by omega))
            go_wp2_with (fail)
            refine (has_any s hs ((l : Int) + 1) _).mono ?_
            rintro e w2 ⟨rfl, rfl⟩
            rw [HY.out]
            go_wp2_with (fail)
            refine (part_any k l (by omega) (by omega) _).mono ?_
            rintro e w2 ⟨rfl, rfl⟩
            go_wp2_with (at_builtin; refine wpList_append_own _ rfl _ _ 47 rfl w.heap.size 9 i0 (.string ⟨#[]⟩) 1 16 Tryz.underlying47 HI.out HZ0.out HZ1.out HZ2.out rfl (by decide) _ _ _ rfl (hown.alloc _) ⟨wo.heap.size, 0, none⟩ 1 1 [.string (str (part (k, l)))] rfl rfl (cell_one_new _ _ _) (by simp [Value.oneCell']) (by unfold maxLen; omega) (by omega) (by simp; omega) ?_; intro v' w3 hown' hg3 _)
            have hb3 : Below w.heap.size w w3 := (hb.alloc hbs _).grown hg3 (by simp; omega) (fun g e => (hown.lt g e).1)
            go_wp2
            go_roundw
            case rel => exact ⟨l + 1, by omega, by go_num, hb3, by rw [HS.out, strs_append]; simpa [strs] using hown', .inr (.inl HX.out)⟩
            case measure => simp [intOf]; omega
      · have hbit' : s.testBit k = false := by simpa using hbit
        have HS := Lib.hid (upto_no (start_no hbit'))
        have HB := Lib.hid hbit'
        clear hbit hbit' hp
        generalize upto s k = F at *
        go_wp2_with (fail)
        refine (has_any s hs (k : Int) _).mono ?_
        rintro e w2 ⟨rfl, rfl⟩
        rw [HH.out, HB.out]
        go_wp2
        go_roundw
        case rel => exact ⟨k + 1, by omega, by go_num, hb, by rw [HS.out]; exact hown, .inr (.inr HB.out)⟩
        case measure => simp [intOf]; omega
    · obtain rfl : k = 64 := by omega
      have HT : Hid (txt s = tx (upto s 64)) := rfl
      clear hp
      generalize upto s 64 = F at *
      go_wp2_with (fail)
      refine (join_any F _ _ _ hown hle).mono ?_
      rintro e w2 ⟨rfl, hb2⟩
      go_wp2
      go_ret
      exact ⟨by rw [HT.out]; rfl, hb.trans (hb2.mono hb.size)⟩
end Go.Proofs.YtngammeppiadgaaGreatDoor.S
