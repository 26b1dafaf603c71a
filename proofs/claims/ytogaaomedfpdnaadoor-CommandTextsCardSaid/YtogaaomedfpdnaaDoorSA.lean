/-
  WHAT IS PROVED: contracts of the calls that look at one slot. Condition: none.
-/
import Derived.Test.YtogaaomedfpdnaaDoorSA0
import Derived.Test.YtogaaomedfpdnaaDoorCut
import Derived.Lib.AtoiAll
import Derived.Lib.IndexLaws
import Derived.Test.YtogaaomedfpdnaaDoorBytes
import Derived.Deep.QuietTactic
import Derived.BigQuiet
import Derived.IntWalk
import Derived.Laws.BitsAllLaws
import Derived.Laws.BitsLemmas
import Derived.Outline
import Derived.Maps.AppendAt
import Derived.OwnWalk
import Derived.LoopTactic
import Derived.Test.YtogaaomedfpdnaaDoorShelf
import Derived.Lib.Join
import Derived.Lib.ItoaNum
import Derived.Lib.AtoiErrMem
import Derived.RangeFuncNested
import Derived.RangeFuncBound
import Derived.RangeFuncCalls
import Derived.RangeFuncLeaves
import Derived.RangeFuncFrom
import Derived.Shelf.Abstract
import Derived.Shelf.RegionOpen
import Derived.WalkKit
import Derived.OwnWalkIn
import Derived.TacticsInMore
import Derived.LoopNIn
import Derived.LoopIn
namespace Go.Proofs.YtogaaomedfpdnaaDoor.S
open Go.RowKit

def slotB (n : Int) : Bool := decide (0 ≤ n ∧ n < 64)
theorem slotB_yes {n : Int} (h0 : 0 ≤ n) (h : n < 64) : slotB n = true := decide_eq_true ⟨h0, h⟩
theorem slotB_no {n : Int} (h : n < 0 ∨ 64 ≤ n) : slotB n = false := decide_eq_false (by omega)

theorem isslot_any (n : Int) (w : World) : Calls Tryd.prog 49 #[.int .i64 n] w fun e w' => e = .returned (.bool (slotB n)) ∧ w = w' := by
  by_cases h0 : 0 ≤ n
  · by_cases h1 : n < 64
    · have H := Lib.hid (slotB_yes h0 h1)
      go_enter Tryd.func49, Tryd.ntmps49
      go_wp2
      go_ret
      exact ⟨by rw [H.out]; rfl, rfl⟩
    · have H := Lib.hid (slotB_no (n := n) (.inr (by omega)))
      have h2 : 64 ≤ n := by omega
      have h3 : decide (n < 64) = false := by simpa using h2
      go_enter Tryd.func49, Tryd.ntmps49
      go_wp2
      go_ret
      exact ⟨by rw [H.out]; rfl, rfl⟩
  · have H := Lib.hid (slotB_no (n := n) (.inl (by omega)))
    have h2 : n < 0 := by omega
    have h3 : decide (0 ≤ n) = false := by simpa using h2
    go_enter Tryd.func49, Tryd.ntmps49
    go_wp2
    go_ret
    exact ⟨by rw [H.out]; rfl, rfl⟩

theorem span_int (a b : Nat) : bits .and .u64 (IntKind.u64.wrap (18446744073709551615 * 2 ^ a)) (18446744073709551615 / 2 ^ (63 - b)) = ((spanN a b : Nat) : Int) := by
  have e1 : IntKind.u64.wrap (18446744073709551615 * 2 ^ a) = (((18446744073709551615 <<< a) % 18446744073709551616 : Nat) : Int) := by
    rw [IntKind.wrap_u64, Nat.shiftLeft_eq, Int.natCast_emod, Int.natCast_mul, Int.natCast_pow]; rfl
  have e2 : (18446744073709551615 / 2 ^ (63 - b) : Int) = ((18446744073709551615 >>> (63 - b) : Nat) : Int) := by
    rw [Nat.shiftRight_eq_div_pow, Int.natCast_ediv, Int.natCast_pow]; rfl
  have h2 : (18446744073709551615 >>> (63 - b) : Nat) < 18446744073709551616 := by
    rw [Nat.shiftRight_eq_div_pow]
    exact Nat.lt_of_le_of_lt (Nat.div_le_self _ _) (by decide)
  rw [e1, e2, u64_and_nat _ _ (Nat.mod_lt _ (by decide)) h2]; rfl

set_option maxRecDepth 100000 in
theorem span_any (a b : Nat) (ha : a < 64) (hb : b < 64) (w : World) : Calls Tryd.prog 47 #[.int .i64 (a : Int), .int .i64 (b : Int)] w fun e w' => e = .returned (.int .u64 ((spanN a b : Nat) : Int)) ∧ ∃ n, w' = w.drewN n := by
  have h1 : (0 : Int) ≤ a := by omega
  have h2 : (a : Int) < 64 := by omega
  have h3 : (0 : Int) ≤ b := by omega
  have h4 : (b : Int) ≤ 63 := by omega
  have H := Lib.hid (span_int a b)
  go_enter Tryd.func47, Tryd.ntmps47
  go_wp2
  go_quiet (fail)
  go_wp2
  go_ret
  exact ⟨by rw [← H.out]; rfl, _, rfl⟩

/-- whether a set has a slot, as a number may ask -/
def hasB (s : Nat) (n : Int) : Bool := slotB n && s.testBit n.toNat
theorem has_at {s i : Nat} (hi : i < 64) : hasB s (i : Int) = s.testBit i := by
  unfold hasB; rw [slotB_yes (by omega) (by omega)]; simp
theorem has_out {s : Nat} {n : Int} (h : n < 0 ∨ 64 ≤ n) : hasB s n = false := by
  unfold hasB; rw [slotB_no h]; rfl
theorem bit_int {s : Nat} (hs : s < 18446744073709551616) (i : Nat) : bits .and .u64 ((s : Int) / 2 ^ i) 1 = ((if s.testBit i = true then 1 else 0 : Nat) : Int) := by
  have e : ((s : Int) / 2 ^ i) = ((s >>> i : Nat) : Int) := by rw [Nat.shiftRight_eq_div_pow, Int.natCast_ediv, Int.natCast_pow]; rfl
  have h2 : s >>> i < 18446744073709551616 := by rw [Nat.shiftRight_eq_div_pow]; exact Nat.lt_of_le_of_lt (Nat.div_le_self _ _) hs
  rw [e]
  have h := u64_and_nat (s >>> i) 1 h2 (by decide)
  rw [show ((1 : Nat) : Int) = 1 from rfl] at h
  rw [h]
  congr 1
  unfold Nat.testBit
  rw [Nat.and_comm, Nat.one_and_eq_mod_two]
  rcases Nat.mod_two_eq_zero_or_one (s >>> i) with h | h <;> simp [h]

set_option maxRecDepth 100000 in
theorem has_any (s : Nat) (hs : s < 18446744073709551616) (n : Int) (w : World) : Calls Tryd.prog 37 #[.int .u64 (s : Int), .int .i64 n] w fun e w' => e = .returned (.bool (hasB s n)) ∧ w = w' := by
  by_cases h : 0 ≤ n ∧ n < 64
  · obtain ⟨i, rfl⟩ := Int.eq_ofNat_of_zero_le h.1
    have hi : i < 64 := by omega
    have h1 : (0 : Int) ≤ i := by omega
    have h2 : (i : Int) < 64 := by omega
    have HH := Lib.hid (has_at (s := s) hi)
    have HB := Lib.hid (bit_int hs i)
    have HY := Lib.hid (slotB_yes h1 h2)
    clear h
    go_enter Tryd.func37, Tryd.ntmps37
    go_wp2_with (go_at_call 49; refine (isslot_any _ _).mono ?_; rintro e w' ⟨rfl, rfl⟩; rw [HY.out])
    go_ret
    refine ⟨?_, rfl⟩
    rw [HH.out]
    show Ending.returned (.bool (bits .and .u64 ((s : Int) / 2 ^ i) 1 == 1)) = _
    rw [HB.out]
    cases s.testBit i <;> rfl
  · have HH := Lib.hid (has_out (s := s) (show n < 0 ∨ 64 ≤ n by omega))
    have HN := Lib.hid (slotB_no (show n < 0 ∨ 64 ≤ n by omega))
    clear h
    go_enter Tryd.func37, Tryd.ntmps37
    go_wp2_with (go_at_call 49; refine (isslot_any _ _).mono ?_; rintro e w' ⟨rfl, rfl⟩; rw [HN.out])
    go_ret
    exact ⟨by rw [HH.out]; rfl, rfl⟩
end Go.Proofs.YtogaaomedfpdnaaDoor.S

/-
  WHAT IS PROVED: the contract of a set's list: its slots, rising, in memory of its own. Condition: none.
-/
namespace Go.Proofs.YtogaaomedfpdnaaDoor.S
open Go.RowKit

/-- the slots of a set ahead of n, rising -/
def slotsTo (s n : Nat) : List Nat := (List.range n).filter s.testBit
def ints (l : List Nat) : List Value := l.map fun (i : Nat) => Value.int .i64 (i : Int)
theorem slotsTo_yes {s n : Nat} (h : s.testBit n = true) : slotsTo s (n + 1) = slotsTo s n ++ [n] := by
  unfold slotsTo; rw [List.range_succ, List.filter_append]; simp [h]
theorem slotsTo_no {s n : Nat} (h : s.testBit n = false) : slotsTo s (n + 1) = slotsTo s n := by
  unfold slotsTo; rw [List.range_succ, List.filter_append]; simp [h]
theorem slotsTo_le (s n : Nat) : (slotsTo s n).length ≤ n := by
  unfold slotsTo
  have := List.length_filter_le s.testBit (List.range n)
  simpa using this
theorem ints_append (l m : List Nat) : ints (l ++ m) = ints l ++ ints m := by simp [ints]
theorem int_info : (Tryd.prog.info? 3).map (fun i => (i.zero, i.size, i.bytes)) = some (some (.int .i64 0), 1, 8) := by kernel_rfl

theorem own_reads {w : World} {base n : Nat} {e : TypeId} {v : Value} {xs : List Value} (h : w.ownsRow base e 1 v n xs) :
    ∃ A cap, v = .slice A n cap ∧ n ≤ cap ∧ cap ≤ 9223372036854775807 ∧ (∀ g, w.heap.size ≤ g ∨ g < base → Reads w g A n xs) := by
  have hl : xs.length = n := by have := h.1; omega
  rcases h.2 with ⟨rfl, rfl⟩ | ⟨b, cap, cur, rfl, hb, hh, hnc, hcm, _⟩
  · obtain rfl := List.eq_nil_of_length_eq_zero hl
    exact ⟨none, 0, rfl, Nat.le_refl _, by omega, fun g _ => Reads.none_⟩
  · have hlt : b < w.heap.size := by
      rcases Nat.lt_or_ge b w.heap.size with hlt | hge
      · exact hlt
      · rw [Array.getElem?_eq_none hge] at hh; cases hh
    exact ⟨some ⟨b, 0, none⟩, cap, rfl, hnc, by unfold maxLen at hcm; omega, fun g hg => ⟨hl, fun _ => ⟨_, rfl, hlt, by show b ≠ g; omega, h.cells rfl⟩⟩⟩

end Go.Proofs.YtogaaomedfpdnaaDoor.S

/-
  WHAT IS PROVED: the contract of a set's text. Condition: none.
-/
namespace Go.Proofs.YtogaaomedfpdnaaDoor.S
open Go.RowKit

theorem dec_dig {n : Nat} (h : n < 100) : Lib.decDigits n = dig n := by
  unfold Lib.decDigits dig
  by_cases h1 : n < 10
  · simp [h1]
  · rw [dif_neg h1, if_neg h1]
    unfold Lib.decDigits
    rw [dif_pos (by omega)]
    rfl
theorem itoa_any (n : Nat) (h : n < 64) (w : World) : Calls Tryd.prog 31 #[.int .i64 (n : Int)] w fun e w' => e = .returned (.string (str (dig n))) ∧ w = w' :=
  (Tryd.strconv_Itoa_small n (by omega) w).mono fun _ _ ⟨he, hw⟩ => ⟨by rw [he, dec_dig (by omega)]; rfl, hw.symm⟩
set_option maxRecDepth 100000 in
theorem part_any (a b : Nat) (ha : a < 64) (hb : b < 64) (w : World) : Calls Tryd.prog 38 #[.int .i64 (a : Int), .int .i64 (b : Int)] w fun e w' => e = .returned (.string (str (part (a, b)))) ∧ w = w' := by
  by_cases h : a = b
  · subst h
    have HP : Hid (part (a, a) = dig a) := by show _ = _; simp [part]
    go_enter Tryd.func38, Tryd.ntmps38
    go_wp2_with (go_at_call 31; refine (itoa_any a ha _).mono ?_; rintro e w' ⟨rfl, rfl⟩)
    go_ret
    exact ⟨by rw [HP.out]; rfl, rfl⟩
  · have HP : Hid (part (a, b) = dig a ++ 45 :: dig b) := by show _ = _; simp [part, h]
    have hn : ((a : Int) == (b : Int)) = false := by simpa using (by omega : (a : Int) ≠ b)
    have s1 : (str (dig a)).size ≤ 2 := dig_le a
    have s2 : (str (dig b)).size ≤ 2 := dig_le b
    clear h
    go_enter Tryd.func38, Tryd.ntmps38
    go_wp2_with (fail)
    refine (itoa_any a ha _).mono ?_
    rintro e w' ⟨rfl, rfl⟩
    go_wp2_with (fail)
    refine (itoa_any b hb _).mono ?_
    rintro e w' ⟨rfl, rfl⟩
    go_wp2
    go_ret
    refine ⟨?_, rfl⟩
    rw [HP.out]
    show Ending.returned (.string (str (dig a) ++ str [45] ++ str (dig b))) = _
    rw [str_app, str_app]; simp

def strs (L : List (Nat × Nat)) : List Value := L.map fun p => Value.string (str (part p))
theorem strs_append (L M : List (Nat × Nat)) : strs (L ++ M) = strs L ++ strs M := by simp [strs]
theorem str_info : (Tryd.prog.info? 9).map (fun i => (i.zero, i.size, i.bytes)) = some (some (.string ⟨#[]⟩), 1, 16) := by kernel_rfl
theorem join_tx (L : List (Nat × Nat)) : Lib.join (L.map part) [32] = tx L := by
  cases L with
  | nil => rfl
  | cons p r =>
    rw [List.map_cons, Lib.join_cons, tx, tx', Lib.joinTail]
    congr 1
    simp [List.flatMap, List.map_map, Function.comp_def]
/-- Join of the parts, however many -/
theorem join_any (L : List (Nat × Nat)) (base : Nat) (v : Value) (w : World) (h : w.ownsRow base 9 1 v L.length (strs L)) (hL : L.length ≤ 64) :
    Calls Tryd.prog 39 #[v, .string ⟨#[32]⟩] w fun e w' => e = .returned (.string (str (tx L))) ∧ Below w.heap.size w w' := by
  rcases h.2 with ⟨rfl, hn⟩ | ⟨b, cap, cur, rfl, hb, hh, hnc, hcm, _⟩
  · have : L = [] := by simpa [strs] using hn
    subst this
    exact (Tryd.strings_Join_none none 0 _ w).mono fun _ _ ⟨he, hw⟩ => ⟨he, hw ▸ Below.refl _ _⟩
  · have hlt : b < w.heap.size := by
      rcases Nat.lt_or_ge b w.heap.size with hlt | hge
      · exact hlt
      · rw [Array.getElem?_eq_none hge] at hh; cases hh
    have hj : Lib.join ((L.map fun p => str (part p)).map (·.data.toList)) (⟨#[32]⟩ : ByteArray).data.toList = tx L := by
      rw [← join_tx, List.map_map]; rfl
    have hl : (L.map fun p => str (part p)).length = L.length := by simp
    have key := Tryd.strings_Join b 0 cap (L.map fun p => str (part p)) ⟨#[32]⟩ w (fun j x hx => by
      have := h.cells rfl j (.string x) (by unfold strs; rw [List.getElem?_map] at hx ⊢; cases e : L[j]? <;> simp_all)
      rw [add_mk] at this
      rw [Nat.zero_add]; exact this) hlt (by omega) (by omega) (by rw [hj]; have := tx_len L; omega)
    rw [hj, hl] at key
    exact key

set_option maxRecDepth 100000 in
set_option maxHeartbeats 2000000 in
theorem text_any (s : Nat) (hs : s < 18446744073709551616) (w : World) : Calls Tryd.prog 32 #[.int .u64 (s : Int)] w fun e w' => e = .returned (.string (str (txt s))) ∧ Below w.heap.size w w' := by
  obtain ⟨i0, hi0, hz0, hz1, hz2⟩ := info_parts str_info
  have HI : Hid (Tryd.prog.info? 9 = some i0) := hi0
  have HZ0 := Lib.hid hz0
  have HZ1 := Lib.hid hz1
  have HZ2 := Lib.hid hz2
  clear hi0 hz0 hz1 hz2
  go_enter Tryd.func32, Tryd.ntmps32
  go_wp2
  go_loopw [3, 4] (fun va i wr => ∃ k : Nat, k ≤ 64 ∧ i = .int .i64 k ∧ Below w.heap.size w wr ∧ wr.ownsRow w.heap.size 9 1 va (upto s k).length (strs (upto s k)) ∧ (k = 0 ∨ s.testBit k = false ∨ s.testBit (k - 1) = false)) (fun _ i _ => 64 - (intOf i).toNat)
  case atStart => exact ⟨0, by omega, rfl, Below.refl _ _, ⟨rfl, .inl ⟨rfl, rfl⟩⟩, .inl rfl⟩
  case round =>
    obtain ⟨k, hk, rfl, hb, hown, hp⟩ := hrel
    have hle := upto_le (s := s) hk
    by_cases hlt : k < 64
    · have HH := Lib.hid (has_at (s := s) hlt)
      by_cases hbit : s.testBit k = true
      · have hst := start_yes hbit hp
        have HS := Lib.hid (upto_run hs hst)
        have HB := Lib.hid hbit
        have hge : k ≤ lst s k := last_ge s 64 k
        have hll := lst_lt hs hlt
        have HE := Lib.hid (last_end hs 64 k (by omega))
        have HA : Hid (∀ j, k < j → j ≤ lst s k → s.testBit j = true) := by show _; exact last_all s 64 k
        have HX : Hid (s.testBit (lst s k + 1) = false) := HE.out
        clear hbit hp hst HE
        have hbs := hb.size
        generalize upto s k = F at *
        generalize lst s k = L at *
        go_wp2_with (fail)
        refine (has_any s hs (k : Int) _).mono ?_
        rintro e w2 ⟨rfl, rfl⟩
        rw [HH.out, HB.out]
        go_wp2_with (fail)
        obtain ⟨wo, rfl⟩ : ∃ wo : World, wo = wr := ⟨_, rfl⟩
        go_loop [5] (fun j => ∃ l : Nat, k ≤ l ∧ l ≤ L ∧ j = .int .i64 l) (fun j => L - (intOf j).toNat)
        case atStart => exact ⟨k, by omega, by omega, rfl⟩
        case round =>
          obtain ⟨l, hl1, hl2, rfl⟩ := hrel
          by_cases hll2 : l < L
          · have HY : Hid (hasB s ((l : Int) + 1) = true) := by
              show _ = _
              have := has_at (s := s) (i := l + 1) (by omega)
              rw [HA.out (l + 1) (by omega) (by omega)] at this
              exact this
            go_wp2_with (fail)
            refine (has_any s hs ((l : Int) + 1) _).mono ?_
            rintro e w2 ⟨rfl, rfl⟩
            rw [HY.out]
            go_wp2
            go_round
            case rel => exact ⟨l + 1, by omega, by omega, by go_num⟩
            case measure => simp [intOf]; omega
          · obtain rfl : l = L := by omega
            have HY : Hid (hasB s ((l : Int) + 1) = false) := by
              show _ = _
              by_cases h64 : l + 1 < 64
              · have := has_at (s := s) (i := l + 1) h64
                rw [HX.out] at this
                exact this
              · exact has_out (.inr (by omega))
            go_wp2_with (fail)
            refine (has_any s hs ((l : Int) + 1) _).mono ?_
            rintro e w2 ⟨rfl, rfl⟩
            rw [HY.out]
            go_wp2_with (fail)
            refine (part_any k l (by omega) (by omega) _).mono ?_
            rintro e w2 ⟨rfl, rfl⟩
            go_wp2_with (at_builtin; refine wpList_append_own _ rfl _ _ 82 rfl w.heap.size 9 i0 (.string ⟨#[]⟩) 1 16 Tryd.underlying82 HI.out HZ0.out HZ1.out HZ2.out rfl (by decide) _ _ _ rfl (hown.alloc _) ⟨wo.heap.size, 0, none⟩ 1 1 [.string (str (part (k, l)))] rfl rfl (cell_one_new _ _ _) (by simp [Value.oneCell']) (by unfold maxLen; omega) (by omega) (by simp; omega) ?_; intro v' w3 hown' hg3 _)
            have hb3 : Below w.heap.size w w3 := (hb.alloc hbs _).grown hg3 (by simp; omega) (fun g e => (hown.lt g e).1)
            go_wp2
            go_roundw
            case rel => exact ⟨l + 1, by omega, by go_num, hb3, by rw [HS.out, strs_append]; simpa [strs] using hown', .inr (.inl HX.out)⟩
            case measure => simp [intOf]; omega
      · have hbit' : s.testBit k = false := by simpa using hbit
        have HS := Lib.hid (upto_no (start_no hbit'))
        have HB := Lib.hid hbit'
        clear hbit hbit' hp
        generalize upto s k = F at *
        go_wp2_with (fail)
        refine (has_any s hs (k : Int) _).mono ?_
        rintro e w2 ⟨rfl, rfl⟩
        rw [HH.out, HB.out]
        go_wp2
        go_roundw
        case rel => exact ⟨k + 1, by omega, by go_num, hb, by rw [HS.out]; exact hown, .inr (.inr HB.out)⟩
        case measure => simp [intOf]; omega
    · obtain rfl : k = 64 := by omega
      have HT : Hid (txt s = tx (upto s 64)) := rfl
      clear hp
      generalize upto s 64 = F at *
      go_wp2_with (fail)
      refine (join_any F _ _ _ hown hle).mono ?_
      rintro e w2 ⟨rfl, hb2⟩
      go_wp2
      go_ret
      exact ⟨by rw [HT.out]; rfl, hb.trans (hb2.mono hb.size)⟩
end Go.Proofs.YtogaaomedfpdnaaDoor.S

/-
  WHAT IS PROVED: contracts of the readers of one part of a text. Conditions: the two errors of strconv hold an error; a text has less than 2^32 bytes.
-/
namespace Go.Proofs.YtogaaomedfpdnaaDoor.S
open Go.RowKit

/-- strconv's two errors hold an error -/
def Errs (w : World) : Prop := (∃ te pe, w.cell? ⟨2, 0, none⟩ = some (.iface te pe)) ∧ ∃ te pe, w.cell? ⟨3, 0, none⟩ = some (.iface te pe)
theorem lt_of_cell {w : World} {a : Addr} {v : Value} (h : w.cell? a = some v) : a.block < w.heap.size := by
  unfold World.cell? at h
  rcases Nat.lt_or_ge a.block w.heap.size with h' | h'
  · exact h'
  · rw [Array.getElem?_eq_none h'] at h
    cases h
theorem Errs.below {w w' : World} (h : Errs w) (hb : Below w.heap.size w w') : Errs w' := by
  obtain ⟨⟨a, b, h1⟩, c, d, h2⟩ := h
  exact ⟨⟨a, b, (hb.cell (lt_of_cell h1)).trans h1⟩, c, d, (hb.cell (lt_of_cell h2)).trans h2⟩
theorem Errs.drewN {w : World} (h : Errs w) (n : Nat) : Errs (w.drewN n) := h

/-- a part that is a number: it, and no error; else whatever, and an error that isn't nil -/
def AtoiPost (l : List UInt8) (w : World) (e : Ending) (w' : World) : Prop :=
  Below w.heap.size w w' ∧ ((∃ v, Lib.atoiAll l = .ok v ∧ e = .returned (.tuple #[.int .i64 v, .nilIface])) ∨ ((∀ v, Lib.atoiAll l ≠ .ok v) ∧ ∃ v t p, e = .returned (.tuple #[.int .i64 v, .iface t p])))
theorem atoi_any (l : List UInt8) (hl : l.length ≤ 4294967296) (w : World) (hE : Errs w) : Calls Tryd.prog 34 #[.string (str l)] w (AtoiPost l w) := by
  have hd : (str l).data.toList = l := rfl
  obtain ⟨⟨a, b, h1⟩, c, d, h2⟩ := hE
  cases h : Lib.atoiAll l
  · rename_i v
    refine (Tryd.strconv_Atoi_ok (str l) (by rw [str_size]; omega) v h w).mono fun e w' ⟨he, hw⟩ => ⟨?_, .inl ⟨v, h, he⟩⟩
    rcases hw with rfl | ⟨t, rfl⟩
    · exact Below.refl _ _
    · exact Lib.bytesWorld_below _ _ _
  · have k := Any.strconv_Atoi_syntax Tryd.laysC172 (str l) (by rw [str_size]; omega) h _ w h1 (.inr ⟨a, b, rfl⟩)
    have k' : Calls Tryd.prog 34 #[.string (str l)] w _ := k
    exact k'.mono fun e w' ⟨N, he, _, _, hb⟩ => ⟨hb, .inr ⟨fun v hv => (by rw [h] at hv; cases hv), _, _, _, he⟩⟩
  · have k := Any.strconv_Atoi_range Tryd.laysC172 (str l) (by rw [str_size]; omega) h _ w h2 (.inr ⟨c, d, rfl⟩)
    have k' : Calls Tryd.prog 34 #[.string (str l)] w _ := k
    exact k'.mono fun e w' ⟨N, he, _, _, hb⟩ => ⟨hb, .inr ⟨fun v hv => (by rw [h] at hv; cases hv), _, _, _, he⟩⟩

/-- what the reader of a slot hands back -/
def NumPost (l : List UInt8) (w : World) (e : Ending) (w' : World) : Prop :=
  Below w.heap.size w w' ∧ ((∃ n : Nat, num l = some n ∧ e = .returned (.tuple #[.int .i64 (n : Int), .bool true])) ∨ (num l = none ∧ ∃ v, e = .returned (.tuple #[.int .i64 v, .bool false])))
set_option maxRecDepth 100000 in
theorem number_any (l : List UInt8) (hl : l.length ≤ 4294967296) (w : World) (hE : Errs w) : Calls Tryd.prog 71 #[.string (str l)] w (NumPost l w) := by
  go_enter Tryd.func71, Tryd.ntmps71
  go_wp2_with (fail)
  refine (atoi_any l hl _ hE).mono ?_
  rintro e w1 ⟨hb, ⟨v, hv, rfl⟩ | ⟨hv, v, t, p, rfl⟩⟩
  · have HV := Lib.hid hv
    clear hv
    by_cases hr : 0 ≤ v ∧ v < 64
    · have HY := Lib.hid (slotB_yes hr.1 hr.2)
      have HN : Hid (num l = some v.toNat) := by show _ = _; unfold num; rw [HV.out]; simp [hr]
      have hv0 := hr.1
      clear hr
      go_wp2_with (go_at_call 49; refine (isslot_any _ _).mono ?_; rintro e w2 ⟨rfl, rfl⟩; rw [HY.out])
      go_ret2
      exact ⟨hb, .inl ⟨_, HN.out, by rw [Int.toNat_of_nonneg hv0]; rfl⟩⟩
    · have HY := Lib.hid (slotB_no (show v < 0 ∨ 64 ≤ v by omega))
      have HN : Hid (num l = none) := by show _ = _; unfold num; rw [HV.out]; simp; omega
      clear hr
      go_wp2_with (go_at_call 49; refine (isslot_any _ _).mono ?_; rintro e w2 ⟨rfl, rfl⟩; rw [HY.out])
      go_ret2
      exact ⟨hb, .inr ⟨HN.out, _, rfl⟩⟩
  · have HN : Hid (num l = none) := by
      show _ = _
      unfold num
      split
      · rename_i v' h; exact absurd h (hv v')
      · rfl
    clear hv
    go_wp2
    go_ret2
    exact ⟨hb, .inr ⟨HN.out, _, rfl⟩⟩

/-- what the reader of a part hands back -/
def EndsPost (l : List UInt8) (w : World) (e : Ending) (w' : World) : Prop :=
  Below w.heap.size w w' ∧ ((∃ a b : Nat, ends l = some (a, b) ∧ e = .returned (.tuple #[.int .i64 (a : Int), .int .i64 (b : Int), .bool true])) ∨ (ends l = none ∧ ∃ u v, e = .returned (.tuple #[.int .i64 u, .int .i64 v, .bool false])))
theorem ends_some {l : List UInt8} {a b : Nat} (h1 : num (cutL l 45).1 = some a) (h2 : num (if (cutL l 45).2.2 = true then (cutL l 45).2.1 else (cutL l 45).1) = some b) : ends l = some (a, b) := by
  unfold ends; rw [h1, h2]
theorem ends_no1 {l : List UInt8} (h1 : num (cutL l 45).1 = none) : ends l = none := by
  unfold ends; rw [h1]
theorem ends_no2 {l : List UInt8} (h2 : num (if (cutL l 45).2.2 = true then (cutL l 45).2.1 else (cutL l 45).1) = none) : ends l = none := by
  unfold ends; rw [h2]
  cases num (cutL l 45).1 <;> rfl
/-- the part behind the minus sign, or the part -/
def hi (l : List UInt8) : List UInt8 := if (cutL l 45).2.2 = true then (cutL l 45).2.1 else (cutL l 45).1
theorem hi_le (l : List UInt8) : (hi l).length ≤ l.length := by
  unfold hi; split
  · exact cutL_rest_le _ _
  · exact cutL_first_le _ _
set_option maxRecDepth 100000 in
set_option maxHeartbeats 1000000 in
theorem ends_any (l : List UInt8) (hl : l.length ≤ 4294967296) (w : World) (hE : Errs w) : Calls Tryd.prog 61 #[.string (str l)] w (EndsPost l w) := by
  have l1 := cutL_first_le l 45
  have l2 := hi_le l
  have HS : Hid (∀ a b, num (cutL l 45).1 = some a → num (hi l) = some b → ends l = some (a, b)) := fun a b => ends_some
  have HN1 : Hid (num (cutL l 45).1 = none → ends l = none) := ends_no1
  have HN2 : Hid (num (hi l) = none → ends l = none) := ends_no2
  have HT : Hid ((cutL l 45).2.2 = true → (cutL l 45).2.1 = hi l) := by show _ → _; intro h; unfold hi; rw [if_pos h]
  have HF : Hid ((cutL l 45).2.2 = false → (cutL l 45).1 = hi l) := by show _ → _; intro h; unfold hi; rw [h]; rfl
  go_enter Tryd.func61, Tryd.ntmps61
  go_wp2_with (fail)
  refine (cut_any l 45 _ (by omega)).mono ?_
  rintro e w' ⟨rfl, n, rfl⟩
  have hE2 : Errs (w.drewN n) := hE
  have hb0 : Below w.heap.size w (w.drewN n) := below_drewN (Below.refl _ _) n
  generalize w.drewN n = w0 at *
  generalize cutL l 45 = c at *
  obtain ⟨c1, c2, c3⟩ := c
  simp only at l1 HS HN1 HN2 HT HF ⊢
  generalize hi l = h at *
  cases c3
  · have e1 := HF.out rfl
    subst e1
    go_wp2_with (fail)
    refine (number_any c1 (by omega) _ hE2).mono ?_
    rintro e w1 ⟨hb1, ⟨a, ha, rfl⟩ | ⟨ha, u, rfl⟩⟩
    · have hE3 := hE2.below hb1
      have hb1' := hb0.trans (hb1.mono hb0.size)
      have HA := Lib.hid ha
      clear ha hb0 hb1
      go_wp2_with (fail)
      refine (number_any c1 (by omega) _ hE3).mono ?_
      rintro e w2 ⟨hb2, ⟨b, hb, rfl⟩ | ⟨hb, u, rfl⟩⟩
      · go_wp2
        go_ret3
        exact ⟨hb1'.trans (hb2.mono hb1'.size), .inl ⟨a, b, HS.out a b HA.out hb, rfl⟩⟩
      · go_wp2
        go_ret3
        exact ⟨hb1'.trans (hb2.mono hb1'.size), .inr ⟨HN2.out hb, _, _, rfl⟩⟩
    · have hE3 := hE2.below hb1
      have hb1' := hb0.trans (hb1.mono hb0.size)
      have HA := Lib.hid ha
      clear ha hb0 hb1
      go_wp2_with (fail)
      refine (number_any c1 (by omega) _ hE3).mono ?_
      rintro e w2 ⟨hb2, ⟨b, hb, rfl⟩ | ⟨hb, u2, rfl⟩⟩
      · go_wp2
        go_ret3
        exact ⟨hb1'.trans (hb2.mono hb1'.size), .inr ⟨HN1.out HA.out, _, _, rfl⟩⟩
      · go_wp2
        go_ret3
        exact ⟨hb1'.trans (hb2.mono hb1'.size), .inr ⟨HN1.out HA.out, _, _, rfl⟩⟩
  · have e1 := HT.out rfl
    subst e1
    go_wp2_with (fail)
    refine (number_any c1 (by omega) _ hE2).mono ?_
    rintro e w1 ⟨hb1, ⟨a, ha, rfl⟩ | ⟨ha, u, rfl⟩⟩
    · have hE3 := hE2.below hb1
      have hb1' := hb0.trans (hb1.mono hb0.size)
      have HA := Lib.hid ha
      clear ha hb0 hb1
      go_wp2_with (fail)
      refine (number_any c2 (by omega) _ hE3).mono ?_
      rintro e w2 ⟨hb2, ⟨b, hb, rfl⟩ | ⟨hb, u, rfl⟩⟩
      · go_wp2
        go_ret3
        exact ⟨hb1'.trans (hb2.mono hb1'.size), .inl ⟨a, b, HS.out a b HA.out hb, rfl⟩⟩
      · go_wp2
        go_ret3
        exact ⟨hb1'.trans (hb2.mono hb1'.size), .inr ⟨HN2.out hb, _, _, rfl⟩⟩
    · have hE3 := hE2.below hb1
      have hb1' := hb0.trans (hb1.mono hb0.size)
      have HA := Lib.hid ha
      clear ha hb0 hb1
      go_wp2_with (fail)
      refine (number_any c2 (by omega) _ hE3).mono ?_
      rintro e w2 ⟨hb2, ⟨b, hb, rfl⟩ | ⟨hb, u2, rfl⟩⟩
      · go_wp2
        go_ret3
        exact ⟨hb1'.trans (hb2.mono hb1'.size), .inr ⟨HN1.out HA.out, _, _, rfl⟩⟩
      · go_wp2
        go_ret3
        exact ⟨hb1'.trans (hb2.mono hb1'.size), .inr ⟨HN1.out HA.out, _, _, rfl⟩⟩
end Go.Proofs.YtogaaomedfpdnaaDoor.S

/-
  WHAT IS PROVED: the contract of the iterator over a text's stretches: what it hands to a loop. Conditions: strconv's errors hold errors; a text has less than 2^32 bytes.
-/
namespace Go.Proofs.YtogaaomedfpdnaaDoor.S
open Go.RowKit Go.Shelf
attribute [local go_sem] Oper.semAt_some

/-- the ends of a stretch that a text may name -/
abbrev Pair := { p : Nat × Nat // p.1 < 64 ∧ p.2 < 64 }
abbrev encP (p : Pair) : Array Value := #[.int .i64 (p.1.1 : Int), .int .i64 (p.1.2 : Int)]

def ErrsB (n₀ : Nat) (w : World) : Prop := Errs w ∧ 2 < n₀ ∧ 3 < n₀
theorem ErrsB.below {n₀ : Nat} {w w' : World} (h : ErrsB n₀ w) (hb : Below n₀ w w') : ErrsB n₀ w' := by
  obtain ⟨⟨⟨a, b, h1⟩, c, d, h2⟩, h3, h4⟩ := h
  exact ⟨⟨⟨a, b, (hb.cell h3).trans h1⟩, c, d, (hb.cell h4).trans h2⟩, h3, h4⟩
theorem ErrsB.of {w : World} (h : Errs w) : ErrsB w.heap.size w := ⟨h, by obtain ⟨⟨_, _, h1⟩, _⟩ := h; exact lt_of_cell h1, by obtain ⟨_, _, _, h1⟩ := h; exact lt_of_cell h1⟩

def strLen : Value → Nat
  | .string b => b.size
  | _ => 0
theorem lens_nil (k : Nat) : lens k [] = [] := by cases k <;> simp [lens]
theorem lens_yes {k : Nat} {l : List UInt8} {p : Nat × Nat} (h : l ≠ []) (hp : ends (cutL l 32).1 = some p) : lens (k + 1) l = p :: lens k (cutL l 32).2.1 := by
  rw [lens, if_neg h, hp]
theorem lens_stop {k : Nat} {l : List UInt8} (hp : ends (cutL l 32).1 = none) : lens k l = [] := by
  cases k with
  | zero => rfl
  | succ k =>
    rw [lens]
    split
    · rfl
    · rw [hp]
theorem lens_len : ∀ (k : Nat) (l : List UInt8), (lens k l).length ≤ k
  | 0, _ => Nat.le_refl _
  | k + 1, l => by
    rw [lens]
    split
    · simp
    · split
      · simp
      · have := lens_len k (cutL l 32).2.1
        simp; omega

set_option maxRecDepth 100000 in
set_option maxHeartbeats 2000000 in
theorem stretches_stops (n : Nat) (hn : 1 ≤ n) (Bn n₀ : Nat) (t : List UInt8) (w : World) (hB : w.cell? ⟨Bn, 0, none⟩ = some (.string (str t))) (ht : t.length ≤ 4294967296) (hn0 : n₀ ≤ w.heap.size) (hE : ErrsB n₀ w) :
    SeqStopsK Fence.wide n Tryd.prog 60 #[.pointer (some ⟨Bn, 0, none⟩)] encP (Below n₀) (fun xs => xs.map (·.1) = lens t.length t) (fun _ => True) (t.length + 1) w := fun l J Jx W hW hJ hJx hY h0 => by
  have hBW : W.cell? ⟨Bn, 0, none⟩ = some (.string (str t)) := (hW.cell (lt_of_cell hB)).trans hB
  have hEW : ErrsB n₀ W := hE.below (hW.mono hn0)
  have hnW : n₀ ≤ W.heap.size := Nat.le_trans hn0 hW.size
  refine callsIn_of_wp Tryd.func60 rfl trivial ?_ rfl
  simp only [Tryd.ntmps60, List.size_toArray, List.length_cons, List.length_nil, Nat.reduceAdd, Nat.reduceSub, Array.replicate_succ, Array.replicate_zero, List.push_toArray, List.append_toArray, List.nil_append, List.cons_append]
  clear hB hE hW
  gi_wp2
  gi_loopw [3] (fun r wr => ∃ (pre : List Pair) (rest : List UInt8) (k : Nat), r = .string (str rest) ∧ rest.length ≤ k ∧ rest.length ≤ t.length ∧ pre.length + k ≤ t.length ∧ lens t.length t = pre.map (·.1) ++ lens k rest ∧ W.heap.size ≤ wr.heap.size ∧ ErrsB n₀ wr ∧ J pre wr)
    (fun r _ => strLen r)
  case atStart => exact ⟨[], t, t.length, rfl, Nat.le_refl _, Nat.le_refl _, by simp, by simp, Nat.le_refl _, hEW, h0⟩
  case round =>
    obtain ⟨pre, rest, k, rfl, hk1, hk2, hk3, hL, hsz, hEr, hJr⟩ := hrel
    by_cases hr : rest = []
    · subst hr
      have he : (str []).toList.isEmpty = true := by rw [str_toList]; rfl
      rw [lens_nil, List.append_nil] at hL
      have HL := Lib.hid hL
      clear hL
      gi_wp2
      go_end0
      exact ⟨⟨_, rfl⟩, .inl ⟨pre, HL.out.symm, hJr⟩⟩
    · obtain ⟨k, rfl⟩ : ∃ j, k = j + 1 := ⟨k - 1, by have := List.length_pos_iff.2 hr; omega⟩
      have he : (str rest).toList.isEmpty = false := by rw [str_toList]; simpa using hr
      have HSh := Lib.hid (cutL_shorter (c := 32) hr)
      have hfst := cutL_first_le rest 32
      have HY : Hid (∀ p, ends (cutL rest 32).1 = some p → lens (k + 1) rest = p :: lens k (cutL rest 32).2.1) := fun p => lens_yes hr
      have HN : Hid (ends (cutL rest 32).1 = none → lens (k + 1) rest = []) := lens_stop
      have HL := Lib.hid hL
      clear hL hr
      gi_wp2_with (fail)
      refine ⟨trivial, ?_⟩
      refine (callsIn_wide.2 (cut_any rest 32 _ (by omega))).mono ?_
      rintro e w' ⟨rfl, m, rfl⟩
      have hE2 : ErrsB n₀ (wr.drewN m) := hEr
      have hs2 : W.heap.size ≤ (wr.drewN m).heap.size := hsz
      have hJ2 : J pre (wr.drewN m) := hJ _ _ _ none hJr (only_of_below (below_drewN (Below.refl _ _) m) none) (fun r e => by cases e)
      generalize wr.drewN m = w0 at *
      generalize cutL rest 32 = c at *
      obtain ⟨c1, c2, c3⟩ := c
      simp only at HSh hfst HY HN ⊢
      gi_wp2_with (fail)
      refine ⟨trivial, ?_⟩
      refine (callsIn_wide.2 (ends_any c1 (by omega) _ hE2.1)).mono ?_
      rintro e w2 ⟨hb2, ⟨a, b, hab, rfl⟩ | ⟨hab, u, v, rfl⟩⟩
      · have hE3 : ErrsB n₀ w2 := hE2.below (hb2.mono (Nat.le_trans hnW hs2))
        have hs3 : W.heap.size ≤ w2.heap.size := Nat.le_trans hs2 hb2.size
        have hJ3 : J pre w2 := hJ _ _ _ none hJ2 (only_of_below hb2 none) (fun r e => by cases e)
        have hlt := ends_lt hab
        have HP : Hid (lens t.length t = pre.map (·.1) ++ (a, b) :: lens k c2) := by show _ = _; rw [← HY.out _ hab]; exact HL.out
        clear hab hJ2 hb2 HY HN HL
        obtain ⟨fn, tmps, assign, body, hy, hR⟩ := hY pre ⟨(a, b), hlt⟩ w2 hJ3 (by omega)
        dsimp only [encP] at hy
        gi_wp2
        refine hR.mono ?_
        rintro e w3 (⟨rfl, hJ4, hk4⟩ | ⟨rfl, hJx4⟩)
        · have hE4 : ErrsB n₀ w3 := hE3.below hk4
          have hs4 : W.heap.size ≤ w3.heap.size := Nat.le_trans hs3 hk4.size
          gi_wp2
          go_roundw
          case rel =>
            refine ⟨pre ++ [⟨(a, b), hlt⟩], c2, k, rfl, ?_, ?_, by simp; omega, ?_, hs4, hE4, hJ4⟩
            · have := HSh.out; omega
            · have := HSh.out; omega
            · rw [HP.out]; simp
          case measure =>
            have := HSh.out
            simpa [strLen, str_size] using this
        · gi_wp2
          refine bodyPost_ret (results_none rfl _ _ _) rfl ?_
          exact ⟨⟨_, rfl⟩, .inr ⟨_, trivial, hJx4⟩⟩
      · have hJ3 : J pre w2 := hJ _ _ _ none hJ2 (only_of_below hb2 none) (fun r e => by cases e)
        have HP : Hid (pre.map (·.1) = lens t.length t) := by show _ = _; rw [HL.out, HN.out hab, List.append_nil]
        clear hab hJ2 hb2 HY HN HL
        gi_wp2
        refine ⟨fun _ h => (by cases h), ?_⟩
        gi_wp2
        refine bodyPost_ret (results_none rfl _ _ _) rfl ?_
        exact ⟨⟨_, rfl⟩, .inl ⟨pre, HP.out, hJ3⟩⟩
end Go.Proofs.YtogaaomedfpdnaaDoor.S

/-
  WHAT IS PROVED: the contract of the reader of a set's text. Conditions: strconv's errors hold errors; a text has less than 2^32 bytes.
-/
namespace Go.Proofs.YtogaaomedfpdnaaDoor.S
open Go.RowKit Go.Shelf
attribute [local go_sem] Oper.semAt_some

theorem stretches_any (t : List UInt8) (w : World) : Calls Tryd.prog 46 #[.string (str t)] w fun e w' =>
    e = .returned (.func (.func 60) #[] #[.pointer (some ⟨w.heap.size, 0, none⟩)]) ∧ w' = w.alloc (.cells #[.string (str t)] 9) := by
  have hmf : ∀ (fn : Fn) (first cap : Array Value) (w : World), (Instr.makeFunc fn first cap).run Tryd.prog w = .ok (.func fn first cap) w := fun _ _ _ _ => rfl
  go_enter Tryd.func46, Tryd.ntmps46
  go_wp2
  go_ret
  exact ⟨rfl, rfl⟩

theorem cell_new_b (W : World) (v : Value) (t : TypeId) : (W.alloc (.cells #[v] t)).cell? ⟨W.heap.size, 0, none⟩ = some v ∧ (W.alloc (.cells #[v] t)).frozen? ⟨W.heap.size, 0, none⟩ = false :=
  ⟨(Blk.new W t #[v]).cell 0, (Blk.new W t #[v]).frozen 0⟩
theorem cell_alloc_b {W : World} {a : Addr} {v : Value} (o : Obj) (h : W.cell? a = some v) : (W.alloc o).cell? a = some v := cell_kept h (World.grownBy_alloc W o none) (fun r e => by cases e)
theorem frozen_alloc_b {W : World} {a : Addr} {v : Value} (o : Obj) (h : W.cell? a = some v) (hf : W.frozen? a = false) : (W.alloc o).frozen? a = false := (frozen_kept h (World.grownBy_alloc W o none) (fun r e => by cases e)).trans hf
theorem pairs_snoc (pre : List Pair) (x : Pair) : setOf ((pre ++ [x]).map (·.1)) = setOf (pre.map (·.1)) ||| spanN x.1.1 x.1.2 := by
  rw [List.map_append]; exact set_snoc _ _

theorem keeps_drewN (W : World) (n : Nat) : KeepsOthers W (W.drewN n) := ⟨Nat.le_refl _, fun _ _ h _ => h⟩
theorem body_close {w W : World} {s : Nat} {v : Value} (k : Nat) (hB : Below w.heap.size w W) (hf : W.frozen? ⟨w.heap.size, 0, none⟩ = false) (hc : W.cell? ⟨w.heap.size, 0, none⟩ = some (.int .u64 (s : Int))) :
    KeepsOthers W ((W.drewN k).setCell ⟨w.heap.size, 0, none⟩ v) ∧ Below w.heap.size W ((W.drewN k).setCell ⟨w.heap.size, 0, none⟩ v) ∧
      (((W.drewN k).setCell ⟨w.heap.size, 0, none⟩ v).cell? ⟨w.heap.size, 0, none⟩ = some v ∧ ((W.drewN k).setCell ⟨w.heap.size, 0, none⟩ v).frozen? ⟨w.heap.size, 0, none⟩ = false) ∧
      Below w.heap.size w ((W.drewN k).setCell ⟨w.heap.size, 0, none⟩ v) := by
  have h2 : Below w.heap.size W ((W.drewN k).setCell ⟨w.heap.size, 0, none⟩ v) := (below_drewN (Below.refl _ _) k).setCell (p := ⟨w.heap.size, 0, none⟩) (Nat.le_refl _) _
  exact ⟨(keeps_drewN W k).trans (KeepsOthers.setCell _ _ _), h2, ⟨World.cell?_setCell_same' _ _ _ (by show (W.cell? _).isSome = true; rw [hc]; rfl), by rw [World.frozen?_setCell]; exact hf⟩, hB.trans h2⟩

set_option maxRecDepth 100000 in
set_option maxHeartbeats 4000000 in
theorem parse_in (t : List UInt8) (ht : t.length ≤ 4294967296) (w : World) (hE : Errs w) :
    CallsIn Fence.wide 4 Tryd.prog 35 #[.string (str t)] w fun e w' => e = .returned (.tuple #[.int .u64 ((parseP t).1 : Int), .int .i64 (parseP t).2]) ∧ Below w.heap.size w w' := by
  have hEB := ErrsB.of hE
  refine callsIn_of_wp_marks Tryd.func35 rfl trivial ?_ rfl
  simp only [Tryd.ntmps35, List.size_toArray, List.length_cons, List.length_nil, Nat.reduceAdd, Nat.reduceSub, Array.replicate_succ, Array.replicate_zero, List.push_toArray, List.append_toArray, List.nil_append, List.cons_append]
  gi_wp2_with (refine ⟨trivial, ?_⟩; gi_at_call 46; refine (callsIn_wide.2 (stretches_any t _)).mono ?_; rintro e w' ⟨rfl, rfl⟩)
  have hs0 := cell_new_b w (.int .u64 0) 24
  have hb0 := cell_new_b (w.alloc (.cells #[.int .u64 0] 24)) (.string (str t)) 9
  rw [World.size_alloc] at hb0
  have hB0 : Below w.heap.size w ((w.alloc (.cells #[.int .u64 0] 24)).alloc (.cells #[.string (str t)] 9)) := ((Below.refl _ w).alloc (Nat.le_refl _) _).alloc (by simp) _
  refine wpIn_rangeFunc_ownF rfl (by omega) (gf := 60) (lb := #[.pointer (some ⟨w.heap.size + 1, 0, none⟩)]) rfl trivial (enters_of Tryd.func60 (by kernel_rfl) rfl)
    (stretches_stops 3 (by omega) (w.heap.size + 1) w.heap.size t _ hb0.1 ht (by simp; omega) (hEB.below hB0)) belowK_t (belowK_b (by simp; omega)) (Below.refl _ _) (fun _ => rfl)
    (fun pre W => (W.cell? ⟨w.heap.size, 0, none⟩ = some (.int .u64 (setOf (pre.map (·.1)) : Nat)) ∧ W.frozen? ⟨w.heap.size, 0, none⟩ = false) ∧ Below w.heap.size w W)
    (fun _ _ _ => False)
    (OwnFrom.and (Own.from (fun s A B row hs hg hr => ⟨cell_kept hs.1 hg hr, (frozen_kept hs.1 hg hr).trans hs.2⟩) _) (ownFrom_below (Nat.le_refl _) (by simp; omega)))
    (fun _ _ _ _ _ hs _ _ => hs)
    ⟨⟨cell_alloc_b _ hs0.1, frozen_alloc_b _ hs0.1 hs0.2⟩, hB0⟩
    (fun x => { tmps := #[.string (str t), undef, .int .u64 0, .int .i64 0, .pointer (some ⟨w.heap.size, 0, none⟩), .int .i64 (x.1.1 : Int), .int .i64 (x.1.2 : Int), .string (str t), .func (.func 60) #[] #[.pointer (some ⟨w.heap.size + 1, 0, none⟩)], .int .i64 (x.1.1 : Int), .int .i64 (x.1.2 : Int), undef, undef, undef, undef, undef, undef, undef, undef, undef, undef], defers := [] }) ?assign ?body ?done ?stop
  case assign =>
    intro l x W K hK
    gi_wp2
    exact hK
  case body =>
    rintro l pre x W ⟨⟨hc, hf⟩, hB⟩ _
    have hmx : Tryd.prog.follows .mixedOrders = true := by kernel_rfl
    obtain ⟨⟨a, b⟩, ha, hb⟩ := x
    simp only at ha hb
    have hlt := set_lt (pre.map (·.1))
    have hlt2 := span_lt a b
    have HP := Lib.hid (pairs_snoc pre ⟨(a, b), ha, hb⟩)
    have HO := Lib.hid (u64_or_nat _ _ hlt hlt2)
    clear hlt hlt2
    generalize setOf (pre.map (·.1)) = s at *
    gi_wp2
    gi_region_with_o (refine ⟨trivial, ?_⟩; gi_at_call 47; refine (CallsIn.inRound l (callsIn_wide.2 (span_any a b ha hb _))).mono ?_; rintro e w' ⟨rfl, m, rfl⟩)
    all_goals gi_wp2
    all_goals
      obtain ⟨x1, x2, ⟨x3, x4⟩, x5⟩ := body_close (v := .int .u64 (bits BinOp.or IntKind.u64 (s : Int) (spanN a b : Nat))) (1 + m) hB hf hc
      exact ⟨x1, x2, ⟨by rw [x3, HO.out, HP.out], x4⟩, x5⟩
  case done =>
    rintro D ys W hD hys ⟨⟨hc, hf⟩, hB⟩ hK
    have HY := Lib.hid hys
    have hlt := set_lt (lens t.length t)
    rw [hys] at hc
    have HP : Hid (parseP t = if txt (setOf (lens t.length t)) = t then (setOf (lens t.length t), 0) else (0, 60)) := rfl
    clear hys
    generalize setOf (lens t.length t) = s at *
    have HD : w.heap.size < W.heap.size := lt_of_cell hc
    by_cases he : txt s = t
    · have HX : Hid (parseP t = (s, 0)) := by show _ = _; rw [HP.out, if_pos he]
      have hq : ((str (txt s)).toList == (str t).toList) = true := by rw [str_toList, str_toList, he]; simp
      clear he
      gi_wp2_with (fail)
      refine ⟨trivial, (callsIn_wide.2 (text_any s hlt _)).mono ?_⟩
      rintro e W2 ⟨rfl, hb2⟩
      have hc2 : W2.cell? ⟨w.heap.size, 0, none⟩ = some (.int .u64 (s : Int)) := (hb2.cell HD).trans hc
      have hK2 : W2.heap[D]? = some (.deferred (some [])) := (hb2.block D (Array.getElem?_eq_some_iff.1 hK).1).trans hK
      have hB2 : Below w.heap.size w W2 := hB.trans (hb2.mono (by omega))
      clear hc hK hB hb2
      gi_wp2
      refine ⟨by simp, .inl ⟨_, _, rfl, run_takeDeferred hK2, ?_⟩⟩
      exact ⟨_, results_tmp2 rfl _ _ _, by rw [HX.out]; rfl, hB2.trans (belowK_b (w := w) (Nat.le_refl _) W2 D _ _ (by simp at hD; omega) hK2 rfl rfl)⟩
    · have HX : Hid (parseP t = (0, 60)) := by show _ = _; rw [HP.out, if_neg he]
      have hq : ((str (txt s)).toList == (str t).toList) = false := by rw [str_toList, str_toList]; simpa using he
      clear he
      gi_wp2_with (fail)
      refine ⟨trivial, (callsIn_wide.2 (text_any s hlt _)).mono ?_⟩
      rintro e W2 ⟨rfl, hb2⟩
      have hK2 : W2.heap[D]? = some (.deferred (some [])) := (hb2.block D (Array.getElem?_eq_some_iff.1 hK).1).trans hK
      have hB2 : Below w.heap.size w W2 := hB.trans (hb2.mono (by omega))
      clear hc hK hB hb2
      gi_wp2
      refine ⟨by simp, .inl ⟨_, _, rfl, run_takeDeferred hK2, ?_⟩⟩
      exact ⟨_, results_tmp2 rfl _ _ _, by rw [HX.out]; rfl, hB2.trans (belowK_b (w := w) (Nat.le_refl _) W2 D _ _ (by simp at hD; omega) hK2 rfl rfl)⟩
  case stop =>
    rintro D c pre W _ _ h _
    exact h.elim

theorem parse_any (t : List UInt8) (ht : t.length ≤ 4294967296) (w : World) (hE : Errs w) :
    Calls Tryd.prog 35 #[.string (str t)] w fun e w' => e = .returned (.tuple #[.int .u64 ((parseP t).1 : Int), .int .i64 (parseP t).2]) ∧ Below w.heap.size w w' :=
  callsIn_wide.1 (parse_in t ht w hE)
end Go.Proofs.YtogaaomedfpdnaaDoor.S
