/-
  WHAT IS PROVED: the walk of the law SlotsUnions. Condition: strconv's errors hold errors.
-/
import Derived.Test.YtmlhbjecighioaaDoorInts
import Derived.Test.YtmlhbjecighioaaDoorAppend
namespace Go.Proofs.YtmlhbjecighioaaDoor
open Go.RowKit

theorem slots_count (x y : Nat) : ∀ n, (slotsTo (x ||| y) n).length + (slotsTo (x &&& y) n).length = (slotsTo x n).length + (slotsTo y n).length
  | 0 => rfl
  | n + 1 => by
    have ih := slots_count x y n
    have h1 : (x ||| y).testBit n = (x.testBit n || y.testBit n) := Nat.testBit_or ..
    have h2 : (x &&& y).testBit n = (x.testBit n && y.testBit n) := Nat.testBit_and ..
    have yes : ∀ {s : Nat}, s.testBit n = true → (slotsTo s (n + 1)).length = (slotsTo s n).length + 1 := fun h => by rw [slotsTo_yes h]; simp
    have no : ∀ {s : Nat}, s.testBit n = false → (slotsTo s (n + 1)).length = (slotsTo s n).length := fun h => by rw [slotsTo_no h]
    cases ex : x.testBit n <;> cases ey : y.testBit n <;> rw [ex, ey] at h1 h2
    · rw [no h1, no h2, no ex, no ey]; exact ih
    · rw [yes h1, no h2, no ex, yes ey]; omega
    · rw [yes h1, no h2, yes ex, no ey]; omega
    · rw [yes h1, yes h2, yes ex, yes ey]; omega
theorem of_yes {l : List Int} (h : allSlots l = true) : ofP l = (ofSet l, 0) := by unfold ofP; rw [if_pos h]
theorem of_no {l : List Int} (h : allSlots l = false) : ofP l = (0, 20) := by unfold ofP; rw [if_neg (by rw [h]; decide)]
theorem all_append (l m : List Int) : allSlots (l ++ m) = (allSlots l && allSlots m) := by unfold allSlots; rw [List.all_append]

set_option maxRecDepth 100000 in
set_option maxHeartbeats 4000000 in
theorem unions_in (A B : Option Addr) (n c m d : Nat) (la lb : List Int) (w : World) (hE : Errs w) (hn : n ≤ 100) (hm : m ≤ 100) (hra : Reads w w.heap.size A n (zints la)) (hrb : Reads w w.heap.size B m (zints lb)) :
    Calls Tryd.prog 7 #[.slice A n c, .slice B m d] w (Says true w) := by
  obtain ⟨i0, hi0, hz0, hz1, hz2⟩ := info_parts int_info
  have HI : Hid (Tryd.prog.info? 3 = some i0) := hi0
  have HZ0 := Lib.hid hz0
  have HZ1 := Lib.hid hz1
  have HZ2 := Lib.hid hz2
  clear hi0 hz0 hz1 hz2
  go_enter Tryd.func7, Tryd.ntmps7
  go_wp2_with (fail)
  refine (anchor_any w hE).mono ?_
  rintro e w1 ⟨rfl, hb1⟩
  go_wp2_with (fail)
  refine (of_any A n c la _ w1 (by omega) (hra.old hb1 hb1.size)).mono ?_
  rintro e w2 ⟨rfl, m2, rfl⟩
  have hb2 := below_drewN hb1 m2
  generalize w1.drewN m2 = w2 at *
  clear hb1
  go_wp2_with (fail)
  refine (of_any B m d lb _ w2 (by omega) (hrb.old hb2 hb2.size)).mono ?_
  rintro e w3 ⟨rfl, m3, rfl⟩
  have hb3 := below_drewN hb2 m3
  generalize w2.drewN m3 = w3 at *
  clear hb2
  have hb4 : Below w.heap.size w (w3.alloc (.cells #[] 3)) := hb3.alloc hb3.size _
  have hown3 : (w3.alloc (.cells #[] 3)).ownsRow w.heap.size 3 1 (.slice (some ⟨w3.heap.size, 0, none⟩) 0 0) 0 [] :=
    ⟨rfl, .inr ⟨_, 0, #[], rfl, hb3.size, Blk.new _ _ _, Nat.le_refl _, Nat.zero_le _, rfl, rfl⟩⟩
  have hra4 := hra.old hb4 hb4.size
  have hsz4 := hb4.size
  have hgB : ∀ W, (w3.alloc (.cells #[] 3)).grownBy W (some w3.heap.size) → Below w.heap.size w W := fun W hg => hb4.grown hg hsz4 (fun k e => by injection e with e; rw [← e]; exact hb3.size)
  have HGB := Lib.hid hgB
  clear hgB
  go_wp2_with (first | (at_builtin; refine wpList_append_cells _ rfl (.tmp 32) (.tmp 33) 22 rfl w.heap.size 3 i0 _ 8 Tryd.underlying22 HI.out HZ0.out HZ1.out HZ2.out rfl _ 0 [] rfl hown3 _ A n c (zints la) rfl hra4 (zints_oneCell la) (by unfold maxLen; omega) (by omega) hsz4 ?_; intro v4 w4 hown4 hg4 _; have hb5 := HGB.out _ hg4; have hrb5 := hrb.old hb5 hb5.size; have hsz5 := hb5.size; simp only [Nat.zero_add, List.nil_append] at hown4) | (at_builtin; refine wpList_append_cells _ rfl (.tmp 34) (.tmp 35) 22 rfl w.heap.size 3 i0 _ 8 Tryd.underlying22 HI.out HZ0.out HZ1.out HZ2.out rfl _ n (zints la) rfl hown4 _ B m d (zints lb) rfl hrb5 (zints_oneCell lb) (by unfold maxLen; omega) (by omega) hsz5 ?_; intro v5 w5 hown5 hg5 _; have hb6 : Below w.heap.size w w5 := hb5.grown hg5 hsz5 (fun k e => (hown4.lt k e).1); obtain ⟨A5, c5, rfl, hc5, hc5m, hr5⟩ := own_reads hown5))
  rw [← zints_append] at hr5
  refine (of_any A5 (n + m) c5 (la ++ lb) _ w5 (by omega) (hr5 w5.heap.size (.inl (Nat.le_refl _)))).mono ?_
  rintro e w6 ⟨rfl, m6, rfl⟩
  have hb7 := below_drewN hb6 m6
  generalize w5.drewN m6 = w6 at *
  clear hb6 hr5 hown5 hg5 hb5 hrb5 hown4 hg4 hb4 hb3 hra4 hown3 HGB
  by_cases ha : allSlots la = true
  · by_cases hb : allSlots lb = true
    · have e3 : ofP (la ++ lb) = (ofSet la ||| ofSet lb, 0) := by rw [of_yes (by rw [all_append, ha, hb]; rfl), ofSet_append]
      have hx := ofSet_lt la
      have hy := ofSet_lt lb
      rw [of_yes ha, of_yes hb, e3]
      clear e3 ha hb hra hrb
      generalize ofSet la = x at *
      generalize ofSet lb = y at *
      have HO := u64_or_nat x y hx hy
      have hor : (((x ||| y : Nat) : Int) == bits .or .u64 (x : Int) (y : Int)) = true := by rw [HO]; simp
      have HA := u64_and_nat x y hx hy
      have hlz : Hid (∀ W, Calls Tryd.prog 14 #[.int .u64 ((x ||| y : Nat) : Int)] W (Listed (slotsTo (x ||| y) 64) W)) := fun W => list_any _ (or_lt hx hy) W
      have hlx : Hid (∀ W, Calls Tryd.prog 14 #[.int .u64 (x : Int)] W (Listed (slotsTo x 64) W)) := fun W => list_any _ hx W
      have hly : Hid (∀ W, Calls Tryd.prog 14 #[.int .u64 (y : Int)] W (Listed (slotsTo y 64) W)) := fun W => list_any _ hy W
      have hln : Hid (∀ W, Calls Tryd.prog 14 #[.int .u64 (bits .and .u64 (x : Int) (y : Int))] W (Listed (slotsTo (x &&& y) 64) W)) := fun W => by rw [HA]; exact list_any _ (and_lt hx) W
      have HC := Lib.hid (slots_count x y 64)
      have b1 := slotsTo_le (x ||| y) 64
      have b2 := slotsTo_le x 64
      have b3 := slotsTo_le y 64
      have b4 := slotsTo_le (x &&& y) 64
      clear HO HA
      generalize (slotsTo (x ||| y) 64) = Lz at *
      generalize (slotsTo x 64) = Lx at *
      generalize (slotsTo y 64) = Ly at *
      generalize (slotsTo (x &&& y) 64) = Ln at *
      go_wp2_with (fail)
      refine (hlz.out _).mono ?_
      rintro e w7 ⟨hb8, A7, c7, rfl, _, _, _⟩
      have hb8' := hb7.trans (hb8.mono hb7.size)
      clear hb7 hb8
      go_wp2_with (fail)
      refine (hlx.out _).mono ?_
      rintro e w8 ⟨hb9, A8, c8, rfl, _, _, _⟩
      have hb9' := hb8'.trans (hb9.mono hb8'.size)
      clear hb8' hb9
      go_wp2_with (fail)
      refine (hly.out _).mono ?_
      rintro e w9 ⟨hb10, A9, c9, rfl, _, _, _⟩
      have hb10' := hb9'.trans (hb10.mono hb9'.size)
      clear hb9' hb10
      go_wp2_with (fail)
      refine (hln.out _).mono ?_
      rintro e w10 ⟨hb11, A10, c10, rfl, _, _, _⟩
      have hb11' := hb10'.trans (hb11.mono hb10'.size)
      clear hb10' hb11
      go_wp2
      go_ret
      refine ⟨?_, hb11'⟩
      have hc := HC.out
      have hfin : ((Lz.length : Int) == (Lx.length : Int) + Ly.length - Ln.length) = true := by rw [beq_iff_eq]; omega
      rw [← hfin]; rfl
    · have hb' : allSlots lb = false := by simpa using hb
      have e3 : ofP (la ++ lb) = (0, 20) := of_no (by rw [all_append, ha, hb']; rfl)
      rw [of_yes ha, of_no hb', e3]
      clear e3 ha hb hb' hra hrb
      generalize ofSet la = x at *
      go_wp2
      go_ret
      exact ⟨rfl, hb7⟩
  · have ha' : allSlots la = false := by simpa using ha
    have e3 : ofP (la ++ lb) = (0, 20) := of_no (by rw [all_append, ha']; rfl)
    rw [of_no ha', e3]
    clear e3 ha ha' hra hrb
    generalize ofP lb = y at *
    go_wp2
    go_ret
    exact ⟨rfl, hb7⟩

set_option maxRecDepth 100000 in
set_option maxHeartbeats 1000000 in
theorem unions_walk (A B : Option Addr) (n c m d : Nat) (la lb : List Int) (w : World) (hE : Errs w) (hra : ∀ g, w.heap.size ≤ g → Reads w g A n (zints la)) (hrb : ∀ g, w.heap.size ≤ g → Reads w g B m (zints lb)) :
    Calls Tryd.prog 7 #[.slice A n c, .slice B m d] w (Says true w) := by
  by_cases h : n ≤ 100
  · by_cases h2 : m ≤ 100
    · exact unions_in A B n c m d la lb w hE h h2 (hra _ (Nat.le_refl _)) (hrb _ (Nat.le_refl _))
    · have h3 : (100 : Int) < m := by omega
      have h4 : (n : Int) ≤ 100 := by omega
      go_enter Tryd.func7, Tryd.ntmps7
      go_wp2_with (fail)
      refine (anchor_any w hE).mono ?_
      rintro e w1 ⟨rfl, hb1⟩
      go_wp2
      go_ret
      exact ⟨rfl, hb1⟩
  · have h3 : (100 : Int) < n := by omega
    go_enter Tryd.func7, Tryd.ntmps7
    go_wp2_with (fail)
    refine (anchor_any w hE).mono ?_
    rintro e w1 ⟨rfl, hb1⟩
    go_wp2
    go_ret
    exact ⟨rfl, hb1⟩
end Go.Proofs.YtmlhbjecighioaaDoor
