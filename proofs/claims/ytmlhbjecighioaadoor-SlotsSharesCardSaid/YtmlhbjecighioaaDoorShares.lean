/-
  WHAT IS PROVED: the walk of the law SlotsShares. Condition: strconv's errors hold errors.
-/
import Derived.Test.YtmlhbjecighioaaDoorLaid
namespace Go.Proofs.YtmlhbjecighioaaDoor
open Go.RowKit Go.ChangeShapes Go.WideShapes Go.ChangeAt Go.WideElems

def lo (n i : Nat) : Nat := i * 64 / n
def up (n i : Nat) : Nat := (i + 1) * 64 / n - 1
def sh (n i : Nat) : Nat := spanN (lo n i) (up n i)
def allTo (n : Nat) : Nat → Nat
  | 0 => 0
  | i + 1 => allTo n i ||| sh n i
def leastTo (n : Nat) : Nat → Nat
  | 0 => 64
  | i + 1 => min (leastTo n i) (up n i - lo n i + 1)
def mostTo (n : Nat) : Nat → Nat
  | 0 => 0
  | i + 1 => max (mostTo n i) (up n i - lo n i + 1)
theorem share_facts : ∀ n : Fin 17, ∀ i : Fin 16, 0 < n.val → i.val < n.val → lo n i ≤ up n i ∧ up n i < 64 ∧ allTo n i &&& sh n i = 0 ∧ slotsTo (sh n i) 64 = List.range' (lo n i) (up n i - lo n i + 1) := by decide +kernel
theorem share_all : ∀ n : Fin 17, 0 < n.val → allTo n n = 18446744073709551615 ∧ mostTo n n ≤ leastTo n n + 1 := by decide +kernel
theorem all_lt (n : Nat) : ∀ i, allTo n i < 18446744073709551616
  | 0 => by show 0 < _; decide
  | i + 1 => or_lt (all_lt n i) (span_lt _ _)
theorem least_le (n : Nat) : ∀ i, leastTo n i ≤ 64
  | 0 => Nat.le_refl _
  | i + 1 => Nat.le_trans (Nat.min_le_left _ _) (least_le n i)
theorem most_le (n : Nat) (hn : 0 < n) (hn2 : n ≤ 16) : ∀ i, i ≤ n → mostTo n i ≤ 64
  | 0, _ => Nat.zero_le _
  | i + 1, h => by
    have h1 := most_le n hn hn2 i (by omega)
    have h2 := (share_facts ⟨n, by omega⟩ ⟨i, by omega⟩ hn (by show i < n; omega)).2.1
    unfold mostTo
    exact Nat.max_le.2 ⟨h1, by simp only at h2; omega⟩

theorem cast_min (a q : Nat) : ((min a (q + 1) : Nat) : Int) = min (a : Int) ((q : Int) + 1) := by omega
theorem cast_max (a q : Nat) : ((max a (q + 1) : Nat) : Int) = max (a : Int) ((q : Int) + 1) := by omega
theorem share_sh (n k : Nat) (w : World) (h1 : 1 ≤ n) (h2 : n ≤ 16) (h3 : k < n) :
    Calls Tryd.prog 20 #[.int .i64 (n : Int), .int .i64 (k : Int)] w fun e w' => e = .returned (.tuple #[.int .u64 (sh n k : Nat), .int .i64 0]) ∧ ∃ m, w' = w.drewN m := share_yes n k w h1 h2 h3

set_option maxRecDepth 100000 in
set_option maxHeartbeats 4000000 in
theorem shares_in (n k : Nat) (w : World) (hE : Errs w) (h1 : 1 ≤ n) (h2 : n ≤ 16) (h3 : k < n) :
    Calls Tryd.prog 6 #[.int .i64 (n : Int), .int .i64 (k : Int)] w (Says true w) := by
  have c1 : (1 : Int) ≤ n := by omega
  have c2 : (n : Int) ≤ 16 := by omega
  have c3 : (0 : Int) ≤ k := by omega
  have c4 : (k : Int) < n := by omega
  have d1 : decide ((n : Int) < 1) = false := by rw [decide_eq_false_iff_not]; omega
  have d2 : decide (16 < (n : Int)) = false := by rw [decide_eq_false_iff_not]; omega
  have d3 : decide ((k : Int) < 0) = false := by rw [decide_eq_false_iff_not]; omega
  have d4 : decide (n ≤ k) = false := by rw [decide_eq_false_iff_not]; omega
  go_enter Tryd.func6, Tryd.ntmps6
  go_wp2_with (fail)
  refine (anchor_any w hE).mono ?_
  rintro e w1 ⟨rfl, hb1⟩
  go_wp2_with (fail)
  refine (share_sh n k _ h1 h2 h3).mono ?_
  rintro e w2 ⟨rfl, m, rfl⟩
  have hb2 := below_drewN hb1 m
  generalize w1.drewN m = w2 at *
  clear hb1
  go_wp2
  go_loopw [7, 8, 9, 44] (fun a l s i wr => ∃ j : Nat, j ≤ n ∧ i = .int .i64 j ∧ a = .int .u64 (allTo n j : Nat) ∧ l = .int .i64 (leastTo n j : Nat) ∧ s = .int .i64 (mostTo n j : Nat) ∧ Below w.heap.size w wr) (fun _ _ _ i _ => n - (intOf i).toNat)
  case atStart => exact ⟨0, by omega, rfl, rfl, rfl, rfl, hb2⟩
  case round =>
    obtain ⟨j, hj, rfl, rfl, rfl, rfl, hb⟩ := hrel
    by_cases hlt : j < n
    · obtain ⟨f1, f2, f3, f4⟩ := share_facts ⟨n, by omega⟩ ⟨j, by omega⟩ (by show 0 < n; omega) hlt
      simp only at f1 f2 f3 f4
      have hlo := least_le n j
      have hmo := most_le n (by omega) h2 j (by omega)
      have HA : Hid (allTo n (j + 1) = allTo n j ||| sh n j) := rfl
      have HL : Hid (leastTo n (j + 1) = min (leastTo n j) (up n j - lo n j + 1)) := rfl
      have HM : Hid (mostTo n (j + 1) = max (mostTo n j) (up n j - lo n j + 1)) := rfl
      have HO := Lib.hid (u64_or_nat _ _ (all_lt n j) (span_lt (lo n j) (up n j)))
      have hand : bits .and .u64 (allTo n j : Int) (sh n j : Int) = 0 := by rw [u64_and_nat _ _ (all_lt n j) (show sh n j < _ from span_lt _ _), f3]; rfl
      have HAnd := Lib.hid hand
      have HS := Lib.hid f4
      have hsl : sh n j < 18446744073709551616 := span_lt _ _
      have HE : Hid (∀ j', j' = k → sh n j' = sh n k) := by show _; rintro _ rfl; rfl
      have HO' : Hid (bits .or .u64 (allTo n j : Int) (sh n j : Int) = (allTo n j ||| sh n j : Nat)) := HO.out
      clear f3 f4 HO hand
      go_wp2_with (fail)
      refine (share_sh n j _ h1 h2 hlt).mono ?_
      rintro e w3 ⟨rfl, m3, rfl⟩
      have hb3 := below_drewN hb m3
      generalize wr.drewN m3 = w3 at *
      clear hb
      go_wp2_with (fail)
      refine (list_any (sh n j) hsl _).mono ?_
      rintro e w4 ⟨hb4, A, c, rfl, hc1, hc2, hr⟩
      rw [HS.out] at hc1 hr ⊢
      have hr4 := hr w4.heap.size (.inl (Nat.le_refl _))
      simp only [List.length_range'] at hc1 hr4 ⊢
      have hb4' := hb3.trans (hb4.mono hb3.size)
      clear hb3 hb4 hr
      have hql : lo n j + (up n j - lo n j) ≤ 63 := by omega
      generalize up n j - lo n j = q at *
      obtain ⟨ad, u0, rfl, hu0, hcell0⟩ := hr4.at_ (k := 0) (by omega)
      obtain ⟨ad', u1, he, hu1, hcell1⟩ := hr4.at_ (k := q) (by omega)
      obtain rfl : ad' = ad := by injection he with he; exact he.symm
      have e0 : u0 = .int .i64 (lo n j : Nat) := by simp [ints] at hu0; exact hu0.symm
      have e1 : u1 = .int .i64 (lo n j + q : Nat) := by simp [ints] at hu1; simpa using hu1.symm
      subst e0; subst e1
      have hcell : w4.cell? ad' = some (.int .i64 (lo n j : Nat)) := by
        have ea : ad'.add 0 = ad' := by unfold Addr.add; rfl
        rwa [ea] at hcell0
      clear hcell0
      generalize lo n j = z at *
      clear he hu0 hu1 hr4 f1 f2
      have g1 : ((q : Int) + 1 == 0) = false := by simpa using (by omega : (q : Int) + 1 ≠ 0)
      have hand := HAnd.out
      have g2 : ((z : Int) + q - z != q) = false := by rw [bne_eq_false_iff_eq]; omega
      by_cases hjk : j = k
      · subst hjk
        clear HE
        go_wp2_with (fail)
        go_quiet (fail)
        go_wp2
        go_roundw
        case rel => exact ⟨j + 1, by omega, by go_num, by rw [HA.out, HO'.out], by rw [HL.out, cast_min], by rw [HM.out, cast_max], below_drewN hb4' _⟩
        case measure => simp [intOf]; omega
      · have g3 : ((j : Int) == (k : Int)) = false := by rw [beq_eq_false_iff_ne]; omega
        clear HE hjk
        go_wp2_with (fail)
        go_quiet (fail)
        go_wp2
        go_roundw
        case rel => exact ⟨j + 1, by omega, by go_num, by rw [HA.out, HO'.out], by rw [HL.out, cast_min], by rw [HM.out, cast_max], below_drewN hb4' _⟩
        case measure => simp [intOf]; omega
    · obtain rfl : j = n := by omega
      have hall := (share_all ⟨j, by omega⟩ (by show 0 < j; omega)).1
      have hml := (share_all ⟨j, by omega⟩ (by show 0 < j; omega)).2
      simp only at hall hml
      rw [hall]
      have hle := least_le j j
      have hmo := most_le j (by omega) h2 j (Nat.le_refl _)
      clear hall
      generalize mostTo j j = x at *
      generalize leastTo j j = y at *
      have g4 : decide ((x : Int) - y ≤ 1) = true := by rw [decide_eq_true_eq]; omega
      go_wp2
      go_ret
      exact ⟨by rw [← g4]; rfl, hb⟩

set_option maxRecDepth 100000 in
set_option maxHeartbeats 1000000 in
theorem shares_out (n k : Int) (w : World) (hE : Errs w) (h : n < 1 ∨ (1 ≤ n ∧ 16 < n) ∨ (1 ≤ n ∧ n ≤ 16 ∧ k < 0) ∨ (1 ≤ n ∧ n ≤ 16 ∧ 0 ≤ k ∧ n ≤ k)) :
    Calls Tryd.prog 6 #[.int .i64 n, .int .i64 k] w (Says true w) := by
  have HS : Hid (∀ W, Calls Tryd.prog 20 #[.int .i64 n, .int .i64 k] W fun e w' => e = .returned (.tuple #[.int .u64 0, .int .i64 10]) ∧ W = w') := fun W => share_no n k W h
  rcases h with h | ⟨h1, h⟩ | ⟨h1, h2, h⟩ | ⟨h1, h2, h3, h⟩
  all_goals
    go_enter Tryd.func6, Tryd.ntmps6
    go_wp2_with (fail)
    refine (anchor_any w hE).mono ?_
    rintro e w1 ⟨rfl, hb1⟩
    go_wp2_with (fail)
    refine (HS.out _).mono ?_
    rintro e w2 ⟨rfl, rfl⟩
    go_wp2
    go_ret
    exact ⟨rfl, hb1⟩
theorem shares_walk (n k : Int) (w : World) (hE : Errs w) : Calls Tryd.prog 6 #[.int .i64 n, .int .i64 k] w (Says true w) := by
  by_cases h : n < 1 ∨ (1 ≤ n ∧ 16 < n) ∨ (1 ≤ n ∧ n ≤ 16 ∧ k < 0) ∨ (1 ≤ n ∧ n ≤ 16 ∧ 0 ≤ k ∧ n ≤ k)
  · exact shares_out n k w hE h
  · obtain ⟨a, rfl⟩ := Int.eq_ofNat_of_zero_le (show 0 ≤ n by omega)
    obtain ⟨b, rfl⟩ := Int.eq_ofNat_of_zero_le (show 0 ≤ k by omega)
    exact shares_in a b w hE (by omega) (by omega) (by omega)

end Go.Proofs.YtmlhbjecighioaaDoor
