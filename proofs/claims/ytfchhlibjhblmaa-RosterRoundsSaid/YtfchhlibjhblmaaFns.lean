/-
  WHAT IS PROVED: contracts of the tests for ids and times, of cmp.Compare at ints, of the comparison by ids and of the library's binary search through members. Conditions: the slice's members rise by their ids.
-/
import Derived.Test.YtfchhlibjhblmaaMem
import Derived.Deep.QuietTactic
import Derived.BigQuiet
import Derived.Deep.RegionHeld3
import Derived.Deep.RegionLaw
import Derived.Laws.ResultCell
import Derived.Laws.Rows
namespace Go.Proofs.Ytfchhlibjhblmaa
open Go.RowKit Go.Lib Go.Maps

theorem isid_any (x : Int) (w : World) :
    Calls Try.prog 27 #[.int .i64 x] w fun e w' => e = .returned (.bool (isIdB x)) ∧ w = w' := by
  by_cases h1 : 1 ≤ x
  · by_cases h2 : x ≤ 4294967296
    · have HX : Hid (isIdB x = true) := by show _ = _; unfold isIdB; simp [h1, h2]
      go_enter Try.func27, Try.ntmps27
      go_wp2
      go_ret
      exact ⟨by rw [HX.out]; rfl, rfl⟩
    · have HX : Hid (isIdB x = false) := by show _ = _; unfold isIdB; simp [h2]
      have h3 : decide (x ≤ 4294967296) = false := by simp; omega
      clear h2
      go_enter Try.func27, Try.ntmps27
      go_wp2
      go_ret
      exact ⟨by rw [HX.out]; rfl, rfl⟩
  · have HX : Hid (isIdB x = false) := by show _ = _; unfold isIdB; simp [h1]
    have h3 : x < 1 := by omega
    clear h1
    go_enter Try.func27, Try.ntmps27
    go_wp2
    go_ret
    exact ⟨by rw [HX.out]; rfl, rfl⟩
theorem istime_any (x : Int) (w : World) :
    Calls Try.prog 39 #[.int .i64 x] w fun e w' => e = .returned (.bool (isTimeB x)) ∧ w = w' := by
  by_cases h1 : 0 ≤ x
  · by_cases h2 : x ≤ 1099511627776
    · have HX : Hid (isTimeB x = true) := by show _ = _; unfold isTimeB; simp [h1, h2]
      go_enter Try.func39, Try.ntmps39
      go_wp2
      go_ret
      exact ⟨by rw [HX.out]; rfl, rfl⟩
    · have HX : Hid (isTimeB x = false) := by show _ = _; unfold isTimeB; simp [h2]
      have h3 : decide (x ≤ 1099511627776) = false := by simp; omega
      clear h2
      go_enter Try.func39, Try.ntmps39
      go_wp2
      go_ret
      exact ⟨by rw [HX.out]; rfl, rfl⟩
  · have HX : Hid (isTimeB x = false) := by show _ = _; unfold isTimeB; simp [h1]
    have h3 : x < 0 := by omega
    clear h1
    go_enter Try.func39, Try.ntmps39
    go_wp2
    go_ret
    exact ⟨by rw [HX.out]; rfl, rfl⟩
theorem rid_any (x : Int) (w : World) :
    Calls Try.prog 12 #[.int .i64 x] w fun e w' => e = .returned (.bool (isIdB x)) ∧ w = w' := by
  by_cases h1 : 1 ≤ x
  · by_cases h2 : x ≤ 4294967296
    · have HX : Hid (isIdB x = true) := by show _ = _; unfold isIdB; simp [h1, h2]
      go_enter Try.func12, Try.ntmps12
      go_wp2
      go_ret
      exact ⟨by rw [HX.out]; rfl, rfl⟩
    · have HX : Hid (isIdB x = false) := by show _ = _; unfold isIdB; simp [h2]
      have h3 : decide (x ≤ 4294967296) = false := by simp; omega
      clear h2
      go_enter Try.func12, Try.ntmps12
      go_wp2
      go_ret
      exact ⟨by rw [HX.out]; rfl, rfl⟩
  · have HX : Hid (isIdB x = false) := by show _ = _; unfold isIdB; simp [h1]
    have h3 : x < 1 := by omega
    clear h1
    go_enter Try.func12, Try.ntmps12
    go_wp2
    go_ret
    exact ⟨by rw [HX.out]; rfl, rfl⟩
theorem rtime_any (x : Int) (w : World) :
    Calls Try.prog 28 #[.int .i64 x] w fun e w' => e = .returned (.bool (isTimeB x)) ∧ w = w' := by
  by_cases h1 : 0 ≤ x
  · by_cases h2 : x ≤ 1099511627776
    · have HX : Hid (isTimeB x = true) := by show _ = _; unfold isTimeB; simp [h1, h2]
      go_enter Try.func28, Try.ntmps28
      go_wp2
      go_ret
      exact ⟨by rw [HX.out]; rfl, rfl⟩
    · have HX : Hid (isTimeB x = false) := by show _ = _; unfold isTimeB; simp [h2]
      have h3 : decide (x ≤ 1099511627776) = false := by simp; omega
      clear h2
      go_enter Try.func28, Try.ntmps28
      go_wp2
      go_ret
      exact ⟨by rw [HX.out]; rfl, rfl⟩
  · have HX : Hid (isTimeB x = false) := by show _ = _; unfold isTimeB; simp [h1]
    have h3 : x < 0 := by omega
    clear h1
    go_enter Try.func28, Try.ntmps28
    go_wp2
    go_ret
    exact ⟨by rw [HX.out]; rfl, rfl⟩

theorem nan_any (x : Int) (w : World) : Calls Try.prog 45 #[.int .i64 x] w fun e w' => e = .returned (.bool false) ∧ w = w' := by
  go_enter Try.func45, Try.ntmps45
  go_wp2
  go_ret
  exact ⟨rfl, rfl⟩
def cmpI (x y : Int) : Int := if x < y then -1 else if y < x then 1 else 0
theorem cmp_any (x y : Int) (w : World) : Calls Try.prog 42 #[.int .i64 x, .int .i64 y] w fun e w' => e = .returned (.int .i64 (cmpI x y)) ∧ w = w' := by
  rcases (by omega : x < y ∨ y < x ∨ x = y) with h | h | h
  · have HX : Hid (cmpI x y = -1) := by show _ = _; unfold cmpI; rw [if_pos h]
    rw [HX.out]
    go_enter Try.func42, Try.ntmps42
    go_wp2_with (fail)
    refine (nan_any x _).mono ?_
    rintro e w1 ⟨rfl, rfl⟩
    go_wp2_with (fail)
    refine (nan_any y _).mono ?_
    rintro e w1 ⟨rfl, rfl⟩
    go_wp2
    go_ret
    exact ⟨rfl, rfl⟩
  · have HX : Hid (cmpI x y = 1) := by show _ = _; unfold cmpI; rw [if_neg (by omega), if_pos h]
    rw [HX.out]
    have t1 : decide (x < y) = false := by simp; omega
    go_enter Try.func42, Try.ntmps42
    go_wp2_with (fail)
    refine (nan_any x _).mono ?_
    rintro e w1 ⟨rfl, rfl⟩
    go_wp2_with (fail)
    refine (nan_any y _).mono ?_
    rintro e w1 ⟨rfl, rfl⟩
    go_wp2
    go_ret
    exact ⟨rfl, rfl⟩
  · subst h
    have HX : Hid (cmpI x x = 0) := by show _ = _; unfold cmpI; rw [if_neg (by omega), if_neg (by omega)]
    rw [HX.out]
    go_enter Try.func42, Try.ntmps42
    go_wp2_with (fail)
    refine (nan_any x _).mono ?_
    rintro e w1 ⟨rfl, rfl⟩
    go_wp2_with (fail)
    refine (nan_any x _).mono ?_
    rintro e w1 ⟨rfl, rfl⟩
    go_wp2
    go_ret
    exact ⟨rfl, rfl⟩
theorem by_any (p : Mb) (x : Int) (w : World) : Calls Try.prog 41 #[vM p, .int .i64 x] w fun e w' => e = .returned (.int .i64 (cmpI p.id x)) ∧ Below w.heap.size w w' := by
  obtain ⟨q, HQ⟩ : ∃ q, Hid (cmpI p.id x = q) := ⟨_, Lib.hid rfl⟩
  go_enter Try.func41, Try.ntmps41
  go_wp2_with (fail)
  refine (cmp_any p.id x _).mono ?_
  rintro e w1 ⟨rfl, rfl⟩
  rw [HQ.out]
  go_wp2
  go_ret
  exact ⟨by rw [HQ.out]; rfl, (Below.refl _ _).alloc (Nat.le_refl _) _⟩
/-! ### the binary search -/
theorem cmp_lt {a x : Int} (h : a < x) : cmpI a x = -1 := by unfold cmpI; rw [if_pos h]
theorem cmp_ge {a x : Int} (h : x ≤ a) : 0 ≤ cmpI a x := by unfold cmpI; rw [if_neg (by omega)]; split <;> omega
theorem cmp_eq {a x : Int} : (cmpI a x == 0) = decide (a = x) := by
  unfold cmpI
  rw [Bool.eq_iff_iff]
  simp only [beq_iff_eq, decide_eq_true_eq]
  split
  · omega
  · split <;> omega
theorem has_pos {L : List Mb} (hu : Up L) {x : Int} {p : Mb} (h : L[posL L x]? = some p) : hasL L x = decide (p.id = x) := by
  rw [Bool.eq_iff_iff, decide_eq_true_eq]
  constructor
  · intro hh
    obtain ⟨q, hq, e⟩ := has_at hu hh
    rw [h] at hq
    injection hq with hq
    rw [hq]; exact e
  · exact fun e => at_has h e
theorem has_past {L : List Mb} (hu : Up L) {x : Int} (h : posL L x = L.length) : hasL L x = false := by
  cases hh : hasL L x
  · rfl
  · have := pos_has hu hh; omega
theorem up_get {L : List Mb} (hu : Up L) {i j : Nat} {p q : Mb} (hp : L[i]? = some p) (hq : L[j]? = some q) (h : i < j) : p.id < q.id := by
  obtain ⟨h1, e1⟩ := List.getElem?_eq_some_iff.1 hp
  obtain ⟨h2, e2⟩ := List.getElem?_eq_some_iff.1 hq
  have := List.pairwise_iff_getElem.1 hu i j h1 h2 h
  rw [e1, e2] at this
  exact this
theorem up_le {L : List Mb} (hu : Up L) {i j : Nat} {p q : Mb} (hp : L[i]? = some p) (hq : L[j]? = some q) (h : i ≤ j) : p.id ≤ q.id := by
  by_cases e : i = j
  · subst e; rw [hp] at hq; injection hq with hq; rw [hq]; exact Int.le_refl _
  · have := up_get hu hp hq (by omega); omega
theorem up_ahead {L : List Mb} (hu : Up L) {x : Int} {m : Nat} {p : Mb} (hp : L[m]? = some p) (h : p.id < x) : ∀ j q, j < m + 1 → L[j]? = some q → q.id < x := fun j q hj hq => by
  have := up_le hu hq hp (by omega); omega
theorem up_behind {L : List Mb} (hu : Up L) {x : Int} {m : Nat} {p : Mb} (hp : L[m]? = some p) (h : x ≤ p.id) : ∀ j q, m ≤ j → L[j]? = some q → x ≤ q.id := fun j q hj hq => by
  have := up_le hu hp hq hj; omega

set_option maxHeartbeats 2000000 in
theorem search_any (A : Option Addr) (n c : Nat) (L : List Mb) (x : Int) (F : Nat → Prop) (w : World) (hn : n ≤ 1000) (hr : Rd w F 5 A n (flatM L)) (hu : Up L) :
    Calls Try.prog 40 #[.slice A n c, .int .i64 x, .func (.func 41) #[] #[]] w fun e w' => e = .returned (.tuple #[.int .i64 ((posL L x : Nat) : Int), .bool (hasL L x)]) ∧ Below w.heap.size w w' := by
  have HR := Lib.hid hr
  have HL := Lib.hid hr.lenM
  have HU := Lib.hid hu
  have d0 : (n : Int) ≤ 1000 := by omega
  clear hr hu
  go_enter Try.func40, Try.ntmps40
  go_wp2
  go_loopw [9, 10] (fun s9 s10 wr => ∃ lo hi : Nat, s9 = .int .i64 lo ∧ s10 = .int .i64 hi ∧ lo ≤ hi ∧ hi ≤ n ∧ (∀ j q, j < lo → L[j]? = some q → q.id < x) ∧ (∀ j q, hi ≤ j → L[j]? = some q → x ≤ q.id) ∧ Below w.heap.size w wr) (fun s t _ => (intOf t - intOf s).toNat)
  case atStart => exact ⟨0, n, rfl, rfl, by omega, by omega, fun j q hj => absurd hj (by omega), fun j q hj hq => absurd (List.getElem?_eq_some_iff.1 hq).1 (by have := HL.out; omega), Below.refl _ _⟩
  case round =>
    obtain ⟨lo, hi, rfl, rfl, hlh, hin, h1, h2, hb⟩ := hrel
    have H1 := Lib.hid h1
    have H2 := Lib.hid h2
    have HB := Lib.hid hb
    have HRR := Lib.hid (HR.out.below hb)
    clear h1 h2 hb
    by_cases hlt : lo < hi
    · obtain ⟨ad, p, rfl, hp, hbl, hfl, c0, c1, c2, c3, c4⟩ := HRR.out.atM (k := (lo + hi) / 2) (by omega)
      have HP := Lib.hid hp
      clear hp hfl
      by_cases hx : p.id < x
      · have HN := Lib.hid (up_ahead HU.out HP.out hx)
        have HC := Lib.hid (cmp_lt hx)
        clear hx
        go_wp2_with (fail)
        refine (by_any p x _).mono ?_
        rintro e w1 ⟨rfl, hb1⟩
        rw [HC.out]
        have HB1 := Lib.hid (HB.out.trans (hb1.mono HB.out.size))
        clear hb1
        go_wp2
        go_roundw
        case rel => exact ⟨(lo + hi) / 2 + 1, hi, by go_num, rfl, by omega, hin, HN.out, H2.out, HB1.out⟩
        case measure => simp [intOf]; omega
      · have HN := Lib.hid (up_behind HU.out HP.out (x := x) (by omega))
        have hq0 : 0 ≤ cmpI p.id x := cmp_ge (by omega)
        obtain ⟨q, HQ⟩ : ∃ q, Hid (cmpI p.id x = q) := ⟨_, Lib.hid rfl⟩
        have hq : 0 ≤ q := by rw [← HQ.out]; exact hq0
        have hq2 : decide (q < 0) = false := by simp; omega
        clear hx hq0
        go_wp2_with (fail)
        refine (by_any p x _).mono ?_
        rintro e w1 ⟨rfl, hb1⟩
        rw [HQ.out]
        have HB1 := Lib.hid (HB.out.trans (hb1.mono HB.out.size))
        clear hb1
        go_wp2
        go_roundw
        case rel => exact ⟨lo, (lo + hi) / 2, rfl, by go_num, by omega, by omega, H1.out, HN.out, HB1.out⟩
        case measure => simp [intOf]; omega
    · obtain rfl : hi = lo := by omega
      have HPS : Hid (posL L x = hi) := Lib.hid (pos_stop (by rw [HL.out]; omega) H1.out (fun q hq => H2.out hi q (Nat.le_refl _) hq))
      by_cases hn2 : hi < n
      · obtain ⟨ad, p, rfl, hp, hbl, hfl, c0, c1, c2, c3, c4⟩ := HRR.out.atM (k := hi) hn2
        have HH : Hid (hasL L x = (cmpI p.id x == 0)) := Lib.hid (by rw [cmp_eq]; exact has_pos HU.out (by rw [HPS.out]; exact hp))
        obtain ⟨q, HQ⟩ : ∃ q, Hid (cmpI p.id x = q) := ⟨_, Lib.hid rfl⟩
        clear hp hfl
        go_wp2_with (fail)
        refine (by_any p x _).mono ?_
        rintro e w1 ⟨rfl, hb1⟩
        rw [HQ.out]
        have HB1 := Lib.hid (HB.out.trans (hb1.mono HB.out.size))
        clear hb1
        go_wp2
        go_ret2
        exact ⟨by rw [HPS.out, HH.out, HQ.out]; rfl, HB1.out⟩
      · obtain rfl : hi = n := by omega
        have HH : Hid (hasL L x = false) := Lib.hid (has_past HU.out (by rw [HPS.out, HL.out]))
        go_wp2
        go_ret2
        exact ⟨by rw [HPS.out, HH.out]; rfl, HB.out⟩
end Go.Proofs.Ytfchhlibjhblmaa
