/-
  WHAT IS PROVED: contracts of Delay, Fresh and of the document's examples. Condition: none.
-/
import Derived.Test.YtdeppjoehnlbnaaOrdered
namespace Go.Proofs.Ytdeppjoehnlbnaa
open Go.RowKit Go.Lib Go.Sort

theorem fresh_any (a t : Int) (w : World) :
    Calls Try.prog 16 #[.int .i64 a, .int .i64 t] w fun e w' => e = .returned (.bool (decide (1 ≤ t ∧ t ≤ 1073741824 ∧ 0 ≤ a ∧ a ≤ 10 * t))) ∧ w = w' := by
  by_cases h1 : 1 ≤ t
  · by_cases h2 : t ≤ 1073741824
    · by_cases h3 : 0 ≤ a
      · by_cases h4 : a ≤ 10 * t
        · have HX : Hid (decide (1 ≤ t ∧ t ≤ 1073741824 ∧ 0 ≤ a ∧ a ≤ 10 * t) = true) := by show _ = _; simp; omega
          go_enter Try.func16, Try.ntmps16
          go_wp2
          go_ret
          exact ⟨by rw [HX.out]; rfl, rfl⟩
        · have HX : Hid (decide (1 ≤ t ∧ t ≤ 1073741824 ∧ 0 ≤ a ∧ a ≤ 10 * t) = false) := by show _ = _; simp; omega
          have h5 : decide (a ≤ 10 * t) = false := by simp; omega
          clear h4
          go_enter Try.func16, Try.ntmps16
          go_wp2
          go_ret
          exact ⟨by rw [HX.out]; rfl, rfl⟩
      · have HX : Hid (decide (1 ≤ t ∧ t ≤ 1073741824 ∧ 0 ≤ a ∧ a ≤ 10 * t) = false) := by show _ = _; simp; omega
        have h5 : decide (0 ≤ a) = false := by simp; omega
        clear h3
        go_enter Try.func16, Try.ntmps16
        go_wp2
        go_ret
        exact ⟨by rw [HX.out]; rfl, rfl⟩
    · have HX : Hid (decide (1 ≤ t ∧ t ≤ 1073741824 ∧ 0 ≤ a ∧ a ≤ 10 * t) = false) := by show _ = _; simp; omega
      have h5 : decide (t ≤ 1073741824) = false := by simp; omega
      clear h2
      go_enter Try.func16, Try.ntmps16
      go_wp2
      go_ret
      exact ⟨by rw [HX.out]; rfl, rfl⟩
  · have HX : Hid (decide (1 ≤ t ∧ t ≤ 1073741824 ∧ 0 ≤ a ∧ a ≤ 10 * t) = false) := by show _ = _; simp; omega
    have h5 : decide (1 ≤ t) = false := by simp; omega
    clear h1
    go_enter Try.func16, Try.ntmps16
    go_wp2
    go_ret
    exact ⟨by rw [HX.out]; rfl, rfl⟩

theorem delay_yes (a x : Int) (w : World) (h1 : 0 ≤ a) (h2 : a < 16) (h3 : 0 ≤ x) :
    Calls Try.prog 15 #[.int .i64 a, .int .i64 x] w fun e w' => e = .returned (.tuple #[.int .i64 (500 + x % 500 + 1000 * a), .int .i64 0]) ∧ w = w' := by
  have g1 : decide (a < 0) = false := by simp; omega
  have g2 : decide (16 ≤ a) = false := by simp; omega
  have g3 : decide (x < 0) = false := by simp; omega
  go_enter Try.func15, Try.ntmps15
  go_wp2
  go_ret2
  exact ⟨rfl, rfl⟩

theorem delay_no (a x : Int) (w : World) (h : ¬ (0 ≤ a ∧ a < 16 ∧ 0 ≤ x)) :
    Calls Try.prog 15 #[.int .i64 a, .int .i64 x] w fun e w' => e = .returned (.tuple #[.int .i64 0, .int .i64 10]) ∧ w = w' := by
  by_cases h1 : a < 0
  · clear h
    go_enter Try.func15, Try.ntmps15
    go_wp2
    go_ret2
    exact ⟨rfl, rfl⟩
  · have g1 : decide (a < 0) = false := by simp; omega
    by_cases h2 : 16 ≤ a
    · clear h h1
      go_enter Try.func15, Try.ntmps15
      go_wp2
      go_ret2
      exact ⟨rfl, rfl⟩
    · have g2 : decide (16 ≤ a) = false := by simp; omega
      have h3 : x < 0 := by omega
      clear h h1 h2
      go_enter Try.func15, Try.ntmps15
      go_wp2
      go_ret2
      exact ⟨rfl, rfl⟩
/-- the document's replicas, as they are handed in and as they stand -/
def exA : List Rep := [⟨3, 50⟩, ⟨1, 20⟩, ⟨2, 50⟩]
def exB : List Rep := [⟨2, 50⟩, ⟨3, 50⟩, ⟨1, 20⟩]
theorem ex_order : orderL exA = exB := by
  have hp : exA.Perm exB := by decide
  have hs : exB.Pairwise fun x y => aheadB y x = false := by decide
  exact ((order_perm exA).trans hp).eq_of_pairwise (le := fun x y => aheadB y x = false) (fun a b _ _ h1 h2 => ahead_tot h2 h1) (order_le exA) hs

set_option maxRecDepth 100000 in
set_option maxHeartbeats 2000000 in
theorem anchor_any (w : World) : Calls Try.prog 10 #[] w (Says true w) := by
  have HR : Hid (rightB exA = true) := by show _ = _; decide
  have HO := Lib.hid ex_order
  have hnew : ∀ cs t, RepsAt (w.alloc (.cells cs t)) (some ⟨w.heap.size, 0, none⟩) 3 exA ∨ cs ≠ (flatR exA).toArray := fun cs t => by
    by_cases h : cs = (flatR exA).toArray
    · subst h
      exact .inl (RepsAt.of_cells rfl (fun _ => by simp) (fun j u hu => by
        rw [Go.WideShapes.add_plain, Nat.zero_add, (Blk.new w t _).cell j]
        simpa using hu))
    · exact .inr h
  have HN : Hid (RepsAt (w.alloc (.cells #[.int .i64 3, .int .i64 50, .int .i64 1, .int .i64 20, .int .i64 2, .int .i64 50] 29)) (some ⟨w.heap.size, 0, none⟩) 3 exA) := by
    rcases hnew #[.int .i64 3, .int .i64 50, .int .i64 1, .int .i64 20, .int .i64 2, .int .i64 50] 29 with h | h
    · exact h
    · exact absurd rfl h
  clear hnew
  have hb0 := fun o => (Below.refl w.heap.size w).alloc (Nat.le_refl _) o
  go_enter Try.func10, Try.ntmps10
  go_wp2_with (fail)
  refine (order_yes _ 3 3 exA _ (by omega) HN.out HR).mono ?_
  rintro e w1 ⟨hb1, A1, c1, rfl, hn1, hc1, hr1⟩
  rw [HO.out] at hr1
  have hb2 := (hb0 _).trans (hb1.mono (by simp))
  obtain ⟨ad, e0, hlt, hcell⟩ := hr1.2 (by omega)
  subst e0
  have k0 : w1.cell? ad = some (.int .i64 2) := by have h := (hcell 0 ⟨2, 50⟩ rfl).1; simpa [Addr.add] using h
  have k1 : w1.cell? ⟨ad.block, ad.off + 2, none⟩ = some (.int .i64 3) := (hcell 1 ⟨3, 50⟩ rfl).1
  have k2 : w1.cell? ⟨ad.block, ad.off + 4, none⟩ = some (.int .i64 1) := (hcell 2 ⟨1, 20⟩ rfl).1
  clear hcell hb1 hb0 HN HR hr1
  have HD : Hid (∀ W, Calls Try.prog 15 #[.int .i64 1, .int .i64 1234] W fun e w' => e = .returned (.tuple #[.int .i64 1734, .int .i64 0]) ∧ W = w') := fun W => delay_yes 1 1234 W (by omega) (by omega) (by omega)
  go_wp2_with (fail)
  refine (HD.out _).mono ?_
  rintro e w2 ⟨rfl, rfl⟩
  go_wp2
  go_ret
  exact ⟨rfl, hb2⟩
end Go.Proofs.Ytdeppjoehnlbnaa
