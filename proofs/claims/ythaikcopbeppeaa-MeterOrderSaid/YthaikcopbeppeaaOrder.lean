/-
  WHAT IS PROVED: the law MeterOrder answers true for all arguments, which read behind the call as before it (counts and marks in any order come to the same numbers). No condition beyond those of the given row.
-/
import Derived.Test.YthaikcopbeppeaaAnchor
import Derived.Test.YthaikcopbeppeaaOrderPlain
namespace Go.Proofs.Ythaikcopbeppeaa
open Go.RowKit Go.Lib Go.ChangeShapes Go.WideShapes Go.ChangeAt Go.WideElems

theorem Me.drew {w : World} {g : Nat} {s : St} (h : Me w g s) : Me w.drew g s := h
theorem third_block (w : World) (C1 C2 C3 : Array Value) (t1 t2 t3 : TypeId) : Blk (((w.alloc (.cells C1 t1)).alloc (.cells C2 t2)).alloc (.cells C3 t3)) (w.heap.size + 2) t3 C3 := by
  have e2 : ((w.alloc (.cells C1 t1)).alloc (.cells C2 t2)).heap.size = w.heap.size + 2 := by simp
  rw [← e2]
  exact Blk.new _ _ _
theorem below_four {B : Nat} {a w : World} (h : Below B a w) (hB : B ≤ w.heap.size) (o1 o2 o3 o4 : Obj) : Below B a (((((w.alloc o1).alloc o2).alloc o3).alloc o4).drew) :=
  ((((h.alloc hB _).alloc (by simp; omega) _).alloc (by simp; omega) _).alloc (by simp; omega) _).drew
theorem step_cases (s : St) (a : Step) : (a.how = 1 ∧ Hid (s.app a = s.count a.kind a.n)) ∨ ((a.how == 1) = false ∧ Hid (s.app a = s.mark a.n)) := by
  by_cases h : a.how = 1
  · exact .inl ⟨h, Lib.hid (app_count h)⟩
  · exact .inr ⟨by rw [beq_eq_false_iff_ne]; exact h, Lib.hid (app_mark h)⟩

/-- what holds ahead of each step: both meters -/
def Both (W : World) (ga gb : Nat) (s t : St) (wr : World) : Prop :=
  Me wr ga s ∧ Me wr gb t ∧ Below W.heap.size W wr ∧ W.heap.size ≤ ga ∧ W.heap.size ≤ gb ∧ ga ≠ gb

set_option maxRecDepth 100000 in
set_option maxHeartbeats 8000000 in
theorem order_in (A : Option Addr) (n cap : Nat) (l : List Step) (t : Nat) (W : World) (hn : n ≤ 100) (ht : (t : Int) ≤ 9223372036854775807) (hr : ActsAt W A n l) (hf : ∀ s ∈ l, s.fits) :
    Calls Try.prog 7 #[.slice A n cap, .int .i64 t] W (Says true W) := by
  obtain ⟨k, hk, HK⟩ : ∃ k : Nat, k ≤ n ∧ (t : Int).tmod ((n : Int) + 1) = (k : Int) :=
    ⟨t % (n + 1), by have := Nat.mod_lt t (show n + 1 > 0 by omega); omega, by rw [Int.tmod_eq_emod_of_nonneg (by omega)]; rfl⟩
  have d0 : (n : Int) ≤ 100 := by omega
  have hll := hr.1
  go_enter Try.func7, Try.ntmps7
  go_wp2_with (fail)
  refine (anchor_any W).mono ?_
  rintro e w1 ⟨rfl, hb1⟩
  go_wp2_with (fail)
  refine (new_any _).mono ?_
  rintro e w2 ⟨rfl, h2, hb2⟩
  go_wp2_with (fail)
  refine (new_any _).mono ?_
  rintro e w3 ⟨rfl, h3, hb3⟩
  have hb4 : Below W.heap.size W w3 := hb1.trans ((hb2.mono hb1.size).trans (hb3.mono (Nat.le_trans hb1.size hb2.size)))
  have hg0 := hb1.size
  have hg1 := h2.lt
  have hg2 := hb2.size
  have h4 := h2.below hb3 hg1
  clear hb2 hb1 hb3 h2
  go_wp2
  go_loopw [32] (fun i wr => ∃ (j : Nat), j ≤ n ∧ i = .int .i64 j ∧ Both W w1.heap.size w2.heap.size (run (l.take j)) (run ((l.drop k ++ l.take k).take j)) wr) (fun i _ => n - (intOf i).toNat)
  case atStart => exact ⟨0, by omega, rfl, by simpa [run] using h4, by simpa [run] using h3, hb4, hg0, by omega, by omega⟩
  case round =>
    obtain ⟨i, hi, rfl, hma, hmb, hw, hc0, hc1, hc2⟩ := hrel
    clear h3 h4 hb4 hg0 hg1 hg2
    by_cases hlt : i < n
    · obtain ⟨j, hj, HJ⟩ : ∃ j : Nat, j = (i + k) % n ∧ ((i : Int) + (k : Int)).tmod (n : Int) = (j : Int) :=
        ⟨(i + k) % n, rfl, by rw [Int.tmod_eq_emod_of_nonneg (by omega)]; rfl⟩
      have hjn : j < n := by rw [hj]; exact Nat.mod_lt _ (by omega)
      have hti := turn_at hll hk hlt
      rw [← hj] at hti
      obtain ⟨ad, ⟨xo, xk, xn⟩, rfl, hx, hal, x0, x1, x2⟩ := (hr.below hw).at_ hlt
      obtain ⟨ad2, ⟨yo, yk, yn⟩, e2, hy, _, y0, y1, y2⟩ := (hr.below hw).at_ hjn
      obtain rfl : ad = ad2 := by injection e2
      have fx := hf _ (List.mem_of_getElem? hx)
      have fy := hf _ (List.mem_of_getElem? hy)
      have hxn : xn ≤ 9223372036854775807 := fx.2.2.2
      have hyn : yn ≤ 9223372036854775807 := fy.2.2.2
      have EX := Lib.hid (run_snoc hx)
      have EY := Lib.hid (run_snoc (hti.trans hy))
      have hin : 0 < (n : Int) := by omega
      have hnz : ((n : Int) == 0) = false := by rw [beq_eq_false_iff_ne]; omega
      simp only at x0 x1 x2 y0 y1 y2
      have past : ∀ (a : Addr) (u : Value), wr.cell? a = some u → a.block = ad.block → (∀ o, (wr.alloc o).cell? a = some u) ∧ ∀ o o', ((wr.alloc o).alloc o').cell? a = some u := fun a u hc hb => by
        have h1 : ∀ o, (wr.alloc o).cell? a = some u := fun o => by
          rw [World.cell?_of_block (Below.heap_alloc wr o a.block (by rw [hb]; exact hal))]; exact hc
        exact ⟨h1, fun o o' => by
          rw [World.cell?_of_block (Below.heap_alloc (wr.alloc o) o' a.block (by rw [hb]; have := hal; simp; omega))]; exact h1 o⟩
      obtain ⟨x0', x0''⟩ := past _ _ x0 (block_of_add _ _)
      obtain ⟨x1', x1''⟩ := past _ _ x1 (block_of_add ad (i * 3))
      obtain ⟨x2', x2''⟩ := past _ _ x2 (block_of_add ad (i * 3))
      obtain ⟨y0', y0''⟩ := past _ _ y0 (block_of_add _ _)
      obtain ⟨y1', y1''⟩ := past _ _ y1 (block_of_add ad (j * 3))
      obtain ⟨y2', y2''⟩ := past _ _ y2 (block_of_add ad (j * 3))
      clear hx hy hti hj fx fy hal e2 past
      have HX := step_cases (run (l.take i)) ⟨xo, xk, xn⟩
      have HY := step_cases (run ((l.drop k ++ l.take k).take i)) ⟨yo, yk, yn⟩
      rcases HX with ⟨gx, HX⟩ | ⟨gx, HX⟩
      · obtain rfl : xo = 1 := gx
        rcases HY with ⟨gy, HY⟩ | ⟨gy, HY⟩
        · obtain rfl : yo = 1 := gy
          go_wp2
          go_region
          all_goals
            go_wp2
            refine wp_loop_rounds 3 ?_
            rw [rounds_succ]
            go_wp2_with (fail)
            refine (count_any _ _ xk xn _ (((((hma.alloc _).alloc _).alloc _).alloc _).drew)).mono ?_
            rintro e w5 ⟨rfl, h5, hg5⟩
            have hS := ((((third_block wr _ _ #[.pointer (some ⟨w1.heap.size, 0, none⟩), .int .i64 1, .int .i64 xk, .int .i64 xn, .pointer (some ⟨w2.heap.size, 0, none⟩), .int .i64 1, .int .i64 yk, .int .i64 yn] _ _ _).alloc _).drew).grown hg5 (by simp; have := hma.lt; omega))
            have hmb5 := (((((hmb.alloc _).alloc _).alloc _).alloc _).drew).grown hg5 (by simp; omega)
            have hb5 : Below W.heap.size W w5 := (below_four hw hw.size _ _ _ _).trans (below_of_only hg5 (below_four hw hw.size _ _ _ _).size hc0)
            have q0 : w5.cell? ⟨wr.heap.size + 1 + 1, 4, none⟩ = some (.pointer (some ⟨w2.heap.size, 0, none⟩)) := hS.cell 4
            have q1 : w5.cell? ⟨wr.heap.size + 1 + 1, 5, none⟩ = some (.int .i64 1) := hS.cell 5
            have q2 : w5.cell? ⟨wr.heap.size + 1 + 1, 6, none⟩ = some (.int .i64 yk) := hS.cell 6
            have q3 : w5.cell? ⟨wr.heap.size + 1 + 1, 7, none⟩ = some (.int .i64 yn) := hS.cell 7
            have hga5 := h5.lt
            clear hg5 hS hma hmb hw
            go_wp2
            rw [rounds_succ]
            go_wp2_with (fail)
            refine (count_any _ _ yk yn _ (hmb5.alloc _)).mono ?_
            rintro e w6 ⟨rfl, h6, hg6⟩
            have hma6 := (h5.alloc _).grown hg6 (by simp; omega)
            have hb6 : Below W.heap.size W w6 := (hb5.alloc hb5.size _).trans (below_of_only hg6 (Nat.le_trans hb5.size (by simp)) hc1)
            rw [← HX.out, ← EX.out] at hma6
            rw [← HY.out, ← EY.out] at h6
            clear hg6 h5 hmb5 hb5 q0 q1 q2 q3
            go_wp2
            rw [rounds_succ]
            go_wp2
            go_roundw
            case rel => exact ⟨i + 1, by omega, by go_num, hma6, h6, hb6, hc0, hc1, hc2⟩
            case measure => simp [intOf]; omega
        · go_wp2
          go_region
          all_goals
            go_wp2
            refine wp_loop_rounds 3 ?_
            rw [rounds_succ]
            go_wp2_with (fail)
            refine (count_any _ _ xk xn _ (((((hma.alloc _).alloc _).alloc _).alloc _).drew)).mono ?_
            rintro e w5 ⟨rfl, h5, hg5⟩
            have hS := ((((third_block wr _ _ #[.pointer (some ⟨w1.heap.size, 0, none⟩), .int .i64 1, .int .i64 xk, .int .i64 xn, .pointer (some ⟨w2.heap.size, 0, none⟩), .int .i64 yo, .int .i64 yk, .int .i64 yn] _ _ _).alloc _).drew).grown hg5 (by simp; have := hma.lt; omega))
            have hmb5 := (((((hmb.alloc _).alloc _).alloc _).alloc _).drew).grown hg5 (by simp; omega)
            have hb5 : Below W.heap.size W w5 := (below_four hw hw.size _ _ _ _).trans (below_of_only hg5 (below_four hw hw.size _ _ _ _).size hc0)
            have q0 : w5.cell? ⟨wr.heap.size + 1 + 1, 4, none⟩ = some (.pointer (some ⟨w2.heap.size, 0, none⟩)) := hS.cell 4
            have q1 : w5.cell? ⟨wr.heap.size + 1 + 1, 5, none⟩ = some (.int .i64 yo) := hS.cell 5
            have q2 : w5.cell? ⟨wr.heap.size + 1 + 1, 6, none⟩ = some (.int .i64 yk) := hS.cell 6
            have q3 : w5.cell? ⟨wr.heap.size + 1 + 1, 7, none⟩ = some (.int .i64 yn) := hS.cell 7
            have hga5 := h5.lt
            clear hg5 hS hma hmb hw
            go_wp2
            rw [rounds_succ]
            go_wp2_with (fail)
            refine (mark_any _ _ yn _ (hmb5.alloc _) hyn).mono ?_
            rintro e w6 ⟨rfl, h6, hg6⟩
            have hma6 := (h5.alloc _).grown hg6 (by simp; omega)
            have hb6 : Below W.heap.size W w6 := (hb5.alloc hb5.size _).trans (below_of_only hg6 (Nat.le_trans hb5.size (by simp)) hc1)
            rw [← HX.out, ← EX.out] at hma6
            rw [← HY.out, ← EY.out] at h6
            clear hg6 h5 hmb5 hb5 q0 q1 q2 q3
            go_wp2
            rw [rounds_succ]
            go_wp2
            go_roundw
            case rel => exact ⟨i + 1, by omega, by go_num, hma6, h6, hb6, hc0, hc1, hc2⟩
            case measure => simp [intOf]; omega
      · rcases HY with ⟨gy, HY⟩ | ⟨gy, HY⟩
        · obtain rfl : yo = 1 := gy
          go_wp2
          go_region
          all_goals
            go_wp2
            refine wp_loop_rounds 3 ?_
            rw [rounds_succ]
            go_wp2_with (fail)
            refine (mark_any _ _ xn _ (((((hma.alloc _).alloc _).alloc _).alloc _).drew) hxn).mono ?_
            rintro e w5 ⟨rfl, h5, hg5⟩
            have hS := ((((third_block wr _ _ #[.pointer (some ⟨w1.heap.size, 0, none⟩), .int .i64 xo, .int .i64 xk, .int .i64 xn, .pointer (some ⟨w2.heap.size, 0, none⟩), .int .i64 1, .int .i64 yk, .int .i64 yn] _ _ _).alloc _).drew).grown hg5 (by simp; have := hma.lt; omega))
            have hmb5 := (((((hmb.alloc _).alloc _).alloc _).alloc _).drew).grown hg5 (by simp; omega)
            have hb5 : Below W.heap.size W w5 := (below_four hw hw.size _ _ _ _).trans (below_of_only hg5 (below_four hw hw.size _ _ _ _).size hc0)
            have q0 : w5.cell? ⟨wr.heap.size + 1 + 1, 4, none⟩ = some (.pointer (some ⟨w2.heap.size, 0, none⟩)) := hS.cell 4
            have q1 : w5.cell? ⟨wr.heap.size + 1 + 1, 5, none⟩ = some (.int .i64 1) := hS.cell 5
            have q2 : w5.cell? ⟨wr.heap.size + 1 + 1, 6, none⟩ = some (.int .i64 yk) := hS.cell 6
            have q3 : w5.cell? ⟨wr.heap.size + 1 + 1, 7, none⟩ = some (.int .i64 yn) := hS.cell 7
            have hga5 := h5.lt
            clear hg5 hS hma hmb hw
            go_wp2
            rw [rounds_succ]
            go_wp2_with (fail)
            refine (count_any _ _ yk yn _ (hmb5.alloc _)).mono ?_
            rintro e w6 ⟨rfl, h6, hg6⟩
            have hma6 := (h5.alloc _).grown hg6 (by simp; omega)
            have hb6 : Below W.heap.size W w6 := (hb5.alloc hb5.size _).trans (below_of_only hg6 (Nat.le_trans hb5.size (by simp)) hc1)
            rw [← HX.out, ← EX.out] at hma6
            rw [← HY.out, ← EY.out] at h6
            clear hg6 h5 hmb5 hb5 q0 q1 q2 q3
            go_wp2
            rw [rounds_succ]
            go_wp2
            go_roundw
            case rel => exact ⟨i + 1, by omega, by go_num, hma6, h6, hb6, hc0, hc1, hc2⟩
            case measure => simp [intOf]; omega
        · go_wp2
          go_region
          all_goals
            go_wp2
            refine wp_loop_rounds 3 ?_
            rw [rounds_succ]
            go_wp2_with (fail)
            refine (mark_any _ _ xn _ (((((hma.alloc _).alloc _).alloc _).alloc _).drew) hxn).mono ?_
            rintro e w5 ⟨rfl, h5, hg5⟩
            have hS := ((((third_block wr _ _ #[.pointer (some ⟨w1.heap.size, 0, none⟩), .int .i64 xo, .int .i64 xk, .int .i64 xn, .pointer (some ⟨w2.heap.size, 0, none⟩), .int .i64 yo, .int .i64 yk, .int .i64 yn] _ _ _).alloc _).drew).grown hg5 (by simp; have := hma.lt; omega))
            have hmb5 := (((((hmb.alloc _).alloc _).alloc _).alloc _).drew).grown hg5 (by simp; omega)
            have hb5 : Below W.heap.size W w5 := (below_four hw hw.size _ _ _ _).trans (below_of_only hg5 (below_four hw hw.size _ _ _ _).size hc0)
            have q0 : w5.cell? ⟨wr.heap.size + 1 + 1, 4, none⟩ = some (.pointer (some ⟨w2.heap.size, 0, none⟩)) := hS.cell 4
            have q1 : w5.cell? ⟨wr.heap.size + 1 + 1, 5, none⟩ = some (.int .i64 yo) := hS.cell 5
            have q2 : w5.cell? ⟨wr.heap.size + 1 + 1, 6, none⟩ = some (.int .i64 yk) := hS.cell 6
            have q3 : w5.cell? ⟨wr.heap.size + 1 + 1, 7, none⟩ = some (.int .i64 yn) := hS.cell 7
            have hga5 := h5.lt
            clear hg5 hS hma hmb hw
            go_wp2
            rw [rounds_succ]
            go_wp2_with (fail)
            refine (mark_any _ _ yn _ (hmb5.alloc _) hyn).mono ?_
            rintro e w6 ⟨rfl, h6, hg6⟩
            have hma6 := (h5.alloc _).grown hg6 (by simp; omega)
            have hb6 : Below W.heap.size W w6 := (hb5.alloc hb5.size _).trans (below_of_only hg6 (Nat.le_trans hb5.size (by simp)) hc1)
            rw [← HX.out, ← EX.out] at hma6
            rw [← HY.out, ← EY.out] at h6
            clear hg6 h5 hmb5 hb5 q0 q1 q2 q3
            go_wp2
            rw [rounds_succ]
            go_wp2
            go_roundw
            case rel => exact ⟨i + 1, by omega, by go_num, hma6, h6, hb6, hc0, hc1, hc2⟩
            case measure => simp [intOf]; omega
    · obtain rfl : i = n := by omega
      have ES : run ((l.drop k ++ l.take k).take i) = run l := by
        rw [List.take_of_length_le (by rw [List.length_append, List.length_drop, List.length_take]; omega), run_turn]
      have ET : run (l.take i) = run l := by rw [List.take_of_length_le (by omega)]
      rw [ES] at hmb
      rw [ET] at hma
      clear ES ET
      obtain ⟨S, hS⟩ : ∃ S, run l = S := ⟨_, rfl⟩
      rw [hS] at hma hmb
      clear hS
      go_wp2
      go_loopw [81] (fun i wx => ∃ (j : Nat), j ≤ 16 ∧ i = .int .i64 j ∧ Me wx w1.heap.size S ∧ Me wx w2.heap.size S ∧ Below W.heap.size W wx) (fun i _ => 16 - (intOf i).toNat)
      case atStart => exact ⟨0, by omega, rfl, hma, hmb, hw⟩
      case round =>
        clear hma hmb hw
        obtain ⟨j, hj, rfl, hma, hmb, hw⟩ := hrel
        by_cases hj2 : j < 16
        · go_wp2_with (fail)
          refine (get_any _ _ _ _ hma).mono ?_
          rintro e w5 ⟨rfl, h5, hg5⟩
          have hmb5 := hmb.grown hg5 (by simp; omega)
          have hb5 : Below W.heap.size W w5 := hw.trans (below_of_only hg5 hw.size hc0)
          clear hg5 hma hmb hw
          go_wp2_with (fail)
          refine (get_any _ _ _ _ hmb5).mono ?_
          rintro e w6 ⟨rfl, h6, hg6⟩
          have hma6 := h5.grown hg6 (by simp; omega)
          have hb6 : Below W.heap.size W w6 := hb5.trans (below_of_only hg6 hb5.size hc1)
          clear hg6 h5 hmb5 hb5
          go_wp2
          go_roundw
          case rel => exact ⟨j + 1, by omega, by go_num, hma6, h6, hb6⟩
          case measure => simp [intOf]; omega
        · obtain rfl : j = 16 := by omega
          go_wp2_with (fail)
          refine (high_any _ _ _ hma).mono ?_
          rintro e w5 ⟨rfl, h5, hg5⟩
          have hmb5 := hmb.grown hg5 (by simp; omega)
          have hb5 : Below W.heap.size W w5 := hw.trans (below_of_only hg5 hw.size hc0)
          clear hg5 hma hmb hw
          go_wp2_with (fail)
          refine (high_any _ _ _ hmb5).mono ?_
          rintro e w6 ⟨rfl, h6, hg6⟩
          have hma6 := h5.grown hg6 (by simp; omega)
          have hb6 : Below W.heap.size W w6 := hb5.trans (below_of_only hg6 hb5.size hc1)
          clear hg6 h5 hmb5 hb5
          go_wp2_with (fail)
          refine (total_any _ _ _ hma6).mono ?_
          rintro e w7 ⟨rfl, h7, hg7⟩
          have hmb7 := h6.grown hg7 (by simp; omega)
          have hb7 : Below W.heap.size W w7 := hb6.trans (below_of_only hg7 hb6.size hc0)
          clear hg7 hma6 h6 hb6
          go_wp2_with (fail)
          refine (total_any _ _ _ hmb7).mono ?_
          rintro e w8 ⟨rfl, h8, hg8⟩
          have hb8 : Below W.heap.size W w8 := hb7.trans (below_of_only hg8 hb7.size hc1)
          clear hg8 h7 hmb7 hb7
          go_wp2
          go_ret
          exact ⟨rfl, hb8⟩

set_option maxHeartbeats 2000000 in
theorem order_out (A : Option Addr) (n cap : Nat) (t : Int) (W : World) (h : 100 < (n : Int) ∨ ((n : Int) ≤ 100 ∧ t < 0)) : Calls Try.prog 7 #[.slice A n cap, .int .i64 t] W (Says true W) := by
  rcases h with h | ⟨h, h2⟩
  all_goals
    go_enter Try.func7, Try.ntmps7
    go_wp2_with (fail)
    refine (anchor_any W).mono ?_
    rintro e w1 ⟨rfl, hb1⟩
    go_wp2
    go_ret
    exact ⟨rfl, hb1⟩

theorem order_any (A : Option Addr) (n cap : Nat) (l : List Step) (t : Int) (W : World) (hr : ActsAt W A n l) (hf : ∀ s ∈ l, s.fits) (ht : t ≤ 9223372036854775807) :
    Calls Try.prog 7 #[.slice A n cap, .int .i64 t] W (Says true W) := by
  by_cases h : n ≤ 100 ∧ 0 ≤ t
  · obtain ⟨t, rfl⟩ := Int.eq_ofNat_of_zero_le h.2
    exact order_in A n cap l t W h.1 ht hr hf
  · exact order_out A n cap t W (by omega)

theorem order_lifted (os : Os) (started : os.Started) (H : Type) (enc : TypeId × Value → H) :
    ReturnsInHanded {} Try.checked os 7 .any (Rows.meterOrderSpec.pre6 enc Try.prog Try.f7 Rows.meterOrderRow.domain false) (Rows.meterOrderSpec.post enc Try.prog Try.f7 false true false false) := by
  refine returnsInHanded_of_change (C := Try.checked) own started (by kernel_rfl) Try.func7
    (ChangeSpec.witness6 (enc := enc) (C := Try.checked) false ⟨#[], #[.slice none 0 0, .int .i64 0], []⟩ 8 (by kernel_rfl) (by kernel_rfl) (by kernel_rfl) (by kernel_rfl)) ?_
  intro W base args ds gs before hval0 hW _ _
  have hval : ∀ (j : Nat) t v, Try.f7.params[j]? = some t → args[j]? = some v → Value.okWide Try.prog W .any base t v := hval0
  have hW' := hW
  obtain ⟨p, q, hA0, hV, rfl, _, _⟩ := hW
  have hA : DataW.TrodAll enc Try.prog W 0 (fun _ => true) true Try.f7.params.toList args.toList ds p := hA0
  rw [Try.params7] at hA hval
  obtain ⟨v0, vs0, d0, ds0, p0, q0, hargs, rfl, rfl, h0, r0⟩ := trodAll_cons hA
  obtain ⟨v1, vs1, d1, ds1, p1, q1, rfl, rfl, rfl, h1, r1⟩ := trodAll_cons r0
  obtain ⟨rfl, rfl, rfl⟩ := trodAll_nil r1
  obtain rfl : args = #[v0, v1] := by cases args; simp_all
  obtain ⟨rfl, rfl⟩ := trodVars_none hV
  obtain ⟨A0, n0, c0, l0, rfl, hl0, hc0, hm0, hr0, hz0⟩ := open_acts (hval 0 22 v0 rfl rfl) h0
  obtain ⟨z1, rfl, rfl, rfl, wz1⟩ := open_int Try.underlying3 (hval 1 3 v1 rfl rfl) h1
  clear hA0
  have hk := order_any A0 n0 c0 l0 z1 W hr0 hz0 (wf_i64 wz1).2
  exact hk.mono fun e W' ⟨he, hb⟩ => ⟨_, he, law_post laid_ok (by kernel_rfl) rfl Try.underlying4 rfl hW' rfl hb⟩

theorem order_holds : Rows.MeterOrderSaid :=
  OpenClaim.holds_of_wide 7 Try.f7 rfl rfl rfl rfl rfl rfl rfl ⟨rfl, rfl, rfl, rfl, rfl⟩ rfl rfl rfl rfl rfl (by kernel_rfl) Try.func7 (by kernel_rfl)
    (of_decide_eq_true (by kernel_rfl)) (by unfold Func.isWrapper; first | (rw [if_pos (by decide +kernel)]; kernel_rfl) | (rw [if_neg (by decide +kernel)]; exact ⟨rfl, rfl⟩))
    (fun os started H enc _ => order_lifted os started H enc)

end Go.Proofs.Ythaikcopbeppeaa
