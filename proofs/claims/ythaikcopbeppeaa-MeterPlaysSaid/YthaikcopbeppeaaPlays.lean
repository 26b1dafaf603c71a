/-
  WHAT IS PROVED: the law MeterPlays answers true for all arguments, which read behind the call as before it (every play of counts, marks and closings is answered, and counted, as the document says). No condition beyond those of the given row.
-/
import Derived.Test.YthaikcopbeppeaaAnchor
import Derived.Test.YthaikcopbeppeaaActs
import Derived.Test.YthaikcopbeppeaaArr
namespace Go.Proofs.Ythaikcopbeppeaa
open Go.RowKit Go.Lib Go.ChangeShapes Go.WideShapes Go.ChangeAt Go.WideElems

theorem get_nat (s : St) {j : Nat} (hj : j < 16) : s.get (j : Int) = s.f j := by
  unfold St.get
  rw [if_pos (by omega)]
  rfl
theorem sum_bounds {f : Nat → Int} {B : Int} (h : ∀ i, i < 16 → 0 ≤ f i ∧ f i ≤ B) (hB : B ≤ 858993459200) : ∀ j, j ≤ 16 → 0 ≤ sumTo f j ∧ sumTo f j ≤ (j : Int) * 858993459200
  | 0, _ => by simp [sumTo]
  | j + 1, hj => by
    have h1 := sum_bounds h hB j (by omega)
    have h2 := h j (by omega)
    show 0 ≤ sumTo f j + f j ∧ sumTo f j + f j ≤ _
    omega
theorem total_small {s : St} (h : sumTo s.f 16 ≤ 4611686018427387904) : s.total = sumTo s.f 16 := by unfold St.total; omega

/-- what holds ahead of each step: the meter has what the law has counted -/
def Play (W : World) (g cb k : Nat) (s : St) (wr : World) : Prop :=
  (∀ i, i < 16 → 0 ≤ s.f i ∧ s.f i ≤ (k : Int) * 4294967296) ∧ Me wr g s ∧ Blk wr cb 26 (fa s.f) ∧ Below W.heap.size W wr ∧ W.heap.size ≤ cb ∧ W.heap.size ≤ g ∧ cb ≠ g

set_option maxRecDepth 100000 in
set_option maxHeartbeats 8000000 in
theorem plays_in (A : Option Addr) (n cap : Nat) (l : List Step) (ask : Int) (W : World) (hn : n ≤ 200) (hr : ActsAt W A n l) (hf : ∀ s ∈ l, s.fits) :
    Calls Try.prog 3 #[.slice A n cap, .int .i64 ask] W (Says true W) := by
  have d0 : (n : Int) ≤ 200 := by omega
  go_enter Try.func3, Try.ntmps3
  go_wp2_with (fail)
  refine (anchor_any W).mono ?_
  rintro e w1 ⟨rfl, hb1⟩
  go_wp2_with (fail)
  refine (new_any _).mono ?_
  rintro e w2 ⟨rfl, h2, hb2⟩
  have hb3 : Below W.heap.size W w2 := hb1.trans (hb2.mono hb1.size)
  have hg0 := hb1.size
  have hg1 := h2.lt
  clear hb2 hb1
  go_wp2
  go_loopw [7, 8, 9, 26] (fun h r c i wr => ∃ (k : Nat) (s : St), k ≤ n ∧ i = .int .i64 k ∧ h = .int .i64 s.high ∧ r = .int .i64 s.reason ∧ c = .bool s.closed ∧ Play W w1.heap.size w2.heap.size k s wr) (fun _ _ _ i _ => n - (intOf i).toNat)
  case atStart => exact ⟨0, St.zero, by omega, rfl, rfl, rfl, rfl, fun i hi => by simp [St.zero], h2.alloc _, blk_new rfl (by kernel_rfl), hb3.alloc hb3.size _, hb3.size, hg0, by omega⟩
  case round =>
    obtain ⟨k, s, hk, rfl, rfl, rfl, rfl, hb, hm, hB, hw, hc0, hc1, hcg⟩ := hrel
    clear h2 hb3 hg0 hg1
    by_cases hlt : k < n
    · obtain ⟨ad, ⟨ho, ki, nn⟩, rfl, ha, hal, k0, k1, k2⟩ := (hr.below hw).at_ hlt
      have hfit := hf _ (List.mem_of_getElem? ha)
      have hnn : nn ≤ 9223372036854775807 := hfit.2.2.2
      simp only at k0 k1 k2
      clear ha hal hfit
      cases hcl : s.closed with
      | true =>
        by_cases x1 : ho = 1
        · subst x1
          obtain ⟨s2, E2⟩ : ∃ s2 : St, Hid (s = s2) := ⟨_, Lib.hid rfl⟩
          have EH := Lib.hid (show s2.high = s.high by rw [E2.out])
          have ER := Lib.hid (show s2.reason = s.reason by rw [E2.out])
          have EC := Lib.hid (show s2.closed = true by rw [← E2.out]; exact hcl)
          have hbd2 : ∀ i, i < 16 → 0 ≤ s2.f i ∧ s2.f i ≤ ((k + 1 : Nat) : Int) * 4294967296 := fun i hi => by have := hb i hi; rw [E2.out] at this; omega
          have EO := Lib.hid (show s.okC ki nn = false by unfold St.okC; rw [hcl]; rfl)
          have ES := Lib.hid (show s.count ki nn = s by unfold St.count St.okC; rw [hcl]; rfl)
          go_wp2_with (fail)
          refine (count_any _ _ ki nn _ (hm.alloc _)).mono ?_
          rintro e w5 ⟨rfl, h5, hg5⟩
          rw [EO.out]
          rw [ES.out, E2.out] at h5
          have hA5 : Blk w5 w2.heap.size 26 (fa s2.f) := by rw [← E2.out]; exact (hB.alloc _).grown hg5 (by simpa using hcg)
          have hb5 : Below W.heap.size W w5 := (hw.alloc hw.size _).trans (below_of_only hg5 (Nat.le_trans hw.size (by simp)) hc1)
          clear hm hB hw hb E2 hg5
          go_wp2_with (first | (refine wpList_load_row rfl 26 (.tmp 6) rfl w2.heap.size rfl 26 (fa s2.f) (0, 0) _ hA5 Try.underlying26 rfl (fa_info s2.f) ?_))
          go_loopw [13, 104] (fun t i wx => ∃ j : Nat, j ≤ 16 ∧ i = .int .i64 j ∧ t = .int .i64 (sumTo s2.f j) ∧ Me wx w1.heap.size s2 ∧ (w5).grownBy wx (some w1.heap.size)) (fun _ i _ => 16 - (intOf i).toNat)
          case atStart => exact ⟨0, by omega, rfl, rfl, h5, World.grownBy.refl _ _⟩
          case round =>
            obtain ⟨j, hj, rfl, rfl, h6, hg6⟩ := hrel
            have hs := sum_bounds hbd2 (by omega) j hj
            by_cases hj2 : j < 16
            · have RI := run_index_fa s2.f j hj2
              have EG := Lib.hid (get_nat s2 hj2)
              have hfj := hbd2 j hj2
              go_wp2_with (fail)
              refine (get_any _ _ _ _ h6).mono ?_
              rintro e w7 ⟨rfl, h7, hg7⟩
              rw [EG.out]
              go_wp2
              go_roundw
              case rel => exact ⟨j + 1, by omega, by go_num, rfl, h7, hg6.trans hg7⟩
              case measure => simp [intOf]; omega
            · obtain rfl : j = 16 := by omega
              have ET := Lib.hid (total_small (s := s2) (by omega))
              go_wp2_with (fail)
              refine (closed_any _ _ _ h6).mono ?_
              rintro e w7 ⟨rfl, h7, hg7⟩
              rw [ER.out, EC.out]
              go_wp2_with (fail)
              refine (high_any _ _ _ h7).mono ?_
              rintro e w8 ⟨rfl, h8, hg8⟩
              rw [EH.out]
              go_wp2_with (fail)
              refine (total_any _ _ _ h8).mono ?_
              rintro e w9 ⟨rfl, h9, hg9⟩
              rw [ET.out]
              have hg10 := hg6.trans (hg7.trans (hg8.trans hg9))
              have hA9 : Blk w9 w2.heap.size 26 (fa s2.f) := hA5.grown hg10 (by simpa using hcg)
              have hb9 : Below W.heap.size W w9 := hb5.trans (below_of_only hg10 hb5.size hc1)
              clear hg10 hg6 hg7 hg8 hg9 h6 h7 h8 hA5 hb5 h5
              go_wp2
              go_roundw
              case rel => exact ⟨k + 1, s2, by omega, by go_num, by rw [EH.out], by rw [ER.out], by rw [EC.out], fun i hi => by have := hbd2 i hi; omega, h9, hA9, hb9, hc0, hc1, hcg⟩
              case measure => simp [intOf]; omega
        · have y1 : (ho == 1) = false := by rw [beq_eq_false_iff_ne]; exact x1
          by_cases x2 : ho = 2
          · subst x2
            obtain ⟨s2, E2⟩ : ∃ s2 : St, Hid (s = s2) := ⟨_, Lib.hid rfl⟩
            have EH := Lib.hid (show s2.high = s.high by rw [E2.out])
            have ER := Lib.hid (show s2.reason = s.reason by rw [E2.out])
            have EC := Lib.hid (show s2.closed = true by rw [← E2.out]; exact hcl)
            have hbd2 : ∀ i, i < 16 → 0 ≤ s2.f i ∧ s2.f i ≤ ((k + 1 : Nat) : Int) * 4294967296 := fun i hi => by have := hb i hi; rw [E2.out] at this; omega
            have EO := Lib.hid (show s.okM nn = false by unfold St.okM; rw [hcl]; rfl)
            have ES := Lib.hid (show s.mark nn = s by unfold St.mark St.okM; rw [hcl]; rfl)
            go_wp2_with (fail)
            refine (mark_any _ _ nn _ (hm.alloc _) hnn).mono ?_
            rintro e w5 ⟨rfl, h5, hg5⟩
            rw [EO.out]
            rw [ES.out, E2.out] at h5
            have hA5 : Blk w5 w2.heap.size 26 (fa s2.f) := by rw [← E2.out]; exact (hB.alloc _).grown hg5 (by simpa using hcg)
            have hb5 : Below W.heap.size W w5 := (hw.alloc hw.size _).trans (below_of_only hg5 (Nat.le_trans hw.size (by simp)) hc1)
            clear hm hB hw hb E2 hg5
            go_wp2_with (first | (refine wpList_load_row rfl 26 (.tmp 6) rfl w2.heap.size rfl 26 (fa s2.f) (0, 0) _ hA5 Try.underlying26 rfl (fa_info s2.f) ?_))
            go_loopw [13, 104] (fun t i wx => ∃ j : Nat, j ≤ 16 ∧ i = .int .i64 j ∧ t = .int .i64 (sumTo s2.f j) ∧ Me wx w1.heap.size s2 ∧ (w5).grownBy wx (some w1.heap.size)) (fun _ i _ => 16 - (intOf i).toNat)
            case atStart => exact ⟨0, by omega, rfl, rfl, h5, World.grownBy.refl _ _⟩
            case round =>
              obtain ⟨j, hj, rfl, rfl, h6, hg6⟩ := hrel
              have hs := sum_bounds hbd2 (by omega) j hj
              by_cases hj2 : j < 16
              · have RI := run_index_fa s2.f j hj2
                have EG := Lib.hid (get_nat s2 hj2)
                have hfj := hbd2 j hj2
                go_wp2_with (fail)
                refine (get_any _ _ _ _ h6).mono ?_
                rintro e w7 ⟨rfl, h7, hg7⟩
                rw [EG.out]
                go_wp2
                go_roundw
                case rel => exact ⟨j + 1, by omega, by go_num, rfl, h7, hg6.trans hg7⟩
                case measure => simp [intOf]; omega
              · obtain rfl : j = 16 := by omega
                have ET := Lib.hid (total_small (s := s2) (by omega))
                go_wp2_with (fail)
                refine (closed_any _ _ _ h6).mono ?_
                rintro e w7 ⟨rfl, h7, hg7⟩
                rw [ER.out, EC.out]
                go_wp2_with (fail)
                refine (high_any _ _ _ h7).mono ?_
                rintro e w8 ⟨rfl, h8, hg8⟩
                rw [EH.out]
                go_wp2_with (fail)
                refine (total_any _ _ _ h8).mono ?_
                rintro e w9 ⟨rfl, h9, hg9⟩
                rw [ET.out]
                have hg10 := hg6.trans (hg7.trans (hg8.trans hg9))
                have hA9 : Blk w9 w2.heap.size 26 (fa s2.f) := hA5.grown hg10 (by simpa using hcg)
                have hb9 : Below W.heap.size W w9 := hb5.trans (below_of_only hg10 hb5.size hc1)
                clear hg10 hg6 hg7 hg8 hg9 h6 h7 h8 hA5 hb5 h5
                go_wp2
                go_roundw
                case rel => exact ⟨k + 1, s2, by omega, by go_num, by rw [EH.out], by rw [ER.out], by rw [EC.out], fun i hi => by have := hbd2 i hi; omega, h9, hA9, hb9, hc0, hc1, hcg⟩
                case measure => simp [intOf]; omega
          · have y2 : (ho == 2) = false := by rw [beq_eq_false_iff_ne]; exact x2
            by_cases x3 : ho = 3
            · subst x3
              obtain ⟨s2, E2⟩ : ∃ s2 : St, Hid (s = s2) := ⟨_, Lib.hid rfl⟩
              have EH := Lib.hid (show s2.high = s.high by rw [E2.out])
              have ER := Lib.hid (show s2.reason = s.reason by rw [E2.out])
              have EC := Lib.hid (show s2.closed = true by rw [← E2.out]; exact hcl)
              have hbd2 : ∀ i, i < 16 → 0 ≤ s2.f i ∧ s2.f i ≤ ((k + 1 : Nat) : Int) * 4294967296 := fun i hi => by have := hb i hi; rw [E2.out] at this; omega
              have EO := Lib.hid (show (!s.closed) = false by rw [hcl]; rfl)
              have ES := Lib.hid (show s.close nn = s by unfold St.close; rw [hcl]; rfl)
              go_wp2_with (fail)
              refine (close_any _ _ nn _ (hm.alloc _)).mono ?_
              rintro e w5 ⟨rfl, h5, hg5⟩
              rw [EO.out]
              rw [ES.out, E2.out] at h5
              have hA5 : Blk w5 w2.heap.size 26 (fa s2.f) := by rw [← E2.out]; exact (hB.alloc _).grown hg5 (by simpa using hcg)
              have hb5 : Below W.heap.size W w5 := (hw.alloc hw.size _).trans (below_of_only hg5 (Nat.le_trans hw.size (by simp)) hc1)
              clear hm hB hw hb E2 hg5
              go_wp2_with (first | (refine wpList_load_row rfl 26 (.tmp 6) rfl w2.heap.size rfl 26 (fa s2.f) (0, 0) _ hA5 Try.underlying26 rfl (fa_info s2.f) ?_))
              go_loopw [13, 104] (fun t i wx => ∃ j : Nat, j ≤ 16 ∧ i = .int .i64 j ∧ t = .int .i64 (sumTo s2.f j) ∧ Me wx w1.heap.size s2 ∧ (w5).grownBy wx (some w1.heap.size)) (fun _ i _ => 16 - (intOf i).toNat)
              case atStart => exact ⟨0, by omega, rfl, rfl, h5, World.grownBy.refl _ _⟩
              case round =>
                obtain ⟨j, hj, rfl, rfl, h6, hg6⟩ := hrel
                have hs := sum_bounds hbd2 (by omega) j hj
                by_cases hj2 : j < 16
                · have RI := run_index_fa s2.f j hj2
                  have EG := Lib.hid (get_nat s2 hj2)
                  have hfj := hbd2 j hj2
                  go_wp2_with (fail)
                  refine (get_any _ _ _ _ h6).mono ?_
                  rintro e w7 ⟨rfl, h7, hg7⟩
                  rw [EG.out]
                  go_wp2
                  go_roundw
                  case rel => exact ⟨j + 1, by omega, by go_num, rfl, h7, hg6.trans hg7⟩
                  case measure => simp [intOf]; omega
                · obtain rfl : j = 16 := by omega
                  have ET := Lib.hid (total_small (s := s2) (by omega))
                  go_wp2_with (fail)
                  refine (closed_any _ _ _ h6).mono ?_
                  rintro e w7 ⟨rfl, h7, hg7⟩
                  rw [ER.out, EC.out]
                  go_wp2_with (fail)
                  refine (high_any _ _ _ h7).mono ?_
                  rintro e w8 ⟨rfl, h8, hg8⟩
                  rw [EH.out]
                  go_wp2_with (fail)
                  refine (total_any _ _ _ h8).mono ?_
                  rintro e w9 ⟨rfl, h9, hg9⟩
                  rw [ET.out]
                  have hg10 := hg6.trans (hg7.trans (hg8.trans hg9))
                  have hA9 : Blk w9 w2.heap.size 26 (fa s2.f) := hA5.grown hg10 (by simpa using hcg)
                  have hb9 : Below W.heap.size W w9 := hb5.trans (below_of_only hg10 hb5.size hc1)
                  clear hg10 hg6 hg7 hg8 hg9 h6 h7 h8 hA5 hb5 h5
                  go_wp2
                  go_roundw
                  case rel => exact ⟨k + 1, s2, by omega, by go_num, by rw [EH.out], by rw [ER.out], by rw [EC.out], fun i hi => by have := hbd2 i hi; omega, h9, hA9, hb9, hc0, hc1, hcg⟩
                  case measure => simp [intOf]; omega
            · have y3 : (ho == 3) = false := by rw [beq_eq_false_iff_ne]; exact x3
              obtain ⟨s2, E2⟩ : ∃ s2 : St, Hid (s = s2) := ⟨_, Lib.hid rfl⟩
              have EH := Lib.hid (show s2.high = s.high by rw [E2.out])
              have ER := Lib.hid (show s2.reason = s.reason by rw [E2.out])
              have EC := Lib.hid (show s2.closed = true by rw [← E2.out]; exact hcl)
              have hbd2 : ∀ i, i < 16 → 0 ≤ s2.f i ∧ s2.f i ≤ ((k + 1 : Nat) : Int) * 4294967296 := fun i hi => by have := hb i hi; rw [E2.out] at this; omega
              have h5 : Me (wr.alloc (.cells #[.int .i64 ho, .int .i64 ki, .int .i64 nn] 28)) w1.heap.size s2 := by rw [← E2.out]; exact hm.alloc _
              have hA5 : Blk (wr.alloc (.cells #[.int .i64 ho, .int .i64 ki, .int .i64 nn] 28)) w2.heap.size 26 (fa s2.f) := by rw [← E2.out]; exact hB.alloc _
              have hb5 : Below W.heap.size W (wr.alloc (.cells #[.int .i64 ho, .int .i64 ki, .int .i64 nn] 28)) := hw.alloc hw.size _
              clear hm hB hw hb E2
              go_wp2_with (first | (refine wpList_load_row rfl 26 (.tmp 6) rfl w2.heap.size rfl 26 (fa s2.f) (0, 0) _ hA5 Try.underlying26 rfl (fa_info s2.f) ?_))
              go_loopw [13, 104] (fun t i wx => ∃ j : Nat, j ≤ 16 ∧ i = .int .i64 j ∧ t = .int .i64 (sumTo s2.f j) ∧ Me wx w1.heap.size s2 ∧ ((wr.alloc (.cells #[.int .i64 ho, .int .i64 ki, .int .i64 nn] 28))).grownBy wx (some w1.heap.size)) (fun _ i _ => 16 - (intOf i).toNat)
              case atStart => exact ⟨0, by omega, rfl, rfl, h5, World.grownBy.refl _ _⟩
              case round =>
                obtain ⟨j, hj, rfl, rfl, h6, hg6⟩ := hrel
                have hs := sum_bounds hbd2 (by omega) j hj
                by_cases hj2 : j < 16
                · have RI := run_index_fa s2.f j hj2
                  have EG := Lib.hid (get_nat s2 hj2)
                  have hfj := hbd2 j hj2
                  go_wp2_with (fail)
                  refine (get_any _ _ _ _ h6).mono ?_
                  rintro e w7 ⟨rfl, h7, hg7⟩
                  rw [EG.out]
                  go_wp2
                  go_roundw
                  case rel => exact ⟨j + 1, by omega, by go_num, rfl, h7, hg6.trans hg7⟩
                  case measure => simp [intOf]; omega
                · obtain rfl : j = 16 := by omega
                  have ET := Lib.hid (total_small (s := s2) (by omega))
                  go_wp2_with (fail)
                  refine (closed_any _ _ _ h6).mono ?_
                  rintro e w7 ⟨rfl, h7, hg7⟩
                  rw [ER.out, EC.out]
                  go_wp2_with (fail)
                  refine (high_any _ _ _ h7).mono ?_
                  rintro e w8 ⟨rfl, h8, hg8⟩
                  rw [EH.out]
                  go_wp2_with (fail)
                  refine (total_any _ _ _ h8).mono ?_
                  rintro e w9 ⟨rfl, h9, hg9⟩
                  rw [ET.out]
                  have hg10 := hg6.trans (hg7.trans (hg8.trans hg9))
                  have hA9 : Blk w9 w2.heap.size 26 (fa s2.f) := hA5.grown hg10 (by simpa using hcg)
                  have hb9 : Below W.heap.size W w9 := hb5.trans (below_of_only hg10 hb5.size hc1)
                  clear hg10 hg6 hg7 hg8 hg9 h6 h7 h8 hA5 hb5 h5
                  go_wp2
                  go_roundw
                  case rel => exact ⟨k + 1, s2, by omega, by go_num, by rw [EH.out], by rw [ER.out], by rw [EC.out], fun i hi => by have := hbd2 i hi; omega, h9, hA9, hb9, hc0, hc1, hcg⟩
                  case measure => simp [intOf]; omega
      | false =>
        by_cases x1 : ho = 1
        · subst x1
          by_cases ok : 0 ≤ ki ∧ ki < 16 ∧ 0 ≤ nn ∧ nn ≤ 4294967296
          · obtain ⟨q0, q1, q2, q3⟩ := ok
            obtain ⟨kt, rfl⟩ := Int.eq_ofNat_of_zero_le q0
            have hkt : kt < 16 := by omega
            have hfk := hb kt hkt
            have hok : s.okC (kt : Int) nn = true := by unfold St.okC; rw [hcl]; simp; omega
            obtain ⟨s2, E2⟩ : ∃ s2 : St, Hid ((⟨fun i => if i = kt then s.f kt + nn else s.f i, s.high, s.closed, s.reason⟩ : St) = s2) := ⟨_, Lib.hid rfl⟩
            have EH := Lib.hid (show s2.high = s.high by rw [← E2.out])
            have ER := Lib.hid (show s2.reason = s.reason by rw [← E2.out])
            have EC := Lib.hid (show s2.closed = false by rw [← E2.out]; exact hcl)
            have ES := Lib.hid (show s.count (kt : Int) nn = s2 by
              rw [← E2.out]
              unfold St.count
              rw [hok]
              unfold St.put
              simp only [if_true, Int.toNat_natCast]
              rw [show plusI (s.f kt) nn = s.f kt + nn by unfold plusI; omega])
            have hbd2 : ∀ i, i < 16 → 0 ≤ s2.f i ∧ s2.f i ≤ ((k + 1 : Nat) : Int) * 4294967296 := fun i hi => by
              have := hb i hi
              rw [← E2.out]
              show 0 ≤ (if i = kt then s.f kt + nn else s.f i) ∧ (if i = kt then s.f kt + nn else s.f i) ≤ _
              split <;> omega
            have EO := Lib.hid hok
            have hgl := hm.lt
            go_wp2_with (fail)
            refine (count_any _ _ (kt : Int) nn _ (hm.alloc _)).mono ?_
            rintro e w5 ⟨rfl, h5, hg5⟩
            rw [EO.out]
            rw [ES.out] at h5
            have hP := (Blk.new wr 28 #[.int .i64 1, .int .i64 (kt : Int), .int .i64 nn]).grown hg5 (by simp; omega)
            have p1 : w5.cell? ⟨wr.heap.size, 1, none⟩ = some (.int .i64 (kt : Int)) := hP.cell 1
            have p2 : w5.cell? ⟨wr.heap.size, 2, none⟩ = some (.int .i64 nn) := hP.cell 2
            have hA4 : Blk w5 w2.heap.size 26 (fa s.f) := (hB.alloc _).grown hg5 (by simpa using hcg)
            have p3 : w5.cell? ⟨w2.heap.size, kt, none⟩ = some (.int .i64 (s.f kt)) := (hA4.cell kt).trans (fa_at _ hkt)
            have p4 := hA4.frozen kt
            have hb4 : Below W.heap.size W w5 := (hw.alloc hw.size _).trans (below_of_only hg5 (Nat.le_trans hw.size (by simp)) hc1)
            have hA3 : Hid (Blk (w5.setCell ⟨w2.heap.size, kt, none⟩ (.int .i64 (s.f kt + nn))) w2.heap.size 26 (fa s2.f)) := by
              show Blk _ _ _ _
              have := hA4.set_ kt (.int .i64 (s.f kt + nn))
              rw [fa_set _ hkt] at this
              rw [← E2.out]
              exact this
            have h6 : Me ((w5.setCell ⟨w2.heap.size, kt, none⟩ (.int .i64 (s.f kt + nn))).drew) w1.heap.size s2 := (h5.far (p := ⟨w2.heap.size, kt, none⟩) (fun e => hcg e.symm) _).drewN 1
            have hA5 : Blk ((w5.setCell ⟨w2.heap.size, kt, none⟩ (.int .i64 (s.f kt + nn))).drew) w2.heap.size 26 (fa s2.f) := hA3.out.drew
            have hb5 : Below W.heap.size W ((w5.setCell ⟨w2.heap.size, kt, none⟩ (.int .i64 (s.f kt + nn))).drew) := (hb4.setCell (p := ⟨w2.heap.size, kt, none⟩) hc0 _).drew
            clear hm hB hw hb hg5 hP hA4 ES EO hA3 h5 hb4
            have h5 := h6
            clear h6
            go_wp2
            go_region
            go_wp2_with (first | (refine wpList_load_row rfl 26 (.tmp 6) rfl w2.heap.size rfl 26 (fa s2.f) (0, 0) _ hA5 Try.underlying26 rfl (fa_info s2.f) ?_))
            go_loopw [13, 104] (fun t i wx => ∃ j : Nat, j ≤ 16 ∧ i = .int .i64 j ∧ t = .int .i64 (sumTo s2.f j) ∧ Me wx w1.heap.size s2 ∧ ((w5.setCell ⟨w2.heap.size, kt, none⟩ (.int .i64 (s.f kt + nn))).drew).grownBy wx (some w1.heap.size)) (fun _ i _ => 16 - (intOf i).toNat)
            case atStart => exact ⟨0, by omega, rfl, rfl, h5, World.grownBy.refl _ _⟩
            case round =>
              obtain ⟨j, hj, rfl, rfl, h6, hg6⟩ := hrel
              have hs := sum_bounds hbd2 (by omega) j hj
              by_cases hj2 : j < 16
              · have RI := run_index_fa s2.f j hj2
                have EG := Lib.hid (get_nat s2 hj2)
                have hfj := hbd2 j hj2
                go_wp2_with (fail)
                refine (get_any _ _ _ _ h6).mono ?_
                rintro e w7 ⟨rfl, h7, hg7⟩
                rw [EG.out]
                go_wp2
                go_roundw
                case rel => exact ⟨j + 1, by omega, by go_num, rfl, h7, hg6.trans hg7⟩
                case measure => simp [intOf]; omega
              · obtain rfl : j = 16 := by omega
                have ET := Lib.hid (total_small (s := s2) (by omega))
                go_wp2_with (fail)
                refine (closed_any _ _ _ h6).mono ?_
                rintro e w7 ⟨rfl, h7, hg7⟩
                rw [ER.out, EC.out]
                go_wp2_with (fail)
                refine (high_any _ _ _ h7).mono ?_
                rintro e w8 ⟨rfl, h8, hg8⟩
                rw [EH.out]
                go_wp2_with (fail)
                refine (total_any _ _ _ h8).mono ?_
                rintro e w9 ⟨rfl, h9, hg9⟩
                rw [ET.out]
                have hg10 := hg6.trans (hg7.trans (hg8.trans hg9))
                have hA9 : Blk w9 w2.heap.size 26 (fa s2.f) := hA5.grown hg10 (by simpa using hcg)
                have hb9 : Below W.heap.size W w9 := hb5.trans (below_of_only hg10 hb5.size hc1)
                clear hg10 hg6 hg7 hg8 hg9 h6 h7 h8 hA5 hb5 h5
                go_wp2
                go_roundw
                case rel => exact ⟨k + 1, s2, by omega, by go_num, by rw [EH.out], by rw [ER.out], by rw [EC.out], fun i hi => by have := hbd2 i hi; omega, h9, hA9, hb9, hc0, hc1, hcg⟩
                case measure => simp [intOf]; omega
          · obtain ok | ok | ok | ok : ki < 0 ∨ (0 ≤ ki ∧ 16 ≤ ki) ∨ (0 ≤ ki ∧ ki < 16 ∧ nn < 0) ∨ (0 ≤ ki ∧ ki < 16 ∧ 0 ≤ nn ∧ 4294967296 < nn) := by omega
            all_goals
              obtain ⟨s2, E2⟩ : ∃ s2 : St, Hid (s = s2) := ⟨_, Lib.hid rfl⟩
              have EH := Lib.hid (show s2.high = s.high by rw [E2.out])
              have ER := Lib.hid (show s2.reason = s.reason by rw [E2.out])
              have EC := Lib.hid (show s2.closed = false by rw [← E2.out]; exact hcl)
              have hbd2 : ∀ i, i < 16 → 0 ≤ s2.f i ∧ s2.f i ≤ ((k + 1 : Nat) : Int) * 4294967296 := fun i hi => by have := hb i hi; rw [E2.out] at this; omega
              have hno : s.okC ki nn = false := by unfold St.okC; rw [hcl]; simp; omega
              have EO := Lib.hid hno
              have ES := Lib.hid (count_no hno)
              clear hno
              go_wp2_with (fail)
              refine (count_any _ _ ki nn _ (hm.alloc _)).mono ?_
              rintro e w5 ⟨rfl, h5, hg5⟩
              rw [EO.out]
              rw [ES.out, E2.out] at h5
              have hA5 : Blk w5 w2.heap.size 26 (fa s2.f) := by rw [← E2.out]; exact (hB.alloc _).grown hg5 (by simpa using hcg)
              have hb5 : Below W.heap.size W w5 := (hw.alloc hw.size _).trans (below_of_only hg5 (Nat.le_trans hw.size (by simp)) hc1)
              clear hm hB hw hb E2 hg5
              go_wp2_with (first | (refine wpList_load_row rfl 26 (.tmp 6) rfl w2.heap.size rfl 26 (fa s2.f) (0, 0) _ hA5 Try.underlying26 rfl (fa_info s2.f) ?_))
              go_loopw [13, 104] (fun t i wx => ∃ j : Nat, j ≤ 16 ∧ i = .int .i64 j ∧ t = .int .i64 (sumTo s2.f j) ∧ Me wx w1.heap.size s2 ∧ (w5).grownBy wx (some w1.heap.size)) (fun _ i _ => 16 - (intOf i).toNat)
              case atStart => exact ⟨0, by omega, rfl, rfl, h5, World.grownBy.refl _ _⟩
              case round =>
                obtain ⟨j, hj, rfl, rfl, h6, hg6⟩ := hrel
                have hs := sum_bounds hbd2 (by omega) j hj
                by_cases hj2 : j < 16
                · have RI := run_index_fa s2.f j hj2
                  have EG := Lib.hid (get_nat s2 hj2)
                  have hfj := hbd2 j hj2
                  go_wp2_with (fail)
                  refine (get_any _ _ _ _ h6).mono ?_
                  rintro e w7 ⟨rfl, h7, hg7⟩
                  rw [EG.out]
                  go_wp2
                  go_roundw
                  case rel => exact ⟨j + 1, by omega, by go_num, rfl, h7, hg6.trans hg7⟩
                  case measure => simp [intOf]; omega
                · obtain rfl : j = 16 := by omega
                  have ET := Lib.hid (total_small (s := s2) (by omega))
                  go_wp2_with (fail)
                  refine (closed_any _ _ _ h6).mono ?_
                  rintro e w7 ⟨rfl, h7, hg7⟩
                  rw [ER.out, EC.out]
                  go_wp2_with (fail)
                  refine (high_any _ _ _ h7).mono ?_
                  rintro e w8 ⟨rfl, h8, hg8⟩
                  rw [EH.out]
                  go_wp2_with (fail)
                  refine (total_any _ _ _ h8).mono ?_
                  rintro e w9 ⟨rfl, h9, hg9⟩
                  rw [ET.out]
                  have hg10 := hg6.trans (hg7.trans (hg8.trans hg9))
                  have hA9 : Blk w9 w2.heap.size 26 (fa s2.f) := hA5.grown hg10 (by simpa using hcg)
                  have hb9 : Below W.heap.size W w9 := hb5.trans (below_of_only hg10 hb5.size hc1)
                  clear hg10 hg6 hg7 hg8 hg9 h6 h7 h8 hA5 hb5 h5
                  go_wp2
                  go_roundw
                  case rel => exact ⟨k + 1, s2, by omega, by go_num, by rw [EH.out], by rw [ER.out], by rw [EC.out], fun i hi => by have := hbd2 i hi; omega, h9, hA9, hb9, hc0, hc1, hcg⟩
                  case measure => simp [intOf]; omega
        · have y1 : (ho == 1) = false := by rw [beq_eq_false_iff_ne]; exact x1
          by_cases x2 : ho = 2
          · subst x2
            by_cases ok : s.high < nn
            · obtain ⟨s2, E2⟩ : ∃ s2 : St, Hid ((⟨s.f, nn, s.closed, s.reason⟩ : St) = s2) := ⟨_, Lib.hid rfl⟩
              have EH := Lib.hid (show s2.high = nn by rw [← E2.out])
              have ER := Lib.hid (show s2.reason = s.reason by rw [← E2.out])
              have EC := Lib.hid (show s2.closed = false by rw [← E2.out]; exact hcl)
              have EF : s2.f = s.f := by rw [← E2.out]
              have hbd2 : ∀ i, i < 16 → 0 ≤ s2.f i ∧ s2.f i ≤ ((k + 1 : Nat) : Int) * 4294967296 := fun i hi => by rw [EF]; have := hb i hi; omega
              have EO := Lib.hid (show s.okM nn = true by unfold St.okM; rw [hcl]; simp; exact ok)
              have ES := Lib.hid (show s.mark nn = s2 by rw [← E2.out]; unfold St.mark St.okM; rw [hcl]; simp [ok])
              have EFh := Lib.hid EF
              clear EF
              go_wp2_with (fail)
              refine (mark_any _ _ nn _ (hm.alloc _) hnn).mono ?_
              rintro e w5 ⟨rfl, h5, hg5⟩
              rw [EO.out]
              rw [ES.out] at h5
              have hA5 : Blk w5 w2.heap.size 26 (fa s2.f) := by rw [EFh.out]; exact (hB.alloc _).grown hg5 (by simpa using hcg)
              have hb5 : Below W.heap.size W w5 := (hw.alloc hw.size _).trans (below_of_only hg5 (Nat.le_trans hw.size (by simp)) hc1)
              have hgl := hm.lt
              have hP := (Blk.new wr 28 #[.int .i64 2, .int .i64 ki, .int .i64 nn]).grown hg5 (by simp; omega)
              have p2 : w5.cell? ⟨wr.heap.size, 2, none⟩ = some (.int .i64 nn) := hP.cell 2
              clear hm hB hw hb E2 hg5 hP EFh
              go_wp2_with (first | (refine wpList_load_row rfl 26 (.tmp 6) rfl w2.heap.size rfl 26 (fa s2.f) (0, 0) _ hA5 Try.underlying26 rfl (fa_info s2.f) ?_))
              go_loopw [13, 104] (fun t i wx => ∃ j : Nat, j ≤ 16 ∧ i = .int .i64 j ∧ t = .int .i64 (sumTo s2.f j) ∧ Me wx w1.heap.size s2 ∧ (w5).grownBy wx (some w1.heap.size)) (fun _ i _ => 16 - (intOf i).toNat)
              case atStart => exact ⟨0, by omega, rfl, rfl, h5, World.grownBy.refl _ _⟩
              case round =>
                obtain ⟨j, hj, rfl, rfl, h6, hg6⟩ := hrel
                have hs := sum_bounds hbd2 (by omega) j hj
                by_cases hj2 : j < 16
                · have RI := run_index_fa s2.f j hj2
                  have EG := Lib.hid (get_nat s2 hj2)
                  have hfj := hbd2 j hj2
                  go_wp2_with (fail)
                  refine (get_any _ _ _ _ h6).mono ?_
                  rintro e w7 ⟨rfl, h7, hg7⟩
                  rw [EG.out]
                  go_wp2
                  go_roundw
                  case rel => exact ⟨j + 1, by omega, by go_num, rfl, h7, hg6.trans hg7⟩
                  case measure => simp [intOf]; omega
                · obtain rfl : j = 16 := by omega
                  have ET := Lib.hid (total_small (s := s2) (by omega))
                  go_wp2_with (fail)
                  refine (closed_any _ _ _ h6).mono ?_
                  rintro e w7 ⟨rfl, h7, hg7⟩
                  rw [ER.out, EC.out]
                  go_wp2_with (fail)
                  refine (high_any _ _ _ h7).mono ?_
                  rintro e w8 ⟨rfl, h8, hg8⟩
                  rw [EH.out]
                  go_wp2_with (fail)
                  refine (total_any _ _ _ h8).mono ?_
                  rintro e w9 ⟨rfl, h9, hg9⟩
                  rw [ET.out]
                  have hg10 := hg6.trans (hg7.trans (hg8.trans hg9))
                  have hA9 : Blk w9 w2.heap.size 26 (fa s2.f) := hA5.grown hg10 (by simpa using hcg)
                  have hb9 : Below W.heap.size W w9 := hb5.trans (below_of_only hg10 hb5.size hc1)
                  clear hg10 hg6 hg7 hg8 hg9 h6 h7 h8 hA5 hb5 h5
                  go_wp2
                  go_roundw
                  case rel => exact ⟨k + 1, s2, by omega, by go_num, by rw [EH.out], by rw [ER.out], by rw [EC.out], fun i hi => by have := hbd2 i hi; omega, h9, hA9, hb9, hc0, hc1, hcg⟩
                  case measure => simp [intOf]; omega
  
            · have ok2 : nn ≤ s.high := by omega
              obtain ⟨s2, E2⟩ : ∃ s2 : St, Hid (s = s2) := ⟨_, Lib.hid rfl⟩
              have EH := Lib.hid (show s2.high = s.high by rw [E2.out])
              have ER := Lib.hid (show s2.reason = s.reason by rw [E2.out])
              have EC := Lib.hid (show s2.closed = false by rw [← E2.out]; exact hcl)
              have hbd2 : ∀ i, i < 16 → 0 ≤ s2.f i ∧ s2.f i ≤ ((k + 1 : Nat) : Int) * 4294967296 := fun i hi => by have := hb i hi; rw [E2.out] at this; omega
              have EO := Lib.hid (show s.okM nn = false by unfold St.okM; rw [hcl]; simp; omega)
              have ES := Lib.hid (show s.mark nn = s by unfold St.mark St.okM; rw [hcl]; simp; omega)
              go_wp2_with (fail)
              refine (mark_any _ _ nn _ (hm.alloc _) hnn).mono ?_
              rintro e w5 ⟨rfl, h5, hg5⟩
              rw [EO.out]
              rw [ES.out, E2.out] at h5
              have hA5 : Blk w5 w2.heap.size 26 (fa s2.f) := by rw [← E2.out]; exact (hB.alloc _).grown hg5 (by simpa using hcg)
              have hb5 : Below W.heap.size W w5 := (hw.alloc hw.size _).trans (below_of_only hg5 (Nat.le_trans hw.size (by simp)) hc1)
              clear hm hB hw hb E2 hg5
              go_wp2_with (first | (refine wpList_load_row rfl 26 (.tmp 6) rfl w2.heap.size rfl 26 (fa s2.f) (0, 0) _ hA5 Try.underlying26 rfl (fa_info s2.f) ?_))
              go_loopw [13, 104] (fun t i wx => ∃ j : Nat, j ≤ 16 ∧ i = .int .i64 j ∧ t = .int .i64 (sumTo s2.f j) ∧ Me wx w1.heap.size s2 ∧ (w5).grownBy wx (some w1.heap.size)) (fun _ i _ => 16 - (intOf i).toNat)
              case atStart => exact ⟨0, by omega, rfl, rfl, h5, World.grownBy.refl _ _⟩
              case round =>
                obtain ⟨j, hj, rfl, rfl, h6, hg6⟩ := hrel
                have hs := sum_bounds hbd2 (by omega) j hj
                by_cases hj2 : j < 16
                · have RI := run_index_fa s2.f j hj2
                  have EG := Lib.hid (get_nat s2 hj2)
                  have hfj := hbd2 j hj2
                  go_wp2_with (fail)
                  refine (get_any _ _ _ _ h6).mono ?_
                  rintro e w7 ⟨rfl, h7, hg7⟩
                  rw [EG.out]
                  go_wp2
                  go_roundw
                  case rel => exact ⟨j + 1, by omega, by go_num, rfl, h7, hg6.trans hg7⟩
                  case measure => simp [intOf]; omega
                · obtain rfl : j = 16 := by omega
                  have ET := Lib.hid (total_small (s := s2) (by omega))
                  go_wp2_with (fail)
                  refine (closed_any _ _ _ h6).mono ?_
                  rintro e w7 ⟨rfl, h7, hg7⟩
                  rw [ER.out, EC.out]
                  go_wp2_with (fail)
                  refine (high_any _ _ _ h7).mono ?_
                  rintro e w8 ⟨rfl, h8, hg8⟩
                  rw [EH.out]
                  go_wp2_with (fail)
                  refine (total_any _ _ _ h8).mono ?_
                  rintro e w9 ⟨rfl, h9, hg9⟩
                  rw [ET.out]
                  have hg10 := hg6.trans (hg7.trans (hg8.trans hg9))
                  have hA9 : Blk w9 w2.heap.size 26 (fa s2.f) := hA5.grown hg10 (by simpa using hcg)
                  have hb9 : Below W.heap.size W w9 := hb5.trans (below_of_only hg10 hb5.size hc1)
                  clear hg10 hg6 hg7 hg8 hg9 h6 h7 h8 hA5 hb5 h5
                  go_wp2
                  go_roundw
                  case rel => exact ⟨k + 1, s2, by omega, by go_num, by rw [EH.out], by rw [ER.out], by rw [EC.out], fun i hi => by have := hbd2 i hi; omega, h9, hA9, hb9, hc0, hc1, hcg⟩
                  case measure => simp [intOf]; omega
          · have y2 : (ho == 2) = false := by rw [beq_eq_false_iff_ne]; exact x2
            by_cases x3 : ho = 3
            · subst x3
              obtain ⟨s2, E2⟩ : ∃ s2 : St, Hid ((⟨s.f, s.high, true, nn⟩ : St) = s2) := ⟨_, Lib.hid rfl⟩
              have EH := Lib.hid (show s2.high = s.high by rw [← E2.out])
              have ER := Lib.hid (show s2.reason = nn by rw [← E2.out])
              have EC := Lib.hid (show s2.closed = true by rw [← E2.out])
              have EF : s2.f = s.f := by rw [← E2.out]
              have hbd2 : ∀ i, i < 16 → 0 ≤ s2.f i ∧ s2.f i ≤ ((k + 1 : Nat) : Int) * 4294967296 := fun i hi => by rw [EF]; have := hb i hi; omega
              have EO := Lib.hid (show (!s.closed) = true by rw [hcl]; rfl)
              have ES := Lib.hid (show s.close nn = s2 by rw [← E2.out]; unfold St.close; rw [hcl]; rfl)
              have EFh := Lib.hid EF
              clear EF
              go_wp2_with (fail)
              refine (close_any _ _ nn _ (hm.alloc _)).mono ?_
              rintro e w5 ⟨rfl, h5, hg5⟩
              rw [EO.out]
              rw [ES.out] at h5
              have hA5 : Blk w5 w2.heap.size 26 (fa s2.f) := by rw [EFh.out]; exact (hB.alloc _).grown hg5 (by simpa using hcg)
              have hb5 : Below W.heap.size W w5 := (hw.alloc hw.size _).trans (below_of_only hg5 (Nat.le_trans hw.size (by simp)) hc1)
              have hgl := hm.lt
              have hP := (Blk.new wr 28 #[.int .i64 3, .int .i64 ki, .int .i64 nn]).grown hg5 (by simp; omega)
              have p2 : w5.cell? ⟨wr.heap.size, 2, none⟩ = some (.int .i64 nn) := hP.cell 2
              clear hm hB hw hb E2 hg5 hP EFh
              go_wp2_with (first | (refine wpList_load_row rfl 26 (.tmp 6) rfl w2.heap.size rfl 26 (fa s2.f) (0, 0) _ hA5 Try.underlying26 rfl (fa_info s2.f) ?_))
              go_loopw [13, 104] (fun t i wx => ∃ j : Nat, j ≤ 16 ∧ i = .int .i64 j ∧ t = .int .i64 (sumTo s2.f j) ∧ Me wx w1.heap.size s2 ∧ (w5).grownBy wx (some w1.heap.size)) (fun _ i _ => 16 - (intOf i).toNat)
              case atStart => exact ⟨0, by omega, rfl, rfl, h5, World.grownBy.refl _ _⟩
              case round =>
                obtain ⟨j, hj, rfl, rfl, h6, hg6⟩ := hrel
                have hs := sum_bounds hbd2 (by omega) j hj
                by_cases hj2 : j < 16
                · have RI := run_index_fa s2.f j hj2
                  have EG := Lib.hid (get_nat s2 hj2)
                  have hfj := hbd2 j hj2
                  go_wp2_with (fail)
                  refine (get_any _ _ _ _ h6).mono ?_
                  rintro e w7 ⟨rfl, h7, hg7⟩
                  rw [EG.out]
                  go_wp2
                  go_roundw
                  case rel => exact ⟨j + 1, by omega, by go_num, rfl, h7, hg6.trans hg7⟩
                  case measure => simp [intOf]; omega
                · obtain rfl : j = 16 := by omega
                  have ET := Lib.hid (total_small (s := s2) (by omega))
                  go_wp2_with (fail)
                  refine (closed_any _ _ _ h6).mono ?_
                  rintro e w7 ⟨rfl, h7, hg7⟩
                  rw [ER.out, EC.out]
                  go_wp2_with (fail)
                  refine (high_any _ _ _ h7).mono ?_
                  rintro e w8 ⟨rfl, h8, hg8⟩
                  rw [EH.out]
                  go_wp2_with (fail)
                  refine (total_any _ _ _ h8).mono ?_
                  rintro e w9 ⟨rfl, h9, hg9⟩
                  rw [ET.out]
                  have hg10 := hg6.trans (hg7.trans (hg8.trans hg9))
                  have hA9 : Blk w9 w2.heap.size 26 (fa s2.f) := hA5.grown hg10 (by simpa using hcg)
                  have hb9 : Below W.heap.size W w9 := hb5.trans (below_of_only hg10 hb5.size hc1)
                  clear hg10 hg6 hg7 hg8 hg9 h6 h7 h8 hA5 hb5 h5
                  go_wp2
                  go_roundw
                  case rel => exact ⟨k + 1, s2, by omega, by go_num, by rw [EH.out], by rw [ER.out], by rw [EC.out], fun i hi => by have := hbd2 i hi; omega, h9, hA9, hb9, hc0, hc1, hcg⟩
                  case measure => simp [intOf]; omega
            · have y3 : (ho == 3) = false := by rw [beq_eq_false_iff_ne]; exact x3
              obtain ⟨s2, E2⟩ : ∃ s2 : St, Hid (s = s2) := ⟨_, Lib.hid rfl⟩
              have EH := Lib.hid (show s2.high = s.high by rw [E2.out])
              have ER := Lib.hid (show s2.reason = s.reason by rw [E2.out])
              have EC := Lib.hid (show s2.closed = false by rw [← E2.out]; exact hcl)
              have hbd2 : ∀ i, i < 16 → 0 ≤ s2.f i ∧ s2.f i ≤ ((k + 1 : Nat) : Int) * 4294967296 := fun i hi => by have := hb i hi; rw [E2.out] at this; omega
              have h5 : Me (wr.alloc (.cells #[.int .i64 ho, .int .i64 ki, .int .i64 nn] 28)) w1.heap.size s2 := by rw [← E2.out]; exact hm.alloc _
              have hA5 : Blk (wr.alloc (.cells #[.int .i64 ho, .int .i64 ki, .int .i64 nn] 28)) w2.heap.size 26 (fa s2.f) := by rw [← E2.out]; exact hB.alloc _
              have hb5 : Below W.heap.size W (wr.alloc (.cells #[.int .i64 ho, .int .i64 ki, .int .i64 nn] 28)) := hw.alloc hw.size _
              clear hm hB hw hb E2
              go_wp2_with (first | (refine wpList_load_row rfl 26 (.tmp 6) rfl w2.heap.size rfl 26 (fa s2.f) (0, 0) _ hA5 Try.underlying26 rfl (fa_info s2.f) ?_))
              go_loopw [13, 104] (fun t i wx => ∃ j : Nat, j ≤ 16 ∧ i = .int .i64 j ∧ t = .int .i64 (sumTo s2.f j) ∧ Me wx w1.heap.size s2 ∧ ((wr.alloc (.cells #[.int .i64 ho, .int .i64 ki, .int .i64 nn] 28))).grownBy wx (some w1.heap.size)) (fun _ i _ => 16 - (intOf i).toNat)
              case atStart => exact ⟨0, by omega, rfl, rfl, h5, World.grownBy.refl _ _⟩
              case round =>
                obtain ⟨j, hj, rfl, rfl, h6, hg6⟩ := hrel
                have hs := sum_bounds hbd2 (by omega) j hj
                by_cases hj2 : j < 16
                · have RI := run_index_fa s2.f j hj2
                  have EG := Lib.hid (get_nat s2 hj2)
                  have hfj := hbd2 j hj2
                  go_wp2_with (fail)
                  refine (get_any _ _ _ _ h6).mono ?_
                  rintro e w7 ⟨rfl, h7, hg7⟩
                  rw [EG.out]
                  go_wp2
                  go_roundw
                  case rel => exact ⟨j + 1, by omega, by go_num, rfl, h7, hg6.trans hg7⟩
                  case measure => simp [intOf]; omega
                · obtain rfl : j = 16 := by omega
                  have ET := Lib.hid (total_small (s := s2) (by omega))
                  go_wp2_with (fail)
                  refine (closed_any _ _ _ h6).mono ?_
                  rintro e w7 ⟨rfl, h7, hg7⟩
                  rw [ER.out, EC.out]
                  go_wp2_with (fail)
                  refine (high_any _ _ _ h7).mono ?_
                  rintro e w8 ⟨rfl, h8, hg8⟩
                  rw [EH.out]
                  go_wp2_with (fail)
                  refine (total_any _ _ _ h8).mono ?_
                  rintro e w9 ⟨rfl, h9, hg9⟩
                  rw [ET.out]
                  have hg10 := hg6.trans (hg7.trans (hg8.trans hg9))
                  have hA9 : Blk w9 w2.heap.size 26 (fa s2.f) := hA5.grown hg10 (by simpa using hcg)
                  have hb9 : Below W.heap.size W w9 := hb5.trans (below_of_only hg10 hb5.size hc1)
                  clear hg10 hg6 hg7 hg8 hg9 h6 h7 h8 hA5 hb5 h5
                  go_wp2
                  go_roundw
                  case rel => exact ⟨k + 1, s2, by omega, by go_num, by rw [EH.out], by rw [ER.out], by rw [EC.out], fun i hi => by have := hbd2 i hi; omega, h9, hA9, hb9, hc0, hc1, hcg⟩
                  case measure => simp [intOf]; omega
    · obtain rfl : k = n := by omega
      by_cases h0 : 0 ≤ ask
      · by_cases h1 : ask < 16
        · clear hm hB
          go_wp2
          go_ret
          exact ⟨rfl, hw⟩
        · have EG := Lib.hid (show s.get ask = 0 by unfold St.get; rw [if_neg (by omega)])
          clear hB
          go_wp2_with (fail)
          refine (get_any _ _ ask _ hm).mono ?_
          rintro e w7 ⟨rfl, h7, hg7⟩
          rw [EG.out]
          go_wp2
          go_ret
          exact ⟨rfl, hw.trans (below_of_only hg7 hw.size hc1)⟩
      · have EG := Lib.hid (show s.get ask = 0 by unfold St.get; rw [if_neg (by omega)])
        clear hB
        go_wp2_with (fail)
        refine (get_any _ _ ask _ hm).mono ?_
        rintro e w7 ⟨rfl, h7, hg7⟩
        rw [EG.out]
        go_wp2
        go_ret
        exact ⟨rfl, hw.trans (below_of_only hg7 hw.size hc1)⟩

set_option maxHeartbeats 2000000 in
theorem plays_long (A : Option Addr) (n cap : Nat) (ask : Int) (W : World) (hn : 200 < n) : Calls Try.prog 3 #[.slice A n cap, .int .i64 ask] W (Says true W) := by
  go_enter Try.func3, Try.ntmps3
  go_wp2_with (fail)
  refine (anchor_any W).mono ?_
  rintro e w1 ⟨rfl, hb1⟩
  go_wp2
  go_ret
  exact ⟨rfl, hb1⟩

theorem plays_any (A : Option Addr) (n cap : Nat) (l : List Step) (ask : Int) (W : World) (hr : ActsAt W A n l) (hf : ∀ s ∈ l, s.fits) :
    Calls Try.prog 3 #[.slice A n cap, .int .i64 ask] W (Says true W) := by
  by_cases h : n ≤ 200
  · exact plays_in A n cap l ask W h hr hf
  · exact plays_long A n cap ask W (by omega)

theorem plays_lifted (os : Os) (started : os.Started) (H : Type) (enc : TypeId × Value → H) :
    ReturnsInHanded {} Try.checked os 3 .any (Rows.meterPlaysSpec.pre6 enc Try.prog Try.f3 Rows.meterPlaysRow.domain false) (Rows.meterPlaysSpec.post enc Try.prog Try.f3 false true false false) := by
  refine returnsInHanded_of_change (C := Try.checked) own started (by kernel_rfl) Try.func3
    (ChangeSpec.witness6 (enc := enc) (C := Try.checked) false ⟨#[], #[.slice none 0 0, .int .i64 0], []⟩ 8 (by kernel_rfl) (by kernel_rfl) (by kernel_rfl) (by kernel_rfl)) ?_
  intro W base args ds gs before hval0 hW _ _
  have hval : ∀ (j : Nat) t v, Try.f3.params[j]? = some t → args[j]? = some v → Value.okWide Try.prog W .any base t v := hval0
  have hW' := hW
  obtain ⟨p, q, hA0, hV, rfl, _, _⟩ := hW
  have hA : DataW.TrodAll enc Try.prog W 0 (fun _ => true) true Try.f3.params.toList args.toList ds p := hA0
  rw [Try.params3] at hA hval
  obtain ⟨v0, vs0, d0, ds0, p0, q0, hargs, rfl, rfl, h0, r0⟩ := trodAll_cons hA
  obtain ⟨v1, vs1, d1, ds1, p1, q1, rfl, rfl, rfl, h1, r1⟩ := trodAll_cons r0
  obtain ⟨rfl, rfl, rfl⟩ := trodAll_nil r1
  obtain rfl : args = #[v0, v1] := by cases args; simp_all
  obtain ⟨rfl, rfl⟩ := trodVars_none hV
  obtain ⟨A0, n0, c0, l0, rfl, hl0, hc0, hm0, hr0, hz0⟩ := open_acts (hval 0 22 v0 rfl rfl) h0
  obtain ⟨z1, rfl, rfl, rfl, wz1⟩ := open_int Try.underlying3 (hval 1 3 v1 rfl rfl) h1
  clear hA0
  have hk := plays_any A0 n0 c0 l0 z1 W hr0 hz0
  exact hk.mono fun e W' ⟨he, hb⟩ => ⟨_, he, law_post laid_ok (by kernel_rfl) rfl Try.underlying4 rfl hW' rfl hb⟩

theorem plays_holds : Rows.MeterPlaysSaid :=
  OpenClaim.holds_of_wide 3 Try.f3 rfl rfl rfl rfl rfl rfl rfl ⟨rfl, rfl, rfl, rfl, rfl⟩ rfl rfl rfl rfl rfl (by kernel_rfl) Try.func3 (by kernel_rfl)
    (of_decide_eq_true (by kernel_rfl)) (by unfold Func.isWrapper; first | (rw [if_pos (by decide +kernel)]; kernel_rfl) | (rw [if_neg (by decide +kernel)]; exact ⟨rfl, rfl⟩))
    (fun os started H enc _ => plays_lifted os started H enc)

end Go.Proofs.Ythaikcopbeppeaa
