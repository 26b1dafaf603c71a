/-
  WHAT IS PROVED: the law RankOrders answers true for all arguments, which read behind the call as before it (replicas are told as they stand, all of them, each ahead of all behind it; others are refused). No condition beyond those of the given row.
-/
import Derived.Test.YtdeppjoehnlbnaaSame
import Derived.Test.YtdeppjoehnlbnaaRight
namespace Go.Proofs.Ytdeppjoehnlbnaa
open Go.RowKit Go.Lib Go.Sort Go.ChangeShapes Go.WideShapes Go.ChangeAt Go.WideElems

theorem ahead_at {l : List Rep} (h : l.Pairwise fun x y => aheadB x y = true) {i j : Nat} {x y : Rep} (hx : l[i]? = some x) (hy : l[j]? = some y) (hij : i < j) : aheadB x y = true := by
  obtain ⟨hi, rfl⟩ := List.getElem?_eq_some_iff.1 hx
  obtain ⟨hj, rfl⟩ := List.getElem?_eq_some_iff.1 hy
  exact List.pairwise_iff_getElem.1 h i j hi hj hij

set_option maxRecDepth 100000 in
set_option maxHeartbeats 2000000 in
theorem orders_bad (A : Option Addr) (n c : Nat) (l : List Rep) (W : World) (hnc : n ≤ c) (hr : RepsAt W A n l) (hn : n ≤ 100) (h : Hid (rightB l = false)) :
    Calls Try.prog 3 #[.slice A n c] W (Says true W) := by
  have HR := Lib.hid hr
  clear hr
  go_enter Try.func3, Try.ntmps3
  go_wp2_with (fail)
  refine (anchor_any W).mono ?_
  rintro e w1 ⟨rfl, hb1⟩
  go_wp2_with (fail)
  refine (order_no A n c l _ hnc (HR.out.below hb1) h).mono ?_
  rintro e w2 ⟨rfl, hb2'⟩
  have hb2 := hb1.trans (hb2'.mono hb1.size)
  clear hb2'
  go_wp2_with (fail)
  refine (right_any A n c l _ hnc (HR.out.below hb2)).mono ?_
  rintro e w3 ⟨rfl, hb3'⟩
  rw [h.out]
  have hb3 := hb2.trans (hb3'.mono hb2.size)
  clear hb3'
  go_wp2
  go_ret
  exact ⟨rfl, hb3⟩

set_option maxRecDepth 100000 in
set_option maxHeartbeats 4000000 in
theorem orders_right (A : Option Addr) (n c : Nat) (l : List Rep) (W : World) (hnc : n ≤ c) (hr : RepsAt W A n l) (hn : n ≤ 100) (h : Hid (rightB l = true)) :
    Calls Try.prog 3 #[.slice A n c] W (Says true W) := by
  have HL := Lib.hid hr.1
  have HR := Lib.hid hr
  have HP := Lib.hid (order_ahead (right_nodup h.out))
  have HM : Hid (∀ x, x ∈ orderL l → x ∈ l) := fun x hx => order_mem.1 hx
  clear hr
  go_enter Try.func3, Try.ntmps3
  go_wp2_with (fail)
  refine (anchor_any W).mono ?_
  rintro e w1 ⟨rfl, hb1⟩
  go_wp2_with (fail)
  refine (order_yes A n c l _ hnc (HR.out.below hb1) h).mono ?_
  rintro e w2 ⟨hb2', A1, c1, rfl, hn1, hc1, hr1⟩
  have hb2 := hb1.trans (hb2'.mono hb1.size)
  clear hb2'
  generalize orderL l = o at *
  go_wp2_with (fail)
  refine (right_any A n c l _ hnc (HR.out.below hb2)).mono ?_
  rintro e w3 ⟨rfl, hb3'⟩
  rw [h.out]
  have hb3 := hb2.trans (hb3'.mono hb2.size)
  have HO := Lib.hid (hr1.below hb3')
  clear hb3' hb1 hb2 hr1
  go_wp2
  go_loopw [43] (fun i wr => ∃ k : Nat, k ≤ n ∧ i = .int .i64 k ∧ Below w3.heap.size w3 wr) (fun i _ => n - (intOf i).toNat)
  case atStart => exact ⟨0, by omega, rfl, Below.refl _ _⟩
  case round =>
    obtain ⟨k, hk, rfl, hb⟩ := hrel
    by_cases hlt : k < n
    · obtain ⟨ad, r, rfl, hr0, _, d0, d1⟩ := (HO.out.below hb).at_ hlt
      have HB := Lib.hid (below_alloc hb (.cells #[.int .i64 r.id, .int .i64 r.off] 29))
      have HBX : Hid (∀ w2, Below (wr.alloc (.cells #[.int .i64 r.id, .int .i64 r.off] 29)).heap.size (wr.alloc (.cells #[.int .i64 r.id, .int .i64 r.off] 29)) w2 → BoxAt w2 wr.heap.size r ∧ Below w3.heap.size w3 w2) := fun w2 h2 => ⟨(BoxAt.new wr r).below h2, HB.out.trans (h2.mono HB.out.size)⟩
      have HCUT : Hid (∃ A2, ((c1 = k + 1 ∧ A2 = some ad) ∨ (¬ c1 = k + 1 ∧ A2 = some (ad.add ((k + 1) * 2)))) ∧ ∀ w2, Below (wr.alloc (.cells #[.int .i64 r.id, .int .i64 r.off] 29)).heap.size (wr.alloc (.cells #[.int .i64 r.id, .int .i64 r.off] 29)) w2 → RepsAt w2 A2 (n - (k + 1)) (o.drop (k + 1))) := by
        have hk1 : k + 1 ≤ n := by omega
        have h := fun w2 h2 => (HO.out.below (HBX.out w2 h2).2).cut (cap := c1) hk1 hn1
        by_cases hcc : c1 = k + 1
        · exact ⟨_, .inl ⟨hcc, rfl⟩, fun w2 h2 => by have h3 := h w2 h2; rwa [if_pos hcc] at h3⟩
        · exact ⟨_, .inr ⟨hcc, rfl⟩, fun w2 h2 => by have h3 := h w2 h2; rwa [if_neg hcc] at h3⟩
      have HZ := Lib.hid hr0
      have HIN := Lib.hid (HM.out r (List.mem_of_getElem? hr0))
      have HB3 := Lib.hid hb3
      clear hr0 hb HB
      go_wp2
      go_loopw [7, 50] (fun v j wr2 => ∃ i : Nat, i ≤ n ∧ j = .int .i64 i ∧ v = .bool (decide (r ∈ l.take i)) ∧ Below (wr.alloc (.cells #[.int .i64 r.id, .int .i64 r.off] 29)).heap.size (wr.alloc (.cells #[.int .i64 r.id, .int .i64 r.off] 29)) wr2) (fun _ j _ => n - (intOf j).toNat)
      case atStart => exact ⟨0, by omega, rfl, by simp, Below.refl _ _⟩
      case round =>
        obtain ⟨i, hin, rfl, rfl, hbi⟩ := hrel
        by_cases hlti : i < n
        · obtain ⟨ad', x, rfl, hx0, _, e0, e1⟩ := (HR.out.below (HB3.out.trans ((HBX.out _ hbi).2.mono HB3.out.size))).at_ hlti
          have hbo := below_alloc hbi (.cells #[.int .i64 x.id, .int .i64 x.off] 29)
          obtain ⟨b0, b1⟩ := (HBX.out _ hbo).1
          have HBO := Lib.hid hbo
          have hg := guard_rep .eql (.tmp 56) (.tmp 57) x r
          clear hbo hbi
          by_cases hm : r ∈ l.take i
          · have HS : Hid (decide (r ∈ l.take (i + 1)) = true) := by show _ = _; rw [takeR_snoc hx0]; simp [hm]
            rw [show decide (r ∈ l.take i) = true by simpa using hm]
            clear hm hx0 hg
            go_wp2
            go_roundw
            case rel => exact ⟨i + 1, by omega, by go_num, by rw [HS.out], HBO.out⟩
            case measure => simp [intOf]; omega
          · rw [show decide (r ∈ l.take i) = false by simpa using hm]
            by_cases he : x = r
            · have HS : Hid (decide (r ∈ l.take (i + 1)) = true) := by show _ = _; rw [takeR_snoc hx0]; simp [he]
              have hq := same_rep x r
              rw [show decide (x = r) = true by simpa using he] at hq
              clear hm hx0 he
              go_wp2
              go_roundw
              case rel => exact ⟨i + 1, by omega, by go_num, by rw [HS.out], HBO.out⟩
              case measure => simp [intOf]; omega
            · have HS : Hid (decide (r ∈ l.take (i + 1)) = false) := by
                show _ = _
                rw [takeR_snoc hx0]
                simp
                exact ⟨hm, fun e => he e.symm⟩
              have hq := same_rep x r
              rw [show decide (x = r) = false by simpa using he] at hq
              clear hm hx0 he
              go_wp2
              go_roundw
              case rel => exact ⟨i + 1, by omega, by go_num, by rw [HS.out], HBO.out⟩
              case measure => simp [intOf]; omega
        · obtain rfl : i = n := by omega
          rw [show decide (r ∈ l.take i) = true by rw [List.take_of_length_le (by rw [HL.out]; exact Nat.le_refl _)]; simpa using HIN.out]
          have hk1 : k + 1 ≤ i := by omega
          have HBI := Lib.hid hbi
          clear hbi
          obtain ⟨A2, hA2, hcut⟩ := HCUT.out
          have HC2 := Lib.hid hcut
          clear HCUT hcut
          rcases hA2 with ⟨hcc, rfl⟩ | ⟨hcc, rfl⟩
          · skip
            go_wp2
            go_loopw [68] (fun j wr3 => ∃ m : Nat, m ≤ i - (k + 1) ∧ j = .int .i64 m ∧ Below wr.heap.size wr wr3) (fun j _ => i - (k + 1) - (intOf j).toNat)
            case atStart => exact ⟨0, by omega, rfl, Below.refl _ _⟩
            case round =>
              obtain ⟨m, hm, rfl, hbm⟩ := hrel
              by_cases hltm : m < i - (k + 1)
              · exact absurd hltm (by omega)
              · obtain rfl : m = i - (k + 1) := by omega
                have hbl := (HBX.out _ (HBI.out.trans (hbm.mono HBI.out.size))).2
                have HBL := Lib.hid hbl
                clear hbl hbm
                go_wp2
                go_roundw
                case rel => exact ⟨k + 1, by omega, by go_num, HBL.out⟩
                case measure => simp [intOf]; omega
          · skip
            go_wp2
            go_loopw [68] (fun j wr3 => ∃ m : Nat, m ≤ i - (k + 1) ∧ j = .int .i64 m ∧ Below wr.heap.size wr wr3) (fun j _ => i - (k + 1) - (intOf j).toNat)
            case atStart => exact ⟨0, by omega, rfl, Below.refl _ _⟩
            case round =>
              obtain ⟨m, hm, rfl, hbm⟩ := hrel
              by_cases hltm : m < i - (k + 1)
              · obtain ⟨ad2, x, hadd, hx0, _, e0, e1⟩ := (HC2.out _ (HBI.out.trans (hbm.mono HBI.out.size))).at_ hltm
                cases hadd
                have ha : aheadB r x = true := ahead_at HP.out HZ.out (by rw [List.getElem?_drop] at hx0; exact hx0) (by omega)
                have HA := Lib.hid ha
                have hbo := below_alloc hbm (.cells #[.int .i64 x.id, .int .i64 x.off] 29)
                obtain ⟨b0, b1⟩ := (HBX.out _ (HBI.out.trans (hbo.mono HBI.out.size))).1
                have HBO := Lib.hid hbo
                clear hbo hbm ha hx0
                go_wp2_with (fail)
                refine (ahead_any r x _).mono ?_
                rintro e w5 ⟨rfl, hb5⟩
                rw [HA.out]
                have hb6 := HBO.out.trans (hb5.mono HBO.out.size)
                clear hb5
                go_wp2
                go_roundw
                case rel => exact ⟨m + 1, by omega, by go_num, hb6⟩
                case measure => simp [intOf]; omega
              · obtain rfl : m = i - (k + 1) := by omega
                have hbl := (HBX.out _ (HBI.out.trans (hbm.mono HBI.out.size))).2
                have HBL := Lib.hid hbl
                clear hbl hbm
                go_wp2
                go_roundw
                case rel => exact ⟨k + 1, by omega, by go_num, HBL.out⟩
                case measure => simp [intOf]; omega
    · obtain rfl : k = n := by omega
      go_wp2
      go_ret
      exact ⟨rfl, hb3.trans (hb.mono hb3.size)⟩

theorem orders_any (A : Option Addr) (n c : Nat) (l : List Rep) (W : World) (hnc : n ≤ c) (hr : RepsAt W A n l) :
    Calls Try.prog 3 #[.slice A n c] W (Says true W) := by
  by_cases hn : n ≤ 100
  · cases h : rightB l with
    | false => exact orders_bad A n c l W hnc hr hn h
    | true => exact orders_right A n c l W hnc hr hn h
  · have h100 : 100 < n := by omega
    clear hn hr
    go_enter Try.func3, Try.ntmps3
    go_wp2_with (fail)
    refine (anchor_any W).mono ?_
    rintro e w1 ⟨rfl, hb1⟩
    go_wp2
    go_ret
    exact ⟨rfl, hb1⟩

theorem orders_lifted (os : Os) (started : os.Started) (H : Type) (enc : TypeId × Value → H) :
    ReturnsInHanded {} Try.checked os 3 .any (Rows.rankOrdersSpec.pre6 enc Try.prog Try.f3 Rows.rankOrdersRow.domain false) (Rows.rankOrdersSpec.post enc Try.prog Try.f3 false true false false) := by
  refine returnsInHanded_of_change (C := Try.checked) own started (by kernel_rfl) Try.func3
    (ChangeSpec.witness6 (enc := enc) (C := Try.checked) false ⟨#[], #[.slice none 0 0], []⟩ 8 (by kernel_rfl) (by kernel_rfl) (by kernel_rfl) (by kernel_rfl)) ?_
  intro W base args ds gs before hval0 hW _ _
  have hval : ∀ (j : Nat) t v, Try.f3.params[j]? = some t → args[j]? = some v → Value.okWide Try.prog W .any base t v := hval0
  have hW' := hW
  obtain ⟨p, q, hA0, hV, rfl, _, _⟩ := hW
  have hA : DataW.TrodAll enc Try.prog W 0 (fun _ => true) true Try.f3.params.toList args.toList ds p := hA0
  rw [Try.params3] at hA hval
  obtain ⟨v0, vs0, d0, ds0, p0, q0, hargs, rfl, rfl, h0, r0⟩ := trodAll_cons hA
  obtain ⟨rfl, rfl, rfl⟩ := trodAll_nil r0
  obtain rfl : args = #[v0] := by cases args; simp_all
  obtain ⟨rfl, rfl⟩ := trodVars_none hV
  obtain ⟨A0, n0, c0, l0, rfl, hl0, hc0, hm0, hr0, hz0⟩ := open_reps (hval 0 22 v0 rfl rfl) h0
  clear hA0
  have hk := orders_any A0 n0 c0 l0 W hc0 hr0
  exact hk.mono fun e W' ⟨he, hb⟩ => ⟨_, he, law_post laid_ok (by kernel_rfl) rfl Try.underlying4 rfl hW' rfl hb⟩

theorem orders_holds : Rows.RankOrdersSaid :=
  OpenClaim.holds_of_wide 3 Try.f3 rfl rfl rfl rfl rfl rfl rfl ⟨rfl, rfl, rfl, rfl, rfl⟩ rfl rfl rfl rfl rfl (by kernel_rfl) Try.func3 (by kernel_rfl)
    (of_decide_eq_true (by kernel_rfl)) (by unfold Func.isWrapper; first | (rw [if_pos (by decide +kernel)]; kernel_rfl) | (rw [if_neg (by decide +kernel)]; exact ⟨rfl, rfl⟩))
    (fun os started H enc _ => orders_lifted os started H enc)

end Go.Proofs.Ytdeppjoehnlbnaa
