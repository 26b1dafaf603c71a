/-
  WHAT IS PROVED: the law RankRanks answers true for all arguments, which read behind the call as before it (a rank is how many stand ahead). No condition beyond those of the given row.
-/
import Derived.Test.YtdeppjoehnlbnaaAnchor
import Derived.Test.YtdeppjoehnlbnaaRight
namespace Go.Proofs.Ytdeppjoehnlbnaa
open Go.RowKit Go.Lib Go.Sort Go.ChangeShapes Go.WideShapes Go.ChangeAt Go.WideElems

set_option maxRecDepth 100000 in
set_option maxHeartbeats 2000000 in
theorem ranks_bad (A : Option Addr) (n c : Nat) (l : List Rep) (id : Int) (W : World) (hnc : n ≤ c) (hr : RepsAt W A n l) (hn : n ≤ 100) (h : Hid (rightB l = false)) :
    Calls Try.prog 4 #[.slice A n c, .int .i64 id] W (Says true W) := by
  have HR := Lib.hid hr
  clear hr
  go_enter Try.func4, Try.ntmps4
  go_wp2_with (fail)
  refine (anchor_any W).mono ?_
  rintro e w1 ⟨rfl, hb1⟩
  go_wp2_with (fail)
  refine (rank_bad A n c l id _ hnc (HR.out.below hb1) h).mono ?_
  rintro e w2 ⟨rfl, hb2'⟩
  have hb2 := hb1.trans (hb2'.mono hb1.size)
  clear hb2'
  go_wp2_with (fail)
  refine (right_any A n c l _ hnc (HR.out.below hb2)).mono ?_
  rintro e w3 ⟨rfl, hb3'⟩
  rw [h.out]
  have hb3 := hb2.trans (hb3'.mono hb2.size)
  clear hb3'
  go_wp2
  go_ret
  exact ⟨rfl, hb3⟩

set_option maxRecDepth 100000 in
set_option maxHeartbeats 2000000 in
theorem ranks_none (A : Option Addr) (n c : Nat) (l : List Rep) (id : Int) (W : World) (hnc : n ≤ c) (hr : RepsAt W A n l) (hn : n ≤ 100) (h : Hid (rightB l = true)) (hi : Hid (id ∉ ids l)) :
    Calls Try.prog 4 #[.slice A n c, .int .i64 id] W (Says true W) := by
  have HR := Lib.hid hr
  clear hr
  go_enter Try.func4, Try.ntmps4
  go_wp2_with (fail)
  refine (anchor_any W).mono ?_
  rintro e w1 ⟨rfl, hb1⟩
  go_wp2_with (fail)
  refine (rank_none A n c l id _ hnc (HR.out.below hb1) h hi).mono ?_
  rintro e w2 ⟨rfl, hb2'⟩
  have hb2 := hb1.trans (hb2'.mono hb1.size)
  clear hb2'
  go_wp2_with (fail)
  refine (right_any A n c l _ hnc (HR.out.below hb2)).mono ?_
  rintro e w3 ⟨rfl, hb3'⟩
  rw [h.out]
  have hb3 := hb2.trans (hb3'.mono hb2.size)
  clear hb3' hb1 hb2
  go_wp2
  go_loopw [34] (fun i wr => ∃ k : Nat, k ≤ n ∧ i = .int .i64 k ∧ Below W.heap.size W wr) (fun i _ => n - (intOf i).toNat)
  case atStart => exact ⟨0, by omega, rfl, hb3⟩
  case round =>
    obtain ⟨k, hk, rfl, hb⟩ := hrel
    by_cases hlt : k < n
    · obtain ⟨ad, r, rfl, hr0, _, c0, c1⟩ := (HR.out.below hb).at_ hlt
      have ht : (r.id != id) = true := by
        have hne : r.id ≠ id := fun e => hi.out (by rw [← e]; exact mem_ids (List.mem_of_getElem? hr0))
        simpa using hne
      have HB := Lib.hid (below_alloc hb (.cells #[.int .i64 r.id, .int .i64 r.off] 29))
      clear hr0 hb
      go_wp2
      go_roundw
      case rel => exact ⟨k + 1, by omega, by go_num, HB.out⟩
      case measure => simp [intOf]; omega
    · obtain rfl : k = n := by omega
      go_wp2
      go_ret
      exact ⟨rfl, hb⟩

set_option maxRecDepth 100000 in
set_option maxHeartbeats 4000000 in
theorem ranks_in (A : Option Addr) (n c : Nat) (l : List Rep) (r : Rep) (W : World) (hnc : n ≤ c) (hr : RepsAt W A n l) (hn : n ≤ 100) (h : Hid (rightB l = true)) (hi : Hid (r ∈ l)) :
    Calls Try.prog 4 #[.slice A n c, .int .i64 r.id] W (Says true W) := by
  obtain ⟨m, HM⟩ : ∃ m, Hid (cnt l r = m) := ⟨_, Lib.hid rfl⟩
  have HL := Lib.hid hr.1
  have HR := Lib.hid hr
  clear hr
  go_enter Try.func4, Try.ntmps4
  go_wp2_with (fail)
  refine (anchor_any W).mono ?_
  rintro e w1 ⟨rfl, hb1⟩
  go_wp2_with (fail)
  refine (rank_of A n c l r m _ hnc (HR.out.below hb1) h hi HM).mono ?_
  rintro e w2 ⟨rfl, hb2'⟩
  have hb2 := hb1.trans (hb2'.mono hb1.size)
  clear hb2'
  go_wp2_with (fail)
  refine (right_any A n c l _ hnc (HR.out.below hb2)).mono ?_
  rintro e w3 ⟨rfl, hb3'⟩
  rw [h.out]
  have hb3 := hb2.trans (hb3'.mono hb2.size)
  clear hb3' hb1 hb2
  go_wp2
  go_loopw [34] (fun i wr => ∃ k : Nat, k ≤ n ∧ i = .int .i64 k ∧ Below W.heap.size W wr ∧ r.id ∉ ids (l.take k)) (fun i _ => n - (intOf i).toNat)
  case atStart => exact ⟨0, by omega, rfl, hb3, by simp [ids]⟩
  case round =>
    obtain ⟨k, hk, rfl, hb, hx⟩ := hrel
    by_cases hlt : k < n
    · obtain ⟨ad, o, rfl, hr0, _, c0, c1⟩ := (HR.out.below hb).at_ hlt
      have HB := Lib.hid (below_alloc hb (.cells #[.int .i64 o.id, .int .i64 o.off] 29))
      by_cases he : o.id = r.id
      · obtain rfl : o = r := same_id (right_iff.1 h.out).2.2 (List.mem_of_getElem? hr0) hi.out he
        have HBX : Hid (∀ w2, Below (wr.alloc (.cells #[.int .i64 o.id, .int .i64 o.off] 29)).heap.size (wr.alloc (.cells #[.int .i64 o.id, .int .i64 o.off] 29)) w2 → BoxAt w2 wr.heap.size o ∧ Below W.heap.size W w2) := fun w2 h2 => ⟨(BoxAt.new wr o).below h2, HB.out.trans (h2.mono HB.out.size)⟩
        clear hr0 hb hx HB he
        go_wp2
        go_loopw [9, 44] (fun v j wr2 => ∃ i t : Nat, i ≤ n ∧ j = .int .i64 i ∧ v = .int .i64 t ∧ t = cnt (l.take i) o ∧ Below (wr.alloc (.cells #[.int .i64 o.id, .int .i64 o.off] 29)).heap.size (wr.alloc (.cells #[.int .i64 o.id, .int .i64 o.off] 29)) wr2) (fun _ j _ => n - (intOf j).toNat)
        case atStart => exact ⟨0, 0, by omega, rfl, rfl, rfl, Below.refl _ _⟩
        case round =>
          obtain ⟨i, t, hin, rfl, rfl, ht, hbi⟩ := hrel
          have hti : t ≤ i := by rw [ht]; exact Nat.le_trans (cnt_le _ _) (List.length_take_le _ _)
          have HT := Lib.hid ht
          clear ht
          by_cases hlti : i < n
          · obtain ⟨ad', x, hadd, hx0, _, d0, d1⟩ := (HR.out.below (HBX.out _ hbi).2).at_ hlti
            cases hadd
            have hbo := below_alloc hbi (.cells #[.int .i64 x.id, .int .i64 x.off] 29)
            obtain ⟨b0, b1⟩ := (HBX.out _ hbo).1
            have HBO := Lib.hid hbo
            clear hbo hbi
            by_cases ha : aheadB x o = true
            · have HS : Hid (t + 1 = cnt (l.take (i + 1)) o) := by show _ = _; rw [HT.out]; exact (cnt_yes hx0 ha).symm
              have HA := Lib.hid ha
              clear ha hx0
              go_wp2_with (fail)
              refine (ahead_any x o _).mono ?_
              rintro e w5 ⟨rfl, hb5⟩
              rw [HA.out]
              have hb6 := HBO.out.trans (hb5.mono HBO.out.size)
              clear hb5
              go_wp2
              go_roundw
              case rel => exact ⟨i + 1, t + 1, by omega, by go_num, by go_num, HS.out, hb6⟩
              case measure => simp [intOf]; omega
            · have ha' : aheadB x o = false := by simpa using ha
              have HS : Hid (t = cnt (l.take (i + 1)) o) := by show _ = _; rw [HT.out]; exact (cnt_not hx0 ha').symm
              have HA := Lib.hid ha'
              clear ha ha' hx0
              go_wp2_with (fail)
              refine (ahead_any x o _).mono ?_
              rintro e w5 ⟨rfl, hb5⟩
              rw [HA.out]
              have hb6 := HBO.out.trans (hb5.mono HBO.out.size)
              clear hb5
              go_wp2
              go_roundw
              case rel => exact ⟨i + 1, t, by omega, by go_num, rfl, HS.out, hb6⟩
              case measure => simp [intOf]; omega
          · obtain rfl : i = n := by omega
            obtain rfl : t = m := by
              have := HT.out
              rw [List.take_of_length_le (by rw [HL.out]; exact Nat.le_refl _), HM.out] at this
              exact this
            have HBI := Lib.hid (HBX.out _ hbi).2
            clear hbi
            go_wp2
            go_ret
            exact ⟨rfl, HBI.out⟩
      · have ht : (o.id != r.id) = true := by simpa using he
        have HX : Hid (r.id ∉ ids (l.take (k + 1))) := by
          show ¬ _
          rw [takeR_snoc hr0, ids_append]
          simp [ids]
          exact ⟨by simpa [ids] using hx, fun e => he e.symm⟩
        clear hr0 hb hx he
        go_wp2
        go_roundw
        case rel => exact ⟨k + 1, by omega, by go_num, HB.out, HX.out⟩
        case measure => simp [intOf]; omega
    · obtain rfl : k = n := by omega
      exact absurd (mem_ids hi.out) (by rwa [List.take_of_length_le (by rw [HL.out]; exact Nat.le_refl _)] at hx)

theorem ranks_any (A : Option Addr) (n c : Nat) (l : List Rep) (id : Int) (W : World) (hnc : n ≤ c) (hr : RepsAt W A n l) :
    Calls Try.prog 4 #[.slice A n c, .int .i64 id] W (Says true W) := by
  by_cases hn : n ≤ 100
  · cases h : rightB l with
    | false => exact ranks_bad A n c l id W hnc hr hn h
    | true =>
      by_cases hi : id ∈ ids l
      · obtain ⟨r, hm, rfl⟩ := List.mem_map.1 hi
        exact ranks_in A n c l r W hnc hr hn h hm
      · exact ranks_none A n c l id W hnc hr hn h hi
  · have h100 : 100 < n := by omega
    clear hn hr
    go_enter Try.func4, Try.ntmps4
    go_wp2_with (fail)
    refine (anchor_any W).mono ?_
    rintro e w1 ⟨rfl, hb1⟩
    go_wp2
    go_ret
    exact ⟨rfl, hb1⟩

theorem ranks_lifted (os : Os) (started : os.Started) (H : Type) (enc : TypeId × Value → H) :
    ReturnsInHanded {} Try.checked os 4 .any (Rows.rankRanksSpec.pre6 enc Try.prog Try.f4 Rows.rankRanksRow.domain false) (Rows.rankRanksSpec.post enc Try.prog Try.f4 false true false false) := by
  refine returnsInHanded_of_change (C := Try.checked) own started (by kernel_rfl) Try.func4
    (ChangeSpec.witness6 (enc := enc) (C := Try.checked) false ⟨#[], #[.slice none 0 0, .int .i64 0], []⟩ 8 (by kernel_rfl) (by kernel_rfl) (by kernel_rfl) (by kernel_rfl)) ?_
  intro W base args ds gs before hval0 hW _ _
  have hval : ∀ (j : Nat) t v, Try.f4.params[j]? = some t → args[j]? = some v → Value.okWide Try.prog W .any base t v := hval0
  have hW' := hW
  obtain ⟨p, q, hA0, hV, rfl, _, _⟩ := hW
  have hA : DataW.TrodAll enc Try.prog W 0 (fun _ => true) true Try.f4.params.toList args.toList ds p := hA0
  rw [Try.params4] at hA hval
  obtain ⟨v0, vs0, d0, ds0, p0, q0, hargs, rfl, rfl, h0, r0⟩ := trodAll_cons hA
  obtain ⟨v1, vs1, d1, ds1, p1, q1, rfl, rfl, rfl, h1, r1⟩ := trodAll_cons r0
  obtain ⟨rfl, rfl, rfl⟩ := trodAll_nil r1
  obtain rfl : args = #[v0, v1] := by cases args; simp_all
  obtain ⟨rfl, rfl⟩ := trodVars_none hV
  obtain ⟨A0, n0, c0, l0, rfl, hl0, hc0, hm0, hr0, hz0⟩ := open_reps (hval 0 22 v0 rfl rfl) h0
  obtain ⟨z1, rfl, rfl, rfl, wz1⟩ := open_int Try.underlying3 (hval 1 3 v1 rfl rfl) h1
  clear hA0
  have hk := ranks_any A0 n0 c0 l0 z1 W hc0 hr0
  exact hk.mono fun e W' ⟨he, hb⟩ => ⟨_, he, law_post laid_ok (by kernel_rfl) rfl Try.underlying4 rfl hW' rfl hb⟩

theorem ranks_holds : Rows.RankRanksSaid :=
  OpenClaim.holds_of_wide 4 Try.f4 rfl rfl rfl rfl rfl rfl rfl ⟨rfl, rfl, rfl, rfl, rfl⟩ rfl rfl rfl rfl rfl (by kernel_rfl) Try.func4 (by kernel_rfl)
    (of_decide_eq_true (by kernel_rfl)) (by unfold Func.isWrapper; first | (rw [if_pos (by decide +kernel)]; kernel_rfl) | (rw [if_neg (by decide +kernel)]; exact ⟨rfl, rfl⟩))
    (fun os started H enc _ => ranks_lifted os started H enc)

end Go.Proofs.Ytdeppjoehnlbnaa
