/-
  WHAT IS PROVED: the law MeterCloses answers true for all arguments, which read behind the call as before it (of any closings the first one counts; behind it nothing is counted any more, and what was counted stays). No condition beyond those of the given row.
-/
import Derived.Test.YthaikcopbeppeaaAnchor
import Derived.Test.YthaikcopbeppeaaInts
import Derived.Test.YthaikcopbeppeaaPlain
namespace Go.Proofs.Ythaikcopbeppeaa
open Go.RowKit Go.Lib Go.ChangeShapes Go.WideShapes Go.ChangeAt Go.WideElems

/-- what a meter has behind k closings, the first of them for the reason r -/
def St.shut (s : St) (r : Int) (k : Nat) : St := if k = 0 then s else s.close r
theorem shut_first {s : St} {r : Int} (h : s.closed = false) : (!(s.shut r 0).closed) = true ∧ (s.shut r 0).close r = s.shut r 1 := ⟨by unfold St.shut; rw [if_pos rfl, h]; rfl, rfl⟩
theorem shut_next {s : St} {r z : Int} {k : Nat} (hk : 0 < k) : (!(s.shut r k).closed) = false ∧ (s.shut r k).close z = s.shut r (k + 1) := by
  have e : (s.shut r k).closed = true := by
    unfold St.shut; rw [if_neg (by omega)]; unfold St.close
    cases h : s.closed with
    | true => rw [if_pos rfl]; exact h
    | false => rfl
  refine ⟨by rw [e]; rfl, ?_⟩
  show (if (s.shut r k).closed then s.shut r k else _) = _
  rw [e, if_pos rfl]
  unfold St.shut
  rw [if_neg (by omega), if_neg (by omega)]
theorem one_open (kind n : Int) : (St.zero.count kind n).closed = false ∧ (St.zero.count kind n).reason = 0 ∧ (St.zero.count kind n).high = 0 := by
  unfold St.count
  split <;> exact ⟨rfl, rfl, rfl⟩
theorem okC_same {s t : St} (kind n : Int) (h : s.closed = t.closed) : s.okC kind n = t.okC kind n := by unfold St.okC; rw [h]
theorem closed_facts (s : St) (r kind n m : Int) (k : Nat) (hk : 0 < k) (hc : s.closed = false) (hh : s.high = 0) :
    (s.shut r k).reason = r ∧ (s.shut r k).closed = true ∧ (s.shut r k).okC kind n = false ∧ (s.shut r k).count kind n = s.shut r k ∧ (s.shut r k).okM m = false ∧ (s.shut r k).mark m = s.shut r k ∧ (s.shut r k).get kind = s.get kind ∧ (s.shut r k).high = 0 := by
  have e : s.shut r k = { s with closed := true, reason := r } := by unfold St.shut; rw [if_neg (by omega)]; unfold St.close; rw [hc]; rfl
  rw [e]
  exact ⟨rfl, rfl, rfl, rfl, rfl, rfl, rfl, hh⟩

set_option maxRecDepth 100000 in
set_option maxHeartbeats 2000000 in
theorem closes_none (A : Option Addr) (cap : Nat) (kind n : Int) (W : World) : Calls Try.prog 6 #[.slice A 0 cap, .int .i64 kind, .int .i64 n] W (Says true W) := by
  obtain ⟨o1, o2, o3⟩ := one_open kind n
  rcases ha : St.zero.okC kind n with _ | _
  all_goals
    have EA := Lib.hid ha
    have EB := Lib.hid ((okC_same kind n (show (St.zero.count kind n).closed = St.zero.closed from o1)).trans ha)
    have E1 := Lib.hid o1
    have E2 := Lib.hid o2
    clear ha o1 o2 o3
    go_enter Try.func6, Try.ntmps6
    go_wp2_with (fail)
    refine (anchor_any W).mono ?_
    rintro e w1 ⟨rfl, hb1⟩
    go_wp2_with (fail)
    refine (new_any _).mono ?_
    rintro e w2 ⟨rfl, h2, hb2⟩
    go_wp2_with (fail)
    refine (count_any _ _ kind n _ h2).mono ?_
    rintro e w3 ⟨rfl, h3, hg3⟩
    rw [EA.out]
    go_wp2_with (fail)
    refine (get_any _ _ kind _ h3).mono ?_
    rintro e w4 ⟨rfl, h4, hg4⟩
    have hb4 : Below W.heap.size W w4 := hb1.trans ((hb2.mono hb1.size).trans (below_of_only (hg3.trans hg4) (Nat.le_trans hb1.size hb2.size) hb1.size))
    have hg0 := hb1.size
    clear hg3 hg4 h2 h3 hb2 hb1
    go_wp2
    refine wp_loop_rounds 1 ?_
    rw [rounds_succ]
    go_wp2_with (fail)
    refine (closed_any _ _ _ h4).mono ?_
    rintro e w5 ⟨rfl, h5, hg5⟩
    rw [E1.out, E2.out]
    go_wp2_with (fail)
    refine (count_any _ _ kind n _ h5).mono ?_
    rintro e w6 ⟨rfl, h6, hg6⟩
    rw [EB.out]
    go_wp2
    go_ret
    exact ⟨rfl, hb4.trans (below_of_only (hg5.trans hg6) hb4.size hg0)⟩

set_option maxRecDepth 100000 in
set_option maxHeartbeats 2000000 in
theorem closes_some (A : Option Addr) (m cap : Nat) (zs : List Int) (kind n r : Int) (W : World) (hl : zs.length = m) (hm0 : 0 < m) (hm1 : m ≤ 100) (hr : ∀ g, W.heap.size ≤ g → Reads W g A m (zints zs)) (hz0 : zs[0]? = some r) :
    Calls Try.prog 6 #[.slice A m cap, .int .i64 kind, .int .i64 n] W (Says true W) := by
  obtain ⟨o1, o2, o3⟩ := one_open kind n
  obtain ⟨f1, f2, f3, f4, f5, f6, f7, f8⟩ := closed_facts (St.zero.count kind n) r kind n 4611686018427387904 m hm0 o1 o3
  rcases ha : St.zero.okC kind n with _ | _
  all_goals
    have EA := Lib.hid ha
    have O1 := Lib.hid o1
    have F1 := Lib.hid f1
    have F2 := Lib.hid f2
    have F3 := Lib.hid f3
    have F4 := Lib.hid f4
    have F5 := Lib.hid f5
    have F6 := Lib.hid f6
    have F7 := Lib.hid f7
    have F8 := Lib.hid f8
    clear ha o1 o2 o3 f1 f2 f3 f4 f5 f6 f7 f8
    go_enter Try.func6, Try.ntmps6
    go_wp2_with (fail)
    refine (anchor_any W).mono ?_
    rintro e w1 ⟨rfl, hb1⟩
    go_wp2_with (fail)
    refine (new_any _).mono ?_
    rintro e w2 ⟨rfl, h2, hb2⟩
    go_wp2_with (fail)
    refine (count_any _ _ kind n _ h2).mono ?_
    rintro e w3 ⟨rfl, h3, hg3⟩
    rw [EA.out]
    go_wp2_with (fail)
    refine (get_any _ _ kind _ h3).mono ?_
    rintro e w4 ⟨rfl, h4, hg4⟩
    have hb4 : Below W.heap.size W w4 := hb1.trans ((hb2.mono hb1.size).trans (below_of_only (hg3.trans hg4) (Nat.le_trans hb1.size hb2.size) hb1.size))
    have hg0 := hb1.size
    clear hg3 hg4 h2 h3 hb2 hb1
    go_wp2
    go_loopw [29] (fun i wr => ∃ (k : Nat), k ≤ m ∧ i = .int .i64 k ∧ Me wr w1.heap.size ((St.zero.count kind n).shut r k) ∧ Below W.heap.size W wr) (fun i _ => m - (intOf i).toNat)
    case atStart => exact ⟨0, by omega, rfl, h4, hb4⟩
    case round =>
      obtain ⟨k, hk, rfl, hm, hb⟩ := hrel
      by_cases hlt : k < m
      · obtain ⟨ad, u, rfl, hu, hc⟩ := ((hr W.heap.size (Nat.le_refl _)).below hb).at_ hlt
        obtain ⟨z, hz1, rfl⟩ := zints_at hu
        by_cases hk0 : k = 0
        · subst hk0
          obtain rfl : r = z := by rw [hz0] at hz1; injection hz1
          have G1 := Lib.hid (shut_first (r := r) O1.out)
          have hc0 : wr.cell? ad = some (.int .i64 r) := hc
          clear hu hz1 hc
          go_wp2_with (fail)
          refine (close_any _ _ r _ hm).mono ?_
          rintro e w5 ⟨rfl, h5, hg5⟩
          rw [G1.out.1]
          rw [G1.out.2] at h5
          have hb5 : Below W.heap.size W w5 := hb.trans (below_of_only hg5 hb.size hg0)
          clear hg5 hm hb
          go_wp2
          go_roundw
          case rel => exact ⟨1, by omega, by go_num, h5, hb5⟩
          case measure => simp [intOf]; omega
        · have G1 := Lib.hid (shut_next (s := St.zero.count kind n) (r := r) (z := z) (k := k) (by omega))
          have G2 : ((k : Int) == 0) = false := by rw [beq_eq_false_iff_ne]; omega
          clear hu hz1
          go_wp2_with (fail)
          refine (close_any _ _ z _ hm).mono ?_
          rintro e w5 ⟨rfl, h5, hg5⟩
          rw [G1.out.1]
          rw [G1.out.2] at h5
          have hb5 : Below W.heap.size W w5 := hb.trans (below_of_only hg5 hb.size hg0)
          clear hg5 hm hb
          go_wp2
          go_roundw
          case rel => exact ⟨k + 1, by omega, by go_num, h5, hb5⟩
          case measure => simp [intOf]; omega
      · obtain rfl : k = m := by omega
        have G2 : ((k : Int) == 0) = false := by rw [beq_eq_false_iff_ne]; omega
        have hkp : 0 < (k : Int) := by omega
        go_wp2_with (fail)
        refine (closed_any _ _ _ hm).mono ?_
        rintro e w5 ⟨rfl, h5, hg5⟩
        rw [F1.out, F2.out]
        have hb5 : Below W.heap.size W w5 := hb.trans (below_of_only hg5 hb.size hg0)
        obtain ⟨ad, u, rfl, hu, hc⟩ := ((hr W.heap.size (Nat.le_refl _)).below hb5).at_ hm0
        obtain ⟨z, hz1, rfl⟩ := zints_at hu
        obtain rfl : r = z := by rw [hz0] at hz1; injection hz1
        have hc0 : w5.cell? ad = some (.int .i64 r) := hc
        clear hu hz1 hc hg5 hm hb
        go_wp2_with (fail)
        refine (count_any _ _ kind n _ h5).mono ?_
        rintro e w6 ⟨rfl, h6, hg6⟩
        rw [F3.out]
        rw [F4.out] at h6
        go_wp2_with (fail)
        refine (mark_any _ _ 4611686018427387904 _ h6 (by decide)).mono ?_
        rintro e w7 ⟨rfl, h7, hg7⟩
        rw [F5.out]
        rw [F6.out] at h7
        go_wp2_with (fail)
        refine (get_any _ _ kind _ h7).mono ?_
        rintro e w8 ⟨rfl, h8, hg8⟩
        rw [F7.out]
        go_wp2_with (fail)
        refine (high_any _ _ _ h8).mono ?_
        rintro e w9 ⟨rfl, h9, hg9⟩
        rw [F8.out]
        go_wp2
        go_ret
        exact ⟨rfl, hb5.trans (below_of_only (hg6.trans (hg7.trans (hg8.trans hg9))) hb5.size hg0)⟩

set_option maxHeartbeats 2000000 in
theorem closes_long (A : Option Addr) (m cap : Nat) (kind n : Int) (W : World) (hm : 100 < m) : Calls Try.prog 6 #[.slice A m cap, .int .i64 kind, .int .i64 n] W (Says true W) := by
  go_enter Try.func6, Try.ntmps6
  go_wp2_with (fail)
  refine (anchor_any W).mono ?_
  rintro e w1 ⟨rfl, hb1⟩
  go_wp2
  go_ret
  exact ⟨rfl, hb1⟩

theorem closes_any (A : Option Addr) (m cap : Nat) (zs : List Int) (kind n : Int) (W : World) (hl : zs.length = m) (hr : ∀ g, W.heap.size ≤ g → Reads W g A m (zints zs)) :
    Calls Try.prog 6 #[.slice A m cap, .int .i64 kind, .int .i64 n] W (Says true W) := by
  by_cases h1 : m ≤ 100
  · cases zs with
    | nil =>
      obtain rfl : m = 0 := by simpa using hl.symm
      exact closes_none A cap kind n W
    | cons r zs => exact closes_some A m cap (r :: zs) kind n r W hl (by rw [← hl]; simp) h1 hr rfl
  · exact closes_long A m cap kind n W (by omega)

theorem closes_lifted (os : Os) (started : os.Started) (H : Type) (enc : TypeId × Value → H) :
    ReturnsInHanded {} Try.checked os 6 .any (Rows.meterClosesSpec.pre6 enc Try.prog Try.f6 Rows.meterClosesRow.domain false) (Rows.meterClosesSpec.post enc Try.prog Try.f6 false true false false) := by
  refine returnsInHanded_of_change (C := Try.checked) own started (by kernel_rfl) Try.func6
    (ChangeSpec.witness6 (enc := enc) (C := Try.checked) false ⟨#[], #[.slice none 0 0, .int .i64 0, .int .i64 0], []⟩ 8 (by kernel_rfl) (by kernel_rfl) (by kernel_rfl) (by kernel_rfl)) ?_
  intro W base args ds gs before hval0 hW _ _
  have hval : ∀ (j : Nat) t v, Try.f6.params[j]? = some t → args[j]? = some v → Value.okWide Try.prog W .any base t v := hval0
  have hW' := hW
  obtain ⟨p, q, hA0, hV, rfl, _, _⟩ := hW
  have hA : DataW.TrodAll enc Try.prog W 0 (fun _ => true) true Try.f6.params.toList args.toList ds p := hA0
  rw [Try.params6] at hA hval
  obtain ⟨v0, vs0, d0, ds0, p0, q0, hargs, rfl, rfl, h0, r0⟩ := trodAll_cons hA
  obtain ⟨v1, vs1, d1, ds1, p1, q1, rfl, rfl, rfl, h1, r1⟩ := trodAll_cons r0
  obtain ⟨v2, vs2, d2, ds2, p2, q2, rfl, rfl, rfl, h2, r2⟩ := trodAll_cons r1
  obtain ⟨rfl, rfl, rfl⟩ := trodAll_nil r2
  obtain rfl : args = #[v0, v1, v2] := by cases args; simp_all
  obtain ⟨rfl, rfl⟩ := trodVars_none hV
  obtain ⟨A0, n0, c0, l0, rfl, hl0, hc0, hm0, hr0, hz0⟩ := open_zints Try.underlying37 Try.underlying3 cells_int (hval 0 37 v0 rfl rfl) h0
  obtain ⟨z1, rfl, rfl, rfl, wz1⟩ := open_int Try.underlying3 (hval 1 3 v1 rfl rfl) h1
  obtain ⟨z2, rfl, rfl, rfl, wz2⟩ := open_int Try.underlying3 (hval 2 3 v2 rfl rfl) h2
  clear hA0
  have hk := closes_any A0 n0 c0 l0 z1 z2 W hl0 hr0
  exact hk.mono fun e W' ⟨he, hb⟩ => ⟨_, he, law_post laid_ok (by kernel_rfl) rfl Try.underlying4 rfl hW' rfl hb⟩

theorem closes_holds : Rows.MeterClosesSaid :=
  OpenClaim.holds_of_wide 6 Try.f6 rfl rfl rfl rfl rfl rfl rfl ⟨rfl, rfl, rfl, rfl, rfl⟩ rfl rfl rfl rfl rfl (by kernel_rfl) Try.func6 (by kernel_rfl)
    (of_decide_eq_true (by kernel_rfl)) (by unfold Func.isWrapper; first | (rw [if_pos (by decide +kernel)]; kernel_rfl) | (rw [if_neg (by decide +kernel)]; exact ⟨rfl, rfl⟩))
    (fun os started H enc _ => closes_lifted os started H enc)

end Go.Proofs.Ythaikcopbeppeaa
