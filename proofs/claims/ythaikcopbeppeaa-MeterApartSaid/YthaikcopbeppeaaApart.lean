/-
  WHAT IS PROVED: the law MeterApart answers true for all arguments, which read behind the call as before it (a counter counts its own kind alone; a count that is refused changes none). No condition beyond those of the given row.
-/
import Derived.Test.YthaikcopbeppeaaAnchor
import Derived.Test.YthaikcopbeppeaaPlain
import Derived.Test.YthaikcopbeppeaaLaw
namespace Go.Proofs.Ythaikcopbeppeaa
open Go.RowKit Go.Lib Go.ChangeShapes Go.WideShapes Go.ChangeAt Go.WideElems

set_option maxHeartbeats 1000000 in
theorem apart_same (kind n more x y : Int) (a b : Bool) (w : World) (FA : Hid (St.zero.okC kind n = a)) (FB : Hid ((St.zero.count kind n).okC kind more = b)) (hx : (if a then n else 0) = x) (hy : (if b then more else 0) = y)
    (bx0 : 0 ≤ x) (bx1 : x ≤ 4294967296) (by0 : 0 ≤ y) (by1 : y ≤ 4294967296)
    (FG : Hid (((St.zero.count kind n).count kind more).get kind = x + y)) (FT : Hid (((St.zero.count kind n).count kind more).total = x + y)) :
    Calls Try.prog 8 #[.int .i64 kind, .int .i64 n, .int .i64 kind, .int .i64 more] w (Says true w) := by
  cases a <;> cases b
  all_goals
    first | (have e : n = x := hx) | (have e : (0 : Int) = x := hx)
    subst e
    first | (have e : more = y := hy) | (have e : (0 : Int) = y := hy)
    subst e
    clear hx hy
    first | rw [Int.zero_add] at FG FT | rw [Int.add_zero] at FG FT | skip
    go_enter Try.func8, Try.ntmps8
    go_wp2_with (fail)
    refine (anchor_any w).mono ?_
    rintro e w1 ⟨rfl, hb1⟩
    go_wp2_with (fail)
    refine (new_any _).mono ?_
    rintro e w2 ⟨rfl, h2, hb2⟩
    go_wp2_with (fail)
    refine (count_any _ _ kind n _ h2).mono ?_
    rintro e w3 ⟨rfl, h3, hg3⟩
    rw [FA.out]
    go_wp2_with (fail)
    refine (get_any _ _ kind _ h3).mono ?_
    rintro e w4 ⟨rfl, h4, hg4⟩
    go_wp2_with (fail)
    refine (count_any _ _ kind more _ h4).mono ?_
    rintro e w5 ⟨rfl, h5, hg5⟩
    rw [FB.out]
    have hb5 : Below w.heap.size w w5 := hb1.trans ((hb2.mono hb1.size).trans (below_of_only (hg3.trans (hg4.trans hg5)) (Nat.le_trans hb1.size hb2.size) hb1.size))
    clear hg3 hg4 hg5 h2 h3 h4 hb2
    go_wp2_with (fail)
    have h6 := h5
    have hb6 := hb5
    refine (get_any _ _ kind _ h6).mono ?_
    rintro e w7 ⟨rfl, h7, hg7⟩
    rw [FG.out]
    go_wp2_with (fail)
    refine (total_any _ _ _ h7).mono ?_
    rintro e w8 ⟨rfl, h8, hg8⟩
    rw [FT.out]
    go_wp2
    go_ret
    exact ⟨rfl, hb6.trans (below_of_only (hg7.trans hg8) hb6.size hb1.size)⟩

set_option maxHeartbeats 1000000 in
theorem apart_other (kind n other more x y : Int) (a b : Bool) (w : World) (FA : Hid (St.zero.okC kind n = a)) (FB : Hid ((St.zero.count kind n).okC kind more = b)) (hx : (if a then n else 0) = x) (hy : (if b then more else 0) = y)
    (bx0 : 0 ≤ x) (bx1 : x ≤ 4294967296) (by0 : 0 ≤ y) (by1 : y ≤ 4294967296) (ho : (kind != other) = true) (FO : Hid (((St.zero.count kind n).count kind more).get other = (St.zero.count kind n).get other))
    (FG : Hid (((St.zero.count kind n).count kind more).get kind = x + y)) (FT : Hid (((St.zero.count kind n).count kind more).total = x + y)) :
    Calls Try.prog 8 #[.int .i64 kind, .int .i64 n, .int .i64 other, .int .i64 more] w (Says true w) := by
  cases a <;> cases b
  all_goals
    first | (have e : n = x := hx) | (have e : (0 : Int) = x := hx)
    subst e
    first | (have e : more = y := hy) | (have e : (0 : Int) = y := hy)
    subst e
    clear hx hy
    first | rw [Int.zero_add] at FG FT | rw [Int.add_zero] at FG FT | skip
    go_enter Try.func8, Try.ntmps8
    go_wp2_with (fail)
    refine (anchor_any w).mono ?_
    rintro e w1 ⟨rfl, hb1⟩
    go_wp2_with (fail)
    refine (new_any _).mono ?_
    rintro e w2 ⟨rfl, h2, hb2⟩
    go_wp2_with (fail)
    refine (count_any _ _ kind n _ h2).mono ?_
    rintro e w3 ⟨rfl, h3, hg3⟩
    rw [FA.out]
    go_wp2_with (fail)
    refine (get_any _ _ other _ h3).mono ?_
    rintro e w4 ⟨rfl, h4, hg4⟩
    go_wp2_with (fail)
    refine (count_any _ _ kind more _ h4).mono ?_
    rintro e w5 ⟨rfl, h5, hg5⟩
    rw [FB.out]
    have hb5 : Below w.heap.size w w5 := hb1.trans ((hb2.mono hb1.size).trans (below_of_only (hg3.trans (hg4.trans hg5)) (Nat.le_trans hb1.size hb2.size) hb1.size))
    clear hg3 hg4 hg5 h2 h3 h4 hb2
    go_wp2_with (fail)
    refine (get_any _ _ other _ h5).mono ?_
    rintro e w6 ⟨rfl, h6, hg6⟩
    rw [FO.out]
    have hb6 : Below w.heap.size w w6 := hb5.trans (below_of_only hg6 hb5.size hb1.size)
    clear h5 hg6
    go_wp2_with (fail)
    refine (get_any _ _ kind _ h6).mono ?_
    rintro e w7 ⟨rfl, h7, hg7⟩
    rw [FG.out]
    go_wp2_with (fail)
    refine (total_any _ _ _ h7).mono ?_
    rintro e w8 ⟨rfl, h8, hg8⟩
    rw [FT.out]
    go_wp2
    go_ret
    exact ⟨rfl, hb6.trans (below_of_only (hg7.trans hg8) hb6.size hb1.size)⟩

theorem apart_any (kind n other more : Int) (w : World) : Calls Try.prog 8 #[.int .i64 kind, .int .i64 n, .int .i64 other, .int .i64 more] w (Says true w) := by
  obtain ⟨fo, fg, ft⟩ := apart_facts kind n more _ _ rfl rfl
  have bx : 0 ≤ (if St.zero.okC kind n then n else 0) ∧ (if St.zero.okC kind n then n else 0) ≤ 4294967296 := by
    split
    · rename_i h; exact (okC_kind h).2
    · exact ⟨Int.le_refl 0, by decide⟩
  have bz : 0 ≤ (if (St.zero.count kind n).okC kind more then more else 0) ∧ (if (St.zero.count kind n).okC kind more then more else 0) ≤ 4294967296 := by
    split
    · rename_i h; exact (okC_kind h).2
    · exact ⟨Int.le_refl 0, by decide⟩
  by_cases ho : kind = other
  · subst ho
    exact apart_same kind n more _ _ _ _ w (Lib.hid rfl) (Lib.hid rfl) rfl rfl bx.1 bx.2 bz.1 bz.2 (Lib.hid fg) (Lib.hid ft)
  · exact apart_other kind n other more _ _ _ _ w (Lib.hid rfl) (Lib.hid rfl) rfl rfl bx.1 bx.2 bz.1 bz.2 (bne_iff_ne.2 ho) (Lib.hid (fo other ho)) (Lib.hid fg) (Lib.hid ft)

theorem apart_lifted (os : Os) (started : os.Started) (H : Type) (enc : TypeId × Value → H) :
    ReturnsInHanded {} Try.checked os 8 .any (Rows.meterApartSpec.pre6 enc Try.prog Try.f8 Rows.meterApartRow.domain false) (Rows.meterApartSpec.post enc Try.prog Try.f8 false true false false) := by
  refine returnsInHanded_of_change (C := Try.checked) own started (by kernel_rfl) Try.func8
    (ChangeSpec.witness6 (enc := enc) (C := Try.checked) false ⟨#[], #[.int .i64 0, .int .i64 0, .int .i64 0, .int .i64 0], []⟩ 8 (by kernel_rfl) (by kernel_rfl) (by kernel_rfl) (by kernel_rfl)) ?_
  intro W base args ds gs before hval0 hW _ _
  have hval : ∀ (j : Nat) t v, Try.f8.params[j]? = some t → args[j]? = some v → Value.okWide Try.prog W .any base t v := hval0
  have hW' := hW
  obtain ⟨p, q, hA0, hV, rfl, _, _⟩ := hW
  have hA : DataW.TrodAll enc Try.prog W 0 (fun _ => true) true Try.f8.params.toList args.toList ds p := hA0
  rw [Try.params8] at hA hval
  obtain ⟨v0, vs0, d0, ds0, p0, q0, hargs, rfl, rfl, h0, r0⟩ := trodAll_cons hA
  obtain ⟨v1, vs1, d1, ds1, p1, q1, rfl, rfl, rfl, h1, r1⟩ := trodAll_cons r0
  obtain ⟨v2, vs2, d2, ds2, p2, q2, rfl, rfl, rfl, h2, r2⟩ := trodAll_cons r1
  obtain ⟨v3, vs3, d3, ds3, p3, q3, rfl, rfl, rfl, h3, r3⟩ := trodAll_cons r2
  obtain ⟨rfl, rfl, rfl⟩ := trodAll_nil r3
  obtain rfl : args = #[v0, v1, v2, v3] := by cases args; simp_all
  obtain ⟨rfl, rfl⟩ := trodVars_none hV
  obtain ⟨z0, rfl, rfl, rfl, wz0⟩ := open_int Try.underlying3 (hval 0 3 v0 rfl rfl) h0
  obtain ⟨z1, rfl, rfl, rfl, wz1⟩ := open_int Try.underlying3 (hval 1 3 v1 rfl rfl) h1
  obtain ⟨z2, rfl, rfl, rfl, wz2⟩ := open_int Try.underlying3 (hval 2 3 v2 rfl rfl) h2
  obtain ⟨z3, rfl, rfl, rfl, wz3⟩ := open_int Try.underlying3 (hval 3 3 v3 rfl rfl) h3
  clear hA0
  have hk := apart_any z0 z1 z2 z3 W
  exact hk.mono fun e W' ⟨he, hb⟩ => ⟨_, he, law_post laid_ok (by kernel_rfl) rfl Try.underlying4 rfl hW' rfl hb⟩

theorem apart_holds : Rows.MeterApartSaid :=
  OpenClaim.holds_of_wide 8 Try.f8 rfl rfl rfl rfl rfl rfl rfl ⟨rfl, rfl, rfl, rfl, rfl⟩ rfl rfl rfl rfl rfl (by kernel_rfl) Try.func8 (by kernel_rfl)
    (of_decide_eq_true (by kernel_rfl)) (by unfold Func.isWrapper; first | (rw [if_pos (by decide +kernel)]; kernel_rfl) | (rw [if_neg (by decide +kernel)]; exact ⟨rfl, rfl⟩))
    (fun os started H enc _ => apart_lifted os started H enc)

end Go.Proofs.Ythaikcopbeppeaa
