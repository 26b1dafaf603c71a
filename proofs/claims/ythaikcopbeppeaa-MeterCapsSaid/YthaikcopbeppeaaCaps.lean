/-
  WHAT IS PROVED: the law MeterCaps answers true for all arguments, which read behind the call as before it (two counters have what was counted, and so have all together). No condition beyond those of the given row.
-/
import Derived.Test.YthaikcopbeppeaaAnchor
import Derived.Test.YthaikcopbeppeaaPlain
import Derived.Test.YthaikcopbeppeaaLaw
namespace Go.Proofs.Ythaikcopbeppeaa
open Go.RowKit Go.Lib Go.ChangeShapes Go.WideShapes Go.ChangeAt Go.WideElems

/-- a meter in which two counters have v and u -/
def two (a b : Nat) (v u : Int) : St := ⟨fun i => if i = a then v else if i = b then u else 0, 0, false, 0⟩
theorem two_ok (a b : Nat) (v u : Int) (n : Int) (hn0 : 0 ≤ n) (hn1 : n ≤ 4294967296) (k : Nat) (hk : k < 16) : (two a b v u).okC (k : Int) n = true := by
  unfold St.okC two; simp; omega
theorem two_left {a b : Nat} {v u n : Int} (hv : 0 ≤ v ∧ v + n ≤ 4611686018427387904) (ok : (two a b v u).okC (a : Int) n = true) : (two a b v u).count (a : Int) n = two a b (v + n) u := by
  unfold St.count
  rw [ok]
  unfold St.put two
  simp only [if_true, Int.toNat_natCast]
  have e : plusI v n = v + n := by unfold plusI; omega
  rw [e]
  congr 1
  funext i
  by_cases h : i = a
  · rw [if_pos h, if_pos h]
  · rw [if_neg h, if_neg h, if_neg h]
theorem two_right {a b : Nat} {v u n : Int} (hab : b ≠ a) (hv : 0 ≤ u ∧ u + n ≤ 4611686018427387904) (ok : (two a b v u).okC (b : Int) n = true) : (two a b v u).count (b : Int) n = two a b v (u + n) := by
  unfold St.count
  rw [ok]
  unfold St.put two
  simp only [if_true, Int.toNat_natCast, if_neg hab]
  have e : plusI u n = u + n := by unfold plusI; omega
  rw [e]
  congr 1
  funext i
  by_cases h : i = b
  · subst h; rw [if_pos rfl, if_neg hab, if_pos rfl]
  · simp only [if_neg h]
theorem two_zero (a b : Nat) : St.zero = two a b 0 0 := by
  unfold St.zero two
  congr 1
  funext i
  split
  · rfl
  · split <;> rfl
theorem sumTo_two {a b : Nat} (v u : Int) (hab : b ≠ a) : ∀ k, sumTo (fun i => if i = a then v else if i = b then u else 0) k = (if a < k then v else 0) + (if b < k then u else 0)
  | 0 => by simp [sumTo]
  | k + 1 => by
    show sumTo _ k + (if k = a then v else if k = b then u else 0) = _
    rw [sumTo_two v u hab k]
    split <;> split <;> split <;> split <;> (try split) <;> omega
theorem two_total {a b : Nat} {v u : Int} (hab : b ≠ a) (ha : a < 16) (hb : b < 16) (h : v + u ≤ 4611686018427387904) : (two a b v u).total = v + u := by
  unfold St.total
  show min (sumTo (fun i => if i = a then v else if i = b then u else 0) 16) _ = _
  rw [sumTo_two v u hab, if_pos ha, if_pos hb]; omega
theorem two_get {a b : Nat} {v u : Int} (ha : a < 16) : (two a b v u).get (a : Int) = v := by
  unfold St.get
  rw [if_pos (by omega)]
  show (if (a : Int).toNat = a then v else _) = v
  rw [if_pos (by omega)]
theorem mul_bounds {t : Nat} {n : Int} (ht : t ≤ 100) (h0 : 0 ≤ n) (h1 : n ≤ 4294967296) {k : Nat} (hk : k ≤ t) : 0 ≤ (k : Int) * n ∧ (k : Int) * n ≤ 429496729600 := by
  have h2 : (k : Int) ≤ 100 := by omega
  refine ⟨Int.mul_nonneg (by omega) h0, ?_⟩
  have := Int.mul_le_mul h2 h1 h0 (by decide)
  omega

set_option maxRecDepth 100000 in
set_option maxHeartbeats 2000000 in
theorem caps_in (a t : Nat) (n : Int) (W : World) (ha : a < 16) (ht : t ≤ 100) (hn0 : 0 ≤ n) (hn1 : n ≤ 4294967296) :
    Calls Try.prog 4 #[.int .i64 a, .int .i64 t, .int .i64 n] W (Says true W) := by
  obtain ⟨b, hb0, hab, hrem⟩ : ∃ b : Nat, b < 16 ∧ b ≠ a ∧ Hid (((a : Int) + 1).tmod 16 = (b : Int)) :=
    ⟨(a + 1) % 16, by omega, by omega, Lib.hid (by rw [Int.tmod_eq_emod_of_nonneg (by omega)]; omega)⟩
  have hrem2 := hrem.out
  have hb2 : (b : Int) < 16 := by omega
  have ha2 : (a : Int) ≤ 15 := by omega
  have ht2 : (t : Int) ≤ 100 := by omega
  clear hrem
  go_enter Try.func4, Try.ntmps4
  go_wp2_with (fail)
  refine (anchor_any W).mono ?_
  rintro e w1 ⟨rfl, hb1⟩
  go_wp2_with (fail)
  refine (new_any _).mono ?_
  rintro e w2 ⟨rfl, h2, hb2'⟩
  have hb3 : Below W.heap.size W w2 := hb1.trans (hb2'.mono hb1.size)
  have hg0 := hb1.size
  rw [two_zero a b] at h2
  clear hb2' hb1
  go_wp2
  go_loopw [34] (fun i wr => ∃ (k : Nat), k ≤ t ∧ i = .int .i64 k ∧ Me wr w1.heap.size (two a b ((k : Int) * n) ((k : Int) * n)) ∧ Below W.heap.size W wr) (fun i _ => t - (intOf i).toNat)
  case atStart => exact ⟨0, by omega, rfl, by simpa using h2, hb3⟩
  case round =>
    obtain ⟨k, hk, rfl, hm, hb⟩ := hrel
    have hkb := mul_bounds ht hn0 hn1 hk
    by_cases hlt : k < t
    · have hn2 : ((k + 1 : Nat) : Int) * n = (k : Int) * n + n := by rw [Int.natCast_succ, Int.add_mul, Int.one_mul]
      have E1 := Lib.hid (two_ok a b ((k : Int) * n) ((k : Int) * n) n hn0 hn1 a ha)
      have E2 := Lib.hid (two_left (a := a) (b := b) (v := (k : Int) * n) (u := (k : Int) * n) (n := n) ⟨hkb.1, by omega⟩ E1.out)
      have E3 := Lib.hid (two_ok a b ((k : Int) * n + n) ((k : Int) * n) n hn0 hn1 b hb0)
      have E4 := Lib.hid (two_right (a := a) (b := b) (v := (k : Int) * n + n) (u := (k : Int) * n) (n := n) hab ⟨hkb.1, by omega⟩ E3.out)
      have EN := Lib.hid hn2
      clear hn2
      go_wp2_with (fail)
      refine (count_any _ _ a n _ hm).mono ?_
      rintro e w4 ⟨rfl, h4, hg4⟩
      rw [E1.out]
      rw [E2.out] at h4
      go_wp2_with (fail)
      refine (count_any _ _ b n _ h4).mono ?_
      rintro e w5 ⟨rfl, h5, hg5⟩
      rw [E3.out]
      rw [E4.out, ← EN.out] at h5
      have hb5 : Below W.heap.size W w5 := hb.trans (below_of_only (hg4.trans hg5) hb.size hg0)
      clear hg4 hg5 h4 hm hb E1 E2 E3 E4
      go_wp2
      go_roundw
      case rel => exact ⟨k + 1, by omega, by go_num, h5, hb5⟩
      case measure => simp [intOf]; omega
    · obtain rfl : k = t := by omega
      have E5 := Lib.hid (two_get (a := a) (b := b) (v := (k : Int) * n) (u := (k : Int) * n) ha)
      have e2 : 2 * (k : Int) * n = (k : Int) * n + (k : Int) * n := by rw [Int.mul_assoc]; omega
      have E6 := Lib.hid ((two_total (v := (k : Int) * n) (u := (k : Int) * n) hab ha hb0 (by omega)).trans e2.symm)
      have hk2 : 0 ≤ 2 * (k : Int) * n ∧ 2 * (k : Int) * n ≤ 858993459200 := by rw [e2]; omega
      obtain ⟨q0, q1⟩ := hkb
      obtain ⟨q2, q3⟩ := hk2
      clear e2
      go_wp2_with (fail)
      refine (get_any _ _ _ _ hm).mono ?_
      rintro e w4 ⟨rfl, h4, hg4⟩
      rw [E5.out]
      go_wp2_with (fail)
      refine (total_any _ _ _ h4).mono ?_
      rintro e w5 ⟨rfl, h5, hg5⟩
      rw [E6.out]
      go_wp2_with (fail)
      refine (high_any _ _ _ h5).mono ?_
      rintro e w6 ⟨rfl, h6, hg6⟩
      simp only [two]
      go_wp2
      go_ret
      exact ⟨rfl, hb.trans (below_of_only (hg4.trans (hg5.trans hg6)) hb.size hg0)⟩

set_option maxHeartbeats 2000000 in
theorem caps_out (a t n : Int) (W : World) (h : a < 0 ∨ (0 ≤ a ∧ 15 < a) ∨ (0 ≤ a ∧ a ≤ 15 ∧ t < 0) ∨ (0 ≤ a ∧ a ≤ 15 ∧ 0 ≤ t ∧ 100 < t) ∨ (0 ≤ a ∧ a ≤ 15 ∧ 0 ≤ t ∧ t ≤ 100 ∧ n < 0) ∨ (0 ≤ a ∧ a ≤ 15 ∧ 0 ≤ t ∧ t ≤ 100 ∧ 0 ≤ n ∧ 4294967296 < n)) :
    Calls Try.prog 4 #[.int .i64 a, .int .i64 t, .int .i64 n] W (Says true W) := by
  rcases h with h1 | ⟨h1, h2⟩ | ⟨h1, h2, h3⟩ | ⟨h1, h2, h3, h4⟩ | ⟨h1, h2, h3, h4, h5⟩ | ⟨h1, h2, h3, h4, h5, h6⟩
  all_goals
    go_enter Try.func4, Try.ntmps4
    go_wp2_with (fail)
    refine (anchor_any W).mono ?_
    rintro e w1 ⟨rfl, hb1⟩
    go_wp2
    go_ret
    exact ⟨rfl, hb1⟩

theorem caps_any (a t n : Int) (W : World) : Calls Try.prog 4 #[.int .i64 a, .int .i64 t, .int .i64 n] W (Says true W) := by
  by_cases h : 0 ≤ a ∧ a ≤ 15 ∧ 0 ≤ t ∧ t ≤ 100 ∧ 0 ≤ n ∧ n ≤ 4294967296
  · obtain ⟨h1, h2, h3, h4, h5, h6⟩ := h
    obtain ⟨a, rfl⟩ := Int.eq_ofNat_of_zero_le h1
    obtain ⟨t, rfl⟩ := Int.eq_ofNat_of_zero_le h3
    exact caps_in a t n W (by omega) (by omega) h5 h6
  · exact caps_out a t n W (by omega)

theorem caps_lifted (os : Os) (started : os.Started) (H : Type) (enc : TypeId × Value → H) :
    ReturnsInHanded {} Try.checked os 4 .any (Rows.meterCapsSpec.pre6 enc Try.prog Try.f4 Rows.meterCapsRow.domain false) (Rows.meterCapsSpec.post enc Try.prog Try.f4 false true false false) := by
  refine returnsInHanded_of_change (C := Try.checked) own started (by kernel_rfl) Try.func4
    (ChangeSpec.witness6 (enc := enc) (C := Try.checked) false ⟨#[], #[.int .i64 0, .int .i64 0, .int .i64 0], []⟩ 8 (by kernel_rfl) (by kernel_rfl) (by kernel_rfl) (by kernel_rfl)) ?_
  intro W base args ds gs before hval0 hW _ _
  have hval : ∀ (j : Nat) t v, Try.f4.params[j]? = some t → args[j]? = some v → Value.okWide Try.prog W .any base t v := hval0
  have hW' := hW
  obtain ⟨p, q, hA0, hV, rfl, _, _⟩ := hW
  have hA : DataW.TrodAll enc Try.prog W 0 (fun _ => true) true Try.f4.params.toList args.toList ds p := hA0
  rw [Try.params4] at hA hval
  obtain ⟨v0, vs0, d0, ds0, p0, q0, hargs, rfl, rfl, h0, r0⟩ := trodAll_cons hA
  obtain ⟨v1, vs1, d1, ds1, p1, q1, rfl, rfl, rfl, h1, r1⟩ := trodAll_cons r0
  obtain ⟨v2, vs2, d2, ds2, p2, q2, rfl, rfl, rfl, h2, r2⟩ := trodAll_cons r1
  obtain ⟨rfl, rfl, rfl⟩ := trodAll_nil r2
  obtain rfl : args = #[v0, v1, v2] := by cases args; simp_all
  obtain ⟨rfl, rfl⟩ := trodVars_none hV
  obtain ⟨z0, rfl, rfl, rfl, wz0⟩ := open_int Try.underlying3 (hval 0 3 v0 rfl rfl) h0
  obtain ⟨z1, rfl, rfl, rfl, wz1⟩ := open_int Try.underlying3 (hval 1 3 v1 rfl rfl) h1
  obtain ⟨z2, rfl, rfl, rfl, wz2⟩ := open_int Try.underlying3 (hval 2 3 v2 rfl rfl) h2
  clear hA0
  have hk := caps_any z0 z1 z2 W
  exact hk.mono fun e W' ⟨he, hb⟩ => ⟨_, he, law_post laid_ok (by kernel_rfl) rfl Try.underlying4 rfl hW' rfl hb⟩

theorem caps_holds : Rows.MeterCapsSaid :=
  OpenClaim.holds_of_wide 4 Try.f4 rfl rfl rfl rfl rfl rfl rfl ⟨rfl, rfl, rfl, rfl, rfl⟩ rfl rfl rfl rfl rfl (by kernel_rfl) Try.func4 (by kernel_rfl)
    (of_decide_eq_true (by kernel_rfl)) (by unfold Func.isWrapper; first | (rw [if_pos (by decide +kernel)]; kernel_rfl) | (rw [if_neg (by decide +kernel)]; exact ⟨rfl, rfl⟩))
    (fun os started H enc _ => caps_lifted os started H enc)

end Go.Proofs.Ythaikcopbeppeaa
