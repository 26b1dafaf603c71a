/-
  WHAT IS PROVED: the contracts of Bump and of the law's function 'anchor' (the document's examples). Condition: none.
-/
import Derived.Test.YtckdibnadokipaaCalls
namespace Go.Proofs.Ytckdibnadokipaa
open Go.RowKit Go.Lib

/-- a call's answer is put into a new variable -/
theorem below_new {B : Nat} {w w1 : World} (h : Below B w w1) (hB : B ≤ w1.heap.size) (o : Obj) : Below B w (w1.alloc o) := h.alloc hB o
theorem stand_ok {r : Ep} (h : standF r = 0) : okB r = true ∧ r.cur ≠ 281474976710656 := by
  unfold standF at h
  split at h
  · split at h
    · cases h
    · exact ⟨by assumption, by assumption⟩
  · cases h
theorem stand_right {r : Ep} (h : okB r = true) (h2 : r.cur ≠ 281474976710656) : takesB ⟨r.cur + 1, r.vote, r.conf⟩ (r.cur + 1) = true := by
  rw [ok_iff] at h
  rw [takes_iff, ok_iff]
  simp
  omega
theorem bump_win {r : Ep} (h : standF r = 0) : winE (standE r) (standE r).cur = bumpE r ∧ winF (standE r) (standE r).cur = 0 ∧ bumpF r = 0 := by
  obtain ⟨h1, h2⟩ := stand_ok h
  have h4 := (ok_iff.1 h1)
  rw [(stand_yes h1 h2).1, (bump_yes h1 h2).1]
  obtain ⟨e1, e2⟩ := win_yes (stand_right h1 h2) (show ¬ ((⟨r.cur + 1, r.vote, r.conf⟩ : Ep).cur < r.cur + 1 ∨ r.cur + 1 ≤ (⟨r.cur + 1, r.vote, r.conf⟩ : Ep).conf) by simp; omega)
  exact ⟨e1, e2, (bump_yes h1 h2).2⟩
theorem bump_not {r : Ep} (h : standF r ≠ 0) : bumpE r = Ep.zero ∧ bumpF r = standF r := by
  by_cases h1 : okB r = true
  · by_cases h2 : r.cur = 281474976710656
    · exact ⟨(bump_big h1 h2).1, rfl⟩
    · exact absurd (stand_yes h1 h2).2 h
  · exact ⟨(bump_no (by simpa using h1)).1, rfl⟩

set_option maxHeartbeats 1000000 in
theorem bump_any (r : Ep) (w : World) : Calls Try.prog 18 #[vEp r] w (Gives (bumpE r) (bumpF r) w) := by
  obtain ⟨a, HA⟩ : ∃ a, Hid (standE r = a) := ⟨_, Lib.hid rfl⟩
  obtain ⟨f, HF⟩ : ∃ f, Hid (standF r = f) := ⟨_, Lib.hid rfl⟩
  by_cases hf : f = 0
  · subst hf
    have HE := bump_win HF.out
    rw [HA.out] at HE
    obtain ⟨e1, e2, e3⟩ := HE
    have E1 := Lib.hid e1
    have E2 := Lib.hid e2
    rw [e3]
    clear e1 e2 e3
    go_enter Try.func18, Try.ntmps18
    go_wp2_with (fail)
    refine (stand_any r _).mono ?_
    rintro e w1 ⟨rfl, hb1⟩
    rw [HA.out, HF.out]
    obtain ⟨k1, k2, hb2⟩ := two_boxes (s := Ep.zero) hb1
    have K1 := Lib.hid (k1.alloc (.cells #[.int .i64 a.cur, .int .i64 a.vote, .int .i64 a.conf] 23))
    have K2 := Lib.hid (k2.alloc (.cells #[.int .i64 a.cur, .int .i64 a.vote, .int .i64 a.conf] 23))
    have HB2 := Lib.hid (below_new hb2 hb2.size (.cells #[.int .i64 a.cur, .int .i64 a.vote, .int .i64 a.conf] 23))
    clear hb1 k1 k2 hb2
    go_wp2_with (fail)
    refine (win_any a a.cur _).mono ?_
    rintro e w2 ⟨rfl, hb3⟩
    rw [E1.out, E2.out]
    have k2 : Bx w2 (w.heap.size + 1) ⟨0, 0, 0⟩ := K2.out.later hb3
    obtain ⟨z0, z1, z2⟩ := k2.box
    have f0 := k2.fz 0
    have f1 := k2.fz 1
    have f2 := k2.fz 2
    have HB3 := Lib.hid (HB2.out.trans (hb3.mono HB2.out.size))
    have K3 := Lib.hid k2
    clear k2 hb3
    go_wp2
    exact bodyPost_ret (results_box (p := 2) (u := 3) rfl _ _ (w.heap.size + 1) _ rfl (K3.out.store (bumpE r))) rfl ⟨rfl, below3 HB3.out (by omega) _ _ _⟩
  · obtain ⟨e1, e2⟩ := bump_not (by rw [HF.out]; exact hf)
    have hf' : (f != 0) = true := by simpa using hf
    rw [e1, e2, HF.out]
    clear e1 e2 hf
    go_enter Try.func18, Try.ntmps18
    go_wp2_with (fail)
    refine (stand_any r _).mono ?_
    rintro e w1 ⟨rfl, hb1⟩
    rw [HA.out, HF.out]
    obtain ⟨k1, k2, hb2⟩ := two_boxes (s := Ep.zero) hb1
    have k2' : Bx w1 (w.heap.size + 1) ⟨0, 0, 0⟩ := k2
    have HB2 := Lib.hid hb2
    obtain ⟨z0, z1, z2⟩ := k2'.box
    have f0 := k2'.fz 0
    have f1 := k2'.fz 1
    have f2 := k2'.fz 2
    have K2 := Lib.hid k2'
    have hsz : w.heap.size + 1 < w1.heap.size := k2.lt
    clear hb1 k1 k2 hb2 k2'
    go_wp2
    exact bodyPost_ret (results_box (p := 2) (u := 3) rfl _ _ (w.heap.size + 1) _ rfl ((K2.out.store Ep.zero).alloc _)) rfl ⟨rfl, below_new (below3 HB2.out (by omega) _ _ _) (by simp [World.setCell]; omega) _⟩

set_option maxRecDepth 100000 in
set_option maxHeartbeats 2000000 in
theorem anchor_any (w : World) : Calls Try.prog 12 #[] w (Says true w) := by
  have A1 : Hid (grantE ⟨5, 3, 2⟩ 5 = ⟨5, 5, 2⟩ ∧ grantF ⟨5, 3, 2⟩ 5 = 0) := by show _ ∧ _; decide
  have A2 : Hid (grantE ⟨5, 3, 2⟩ 4 = ⟨0, 0, 0⟩ ∧ grantF ⟨5, 3, 2⟩ 4 = 22) := by show _ ∧ _; decide
  have A3 : Hid (standE ⟨5, 3, 2⟩ = ⟨6, 3, 2⟩ ∧ standF ⟨5, 3, 2⟩ = 0) := by show _ ∧ _; decide
  have A4 : Hid (winE ⟨6, 3, 2⟩ 6 = ⟨6, 3, 6⟩ ∧ winF ⟨6, 3, 2⟩ 6 = 0) := by show _ ∧ _; decide
  have S1 := fun w => same_ep ⟨5, 5, 2⟩ ⟨5, 5, 2⟩ w
  have S2 := fun w => same_ep ⟨6, 3, 6⟩ ⟨6, 3, 6⟩ w
  simp only [decide_true] at S1 S2
  have h0 := Bx.new w ⟨5, 3, 2⟩ rfl
  have hb0 : ∀ o, Below w.heap.size w (w.alloc o) := fun o => (Below.refl _ w).alloc (Nat.le_refl _) o
  have H0 := Lib.hid h0
  have HB0 := Lib.hid hb0
  clear h0 hb0
  go_enter Try.func12, Try.ntmps12
  go_wp2_with (fail)
  refine (grant_any ⟨5, 3, 2⟩ 5 _).mono ?_
  rintro e w1 ⟨rfl, hb1⟩
  rw [A1.out.1, A1.out.2]
  have HB1 := Lib.hid (below_new ((HB0.out _).trans (hb1.mono (by simp))) (Nat.le_trans (by simp) hb1.size) (.cells #[.int .i64 5, .int .i64 5, .int .i64 2] 23))
  have K1 := Lib.hid ((H0.out.later hb1).alloc (.cells #[.int .i64 5, .int .i64 5, .int .i64 2] 23))
  have L1 := Lib.hid (Bx.new w1 ⟨5, 5, 2⟩ rfl)
  obtain ⟨a0, a1, a2⟩ := K1.out.box
  clear hb1 H0 HB0
  go_wp2_with (fail)
  refine (grant_any ⟨5, 3, 2⟩ 4 _).mono ?_
  rintro e w2 ⟨rfl, hb2⟩
  rw [A2.out.1, A2.out.2]
  have HB2 := Lib.hid (below_new (HB1.out.trans (hb2.mono HB1.out.size)) (Nat.le_trans HB1.out.size hb2.size) (.cells #[.int .i64 0, .int .i64 0, .int .i64 0] 23))
  have K2 := Lib.hid ((K1.out.later hb2).alloc (.cells #[.int .i64 0, .int .i64 0, .int .i64 0] 23))
  have L2 := Lib.hid ((L1.out.later hb2).alloc (.cells #[.int .i64 0, .int .i64 0, .int .i64 0] 23))
  obtain ⟨b0, b1, b2⟩ := K2.out.box
  clear hb2 K1 L1 HB1 a0 a1 a2
  go_wp2_with (fail)
  refine (stand_any ⟨5, 3, 2⟩ _).mono ?_
  rintro e w3 ⟨rfl, hb3⟩
  rw [A3.out.1, A3.out.2]
  have HB3 := Lib.hid (below_new (HB2.out.trans (hb3.mono HB2.out.size)) (Nat.le_trans HB2.out.size hb3.size) (.cells #[.int .i64 6, .int .i64 3, .int .i64 2] 23))
  have L3 := Lib.hid ((L2.out.later hb3).alloc (.cells #[.int .i64 6, .int .i64 3, .int .i64 2] 23))
  clear hb3 K2 L2 HB2 b0 b1 b2
  go_wp2_with (fail)
  refine (win_any ⟨6, 3, 2⟩ 6 _).mono ?_
  rintro e w4 ⟨rfl, hb4⟩
  rw [A4.out.1, A4.out.2]
  have HB4 := Lib.hid (below_new (HB3.out.trans (hb4.mono HB3.out.size)) (Nat.le_trans HB3.out.size hb4.size) (.cells #[.int .i64 6, .int .i64 3, .int .i64 6] 23))
  obtain ⟨c0, c1, c2⟩ := ((L3.out.later hb4).alloc (.cells #[.int .i64 6, .int .i64 3, .int .i64 6] 23)).box
  obtain ⟨d0, d1, d2⟩ := (L3.out.later hb4).box
  clear hb4 L3 HB3
  go_wp2
  go_ret
  exact ⟨rfl, HB4.out⟩
end Go.Proofs.Ytckdibnadokipaa
