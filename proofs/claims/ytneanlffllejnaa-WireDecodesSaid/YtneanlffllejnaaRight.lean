/-
  WHAT IS PROVED: contracts of a packet's tests by parts. No condition.
-/
import Derived.Test.YtneanlffllejnaaFns
import Derived.Test.YtneanlffllejnaaMem
namespace Go.Proofs.Ytneanlffllejnaa
open Go.RowKit Go.Lib

/-- a bool is answered, and nothing that was there turns -/
def AnsB (b : Bool) (w : World) (e : Ending) (w' : World) : Prop := e = .returned (.bool b) ∧ Below w.heap.size w w'

set_option maxRecDepth 100000 in
set_option maxHeartbeats 1000000 in
theorem master_any (p : Pk) (S : Value) (w : World) : Calls Try.prog 26 #[vP p S] w (AnsB (okMa p) w) := by
  obtain ⟨kind, frm, ep, cf, ma, sl, off, ab, ac, as_, sec⟩ := p
  simp only [vP]
  by_cases h0 : ma = 0
  · subst h0
    have HX : Hid (okMa ⟨kind, frm, ep, cf, 0, sl, off, ab, ac, as_, sec⟩ = true) := by show _ = _; simp [okMa]
    go_enter Try.func26, Try.ntmps26
    go_wp2
    go_ret
    exact ⟨by rw [HX.out]; rfl, (Below.refl _ _).alloc (Nat.le_refl _) _⟩
  · have t0 : (ma == 0) = false := by simpa using h0
    cases hI : isId ma with
    | false =>
      have HX : Hid (okMa ⟨kind, frm, ep, cf, ma, sl, off, ab, ac, as_, sec⟩ = false) := by show _ = _; simp [okMa, h0, hI]
      have HI := Lib.hid hI
      clear hI
      go_enter Try.func26, Try.ntmps26
      go_wp2_with (go_at_call 24; refine (id_any _ _).mono ?_; rintro e w' ⟨rfl, rfl⟩; rw [HI.out])
      go_ret
      exact ⟨by rw [HX.out]; rfl, (Below.refl _ _).alloc (Nat.le_refl _) _⟩
    | true =>
      have HI := Lib.hid hI
      by_cases h1 : ma = frm
      · subst h1
        have HX : Hid (okMa ⟨kind, ma, ep, cf, ma, sl, off, ab, ac, as_, sec⟩ = false) := by show _ = _; simp [okMa, h0]
        clear hI
        go_enter Try.func26, Try.ntmps26
        go_wp2_with (go_at_call 24; refine (id_any _ _).mono ?_; rintro e w' ⟨rfl, rfl⟩; rw [HI.out])
        go_ret
        exact ⟨by rw [HX.out]; rfl, (Below.refl _ _).alloc (Nat.le_refl _) _⟩
      · have t1 : (ma != frm) = true := by simpa using h1
        have HX : Hid (okMa ⟨kind, frm, ep, cf, ma, sl, off, ab, ac, as_, sec⟩ = (sl == 0)) := by show _ = _; simp [okMa, h0, hI, h1]; rfl
        clear hI
        go_enter Try.func26, Try.ntmps26
        go_wp2_with (go_at_call 24; refine (id_any _ _).mono ?_; rintro e w' ⟨rfl, rfl⟩; rw [HI.out])
        go_ret
        exact ⟨by rw [HX.out]; rfl, (Below.refl _ _).alloc (Nat.le_refl _) _⟩
set_option maxRecDepth 100000 in
set_option maxHeartbeats 1000000 in
theorem about_any (p : Pk) (S : Value) (w : World) : Calls Try.prog 27 #[vP p S] w (AnsB (okAb p) w) := by
  obtain ⟨kind, frm, ep, cf, ma, sl, off, ab, ac, as_, sec⟩ := p
  simp only [vP]
  by_cases h5 : kind = 5
  · subst h5
    cases hI : isId ab with
    | false =>
      have HX : Hid (okAb ⟨5, frm, ep, cf, ma, sl, off, ab, ac, as_, sec⟩ = false) := by show _ = _; simp [okAb, hI]
      have HI := Lib.hid hI
      clear hI
      go_enter Try.func27, Try.ntmps27
      go_wp2_with (first
        | (go_at_call 24; refine (id_any _ _).mono ?_; rintro e w' ⟨rfl, rfl⟩; first | rw [HI.out]))
      go_ret
      exact ⟨by rw [HX.out]; rfl, (Below.refl _ _).alloc (Nat.le_refl _) _⟩
    | true =>
      have HX : Hid (okAb ⟨5, frm, ep, cf, ma, sl, off, ab, ac, as_, sec⟩ = isIn ac 281474976710656) := by show _ = _; simp [okAb, hI]
      have HI := Lib.hid hI
      clear hI
      go_enter Try.func27, Try.ntmps27
      go_wp2_with (first
        | (go_at_call 24; refine (id_any _ _).mono ?_; rintro e w' ⟨rfl, rfl⟩; first | rw [HI.out])
        | (go_at_call 25; refine (epoch_any _ _).mono ?_; rintro e w' ⟨rfl, rfl⟩))
      go_ret
      exact ⟨by rw [HX.out]; rfl, (Below.refl _ _).alloc (Nat.le_refl _) _⟩
  · have t5 : (kind == 5) = false := by simpa using h5
    by_cases h4 : kind = 4
    · subst h4
      cases hI : isId ab with
      | false =>
        have HX : Hid (okAb ⟨4, frm, ep, cf, ma, sl, off, ab, ac, as_, sec⟩ = false) := by show _ = _; simp [okAb, hI]
        have HI := Lib.hid hI
        clear hI
        go_enter Try.func27, Try.ntmps27
        go_wp2_with (first
          | (go_at_call 24; refine (id_any _ _).mono ?_; rintro e w' ⟨rfl, rfl⟩; first | rw [HI.out]))
        go_ret
        exact ⟨by rw [HX.out]; rfl, (Below.refl _ _).alloc (Nat.le_refl _) _⟩
      | true =>
        by_cases h0 : ac = 0
        · subst h0
          have HX : Hid (okAb ⟨4, frm, ep, cf, ma, sl, off, ab, 0, as_, sec⟩ = (as_ == 0)) := by show _ = _; simp [okAb, hI]; rfl
          have HI := Lib.hid hI
          clear hI
          go_enter Try.func27, Try.ntmps27
          go_wp2_with (first
            | (go_at_call 24; refine (id_any _ _).mono ?_; rintro e w' ⟨rfl, rfl⟩; first | rw [HI.out]))
          go_ret
          exact ⟨by rw [HX.out]; rfl, (Below.refl _ _).alloc (Nat.le_refl _) _⟩
        · have t0 : (ac == 0) = false := by simpa using h0
          have HX : Hid (okAb ⟨4, frm, ep, cf, ma, sl, off, ab, ac, as_, sec⟩ = false) := by show _ = _; simp [okAb, h0]
          have HI := Lib.hid hI
          clear hI
          go_enter Try.func27, Try.ntmps27
          go_wp2_with (first
            | (go_at_call 24; refine (id_any _ _).mono ?_; rintro e w' ⟨rfl, rfl⟩; first | rw [HI.out]))
          go_ret
          exact ⟨by rw [HX.out]; rfl, (Below.refl _ _).alloc (Nat.le_refl _) _⟩
    · have t4 : (kind == 4) = false := by simpa using h4
      by_cases hb : ab = 0
      · subst hb
        by_cases h0 : ac = 0
        · subst h0
          have HX : Hid (okAb ⟨kind, frm, ep, cf, ma, sl, off, 0, 0, as_, sec⟩ = (as_ == 0)) := by show _ = _; simp [okAb, h4, h5]; rfl
          go_enter Try.func27, Try.ntmps27
          go_wp2
          go_ret
          exact ⟨by rw [HX.out]; rfl, (Below.refl _ _).alloc (Nat.le_refl _) _⟩
        · have t0 : (ac == 0) = false := by simpa using h0
          have HX : Hid (okAb ⟨kind, frm, ep, cf, ma, sl, off, 0, ac, as_, sec⟩ = false) := by show _ = _; simp [okAb, h4, h5, h0]
          go_enter Try.func27, Try.ntmps27
          go_wp2
          go_ret
          exact ⟨by rw [HX.out]; rfl, (Below.refl _ _).alloc (Nat.le_refl _) _⟩
      · have tb : (ab == 0) = false := by simpa using hb
        have HX : Hid (okAb ⟨kind, frm, ep, cf, ma, sl, off, ab, ac, as_, sec⟩ = false) := by show _ = _; simp [okAb, h4, h5, hb]
        go_enter Try.func27, Try.ntmps27
        go_wp2
        go_ret
        exact ⟨by rw [HX.out]; rfl, (Below.refl _ _).alloc (Nat.le_refl _) _⟩
end Go.Proofs.Ytneanlffllejnaa
