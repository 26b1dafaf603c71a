/-
  WHAT IS PROVED: contract of the document's test of a packet. Condition: the section's cells are there; the sets are no negative numbers.
-/
import Derived.Test.YtneanlffllejnaaRsec
import Derived.Deep.CutRange
namespace Go.Proofs.Ytneanlffllejnaa
open Go.RowKit Go.Lib

set_option maxRecDepth 100000 in
set_option maxHeartbeats 16000000 in
theorem rright_any (p : Pk) (A : Option Addr) (n cap : Nat) (w : World) (hl : p.sec.length = n) (hE : EsAt w A n p.sec) (hs : p.sets) : Calls Try.prog 14 #[vP p (.slice A n cap)] w (AnsB (okP p) w) := by
  obtain ⟨kind, frm, ep, cf, ma, sl, off, ab, ac, as_, sec⟩ := p
  dsimp only at hl hE
  obtain ⟨⟨hsl, _⟩, ⟨hsa, _⟩⟩ := hs
  dsimp only at hsl hsa
  have HSL := Lib.hid hsl
  have HSA := Lib.hid hsa
  have HL := Lib.hid hl
  simp only [vP]
  have bk0 := Blk.new w 30 #[.int .i64 kind, .int .i64 frm, .int .i64 ep, .int .i64 cf, .int .i64 ma, .int .u64 sl, .int .i64 off, .int .i64 ab, .int .i64 ac, .int .u64 as_, .slice A n cap]
  have hB0 : Below w.heap.size w (w.alloc (.cells #[.int .i64 kind, .int .i64 frm, .int .i64 ep, .int .i64 cf, .int .i64 ma, .int .u64 sl, .int .i64 off, .int .i64 ab, .int .i64 ac, .int .u64 as_, .slice A n cap] 30)) := (Below.refl _ _).alloc (Nat.le_refl _) _
  have HE0 := Lib.hid (hE.below hB0)
  have HB0 := Lib.hid hB0
  obtain ⟨k0, k1, k2, k3, k4, k5, k6, k7, k8, k9, k10⟩ := pk_cells bk0
  clear bk0 hB0 hE hl hsl hsa
  go_enter Try.func14, Try.ntmps14
  go_upto_region 1 with (fail)
  obtain ⟨w0, hw0⟩ : ∃ x, w.alloc (.cells #[.int .i64 kind, .int .i64 frm, .int .i64 ep, .int .i64 cf, .int .i64 ma, .int .u64 sl, .int .i64 off, .int .i64 ab, .int .i64 ac, .int .u64 as_, .slice A n cap] 30) = x := ⟨_, rfl⟩
  rw [hw0] at HE0 HB0 k0 k1 k2 k3 k4 k5 k6 k7 k8 k9 k10 ⊢
  clear hw0
  by_cases a1 : kind < 1
  · have hKd : isKd kind = false := by unfold isKd; exact decide_eq_false (by omega)
    have HX : Hid (okP ⟨kind, frm, ep, cf, ma, sl, off, ab, ac, as_, sec⟩ = false) := by show _ = _; simp only [okP, hKd]; simp
    clear hKd
    go_wp2_with (fail)
    go_ret
    exact ⟨by rw [HX.out]; rfl, HB0.out⟩
  by_cases a2 : 7 < kind
  · have hKd : isKd kind = false := by unfold isKd; exact decide_eq_false (by omega)
    have HX : Hid (okP ⟨kind, frm, ep, cf, ma, sl, off, ab, ac, as_, sec⟩ = false) := by show _ = _; simp only [okP, hKd]; simp
    clear hKd
    go_wp2_with (fail)
    go_ret
    exact ⟨by rw [HX.out]; rfl, HB0.out⟩
  have hKd : isKd kind = true := by unfold isKd; exact decide_eq_true (by omega)
  cases hI : isId frm with
  | false =>
    have HI := Lib.hid hI
    have HX : Hid (okP ⟨kind, frm, ep, cf, ma, sl, off, ab, ac, as_, sec⟩ = false) := by show _ = _; simp only [okP, hI]; simp
    clear hI
    go_wp2_with (first | (go_at_call 29; refine (rid_any _ _).mono ?_; rintro e w' ⟨rfl, rfl⟩; first | rw [HI.out]))
    go_ret
    exact ⟨by rw [HX.out]; rfl, HB0.out⟩
  | true =>
  have HI := Lib.hid hI
  clear hI
  cases hEp : isIn ep 281474976710656 with
  | false =>
    have HEp := Lib.hid hEp
    have HX : Hid (okP ⟨kind, frm, ep, cf, ma, sl, off, ab, ac, as_, sec⟩ = false) := by show _ = _; simp only [okP, hEp]; simp
    clear hEp
    go_wp2_with (first | (go_at_call 29; refine (rid_any _ _).mono ?_; rintro e w' ⟨rfl, rfl⟩; first | rw [HI.out]) | (go_at_call 30; refine (rin_any _ _ _).mono ?_; rintro e w' ⟨rfl, rfl⟩; first | rw [HEp.out]))
    go_ret
    exact ⟨by rw [HX.out]; rfl, HB0.out⟩
  | true =>
  have HEp := Lib.hid hEp
  clear hEp
  cases hCf : isIn cf ep with
  | false =>
    have HCf := Lib.hid hCf
    have HX : Hid (okP ⟨kind, frm, ep, cf, ma, sl, off, ab, ac, as_, sec⟩ = false) := by show _ = _; simp only [okP, hCf]; simp
    clear hCf
    go_wp2_with (first | (go_at_call 29; refine (rid_any _ _).mono ?_; rintro e w' ⟨rfl, rfl⟩; first | rw [HI.out]) | (go_at_call 30; refine (rin_any _ _ _).mono ?_; rintro e w' ⟨rfl, rfl⟩; first | rw [HEp.out] | rw [HCf.out]))
    go_ret
    exact ⟨by rw [HX.out]; rfl, HB0.out⟩
  | true =>
  have HCf := Lib.hid hCf
  clear hCf
  cases hOf : isIn off 281474976710656 with
  | false =>
    have HOf := Lib.hid hOf
    have HX : Hid (okP ⟨kind, frm, ep, cf, ma, sl, off, ab, ac, as_, sec⟩ = false) := by show _ = _; simp only [okP, hOf]; simp
    clear hOf
    go_wp2_with (first | (go_at_call 29; refine (rid_any _ _).mono ?_; rintro e w' ⟨rfl, rfl⟩; first | rw [HI.out]) | (go_at_call 30; refine (rin_any _ _ _).mono ?_; rintro e w' ⟨rfl, rfl⟩; first | rw [HEp.out] | rw [HCf.out] | rw [HOf.out]))
    go_ret
    exact ⟨by rw [HX.out]; rfl, HB0.out⟩
  | true =>
  have HOf := Lib.hid hOf
  clear hOf
  go_upto_region 3 with (first | (go_at_call 29; refine (rid_any _ _).mono ?_; rintro e w' ⟨rfl, rfl⟩; first | rw [HI.out]) | (go_at_call 30; refine (rin_any _ _ _).mono ?_; rintro e w' ⟨rfl, rfl⟩; first | rw [HEp.out] | rw [HCf.out] | rw [HOf.out]))
  by_cases hm : ma = 0
  · subst hm
    have hMa : okMa ⟨kind, frm, ep, cf, 0, sl, off, ab, ac, as_, sec⟩ = true := by simp [okMa]
    have HMa := Lib.hid hMa
    clear hMa
    go_upto_region 5 with (fail)
    by_cases h5 : kind = 5
    · subst h5
      by_cases hb : ab = 0
      · subst hb
        have hAb : okAb ⟨5, frm, ep, cf, 0, sl, off, 0, ac, as_, sec⟩ = false := by simp [okAb, isId]
        have HX : Hid (okP ⟨5, frm, ep, cf, 0, sl, off, 0, ac, as_, sec⟩ = false) := by show _ = _; simp only [okP, hAb]; simp
        clear hAb
        go_wp2_with (fail)
        go_ret
        exact ⟨by rw [HX.out]; rfl, HB0.out⟩
      have tb : (ab != 0) = true := by simpa using hb
      cases hIa : isId ab with
      | false =>
        have hAb : okAb ⟨5, frm, ep, cf, 0, sl, off, ab, ac, as_, sec⟩ = false := by simp [okAb, hIa]
        have HIa := Lib.hid hIa
        clear hIa
        have HX : Hid (okP ⟨5, frm, ep, cf, 0, sl, off, ab, ac, as_, sec⟩ = false) := by show _ = _; simp only [okP, hAb]; simp
        clear hAb
        go_wp2_with (first | (go_at_call 29; refine (rid_any _ _).mono ?_; rintro e w' ⟨rfl, rfl⟩; first | rw [HIa.out]))
        go_ret
        exact ⟨by rw [HX.out]; rfl, HB0.out⟩
      | true =>
        cases hAc : isIn ac 281474976710656 with
        | false =>
          have hAb : okAb ⟨5, frm, ep, cf, 0, sl, off, ab, ac, as_, sec⟩ = false := by simp [okAb, hIa, hAc]
          have HIa := Lib.hid hIa
          have HAc := Lib.hid hAc
          clear hIa hAc
          have HX : Hid (okP ⟨5, frm, ep, cf, 0, sl, off, ab, ac, as_, sec⟩ = false) := by show _ = _; simp only [okP, hAb]; simp
          clear hAb
          go_wp2_with (first | (go_at_call 29; refine (rid_any _ _).mono ?_; rintro e w' ⟨rfl, rfl⟩; first | rw [HIa.out]) | (go_at_call 30; refine (rin_any _ _ _).mono ?_; rintro e w' ⟨rfl, rfl⟩; first | rw [HAc.out]))
          go_ret
          exact ⟨by rw [HX.out]; rfl, HB0.out⟩
        | true =>
          have hAb : okAb ⟨5, frm, ep, cf, 0, sl, off, ab, ac, as_, sec⟩ = true := by simp [okAb, hIa, hAc]
          have HIa := Lib.hid hIa
          have HAc := Lib.hid hAc
          clear hIa hAc
          have HX : Hid (okP ⟨5, frm, ep, cf, 0, sl, off, ab, ac, as_, sec⟩ = okSec ⟨5, frm, ep, cf, 0, sl, off, ab, ac, as_, sec⟩) := by show _ = _; simp only [okP, hKd, HI.out, HEp.out, HCf.out, HMa.out, HOf.out, hAb]; simp
          clear hAb
          go_wp2_with (first | (go_at_call 29; refine (rid_any _ _).mono ?_; rintro e w' ⟨rfl, rfl⟩; first | rw [HIa.out]) | (go_at_call 30; refine (rin_any _ _ _).mono ?_; rintro e w' ⟨rfl, rfl⟩; first | rw [HAc.out]) | (go_at_call 31; refine (rsec_any ⟨5, frm, ep, cf, 0, sl, off, ab, ac, as_, sec⟩ A n cap _ HL.out HE0.out).mono ?_; rintro e w3 ⟨rfl, hb3⟩))
          go_ret
          exact ⟨by rw [HX.out]; rfl, HB0.out.trans (hb3.mono HB0.out.size)⟩
    have t5 : (kind == 5) = false := by simpa using h5
    have t5n : (kind != 5) = true := by simpa using h5
    by_cases h4 : kind = 4
    · subst h4
      clear t5 t5n
      by_cases hb : ab = 0
      · subst hb
        have hAb : okAb ⟨4, frm, ep, cf, 0, sl, off, 0, ac, as_, sec⟩ = false := by simp [okAb, isId]
        have HX : Hid (okP ⟨4, frm, ep, cf, 0, sl, off, 0, ac, as_, sec⟩ = false) := by show _ = _; simp only [okP, hAb]; simp
        clear hAb
        go_wp2_with (fail)
        go_ret
        exact ⟨by rw [HX.out]; rfl, HB0.out⟩
      have tb : (ab != 0) = true := by simpa using hb
      cases hIa : isId ab with
      | false =>
        have hAb : okAb ⟨4, frm, ep, cf, 0, sl, off, ab, ac, as_, sec⟩ = false := by simp [okAb, hIa]
        have HIa := Lib.hid hIa
        clear hIa
        have HX : Hid (okP ⟨4, frm, ep, cf, 0, sl, off, ab, ac, as_, sec⟩ = false) := by show _ = _; simp only [okP, hAb]; simp
        clear hAb
        go_wp2_with (first | (go_at_call 29; refine (rid_any _ _).mono ?_; rintro e w' ⟨rfl, rfl⟩; first | rw [HIa.out]))
        go_ret
        exact ⟨by rw [HX.out]; rfl, HB0.out⟩
      | true =>
        by_cases hc : ac = 0
        · subst hc
          by_cases hs0 : 0 < as_
          · have hAb : okAb ⟨4, frm, ep, cf, 0, sl, off, ab, 0, as_, sec⟩ = false := by simp [okAb, hIa]; omega
            have HIa := Lib.hid hIa
            clear hIa
            have HX : Hid (okP ⟨4, frm, ep, cf, 0, sl, off, ab, 0, as_, sec⟩ = false) := by show _ = _; simp only [okP, hAb]; simp
            clear hAb
            go_wp2_with (first | (go_at_call 29; refine (rid_any _ _).mono ?_; rintro e w' ⟨rfl, rfl⟩; first | rw [HIa.out]))
            go_ret
            exact ⟨by rw [HX.out]; rfl, HB0.out⟩
          obtain rfl : as_ = 0 := by have := HSA.out; omega
          have hAb : okAb ⟨4, frm, ep, cf, 0, sl, off, ab, 0, 0, sec⟩ = true := by simp [okAb, hIa]
          have HIa := Lib.hid hIa
          clear hIa
          have HX : Hid (okP ⟨4, frm, ep, cf, 0, sl, off, ab, 0, 0, sec⟩ = okSec ⟨4, frm, ep, cf, 0, sl, off, ab, 0, 0, sec⟩) := by show _ = _; simp only [okP, hKd, HI.out, HEp.out, HCf.out, HMa.out, HOf.out, hAb]; simp
          clear hAb
          go_wp2_with (first | (go_at_call 29; refine (rid_any _ _).mono ?_; rintro e w' ⟨rfl, rfl⟩; first | rw [HIa.out]) | (go_at_call 31; refine (rsec_any ⟨4, frm, ep, cf, 0, sl, off, ab, 0, 0, sec⟩ A n cap _ HL.out HE0.out).mono ?_; rintro e w3 ⟨rfl, hb3⟩))
          go_ret
          exact ⟨by rw [HX.out]; rfl, HB0.out.trans (hb3.mono HB0.out.size)⟩
        have tc : (ac != 0) = true := by simpa using hc
        have hAb : okAb ⟨4, frm, ep, cf, 0, sl, off, ab, ac, as_, sec⟩ = false := by simp [okAb, hIa, hc]
        have HIa := Lib.hid hIa
        clear hIa
        have HX : Hid (okP ⟨4, frm, ep, cf, 0, sl, off, ab, ac, as_, sec⟩ = false) := by show _ = _; simp only [okP, hAb]; simp
        clear hAb
        go_wp2_with (first | (go_at_call 29; refine (rid_any _ _).mono ?_; rintro e w' ⟨rfl, rfl⟩; first | rw [HIa.out]))
        go_ret
        exact ⟨by rw [HX.out]; rfl, HB0.out⟩
    have t4 : (kind == 4) = false := by simpa using h4
    by_cases hb : ab = 0
    · subst hb
      by_cases hc : ac = 0
      · subst hc
        by_cases hs0 : 0 < as_
        · have hAb : okAb ⟨kind, frm, ep, cf, 0, sl, off, 0, 0, as_, sec⟩ = false := by simp [okAb, h4, h5]; omega
          have HX : Hid (okP ⟨kind, frm, ep, cf, 0, sl, off, 0, 0, as_, sec⟩ = false) := by show _ = _; simp only [okP, hAb]; simp
          clear hAb
          go_wp2_with (fail)
          go_ret
          exact ⟨by rw [HX.out]; rfl, HB0.out⟩
        obtain rfl : as_ = 0 := by have := HSA.out; omega
        have hAb : okAb ⟨kind, frm, ep, cf, 0, sl, off, 0, 0, 0, sec⟩ = true := by simp [okAb, h4, h5]
        have HX : Hid (okP ⟨kind, frm, ep, cf, 0, sl, off, 0, 0, 0, sec⟩ = okSec ⟨kind, frm, ep, cf, 0, sl, off, 0, 0, 0, sec⟩) := by show _ = _; simp only [okP, hKd, HI.out, HEp.out, HCf.out, HMa.out, HOf.out, hAb]; simp
        clear hAb
        go_wp2_with (first | (go_at_call 31; refine (rsec_any ⟨kind, frm, ep, cf, 0, sl, off, 0, 0, 0, sec⟩ A n cap _ HL.out HE0.out).mono ?_; rintro e w3 ⟨rfl, hb3⟩))
        go_ret
        exact ⟨by rw [HX.out]; rfl, HB0.out.trans (hb3.mono HB0.out.size)⟩
      have tc : (ac != 0) = true := by simpa using hc
      have hAb : okAb ⟨kind, frm, ep, cf, 0, sl, off, 0, ac, as_, sec⟩ = false := by simp [okAb, h4, h5, hc]
      have HX : Hid (okP ⟨kind, frm, ep, cf, 0, sl, off, 0, ac, as_, sec⟩ = false) := by show _ = _; simp only [okP, hAb]; simp
      clear hAb
      go_wp2_with (fail)
      go_ret
      exact ⟨by rw [HX.out]; rfl, HB0.out⟩
    have tb : (ab != 0) = true := by simpa using hb
    have hAb : okAb ⟨kind, frm, ep, cf, 0, sl, off, ab, ac, as_, sec⟩ = false := by simp [okAb, h4, h5, hb]
    have HX : Hid (okP ⟨kind, frm, ep, cf, 0, sl, off, ab, ac, as_, sec⟩ = false) := by show _ = _; simp only [okP, hAb]; simp
    clear hAb
    go_wp2_with (fail)
    go_ret
    exact ⟨by rw [HX.out]; rfl, HB0.out⟩
  have tm : (ma != 0) = true := by simpa using hm
  cases hIm : isId ma with
  | false =>
    have hMa : okMa ⟨kind, frm, ep, cf, ma, sl, off, ab, ac, as_, sec⟩ = false := by simp [okMa, hm, hIm]
    have HIm := Lib.hid hIm
    clear hIm
    have HX : Hid (okP ⟨kind, frm, ep, cf, ma, sl, off, ab, ac, as_, sec⟩ = false) := by show _ = _; simp only [okP, hMa]; simp
    clear hMa
    go_wp2_with (first | (go_at_call 29; refine (rid_any _ _).mono ?_; rintro e w' ⟨rfl, rfl⟩; first | rw [HIm.out]))
    go_ret
    exact ⟨by rw [HX.out]; rfl, HB0.out⟩
  | true =>
  by_cases hmf : ma = frm
  · have hMa : okMa ⟨kind, frm, ep, cf, ma, sl, off, ab, ac, as_, sec⟩ = false := by simp [okMa, hmf]; intro h; exact absurd (hmf.trans h) hm
    have HIm := Lib.hid hIm
    have tf : (ma == frm) = true := by simpa using hmf
    clear hIm hmf
    have HX : Hid (okP ⟨kind, frm, ep, cf, ma, sl, off, ab, ac, as_, sec⟩ = false) := by show _ = _; simp only [okP, hMa]; simp
    clear hMa
    go_wp2_with (first | (go_at_call 29; refine (rid_any _ _).mono ?_; rintro e w' ⟨rfl, rfl⟩; first | rw [HIm.out]))
    go_ret
    exact ⟨by rw [HX.out]; rfl, HB0.out⟩
  have tf : (ma == frm) = false := by simpa using hmf
  by_cases hs0 : 0 < sl
  · have hMa : okMa ⟨kind, frm, ep, cf, ma, sl, off, ab, ac, as_, sec⟩ = false := by simp [okMa, hm]; intro _ _; omega
    have HIm := Lib.hid hIm
    clear hIm
    have HX : Hid (okP ⟨kind, frm, ep, cf, ma, sl, off, ab, ac, as_, sec⟩ = false) := by show _ = _; simp only [okP, hMa]; simp
    clear hMa
    go_wp2_with (first | (go_at_call 29; refine (rid_any _ _).mono ?_; rintro e w' ⟨rfl, rfl⟩; first | rw [HIm.out]))
    go_ret
    exact ⟨by rw [HX.out]; rfl, HB0.out⟩
  obtain rfl : sl = 0 := by have := HSL.out; omega
  have hMa : okMa ⟨kind, frm, ep, cf, ma, 0, off, ab, ac, as_, sec⟩ = true := by simp [okMa, hIm, hmf]
  have HIm := Lib.hid hIm
  have HMa := Lib.hid hMa
  clear hIm hMa
  go_upto_region 5 with (first | (go_at_call 29; refine (rid_any _ _).mono ?_; rintro e w' ⟨rfl, rfl⟩; first | rw [HIm.out]))
  by_cases h5 : kind = 5
  · subst h5
    by_cases hb : ab = 0
    · subst hb
      have hAb : okAb ⟨5, frm, ep, cf, ma, 0, off, 0, ac, as_, sec⟩ = false := by simp [okAb, isId]
      have HX : Hid (okP ⟨5, frm, ep, cf, ma, 0, off, 0, ac, as_, sec⟩ = false) := by show _ = _; simp only [okP, hAb]; simp
      clear hAb
      go_wp2_with (fail)
      go_ret
      exact ⟨by rw [HX.out]; rfl, HB0.out⟩
    have tb : (ab != 0) = true := by simpa using hb
    cases hIa : isId ab with
    | false =>
      have hAb : okAb ⟨5, frm, ep, cf, ma, 0, off, ab, ac, as_, sec⟩ = false := by simp [okAb, hIa]
      have HIa := Lib.hid hIa
      clear hIa
      have HX : Hid (okP ⟨5, frm, ep, cf, ma, 0, off, ab, ac, as_, sec⟩ = false) := by show _ = _; simp only [okP, hAb]; simp
      clear hAb
      go_wp2_with (first | (go_at_call 29; refine (rid_any _ _).mono ?_; rintro e w' ⟨rfl, rfl⟩; first | rw [HIa.out]))
      go_ret
      exact ⟨by rw [HX.out]; rfl, HB0.out⟩
    | true =>
      cases hAc : isIn ac 281474976710656 with
      | false =>
        have hAb : okAb ⟨5, frm, ep, cf, ma, 0, off, ab, ac, as_, sec⟩ = false := by simp [okAb, hIa, hAc]
        have HIa := Lib.hid hIa
        have HAc := Lib.hid hAc
        clear hIa hAc
        have HX : Hid (okP ⟨5, frm, ep, cf, ma, 0, off, ab, ac, as_, sec⟩ = false) := by show _ = _; simp only [okP, hAb]; simp
        clear hAb
        go_wp2_with (first | (go_at_call 29; refine (rid_any _ _).mono ?_; rintro e w' ⟨rfl, rfl⟩; first | rw [HIa.out]) | (go_at_call 30; refine (rin_any _ _ _).mono ?_; rintro e w' ⟨rfl, rfl⟩; first | rw [HAc.out]))
        go_ret
        exact ⟨by rw [HX.out]; rfl, HB0.out⟩
      | true =>
        have hAb : okAb ⟨5, frm, ep, cf, ma, 0, off, ab, ac, as_, sec⟩ = true := by simp [okAb, hIa, hAc]
        have HIa := Lib.hid hIa
        have HAc := Lib.hid hAc
        clear hIa hAc
        have HX : Hid (okP ⟨5, frm, ep, cf, ma, 0, off, ab, ac, as_, sec⟩ = okSec ⟨5, frm, ep, cf, ma, 0, off, ab, ac, as_, sec⟩) := by show _ = _; simp only [okP, hKd, HI.out, HEp.out, HCf.out, HMa.out, HOf.out, hAb]; simp
        clear hAb
        go_wp2_with (first | (go_at_call 29; refine (rid_any _ _).mono ?_; rintro e w' ⟨rfl, rfl⟩; first | rw [HIa.out]) | (go_at_call 30; refine (rin_any _ _ _).mono ?_; rintro e w' ⟨rfl, rfl⟩; first | rw [HAc.out]) | (go_at_call 31; refine (rsec_any ⟨5, frm, ep, cf, ma, 0, off, ab, ac, as_, sec⟩ A n cap _ HL.out HE0.out).mono ?_; rintro e w3 ⟨rfl, hb3⟩))
        go_ret
        exact ⟨by rw [HX.out]; rfl, HB0.out.trans (hb3.mono HB0.out.size)⟩
  have t5 : (kind == 5) = false := by simpa using h5
  have t5n : (kind != 5) = true := by simpa using h5
  by_cases h4 : kind = 4
  · subst h4
    clear t5 t5n
    by_cases hb : ab = 0
    · subst hb
      have hAb : okAb ⟨4, frm, ep, cf, ma, 0, off, 0, ac, as_, sec⟩ = false := by simp [okAb, isId]
      have HX : Hid (okP ⟨4, frm, ep, cf, ma, 0, off, 0, ac, as_, sec⟩ = false) := by show _ = _; simp only [okP, hAb]; simp
      clear hAb
      go_wp2_with (fail)
      go_ret
      exact ⟨by rw [HX.out]; rfl, HB0.out⟩
    have tb : (ab != 0) = true := by simpa using hb
    cases hIa : isId ab with
    | false =>
      have hAb : okAb ⟨4, frm, ep, cf, ma, 0, off, ab, ac, as_, sec⟩ = false := by simp [okAb, hIa]
      have HIa := Lib.hid hIa
      clear hIa
      have HX : Hid (okP ⟨4, frm, ep, cf, ma, 0, off, ab, ac, as_, sec⟩ = false) := by show _ = _; simp only [okP, hAb]; simp
      clear hAb
      go_wp2_with (first | (go_at_call 29; refine (rid_any _ _).mono ?_; rintro e w' ⟨rfl, rfl⟩; first | rw [HIa.out]))
      go_ret
      exact ⟨by rw [HX.out]; rfl, HB0.out⟩
    | true =>
      by_cases hc : ac = 0
      · subst hc
        by_cases hs0 : 0 < as_
        · have hAb : okAb ⟨4, frm, ep, cf, ma, 0, off, ab, 0, as_, sec⟩ = false := by simp [okAb, hIa]; omega
          have HIa := Lib.hid hIa
          clear hIa
          have HX : Hid (okP ⟨4, frm, ep, cf, ma, 0, off, ab, 0, as_, sec⟩ = false) := by show _ = _; simp only [okP, hAb]; simp
          clear hAb
          go_wp2_with (first | (go_at_call 29; refine (rid_any _ _).mono ?_; rintro e w' ⟨rfl, rfl⟩; first | rw [HIa.out]))
          go_ret
          exact ⟨by rw [HX.out]; rfl, HB0.out⟩
        obtain rfl : as_ = 0 := by have := HSA.out; omega
        have hAb : okAb ⟨4, frm, ep, cf, ma, 0, off, ab, 0, 0, sec⟩ = true := by simp [okAb, hIa]
        have HIa := Lib.hid hIa
        clear hIa
        have HX : Hid (okP ⟨4, frm, ep, cf, ma, 0, off, ab, 0, 0, sec⟩ = okSec ⟨4, frm, ep, cf, ma, 0, off, ab, 0, 0, sec⟩) := by show _ = _; simp only [okP, hKd, HI.out, HEp.out, HCf.out, HMa.out, HOf.out, hAb]; simp
        clear hAb
        go_wp2_with (first | (go_at_call 29; refine (rid_any _ _).mono ?_; rintro e w' ⟨rfl, rfl⟩; first | rw [HIa.out]) | (go_at_call 31; refine (rsec_any ⟨4, frm, ep, cf, ma, 0, off, ab, 0, 0, sec⟩ A n cap _ HL.out HE0.out).mono ?_; rintro e w3 ⟨rfl, hb3⟩))
        go_ret
        exact ⟨by rw [HX.out]; rfl, HB0.out.trans (hb3.mono HB0.out.size)⟩
      have tc : (ac != 0) = true := by simpa using hc
      have hAb : okAb ⟨4, frm, ep, cf, ma, 0, off, ab, ac, as_, sec⟩ = false := by simp [okAb, hIa, hc]
      have HIa := Lib.hid hIa
      clear hIa
      have HX : Hid (okP ⟨4, frm, ep, cf, ma, 0, off, ab, ac, as_, sec⟩ = false) := by show _ = _; simp only [okP, hAb]; simp
      clear hAb
      go_wp2_with (first | (go_at_call 29; refine (rid_any _ _).mono ?_; rintro e w' ⟨rfl, rfl⟩; first | rw [HIa.out]))
      go_ret
      exact ⟨by rw [HX.out]; rfl, HB0.out⟩
  have t4 : (kind == 4) = false := by simpa using h4
  by_cases hb : ab = 0
  · subst hb
    by_cases hc : ac = 0
    · subst hc
      by_cases hs0 : 0 < as_
      · have hAb : okAb ⟨kind, frm, ep, cf, ma, 0, off, 0, 0, as_, sec⟩ = false := by simp [okAb, h4, h5]; omega
        have HX : Hid (okP ⟨kind, frm, ep, cf, ma, 0, off, 0, 0, as_, sec⟩ = false) := by show _ = _; simp only [okP, hAb]; simp
        clear hAb
        go_wp2_with (fail)
        go_ret
        exact ⟨by rw [HX.out]; rfl, HB0.out⟩
      obtain rfl : as_ = 0 := by have := HSA.out; omega
      have hAb : okAb ⟨kind, frm, ep, cf, ma, 0, off, 0, 0, 0, sec⟩ = true := by simp [okAb, h4, h5]
      have HX : Hid (okP ⟨kind, frm, ep, cf, ma, 0, off, 0, 0, 0, sec⟩ = okSec ⟨kind, frm, ep, cf, ma, 0, off, 0, 0, 0, sec⟩) := by show _ = _; simp only [okP, hKd, HI.out, HEp.out, HCf.out, HMa.out, HOf.out, hAb]; simp
      clear hAb
      go_wp2_with (first | (go_at_call 31; refine (rsec_any ⟨kind, frm, ep, cf, ma, 0, off, 0, 0, 0, sec⟩ A n cap _ HL.out HE0.out).mono ?_; rintro e w3 ⟨rfl, hb3⟩))
      go_ret
      exact ⟨by rw [HX.out]; rfl, HB0.out.trans (hb3.mono HB0.out.size)⟩
    have tc : (ac != 0) = true := by simpa using hc
    have hAb : okAb ⟨kind, frm, ep, cf, ma, 0, off, 0, ac, as_, sec⟩ = false := by simp [okAb, h4, h5, hc]
    have HX : Hid (okP ⟨kind, frm, ep, cf, ma, 0, off, 0, ac, as_, sec⟩ = false) := by show _ = _; simp only [okP, hAb]; simp
    clear hAb
    go_wp2_with (fail)
    go_ret
    exact ⟨by rw [HX.out]; rfl, HB0.out⟩
  have tb : (ab != 0) = true := by simpa using hb
  have hAb : okAb ⟨kind, frm, ep, cf, ma, 0, off, ab, ac, as_, sec⟩ = false := by simp [okAb, h4, h5, hb]
  have HX : Hid (okP ⟨kind, frm, ep, cf, ma, 0, off, ab, ac, as_, sec⟩ = false) := by show _ = _; simp only [okP, hAb]; simp
  clear hAb
  go_wp2_with (fail)
  go_ret
  exact ⟨by rw [HX.out]; rfl, HB0.out⟩
end Go.Proofs.Ytneanlffllejnaa
