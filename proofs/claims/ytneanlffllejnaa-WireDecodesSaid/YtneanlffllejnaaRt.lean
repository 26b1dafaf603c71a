/-
  WHAT IS PROVED: contract of a packet's test (the program's). Condition: the section's cells are there.
-/
import Derived.Test.YtneanlffllejnaaSec
namespace Go.Proofs.Ytneanlffllejnaa
open Go.RowKit Go.Lib

theorem pk_cells {w : World} {b : Nat} {t : TypeId} {c0 c1 c2 c3 c4 c5 c6 c7 c8 c9 c10 : Value} (h : Blk w b t #[c0, c1, c2, c3, c4, c5, c6, c7, c8, c9, c10]) :
    w.cell? ⟨b, 0, none⟩ = some c0 ∧ w.cell? ⟨b, 1, none⟩ = some c1 ∧ w.cell? ⟨b, 2, none⟩ = some c2 ∧ w.cell? ⟨b, 3, none⟩ = some c3 ∧ w.cell? ⟨b, 4, none⟩ = some c4 ∧ w.cell? ⟨b, 5, none⟩ = some c5 ∧ w.cell? ⟨b, 6, none⟩ = some c6 ∧ w.cell? ⟨b, 7, none⟩ = some c7 ∧ w.cell? ⟨b, 8, none⟩ = some c8 ∧ w.cell? ⟨b, 9, none⟩ = some c9 ∧ w.cell? ⟨b, 10, none⟩ = some c10 :=
  ⟨h.cell 0, h.cell 1, h.cell 2, h.cell 3, h.cell 4, h.cell 5, h.cell 6, h.cell 7, h.cell 8, h.cell 9, h.cell 10⟩

set_option maxRecDepth 100000 in
set_option maxHeartbeats 2000000 in
theorem right_any (p : Pk) (A : Option Addr) (n cap : Nat) (w : World) (hl : p.sec.length = n) (hE : EsAt w A n p.sec) : Calls Try.prog 13 #[vP p (.slice A n cap)] w (AnsB (okP p) w) := by
  obtain ⟨kind, frm, ep, cf, ma, sl, off, ab, ac, as_, sec⟩ := p
  dsimp only at hl hE
  simp only [vP]
  have bk0 := Blk.new w 26 #[.int .i64 kind, .int .i64 frm, .int .i64 ep, .int .i64 cf, .int .i64 ma, .int .u64 sl, .int .i64 off, .int .i64 ab, .int .i64 ac, .int .u64 as_, .slice A n cap]
  have hB0 : Below w.heap.size w (w.alloc (.cells #[.int .i64 kind, .int .i64 frm, .int .i64 ep, .int .i64 cf, .int .i64 ma, .int .u64 sl, .int .i64 off, .int .i64 ab, .int .i64 ac, .int .u64 as_, .slice A n cap] 26)) := (Below.refl _ _).alloc (Nat.le_refl _) _
  cases hK : isKd kind with
  | false =>
    have HX : Hid (okP ⟨kind, frm, ep, cf, ma, sl, off, ab, ac, as_, sec⟩ = false) := by show _ = _; simp only [okP, hK]; simp
    have HK := Lib.hid hK
    clear hK
    go_enter Try.func13, Try.ntmps13
    go_wp2_with (first | (go_at_call 23; refine (kind_any _ _).mono ?_; rintro e w' ⟨rfl, rfl⟩; rw [HK.out]))
    go_ret
    exact ⟨by rw [HX.out]; rfl, hB0⟩
  | true =>
    cases hI : isId frm with
    | false =>
      have HX : Hid (okP ⟨kind, frm, ep, cf, ma, sl, off, ab, ac, as_, sec⟩ = false) := by show _ = _; simp only [okP, hK, hI]; simp
      have HK := Lib.hid hK
      have HI := Lib.hid hI
      clear hK hI
      go_enter Try.func13, Try.ntmps13
      go_wp2_with (first | (go_at_call 23; refine (kind_any _ _).mono ?_; rintro e w' ⟨rfl, rfl⟩; rw [HK.out]) | (go_at_call 24; refine (id_any _ _).mono ?_; rintro e w' ⟨rfl, rfl⟩; rw [HI.out]))
      go_ret
      exact ⟨by rw [HX.out]; rfl, hB0⟩
    | true =>
      cases hE1 : isIn ep 281474976710656 with
      | false =>
        have HX : Hid (okP ⟨kind, frm, ep, cf, ma, sl, off, ab, ac, as_, sec⟩ = false) := by show _ = _; simp only [okP, hK, hI, hE1]; simp
        have HK := Lib.hid hK
        have HI := Lib.hid hI
        have HE := Lib.hid hE1
        clear hK hI hE1
        go_enter Try.func13, Try.ntmps13
        go_wp2_with (first | (go_at_call 23; refine (kind_any _ _).mono ?_; rintro e w' ⟨rfl, rfl⟩; rw [HK.out]) | (go_at_call 24; refine (id_any _ _).mono ?_; rintro e w' ⟨rfl, rfl⟩; rw [HI.out]) | (go_at_call 25; refine (epoch_any _ _).mono ?_; rintro e w' ⟨rfl, rfl⟩; rw [HE.out]))
        go_ret
        exact ⟨by rw [HX.out]; rfl, hB0⟩
      | true =>
        by_cases c1 : cf < 0
        · have hC : isIn cf ep = false := decide_eq_false (by omega)
          have HX : Hid (okP ⟨kind, frm, ep, cf, ma, sl, off, ab, ac, as_, sec⟩ = false) := by show _ = _; simp only [okP, hK, hI, hE1, hC]; simp
          have HK := Lib.hid hK
          have HI := Lib.hid hI
          have HE := Lib.hid hE1
          clear hC hK hI hE1
          go_enter Try.func13, Try.ntmps13
          go_wp2_with (first | (go_at_call 23; refine (kind_any _ _).mono ?_; rintro e w' ⟨rfl, rfl⟩; rw [HK.out]) | (go_at_call 24; refine (id_any _ _).mono ?_; rintro e w' ⟨rfl, rfl⟩; rw [HI.out]) | (go_at_call 25; refine (epoch_any _ _).mono ?_; rintro e w' ⟨rfl, rfl⟩; rw [HE.out]))
          go_ret
          exact ⟨by rw [HX.out]; rfl, hB0⟩
        by_cases c2 : ep < cf
        · have hC : isIn cf ep = false := decide_eq_false (by omega)
          have HX : Hid (okP ⟨kind, frm, ep, cf, ma, sl, off, ab, ac, as_, sec⟩ = false) := by show _ = _; simp only [okP, hK, hI, hE1, hC]; simp
          have HK := Lib.hid hK
          have HI := Lib.hid hI
          have HE := Lib.hid hE1
          clear hC hK hI hE1
          go_enter Try.func13, Try.ntmps13
          go_wp2_with (first | (go_at_call 23; refine (kind_any _ _).mono ?_; rintro e w' ⟨rfl, rfl⟩; rw [HK.out]) | (go_at_call 24; refine (id_any _ _).mono ?_; rintro e w' ⟨rfl, rfl⟩; rw [HI.out]) | (go_at_call 25; refine (epoch_any _ _).mono ?_; rintro e w' ⟨rfl, rfl⟩; rw [HE.out]))
          go_ret
          exact ⟨by rw [HX.out]; rfl, hB0⟩
        have hC : isIn cf ep = true := decide_eq_true (by omega)
        cases hM : okMa ⟨kind, frm, ep, cf, ma, sl, off, ab, ac, as_, sec⟩ with
        | false =>
          have HX : Hid (okP ⟨kind, frm, ep, cf, ma, sl, off, ab, ac, as_, sec⟩ = false) := by show _ = _; simp only [okP, hK, hI, hE1, hM, hC]; simp
          have HK := Lib.hid hK
          have HI := Lib.hid hI
          have HE := Lib.hid hE1
          have HM := Lib.hid hM
          clear hC hK hI hE1 hM
          go_enter Try.func13, Try.ntmps13
          go_wp2_with (first | (go_at_call 23; refine (kind_any _ _).mono ?_; rintro e w' ⟨rfl, rfl⟩; rw [HK.out]) | (go_at_call 24; refine (id_any _ _).mono ?_; rintro e w' ⟨rfl, rfl⟩; rw [HI.out]) | (go_at_call 25; refine (epoch_any _ _).mono ?_; rintro e w' ⟨rfl, rfl⟩; rw [HE.out]) | (go_at_call 26; refine (master_any ⟨kind, frm, ep, cf, ma, sl, off, ab, ac, as_, sec⟩ (.slice A n cap) _).mono ?_; rintro e w1 ⟨rfl, hb1⟩; rw [HM.out]; have bk1 := bk0.below hb1 bk0.lt; have hB1 := hB0.trans (hb1.mono hB0.size); have hE1 := hE.below hB1; obtain ⟨k0, k1, k2, k3, k4, k5, k6, k7, k8, k9, k10⟩ := pk_cells bk1))
          go_ret
          exact ⟨by rw [HX.out]; rfl, hB1⟩
        | true =>
          by_cases c3 : off < 0
          · have hO : isIn off 281474976710656 = false := decide_eq_false (by omega)
            have HX : Hid (okP ⟨kind, frm, ep, cf, ma, sl, off, ab, ac, as_, sec⟩ = false) := by show _ = _; simp only [okP, hK, hI, hE1, hM, hC, hO]; simp
            have HK := Lib.hid hK
            have HI := Lib.hid hI
            have HE := Lib.hid hE1
            have HM := Lib.hid hM
            clear hC hO hK hI hE1 hM
            go_enter Try.func13, Try.ntmps13
            go_wp2_with (first | (go_at_call 23; refine (kind_any _ _).mono ?_; rintro e w' ⟨rfl, rfl⟩; rw [HK.out]) | (go_at_call 24; refine (id_any _ _).mono ?_; rintro e w' ⟨rfl, rfl⟩; rw [HI.out]) | (go_at_call 25; refine (epoch_any _ _).mono ?_; rintro e w' ⟨rfl, rfl⟩; rw [HE.out]) | (go_at_call 26; refine (master_any ⟨kind, frm, ep, cf, ma, sl, off, ab, ac, as_, sec⟩ (.slice A n cap) _).mono ?_; rintro e w1 ⟨rfl, hb1⟩; rw [HM.out]; have bk1 := bk0.below hb1 bk0.lt; have hB1 := hB0.trans (hb1.mono hB0.size); have hE1 := hE.below hB1; obtain ⟨k0, k1, k2, k3, k4, k5, k6, k7, k8, k9, k10⟩ := pk_cells bk1))
            go_ret
            exact ⟨by rw [HX.out]; rfl, hB1⟩
          by_cases c4 : 281474976710656 < off
          · have hO : isIn off 281474976710656 = false := decide_eq_false (by omega)
            have HX : Hid (okP ⟨kind, frm, ep, cf, ma, sl, off, ab, ac, as_, sec⟩ = false) := by show _ = _; simp only [okP, hK, hI, hE1, hM, hC, hO]; simp
            have HK := Lib.hid hK
            have HI := Lib.hid hI
            have HE := Lib.hid hE1
            have HM := Lib.hid hM
            clear hC hO hK hI hE1 hM
            go_enter Try.func13, Try.ntmps13
            go_wp2_with (first | (go_at_call 23; refine (kind_any _ _).mono ?_; rintro e w' ⟨rfl, rfl⟩; rw [HK.out]) | (go_at_call 24; refine (id_any _ _).mono ?_; rintro e w' ⟨rfl, rfl⟩; rw [HI.out]) | (go_at_call 25; refine (epoch_any _ _).mono ?_; rintro e w' ⟨rfl, rfl⟩; rw [HE.out]) | (go_at_call 26; refine (master_any ⟨kind, frm, ep, cf, ma, sl, off, ab, ac, as_, sec⟩ (.slice A n cap) _).mono ?_; rintro e w1 ⟨rfl, hb1⟩; rw [HM.out]; have bk1 := bk0.below hb1 bk0.lt; have hB1 := hB0.trans (hb1.mono hB0.size); have hE1 := hE.below hB1; obtain ⟨k0, k1, k2, k3, k4, k5, k6, k7, k8, k9, k10⟩ := pk_cells bk1))
            go_ret
            exact ⟨by rw [HX.out]; rfl, hB1⟩
          have hO : isIn off 281474976710656 = true := decide_eq_true (by omega)
          cases hA : okAb ⟨kind, frm, ep, cf, ma, sl, off, ab, ac, as_, sec⟩ with
          | false =>
            have HX : Hid (okP ⟨kind, frm, ep, cf, ma, sl, off, ab, ac, as_, sec⟩ = false) := by show _ = _; simp only [okP, hK, hI, hE1, hM, hA, hC, hO]; simp
            have HK := Lib.hid hK
            have HI := Lib.hid hI
            have HE := Lib.hid hE1
            have HM := Lib.hid hM
            have HA := Lib.hid hA
            clear hC hO hK hI hE1 hM hA
            go_enter Try.func13, Try.ntmps13
            go_wp2_with (first | (go_at_call 23; refine (kind_any _ _).mono ?_; rintro e w' ⟨rfl, rfl⟩; rw [HK.out]) | (go_at_call 24; refine (id_any _ _).mono ?_; rintro e w' ⟨rfl, rfl⟩; rw [HI.out]) | (go_at_call 25; refine (epoch_any _ _).mono ?_; rintro e w' ⟨rfl, rfl⟩; rw [HE.out]) | (go_at_call 26; refine (master_any ⟨kind, frm, ep, cf, ma, sl, off, ab, ac, as_, sec⟩ (.slice A n cap) _).mono ?_; rintro e w1 ⟨rfl, hb1⟩; rw [HM.out]; have bk1 := bk0.below hb1 bk0.lt; have hB1 := hB0.trans (hb1.mono hB0.size); have hE1 := hE.below hB1; obtain ⟨k0, k1, k2, k3, k4, k5, k6, k7, k8, k9, k10⟩ := pk_cells bk1) | (go_at_call 27; refine (about_any ⟨kind, frm, ep, cf, ma, sl, off, ab, ac, as_, sec⟩ (.slice A n cap) _).mono ?_; rintro e w2 ⟨rfl, hb2⟩; rw [HA.out]; have bk2 := bk1.below hb2 bk1.lt; have hB2 := hB1.trans (hb2.mono hB1.size); have hE2 := hE.below hB2; obtain ⟨k0, k1, k2, k3, k4, k5, k6, k7, k8, k9, k10⟩ := pk_cells bk2))
            go_ret
            exact ⟨by rw [HX.out]; rfl, hB2⟩
          | true =>
            have HX : Hid (okP ⟨kind, frm, ep, cf, ma, sl, off, ab, ac, as_, sec⟩ = okSec ⟨kind, frm, ep, cf, ma, sl, off, ab, ac, as_, sec⟩) := by show _ = _; simp only [okP, hK, hI, hE1, hM, hA, hC, hO]; simp
            have HK := Lib.hid hK
            have HI := Lib.hid hI
            have HE := Lib.hid hE1
            have HM := Lib.hid hM
            have HA := Lib.hid hA
            clear hC hO hK hI hE1 hM hA
            go_enter Try.func13, Try.ntmps13
            go_wp2_with (first | (go_at_call 23; refine (kind_any _ _).mono ?_; rintro e w' ⟨rfl, rfl⟩; rw [HK.out]) | (go_at_call 24; refine (id_any _ _).mono ?_; rintro e w' ⟨rfl, rfl⟩; rw [HI.out]) | (go_at_call 25; refine (epoch_any _ _).mono ?_; rintro e w' ⟨rfl, rfl⟩; rw [HE.out]) | (go_at_call 26; refine (master_any ⟨kind, frm, ep, cf, ma, sl, off, ab, ac, as_, sec⟩ (.slice A n cap) _).mono ?_; rintro e w1 ⟨rfl, hb1⟩; rw [HM.out]; have bk1 := bk0.below hb1 bk0.lt; have hB1 := hB0.trans (hb1.mono hB0.size); have hE1 := hE.below hB1; obtain ⟨k0, k1, k2, k3, k4, k5, k6, k7, k8, k9, k10⟩ := pk_cells bk1) | (go_at_call 27; refine (about_any ⟨kind, frm, ep, cf, ma, sl, off, ab, ac, as_, sec⟩ (.slice A n cap) _).mono ?_; rintro e w2 ⟨rfl, hb2⟩; rw [HA.out]; have bk2 := bk1.below hb2 bk1.lt; have hB2 := hB1.trans (hb2.mono hB1.size); have hE2 := hE.below hB2; obtain ⟨k0, k1, k2, k3, k4, k5, k6, k7, k8, k9, k10⟩ := pk_cells bk2) | (go_at_call 28; refine (section_any ⟨kind, frm, ep, cf, ma, sl, off, ab, ac, as_, sec⟩ A n cap _ hl hE2).mono ?_; rintro e w3 ⟨rfl, hb3⟩; have hB3 := hB2.trans (hb3.mono hB2.size)))
            go_ret
            exact ⟨by rw [HX.out]; rfl, hB3⟩
end Go.Proofs.Ytneanlffllejnaa
