/-
  WHAT IS PROVED: the law NetOnce answers true for all arguments. Condition: the messages' bytes are there.
-/
import Derived.Test.YtblmfjndemfkjaaFull
import Derived.Deep.RegionHeld3
namespace Go.Proofs.Ytblmfjndemfkjaa
open Go.RowKit Go.Lib
set_option maxRecDepth 100000

/-- the length of a slice value -/
def lenOf : Value → Nat
  | .slice _ n _ => n
  | _ => 0
theorem pick_lt (z : Int) (r : Nat) (hr : 0 < r) : ∃ k : Nat, k < r ∧ (z.tmod (r : Int) = (k : Int) ∨ z.tmod (r : Int) = -(k : Int)) := by
  refine ⟨(z.tmod (r : Int)).natAbs, ?_, ?_⟩
  · rw [Int.natAbs_tmod]
    exact Nat.mod_lt _ (by simpa using hr)
  · omega
set_option maxHeartbeats 4000000 in
theorem once_in (A B : Option Addr) (N c P d : Nat) (l : List Ms) (zs : List Int) (W : World) (hr : Rd W no 3 A N (flatM l)) (hz : Rd W no 1 B P (zints zs)) (hg : ∀ m ∈ l, Rd W no 1 m.A m.n (bs m.d) ∧ m.n ≤ m.c ∧ m.c ≤ 9223372036854775807) (hN : N ≤ 60) (hP : P ≤ 100) :
    Calls Try.prog 5 #[.slice A N c, .slice B P d] W (Says true W) := by
  obtain ⟨i0, hi0, hz0, hz1, hz2⟩ := info_parts msg_info
  have HI0 := Lib.hid hi0
  have HZ0 := Lib.hid hz0
  have HZ1 := Lib.hid hz1
  have HZ2 := Lib.hid hz2
  have HR := Lib.hid hr
  have HZ := Lib.hid hz
  have HG := Lib.hid hg
  have HL := Lib.hid hr.lenM
  have d1 : decide ((60 : Int) < (N : Int)) = false := by simp; omega
  have d2 : decide ((100 : Int) < (P : Int)) = false := by simp; omega
  clear hr hz hg hi0 hz0 hz1 hz2
  go_enter Try.func5, Try.ntmps5
  go_wp2_with (fail)
  refine (anchor_any _).mono ?_
  rintro e w0 ⟨rfl, hb0⟩
  have HB0 := Lib.hid hb0
  clear hb0
  go_wp2_with (fail)
  refine (new_any w0).mono ?_
  rintro e w2 ⟨g, rfl, hn2, hb2⟩
  have HN2 := Lib.hid hn2
  have HB2 := Lib.hid hb2
  clear hn2 hb2
  go_wp2
  go_loopw [28] (fun i wr => ∃ (k : Nat) (ls : List Ms), k ≤ N ∧ i = .int .i64 k ∧ ls.map Ms.pl = (l.take k).map Ms.pl ∧ (∀ m ∈ l.take k, m.n ≤ 100) ∧ Nt wr w0.heap.size g no ls 0 ∧ Below w0.heap.size w0 wr) (fun i _ => N - (RowKit.intOf i).toNat)
  case atStart => exact ⟨0, [], by omega, rfl, by simp, (fun m hm => by simp at hm), HN2.out, HB2.out⟩
  case round =>
    obtain ⟨w3, rfl⟩ : ∃ w3, w3 = wr := ⟨_, rfl⟩
    obtain ⟨k, ls, hk, rfl, hpl, hsz, hnt, hb3⟩ := hrel
    have HPL := Lib.hid hpl
    have HSZ := Lib.hid hsz
    have HN3 := Lib.hid hnt
    have HB3 := Lib.hid hb3
    have HB03 := Lib.hid (HB0.out.trans (hb3.mono HB0.out.size))
    clear hpl hsz hnt hb3
    by_cases hlt : k < N
    · obtain ⟨ad, p, rfl, hp, hbl, _, c0, c1, c2⟩ := (HR.out.below HB03.out).atM hlt
      obtain ⟨hg1, hg2, hg3⟩ := HG.out p (List.mem_of_getElem? hp)
      obtain ⟨pf, pt, pA, pn, pc, pd⟩ := p
      dsimp only at hg1 hg2 hg3 c0 c1 c2
      have HP := Lib.hid hp
      obtain ⟨w4, hw4⟩ : ∃ x, w3.alloc (.cells #[.int .i64 pf, .int .i64 pt, .slice pA pn pc] 29) = x := ⟨_, rfl⟩
      have hb4 : Below w3.heap.size w3 w4 := by rw [← hw4]; exact (Below.refl _ _).alloc (Nat.le_refl _) _
      have hx4 : Bx w4 w3.heap.size ⟨pf, pt, pA, pn, pc, pd⟩ := by rw [← hw4]; exact Bx.new w3 ⟨pf, pt, pA, pn, pc, pd⟩
      obtain ⟨x0, x1, x2⟩ := hx4.cells
      dsimp only at x0 x1 x2
      have HN4 := Lib.hid (HN3.out.below hb4)
      have HB4 := Lib.hid (HB3.out.trans (hb4.mono HB3.out.size))
      have hg4 : Rd w4 no 1 pA pn (bs pd) := (hg1.below HB03.out).below hb4
      by_cases h100 : pn ≤ 100
      · have HGD : Hid (Good w4 no ⟨pf, pt, pA, pn, pc, pd⟩) := Lib.hid ⟨hg4, hg2, hg3, by show pn ≤ 1000000; omega⟩
        have hlen : ls.length = k := by have h1 := congrArg List.length HPL.out; simp at h1; have := HL.out; omega
        clear hp hg1 hg2 hg3 hb4 hx4 hg4
        go_wp2_with (fail)
        refine (put_yes w0.heap.size g no ls 0 w4 HN4.out ⟨pf, pt, pA, pn, pc, pd⟩ no HGD.out (by omega)).mono ?_
        rintro e w5 ⟨m1, hm1, rfl, hn5, ht5⟩
        have HM1 := Lib.hid hm1
        have HN5 := Lib.hid hn5
        have HB5 := Lib.hid (HB4.out.trans (ht5.low HB4.out.size))
        clear hm1 hn5 ht5
        go_wp2
        go_roundw
        case rel => exact ⟨k + 1, ls ++ [m1], by omega, by go_num, by rw [List.map_append, HPL.out, List.take_add_one, HP.out, List.map_append]; show _ ++ [m1.pl] = _; rw [HM1.out]; rfl, (fun m hm => by rw [List.take_add_one, HP.out] at hm; rcases List.mem_append.1 hm with hm | hm; exact HSZ.out m hm; rw [show m = ⟨pf, pt, pA, pn, pc, pd⟩ by simpa using hm]; exact h100), HN5.out, HB5.out⟩
        case measure => simp [RowKit.intOf]; omega
      · clear hp hg1 hg2 hg3 hb4 hx4 hg4
        go_wp2
        go_ret
        exact ⟨rfl, HB0.out.trans (HB4.out.mono HB0.out.size)⟩
    · obtain rfl : k = N := by omega
      have HT : Hid (l.take k = l) := Lib.hid (List.take_of_length_le (by rw [HL.out]; exact Nat.le_refl _))
      have hsz := HSZ.out
      rw [HT.out] at HPL hsz
      have HGS : Hid (∀ m ∈ l, Good w3 (fun i => w0.heap.size ≤ i) m) := Lib.hid (fun m hm => by
        obtain ⟨g1, g2, g3⟩ := HG.out m hm
        have hg0 : Good w0 (fun i => w0.heap.size ≤ i) m := ⟨(g1.below HB0.out).weak (fun i hi f => by omega), g2, g3, by have := hsz m hm; omega⟩
        exact hg0.turn (Turn.of_below HB3.out _) (Sub.refl _ _))
      clear hsz
      have hb4 : Below w3.heap.size w3 (w3.alloc (.cells #[] 29)) := (Below.refl _ _).alloc (Nat.le_refl _) _
      have HR4 := Lib.hid ((HR.out.below HB03.out).below hb4)
      have HHB4 := Lib.hid hb4
      clear hb4
      go_wp2_with (at_builtin; refine wpList_append_rd _ rfl (.tmp 41) (.tmp 42) 26 rfl w3.heap.size 29 i0 _ 3 40 Try.underlying26 HI0.out HZ0.out HZ1.out HZ2.out rfl (by omega) (.slice (some ⟨w3.heap.size, 0, none⟩) 0 0) 0 [] rfl (World.ownsRow_made w3 #[] 0 (Nat.le_refl _) (Nat.zero_le _) rfl) no A k c (flatM l) rfl HR4.out (flatM_one _) (by unfold maxLen; omega) (by omega) (by simp) ?_; intro v5 w5 ho5 hg5 _; rw [Nat.zero_add, List.nil_append] at ho5; obtain ⟨A5, c5, rfl, hc5, hcm5⟩ := own_form ho5; have HO5 := Lib.hid ho5; have HB5 : Hid (Below w3.heap.size w3 w5) := Lib.hid (HHB4.out.grown hg5 HHB4.out.size (fun k hk => by simp [Value.ownBlock] at hk; omega)); clear ho5 hg5)
      go_loopw [8, 9] (fun v i wr => ∃ (r j : Nat) (Lv : Option Addr) (cl : Nat) (ys ls : List Ms) (U : Nat → Prop), j + r ≤ 60 ∧ i = .int .i64 j ∧ v = .slice Lv r cl ∧ ys.length = r ∧ wr.ownsRow w0.heap.size 29 3 (.slice Lv r cl) r (flatM ys) ∧ (∀ b, (Value.slice Lv r cl).ownBlock = some b → U b) ∧ Nt wr w0.heap.size g U ls 0 ∧ ls.map Ms.pl = ys.map Ms.pl ∧ (∀ m ∈ ys, Good wr (fun i => w0.heap.size ≤ i) m) ∧ Below w0.heap.size w0 wr) (fun v _ _ => lenOf v)
      case atStart => exact ⟨k, 0, A5, c5, l, ls, fun i => w3.heap.size ≤ i ∧ i < w5.heap.size, by omega, rfl, rfl, HL.out, own_base HO5.out HB3.out.size, (fun b hb => HO5.out.lt b hb), Nt.guard HN3.out HB5.out (fun i hi => .inr hi), HPL.out, (fun m hm => (HGS.out m hm).turn (Turn.of_below HB5.out _) (Sub.refl _ _)), HB3.out.trans (HB5.out.mono HB3.out.size)⟩
      case round =>
        clear HN3 HPL HSZ HB3 HGS HR4 HHB4 HO5 HB5 HB03 HT
        obtain ⟨w3, rfl⟩ : ∃ w3, w3 = wr := ⟨_, rfl⟩
        obtain ⟨r, j, Lv, cl, ys, ls, U, hj, rfl, rfl, hyl, hown, huo, hnt, hpy, hgo, hb3⟩ := hrel
        obtain ⟨A9, c9, e4, hrc, hcm⟩ := own_form hown
        injection e4 with e4 e5 e6
        subst e6
        clear e4 e5
        have HYL := Lib.hid hyl
        have HO3 := Lib.hid hown
        have HUO := Lib.hid huo
        have HN3 := Lib.hid hnt
        have HPY := Lib.hid hpy
        have HG3 := Lib.hid hgo
        have HB3 := Lib.hid hb3
        have hll : ls.length = r := by have h1 := congrArg List.length hpy; simp at h1; omega
        have HLL := Lib.hid hll
        clear hyl hown huo hnt hpy hgo hb3 hll
        by_cases hr0 : 0 < r
        · have z1 : decide ((0 : Int) < (r : Int)) = true := by simp; omega
          by_cases hjp : j < P
          · obtain ⟨bd, z, rfl, hzz, hbl, _, e0⟩ := (HZ.out.below (HB0.out.trans (HB3.out.mono HB0.out.size))).atZ hjp
            obtain ⟨kk, hkr, hkz⟩ := pick_lt z r hr0
            obtain ⟨y, hy⟩ : ∃ y, z.tmod (r : Int) = y := ⟨_, rfl⟩
            rw [hy] at hkz
            have hmx : max y (-y) = (kk : Int) := by omega
            have hwy : IntKind.i64.wrap (-y) = -y := by rw [IntKind.wrap_i64]; omega
            obtain ⟨mz, hmz⟩ : ∃ m, ls[kk]? = some m := ⟨_, List.getElem?_eq_getElem (by rw [HLL.out]; exact hkr)⟩
            obtain ⟨zf, zt, zA, zn, zc, zd⟩ := mz
            have HMZ := Lib.hid hmz
            have j1 : decide ((j : Int) < (P : Int)) = true := by simp; omega
            clear hmz hzz
            go_wp2_with (fail)
            all_goals
              first
                | (have hq : y = (kk : Int) := by omega
                   rw [hq])
                | (have hq : -y = (kk : Int) := by omega
                   rw [hq])
              refine (take_yes w0.heap.size g U ls 0 w3 HN3.out kk ⟨zf, zt, zA, zn, zc, zd⟩ HMZ.out).mono ?_
              rintro e w6 ⟨rfl, hn6, ht6, hg6⟩
              have hb6 : Below w0.heap.size w0 w6 := HB3.out.trans (ht6.low HB3.out.size)
              have ho6 : w6.ownsRow w0.heap.size 29 3 (.slice Lv r cl) r (flatM ys) := own_turn HO3.out ht6 (fun b hb f => f.2 (HUO.out b hb))
              have hG6 : ∀ m ∈ ys, Good w6 (fun i => w0.heap.size ≤ i) m := fun m hm => (HG3.out m hm).turn (ht6.wide fun i _ f => f.1) (Sub.refl _ _)
              obtain ⟨w7, hw7⟩ : ∃ x, w6.alloc (.cells #[.int .i64 zf, .int .i64 zt, .slice zA zn zc] 29) = x := ⟨_, rfl⟩
              have hb67 : Below w6.heap.size w6 w7 := by rw [← hw7]; exact (Below.refl _ _).alloc (Nat.le_refl _) _
              have hz7 : Bx w7 w6.heap.size ⟨zf, zt, zA, zn, zc, zd⟩ := by rw [← hw7]; exact Bx.new w6 ⟨zf, zt, zA, zn, zc, zd⟩
              have HN7 := Lib.hid (Nt.below hn6 hb67)
              have HB7 := Lib.hid (hb6.trans (hb67.mono hb6.size))
              have HO7 := Lib.hid (own_below ho6 hb67)
              have HG7 : Hid (∀ m ∈ ys, Good w7 (fun i => w0.heap.size ≤ i) m) := Lib.hid (fun m hm => (hG6 m hm).below hb67)
              have hr7 : Rd w7 no 3 Lv r (flatM ys) := Rd.of_own HO7.out rfl (fun _ _ f => f.elim)
              obtain ⟨ad, p, hLv, hp, hbl, _, c0, c1, c2⟩ := hr7.atM hkr
              subst hLv
              have hpl : (⟨zf, zt, zA, zn, zc, zd⟩ : Ms).pl = p.pl := by
                have h1 : (ls.map Ms.pl)[kk]? = some (⟨zf, zt, zA, zn, zc, zd⟩ : Ms).pl := by rw [List.getElem?_map, HMZ.out]; rfl
                have h2 : (ys.map Ms.pl)[kk]? = some p.pl := by rw [List.getElem?_map, hp]; rfl
                rw [HPY.out, h2] at h1
                injection h1 with h1
                exact h1.symm
              have hsm := samB_pl hpl
              have hgz := hg6.below hb67
              have hgp := HG7.out p (List.mem_of_getElem? hp)
              obtain ⟨pf, pt, pA, pn, pc, pd⟩ := p
              dsimp only at c0 c1 c2
              obtain ⟨r0, r1, r2⟩ := hz7.cells
              dsimp only at r0 r1 r2
              have HSM : Hid (∀ p : Later w7, Calls Try.prog 10 #[.agg #[.int .i64 zf, .int .i64 zt, .slice zA zn zc], .agg #[.int .i64 pf, .int .i64 pt, .slice pA pn pc]] p.now fun e w' => e = .returned (.bool true) ∧ Below p.now.heap.size p.now w') :=
                Lib.hid (fun p => (same_any ⟨zf, zt, zA, zn, zc, zd⟩ ⟨pf, pt, pA, pn, pc, pd⟩ _ _ _ (hgz.below p.below) (hgp.below p.below)).mono fun _ _ h => ⟨by rw [← hsm]; exact h.1, h.2⟩)
              have R0 : ∀ q : Later w7, q.now.cell? ⟨w6.heap.size, 0, none⟩ = some (.int .i64 zf) := fun q => q.cell r0
              have R1 : ∀ q : Later w7, q.now.cell? ⟨w6.heap.size, 1, none⟩ = some (.int .i64 zt) := fun q => q.cell r1
              have R2 : ∀ q : Later w7, q.now.cell? ⟨w6.heap.size, 2, none⟩ = some (.slice zA zn zc) := fun q => q.cell r2
              have C0 : ∀ q : Later w7, q.now.cell? (ad.add (kk * 3)) = some (.int .i64 pf) := fun q => q.cell c0
              have C1 : ∀ q : Later w7, q.now.cell? ⟨(ad.add (kk * 3)).block, (ad.add (kk * 3)).off + 1, none⟩ = some (.int .i64 pt) := fun q => q.cell c1
              have C2 : ∀ q : Later w7, q.now.cell? ⟨(ad.add (kk * 3)).block, (ad.add (kk * 3)).off + 2, none⟩ = some (.slice pA pn pc) := fun q => q.cell c2
              have l1 : (kk : Int) < (r : Int) := by omega
              have l0 : (0 : Int) ≤ (kk : Int) := by omega
              clear hn6 ht6 hg6 hb6 ho6 hG6 hb67 hz7 hr7 hp hpl hsm hgz hgp hbl r0 r1 r2 c0 c1 c2
              go_wp2
              skip
              refine wp_region_later (by kernel_rfl) (by kernel_rfl) ?_
              repeat (go_big_quiet_step (first | (go_at_call 10; with_reducible exact Later.calls (HSM.out _)) | fail))
              refine wpQuiet_nil ?_
              intro _ hw'
              obtain ⟨pr, hw''⟩ := hw'
              subst hw''
              have hb8 := pr.below
              generalize pr.now = w8 at *
              have HN8 := Lib.hid (Nt.below HN7.out hb8)
              have HBL := Lib.hid (HB7.out.trans (hb8.mono HB7.out.size))
              have HW8 : Hid (w0.heap.size ≤ w8.heap.size) := Lib.hid HBL.out.size
              have HO8 := Lib.hid (own_below HO7.out hb8)
              have HG8 : Hid (∀ m ∈ ys, Good w8 (fun i => w0.heap.size ≤ i) m) := Lib.hid (fun m hm => (HG7.out m hm).below hb8)
              have hr8 : Rd w8 no 3 (some ad) r (flatM ys) := Rd.of_own HO8.out rfl (fun _ _ f => f.elim)
              have HTK : Hid (∀ w', Below w8.heap.size w8 w' → Rd w' no 3 (some ad) kk (flatM (ys.take kk))) := Lib.hid (fun w' hb => (hr8.below hb).takeM (by omega))
              have HDR : Hid (∀ w', Below w8.heap.size w8 w' → Rd w' no 3 (if cl = kk + 1 then some ad else (some ad).map (·.add ((kk + 1) * 3))) (r - (kk + 1)) (flatM (ys.drop (kk + 1)))) := Lib.hid (fun w' hb => (hr8.below hb).dropM (by omega) hrc)
              have HW1 : Below w8.heap.size w8 (w8.drew.alloc (.cells #[] 29)) := ((Below.refl _ _).drew).alloc (Nat.le_refl _) _
              have HBB : Hid (∀ w4, (w8.drew.alloc (.cells #[] 29)).grownBy w4 (some w8.heap.size) → Below w8.heap.size w8 w4) := Lib.hid (fun w4 hg => HW1.grown hg HW1.size (fun k hk => by injection hk with hk; omega))
              have k1 : IntKind.i64.wrap ((kk : Int) + 1) = (kk : Int) + 1 := by rw [IntKind.wrap_i64]; omega
              have k2 : (kk : Int) + 1 ≤ (r : Int) := by omega
              have k3 : (kk : Int) ≤ (cl : Int) := by omega
              have k4 : (0 : Int) ≤ (kk : Int) + 1 := by omega
              have k5 : ((kk : Int) + 1).toNat = kk + 1 := by omega
              have k6 : (r : Int) ≤ (cl : Int) := by omega
              have k7 : ¬ cl = 0 := by omega
              have k8 : kk ≤ cl := by omega
              have k9 : kk ≤ r := by omega
              have k10 : (0 : Int) ≤ (cl : Int) := by omega
              have k11 : kk + 1 ≤ r := by omega
              clear hb8 hr8 R0 R1 R2 C0 C1 C2 HSM
              by_cases hck : cl = kk + 1
              · have HDR0 : Hid (∀ w', Below w8.heap.size w8 w' → Rd w' no 3 (some ad) 0 (flatM (ys.drop (kk + 1)))) := Lib.hid (fun w' hb => by have h1 := HDR.out w' hb; rw [if_pos hck, show r - (kk + 1) = 0 by omega] at h1; exact h1)
                obtain ⟨q, hq⟩ : ∃ q, kk + 1 = q := ⟨_, rfl⟩
                obtain rfl : r = q := by omega
                obtain rfl : cl = r := by omega
                have m1 : IntKind.i64.wrap ((kk : Int) + 1) = (cl : Int) := by rw [k1]; omega
                have m2 : (kk : Int) ≤ (cl : Int) := by omega
                rw [hq] at k11
                clear k1 k2 k4 k5 k9
                have HQ := Lib.hid hq
                have HRN : Hid (kk + 0 = kk) := Lib.hid rfl
                clear hq hck
                go_wp2
                go_region_held3 (fun _ => True) (first | exact trivial) (first | ((refine step_append_rd _ (by rfl) (.tmp 81) (.tmp 84) 26 (by rfl) w8.heap.size 29 i0 _ 3 40 Try.underlying26 HI0.out HZ0.out HZ1.out HZ2.out (by rfl) (by omega) _ 0 [] (by rfl) (World.ownsRow_made w8.drew #[] 0 (Nat.le_refl _) (Nat.zero_le _) rfl) no (some ad) kk cl (flatM (ys.take kk)) (by rfl) (HTK.out _ HW1) (flatM_one _) (by unfold maxLen; omega) (by omega) (by simp) ?_; intro v4 w4 hown4 hg4 _; simp only [Nat.zero_add, List.nil_append] at hown4; have HO4 := Lib.hid hown4; have HB4 := HBB.out w4 hg4; clear hown4 hg4)) | ((refine step_append_rd _ (by rfl) (.tmp 85) (.tmp 89) 26 (by rfl) w8.heap.size 29 i0 _ 3 40 Try.underlying26 HI0.out HZ0.out HZ1.out HZ2.out (by rfl) (by omega) _ kk _ (by rfl) HO4.out no (some ad) 0 0 (flatM (ys.drop (kk + 1))) (by rfl) (HDR0.out _ HB4) (flatM_one _) (by unfold maxLen; omega) (by omega) HB4.size ?_; intro v5 w5 hown5 hg5 _; have HB5 : Below w8.heap.size w8 w5 := HB4.grown hg5 HB4.size (fun j e => (HO4.out.lt j e).1); rw [← flatM_append, HRN.out] at hown5; obtain ⟨A5, c5, rfl, hc5, hcm5⟩ := own_form hown5; have HO5 := Lib.hid hown5; clear hown5 hg5)) | fail)
                go_wp2
                go_roundw
                case rel => exact ⟨kk, j + 1, A5, c5, without ys kk, without ls kk, fun i => w8.heap.size ≤ i ∧ i < w5.heap.size, (by have h9 := HQ.out; omega), by go_num, rfl, (by have h1 := without_len (l := ys) (i := kk) (by rw [HYL.out]; exact hkr); have h2 := HYL.out; first | omega | (have h3 := HQ.out; omega)), own_base HO5.out HW8.out, fun b hb => HO5.out.lt b hb, Nt.guard HN8.out HB5 (fun i hi => .inr hi), by unfold without; rw [List.map_append, List.map_append, List.map_take, List.map_drop, List.map_take, List.map_drop, HPY.out], (fun m hm => (HG8.out m (without_mem hm)).turn (Turn.of_below HB5 _) (Sub.refl _ _)), HBL.out.trans (HB5.mono HBL.out.size)⟩
                case measure => unfold lenOf; dsimp only; have h9 := HQ.out; omega
              · rw [if_neg hck] at HDR
                obtain ⟨q, hq⟩ : ∃ q, kk + (r - (kk + 1)) = q := ⟨_, rfl⟩
                have HRN := Lib.hid hq
                have HQ : Hid (q + 1 = r) := Lib.hid (by omega)
                clear hq
                go_wp2
                go_region_held3 (fun _ => True) (first | exact trivial) (first | ((refine step_append_rd _ (by rfl) (.tmp 81) (.tmp 84) 26 (by rfl) w8.heap.size 29 i0 _ 3 40 Try.underlying26 HI0.out HZ0.out HZ1.out HZ2.out (by rfl) (by omega) _ 0 [] (by rfl) (World.ownsRow_made w8.drew #[] 0 (Nat.le_refl _) (Nat.zero_le _) rfl) no (some ad) kk cl (flatM (ys.take kk)) (by rfl) (HTK.out _ HW1) (flatM_one _) (by unfold maxLen; omega) (by omega) (by simp) ?_; intro v4 w4 hown4 hg4 _; simp only [Nat.zero_add, List.nil_append] at hown4; have HO4 := Lib.hid hown4; have HB4 := HBB.out w4 hg4; clear hown4 hg4)) | ((refine step_append_rd _ (by rfl) (.tmp 85) (.tmp 89) 26 (by rfl) w8.heap.size 29 i0 _ 3 40 Try.underlying26 HI0.out HZ0.out HZ1.out HZ2.out (by rfl) (by omega) _ kk _ (by rfl) HO4.out no (some (ad.add ((kk + 1) * 3))) (r - (kk + 1)) (cl - (kk + 1)) (flatM (ys.drop (kk + 1))) (by rfl) (HDR.out _ HB4) (flatM_one _) (by unfold maxLen; omega) (by omega) HB4.size ?_; intro v5 w5 hown5 hg5 _; have HB5 : Below w8.heap.size w8 w5 := HB4.grown hg5 HB4.size (fun j e => (HO4.out.lt j e).1); rw [← flatM_append, HRN.out] at hown5; obtain ⟨A5, c5, rfl, hc5, hcm5⟩ := own_form hown5; have HO5 := Lib.hid hown5; clear hown5 hg5)) | fail)
                go_wp2
                go_roundw
                case rel => exact ⟨q, j + 1, A5, c5, without ys kk, without ls kk, fun i => w8.heap.size ≤ i ∧ i < w5.heap.size, (by have h9 := HQ.out; omega), by go_num, rfl, (by have h1 := without_len (l := ys) (i := kk) (by rw [HYL.out]; exact hkr); have h2 := HYL.out; first | omega | (have h3 := HQ.out; omega)), own_base HO5.out HW8.out, fun b hb => HO5.out.lt b hb, Nt.guard HN8.out HB5 (fun i hi => .inr hi), by unfold without; rw [List.map_append, List.map_append, List.map_take, List.map_drop, List.map_take, List.map_drop, HPY.out], (fun m hm => (HG8.out m (without_mem hm)).turn (Turn.of_below HB5 _) (Sub.refl _ _)), HBL.out.trans (HB5.mono HBL.out.size)⟩
                case measure => unfold lenOf; dsimp only; have h9 := HQ.out; omega

          · obtain ⟨kk, hkz⟩ : ∃ kk : Nat, kk = 0 := ⟨0, rfl⟩
            have hkr : kk < r := by omega
            have hkc : ((kk : Nat) : Int) = 0 := by omega
            obtain ⟨mz, hmz⟩ : ∃ m, ls[kk]? = some m := ⟨_, List.getElem?_eq_getElem (by rw [HLL.out]; exact hkr)⟩
            obtain ⟨zf, zt, zA, zn, zc, zd⟩ := mz
            have HMZ := Lib.hid hmz
            have j1 : decide ((j : Int) < (P : Int)) = false := by simp; omega
            clear hmz hkz
            go_wp2_with (fail)
            rw [← hkc]
            clear hkc
            refine (take_yes w0.heap.size g U ls 0 w3 HN3.out kk ⟨zf, zt, zA, zn, zc, zd⟩ HMZ.out).mono ?_
            rintro e w6 ⟨rfl, hn6, ht6, hg6⟩
            have hb6 : Below w0.heap.size w0 w6 := HB3.out.trans (ht6.low HB3.out.size)
            have ho6 : w6.ownsRow w0.heap.size 29 3 (.slice Lv r cl) r (flatM ys) := own_turn HO3.out ht6 (fun b hb f => f.2 (HUO.out b hb))
            have hG6 : ∀ m ∈ ys, Good w6 (fun i => w0.heap.size ≤ i) m := fun m hm => (HG3.out m hm).turn (ht6.wide fun i _ f => f.1) (Sub.refl _ _)
            obtain ⟨w7, hw7⟩ : ∃ x, w6.alloc (.cells #[.int .i64 zf, .int .i64 zt, .slice zA zn zc] 29) = x := ⟨_, rfl⟩
            have hb67 : Below w6.heap.size w6 w7 := by rw [← hw7]; exact (Below.refl _ _).alloc (Nat.le_refl _) _
            have hz7 : Bx w7 w6.heap.size ⟨zf, zt, zA, zn, zc, zd⟩ := by rw [← hw7]; exact Bx.new w6 ⟨zf, zt, zA, zn, zc, zd⟩
            have HN7 := Lib.hid (Nt.below hn6 hb67)
            have HB7 := Lib.hid (hb6.trans (hb67.mono hb6.size))
            have HO7 := Lib.hid (own_below ho6 hb67)
            have HG7 : Hid (∀ m ∈ ys, Good w7 (fun i => w0.heap.size ≤ i) m) := Lib.hid (fun m hm => (hG6 m hm).below hb67)
            have hr7 : Rd w7 no 3 Lv r (flatM ys) := Rd.of_own HO7.out rfl (fun _ _ f => f.elim)
            obtain ⟨ad, p, hLv, hp, hbl, _, c0, c1, c2⟩ := hr7.atM hkr
            subst hLv
            have hpl : (⟨zf, zt, zA, zn, zc, zd⟩ : Ms).pl = p.pl := by
              have h1 : (ls.map Ms.pl)[kk]? = some (⟨zf, zt, zA, zn, zc, zd⟩ : Ms).pl := by rw [List.getElem?_map, HMZ.out]; rfl
              have h2 : (ys.map Ms.pl)[kk]? = some p.pl := by rw [List.getElem?_map, hp]; rfl
              rw [HPY.out, h2] at h1
              injection h1 with h1
              exact h1.symm
            have hsm := samB_pl hpl
            have hgz := hg6.below hb67
            have hgp := HG7.out p (List.mem_of_getElem? hp)
            obtain ⟨pf, pt, pA, pn, pc, pd⟩ := p
            dsimp only at c0 c1 c2
            obtain ⟨r0, r1, r2⟩ := hz7.cells
            dsimp only at r0 r1 r2
            have HSM : Hid (∀ p : Later w7, Calls Try.prog 10 #[.agg #[.int .i64 zf, .int .i64 zt, .slice zA zn zc], .agg #[.int .i64 pf, .int .i64 pt, .slice pA pn pc]] p.now fun e w' => e = .returned (.bool true) ∧ Below p.now.heap.size p.now w') :=
              Lib.hid (fun p => (same_any ⟨zf, zt, zA, zn, zc, zd⟩ ⟨pf, pt, pA, pn, pc, pd⟩ _ _ _ (hgz.below p.below) (hgp.below p.below)).mono fun _ _ h => ⟨by rw [← hsm]; exact h.1, h.2⟩)
            have R0 : ∀ q : Later w7, q.now.cell? ⟨w6.heap.size, 0, none⟩ = some (.int .i64 zf) := fun q => q.cell r0
            have R1 : ∀ q : Later w7, q.now.cell? ⟨w6.heap.size, 1, none⟩ = some (.int .i64 zt) := fun q => q.cell r1
            have R2 : ∀ q : Later w7, q.now.cell? ⟨w6.heap.size, 2, none⟩ = some (.slice zA zn zc) := fun q => q.cell r2
            have C0 : ∀ q : Later w7, q.now.cell? (ad.add (kk * 3)) = some (.int .i64 pf) := fun q => q.cell c0
            have C1 : ∀ q : Later w7, q.now.cell? ⟨(ad.add (kk * 3)).block, (ad.add (kk * 3)).off + 1, none⟩ = some (.int .i64 pt) := fun q => q.cell c1
            have C2 : ∀ q : Later w7, q.now.cell? ⟨(ad.add (kk * 3)).block, (ad.add (kk * 3)).off + 2, none⟩ = some (.slice pA pn pc) := fun q => q.cell c2
            have l1 : (kk : Int) < (r : Int) := by omega
            have l0 : (0 : Int) ≤ (kk : Int) := by omega
            clear hn6 ht6 hg6 hb6 ho6 hG6 hb67 hz7 hr7 hp hpl hsm hgz hgp hbl r0 r1 r2 c0 c1 c2
            go_wp2
            skip
            refine wp_region_later (by kernel_rfl) (by kernel_rfl) ?_
            repeat (go_big_quiet_step (first | (go_at_call 10; with_reducible exact Later.calls (HSM.out _)) | fail))
            refine wpQuiet_nil ?_
            intro _ hw'
            obtain ⟨pr, hw''⟩ := hw'
            subst hw''
            have hb8 := pr.below
            generalize pr.now = w8 at *
            have HN8 := Lib.hid (Nt.below HN7.out hb8)
            have HBL := Lib.hid (HB7.out.trans (hb8.mono HB7.out.size))
            have HW8 : Hid (w0.heap.size ≤ w8.heap.size) := Lib.hid HBL.out.size
            have HO8 := Lib.hid (own_below HO7.out hb8)
            have HG8 : Hid (∀ m ∈ ys, Good w8 (fun i => w0.heap.size ≤ i) m) := Lib.hid (fun m hm => (HG7.out m hm).below hb8)
            have hr8 : Rd w8 no 3 (some ad) r (flatM ys) := Rd.of_own HO8.out rfl (fun _ _ f => f.elim)
            have HTK : Hid (∀ w', Below w8.heap.size w8 w' → Rd w' no 3 (some ad) kk (flatM (ys.take kk))) := Lib.hid (fun w' hb => (hr8.below hb).takeM (by omega))
            have HDR : Hid (∀ w', Below w8.heap.size w8 w' → Rd w' no 3 (if cl = kk + 1 then some ad else (some ad).map (·.add ((kk + 1) * 3))) (r - (kk + 1)) (flatM (ys.drop (kk + 1)))) := Lib.hid (fun w' hb => (hr8.below hb).dropM (by omega) hrc)
            have HW1 : Below w8.heap.size w8 (w8.drew.alloc (.cells #[] 29)) := ((Below.refl _ _).drew).alloc (Nat.le_refl _) _
            have HBB : Hid (∀ w4, (w8.drew.alloc (.cells #[] 29)).grownBy w4 (some w8.heap.size) → Below w8.heap.size w8 w4) := Lib.hid (fun w4 hg => HW1.grown hg HW1.size (fun k hk => by injection hk with hk; omega))
            have k1 : IntKind.i64.wrap ((kk : Int) + 1) = (kk : Int) + 1 := by rw [IntKind.wrap_i64]; omega
            have k2 : (kk : Int) + 1 ≤ (r : Int) := by omega
            have k3 : (kk : Int) ≤ (cl : Int) := by omega
            have k4 : (0 : Int) ≤ (kk : Int) + 1 := by omega
            have k5 : ((kk : Int) + 1).toNat = kk + 1 := by omega
            have k6 : (r : Int) ≤ (cl : Int) := by omega
            have k7 : ¬ cl = 0 := by omega
            have k8 : kk ≤ cl := by omega
            have k9 : kk ≤ r := by omega
            have k10 : (0 : Int) ≤ (cl : Int) := by omega
            have k11 : kk + 1 ≤ r := by omega
            clear hb8 hr8 R0 R1 R2 C0 C1 C2 HSM
            by_cases hck : cl = kk + 1
            · have HDR0 : Hid (∀ w', Below w8.heap.size w8 w' → Rd w' no 3 (some ad) 0 (flatM (ys.drop (kk + 1)))) := Lib.hid (fun w' hb => by have h1 := HDR.out w' hb; rw [if_pos hck, show r - (kk + 1) = 0 by omega] at h1; exact h1)
              obtain ⟨q, hq⟩ : ∃ q, kk + 1 = q := ⟨_, rfl⟩
              obtain rfl : r = q := by omega
              obtain rfl : cl = r := by omega
              have m1 : IntKind.i64.wrap ((kk : Int) + 1) = (cl : Int) := by rw [k1]; omega
              have m2 : (kk : Int) ≤ (cl : Int) := by omega
              rw [hq] at k11
              clear k1 k2 k4 k5 k9
              have HQ := Lib.hid hq
              have HRN : Hid (kk + 0 = kk) := Lib.hid rfl
              clear hq hck
              go_wp2
              go_region_held3 (fun _ => True) (first | exact trivial) (first | ((refine step_append_rd _ (by rfl) (.tmp 81) (.tmp 84) 26 (by rfl) w8.heap.size 29 i0 _ 3 40 Try.underlying26 HI0.out HZ0.out HZ1.out HZ2.out (by rfl) (by omega) _ 0 [] (by rfl) (World.ownsRow_made w8.drew #[] 0 (Nat.le_refl _) (Nat.zero_le _) rfl) no (some ad) kk cl (flatM (ys.take kk)) (by rfl) (HTK.out _ HW1) (flatM_one _) (by unfold maxLen; omega) (by omega) (by simp) ?_; intro v4 w4 hown4 hg4 _; simp only [Nat.zero_add, List.nil_append] at hown4; have HO4 := Lib.hid hown4; have HB4 := HBB.out w4 hg4; clear hown4 hg4)) | ((refine step_append_rd _ (by rfl) (.tmp 85) (.tmp 89) 26 (by rfl) w8.heap.size 29 i0 _ 3 40 Try.underlying26 HI0.out HZ0.out HZ1.out HZ2.out (by rfl) (by omega) _ kk _ (by rfl) HO4.out no (some ad) 0 0 (flatM (ys.drop (kk + 1))) (by rfl) (HDR0.out _ HB4) (flatM_one _) (by unfold maxLen; omega) (by omega) HB4.size ?_; intro v5 w5 hown5 hg5 _; have HB5 : Below w8.heap.size w8 w5 := HB4.grown hg5 HB4.size (fun j e => (HO4.out.lt j e).1); rw [← flatM_append, HRN.out] at hown5; obtain ⟨A5, c5, rfl, hc5, hcm5⟩ := own_form hown5; have HO5 := Lib.hid hown5; clear hown5 hg5)) | fail)
              go_wp2
              go_roundw
              case rel => exact ⟨kk, j + 1, A5, c5, without ys kk, without ls kk, fun i => w8.heap.size ≤ i ∧ i < w5.heap.size, (by have h9 := HQ.out; omega), by go_num, rfl, (by have h1 := without_len (l := ys) (i := kk) (by rw [HYL.out]; exact hkr); have h2 := HYL.out; first | omega | (have h3 := HQ.out; omega)), own_base HO5.out HW8.out, fun b hb => HO5.out.lt b hb, Nt.guard HN8.out HB5 (fun i hi => .inr hi), by unfold without; rw [List.map_append, List.map_append, List.map_take, List.map_drop, List.map_take, List.map_drop, HPY.out], (fun m hm => (HG8.out m (without_mem hm)).turn (Turn.of_below HB5 _) (Sub.refl _ _)), HBL.out.trans (HB5.mono HBL.out.size)⟩
              case measure => unfold lenOf; dsimp only; have h9 := HQ.out; omega
            · rw [if_neg hck] at HDR
              obtain ⟨q, hq⟩ : ∃ q, kk + (r - (kk + 1)) = q := ⟨_, rfl⟩
              have HRN := Lib.hid hq
              have HQ : Hid (q + 1 = r) := Lib.hid (by omega)
              clear hq
              go_wp2
              go_region_held3 (fun _ => True) (first | exact trivial) (first | ((refine step_append_rd _ (by rfl) (.tmp 81) (.tmp 84) 26 (by rfl) w8.heap.size 29 i0 _ 3 40 Try.underlying26 HI0.out HZ0.out HZ1.out HZ2.out (by rfl) (by omega) _ 0 [] (by rfl) (World.ownsRow_made w8.drew #[] 0 (Nat.le_refl _) (Nat.zero_le _) rfl) no (some ad) kk cl (flatM (ys.take kk)) (by rfl) (HTK.out _ HW1) (flatM_one _) (by unfold maxLen; omega) (by omega) (by simp) ?_; intro v4 w4 hown4 hg4 _; simp only [Nat.zero_add, List.nil_append] at hown4; have HO4 := Lib.hid hown4; have HB4 := HBB.out w4 hg4; clear hown4 hg4)) | ((refine step_append_rd _ (by rfl) (.tmp 85) (.tmp 89) 26 (by rfl) w8.heap.size 29 i0 _ 3 40 Try.underlying26 HI0.out HZ0.out HZ1.out HZ2.out (by rfl) (by omega) _ kk _ (by rfl) HO4.out no (some (ad.add ((kk + 1) * 3))) (r - (kk + 1)) (cl - (kk + 1)) (flatM (ys.drop (kk + 1))) (by rfl) (HDR.out _ HB4) (flatM_one _) (by unfold maxLen; omega) (by omega) HB4.size ?_; intro v5 w5 hown5 hg5 _; have HB5 : Below w8.heap.size w8 w5 := HB4.grown hg5 HB4.size (fun j e => (HO4.out.lt j e).1); rw [← flatM_append, HRN.out] at hown5; obtain ⟨A5, c5, rfl, hc5, hcm5⟩ := own_form hown5; have HO5 := Lib.hid hown5; clear hown5 hg5)) | fail)
              go_wp2
              go_roundw
              case rel => exact ⟨q, j + 1, A5, c5, without ys kk, without ls kk, fun i => w8.heap.size ≤ i ∧ i < w5.heap.size, (by have h9 := HQ.out; omega), by go_num, rfl, (by have h1 := without_len (l := ys) (i := kk) (by rw [HYL.out]; exact hkr); have h2 := HYL.out; first | omega | (have h3 := HQ.out; omega)), own_base HO5.out HW8.out, fun b hb => HO5.out.lt b hb, Nt.guard HN8.out HB5 (fun i hi => .inr hi), by unfold without; rw [List.map_append, List.map_append, List.map_take, List.map_drop, List.map_take, List.map_drop, HPY.out], (fun m hm => (HG8.out m (without_mem hm)).turn (Turn.of_below HB5 _) (Sub.refl _ _)), HBL.out.trans (HB5.mono HBL.out.size)⟩
              case measure => unfold lenOf; dsimp only; have h9 := HQ.out; omega

        · obtain rfl : r = 0 := by omega
          have hls : ls = [] := List.eq_nil_of_length_eq_zero HLL.out
          subst hls
          go_wp2_with (fail)
          refine (take_no w0.heap.size g U [] 0 w3 HN3.out 0 rfl).mono ?_
          rintro e w6 ⟨rfl, hb6⟩
          have HB6 := Lib.hid (((HB3.out.trans (hb6.mono HB3.out.size))).alloc (HB3.out.trans (hb6.mono HB3.out.size)).size (.cells #[.int .i64 0, .int .i64 0, .slice none 0 0] 29))
          have HN6 := Lib.hid ((HN3.out.below hb6).alloc (.cells #[.int .i64 0, .int .i64 0, .slice none 0 0] 29))
          clear hb6
          go_wp2_with (fail)
          refine (len_any w0.heap.size g U [] 0 _ HN6.out).mono ?_
          rintro e w7 ⟨rfl, rfl⟩
          go_wp2_with (fail)
          refine (list_any w0.heap.size g U [] 0 _ HN6.out).mono ?_
          rintro e w8 ⟨hb8, A8, c8, xs, rfl, _, hpx, _⟩
          have hxs : xs = [] := by cases xs with
            | nil => rfl
            | cons _ _ => simp at hpx
          subst hxs
          have HB8 := Lib.hid (HB6.out.trans (hb8.mono HB6.out.size))
          clear hb8 hpx
          go_wp2
          go_ret
          exact ⟨rfl, HB0.out.trans (HB8.out.mono HB0.out.size)⟩
end Go.Proofs.Ytblmfjndemfkjaa
