/-
  WHAT IS PROVED: the law's like answers true of a net and a slice of messages that say the same. Condition: the object is a net, the messages' bytes are there.
-/
import Derived.Test.YtblmfjndemfkjaaSame
import Derived.BigQuiet
namespace Go.Proofs.Ytblmfjndemfkjaa
open Go.RowKit Go.Lib
set_option maxRecDepth 100000

set_option maxHeartbeats 4000000 in
theorem like_any (C n : Nat) (U : Nat → Prop) (l : List Ms) (kk : Int) (w : World) (h : Nt w C n U l kk) (A : Option Addr) (N c : Nat) (ys : List Ms) (F G : Nat → Prop) (x : Int) (hr : Rd w F 3 A N (flatM ys)) (hg : ∀ m ∈ ys, Good w G m) (hpl : ys.map Ms.pl = l.map Ms.pl) :
    Calls Try.prog 13 #[.pointer (some ⟨n, 0, none⟩), .slice A N c, .int .i64 x] w (Says true w) := by
  obtain ⟨i0, hi0, hz0, hz1, hz2⟩ := info_parts int_info
  have hlen : l.length = N := by have h1 := congrArg List.length hpl; have h2 := hr.lenM; simp at h1; omega
  have h5 := h.le
  have HPL := Lib.hid hpl
  have HR := Lib.hid hr
  have HG := Lib.hid hg
  have HN := Lib.hid h
  have HLN := Lib.hid hlen
  obtain ⟨ts, hts⟩ : ∃ ts, l.map Ms.t = ts := ⟨_, rfl⟩
  have HTS : Hid (∀ (j : Nat) (p : Ms), ys[j]? = some p → ts[j]? = some p.t) := Lib.hid (fun j p hp => by
    have h1 : (ys.map Ms.pl)[j]? = some p.pl := by rw [List.getElem?_map, hp]; rfl
    rw [hpl, List.getElem?_map] at h1
    rw [← hts, List.getElem?_map]
    cases hl : l[j]? with
    | none => rw [hl] at h1; cases h1
    | some q => rw [hl] at h1; injection h1 with h1; unfold Ms.pl at h1; simp only [Prod.mk.injEq] at h1; show some q.t = some p.t; rw [h1.2.1])
  have HTO := Lib.hid hts
  rw [hlen] at h5
  clear h hr hg hpl hlen hts
  go_enter Try.func13, Try.ntmps13
  go_wp2_with (fail)
  refine (list_any C n U l kk _ HN.out).mono ?_
  rintro e w1 ⟨hb1, Av, cv, xs, rfl, ho1, hpx, hod1, hcv, hcvm⟩
  have hxn : xs.length = N := by have h1 := congrArg List.length hpx; simp at h1; rw [h1]; exact HLN.out
  rw [hxn] at ho1 hcv ⊢
  have HB1 := Lib.hid hb1
  have HN1 := Lib.hid (HN.out.below hb1)
  have HX1 : Hid (Rd w1 no 3 Av N (flatM xs)) := Lib.hid (Rd.of_own ho1 rfl (fun _ _ f => f))
  have HOD1 : Hid (∀ m ∈ xs, Good w1 no m) := Lib.hid (fun m hm => (hod1 m hm).good (fun _ f => f.elim))
  have HY1 := Lib.hid (HR.out.below hb1)
  have HG1 : Hid (∀ m ∈ ys, Good w1 G m) := Lib.hid (fun m hm => (HG.out m hm).below hb1)
  have HPX := Lib.hid hpx
  clear hb1 ho1 hpx hod1 hxn HN HR HG
  go_wp2_with (fail)
  refine (len_any C n U l kk _ HN1.out).mono ?_
  rintro e w1' ⟨rfl, rfl⟩
  rw [HLN.out]
  have tn : ((N : Int) != (N : Int)) = false := by simp
  go_wp2
  go_loopw [8, 30] (fun v i wr => ∃ (k m : Nat) (Pv : Option Addr) (cp : Nat), k ≤ N ∧ m ≤ k ∧ i = .int .i64 k ∧ v = .slice Pv m cp ∧ (toK ts x k).length = m ∧ wr.ownsRow w1.heap.size 3 1 (.slice Pv m cp) m (zints (toK ts x k)) ∧ Below w1.heap.size w1 wr) (fun _ i _ => N - (RowKit.intOf i).toNat)
  case atStart => exact ⟨0, 0, none, 0, by omega, by omega, rfl, rfl, rfl, World.ownsRow_nil _ _ _ _, Below.refl _ _⟩
  case round =>
    obtain ⟨w3, rfl⟩ : ∃ w3, w3 = wr := ⟨_, rfl⟩
    obtain ⟨k, m, Pv, cp, hk, hmk, rfl, rfl, hlm, hown, hb⟩ := hrel
    have HB := Lib.hid hb
    have HO := Lib.hid hown
    have HM := Lib.hid hlm
    clear hb hown hlm
    by_cases hlt : k < N
    · obtain ⟨ad, p, rfl, hp, hbl, _, d0, d1, d2⟩ := (HY1.out.below HB.out).atM hlt
      obtain ⟨ax, q, rfl, hq, hbq, _, g0, g1, g2⟩ := (HX1.out.below HB.out).atM hlt
      have hpq : q.pl = p.pl := by
        have h1 : (xs.map Ms.pl)[k]? = some q.pl := by rw [List.getElem?_map, hq]; rfl
        have h2 : (ys.map Ms.pl)[k]? = some p.pl := by rw [List.getElem?_map, hp]; rfl
        rw [HPX.out, ← HPL.out, h2] at h1
        injection h1 with h1
        exact h1.symm
      have hgp := (HG1.out p (List.mem_of_getElem? hp)).below HB.out
      have hgq := (HOD1.out q (List.mem_of_getElem? hq)).below HB.out
      have htp := HTS.out k p hp
      have hSM := samB_pl hpq
      obtain ⟨pf, pt, pA, pn, pc, pd⟩ := p
      obtain ⟨qf, qt, qA, qn, qc, qd⟩ := q
      simp only at d0 d1 d2 g0 g1 g2 htp
      obtain ⟨w4, hw4⟩ : ∃ w4, w3.alloc (.cells #[.int .i64 pf, .int .i64 pt, .slice pA pn pc] 29) = w4 := ⟨_, rfl⟩
      have hb4 : Below w3.heap.size w3 w4 := by rw [← hw4]; exact (Below.refl _ _).alloc (Nat.le_refl _) _
      have hx4 : Bx w4 w3.heap.size ⟨pf, pt, pA, pn, pc, pd⟩ := by rw [← hw4]; exact Bx.new w3 ⟨pf, pt, pA, pn, pc, pd⟩
      obtain ⟨r0, r1, r2⟩ := hx4.cells
      dsimp only at r0 r1 r2
      have HB4 := Lib.hid (HB.out.trans (hb4.mono HB.out.size))
      have HO4 := Lib.hid (own_below HO.out hb4)
      have HSM : Hid (∀ p : Later w4, Calls Try.prog 10 #[.agg #[.int .i64 qf, .int .i64 qt, .slice qA qn qc], .agg #[.int .i64 pf, .int .i64 pt, .slice pA pn pc]] p.now fun e w' => e = .returned (.bool true) ∧ Below p.now.heap.size p.now w') :=
        Lib.hid (fun p => (same_any ⟨qf, qt, qA, qn, qc, qd⟩ ⟨pf, pt, pA, pn, pc, pd⟩ _ _ _ ((hgq.below hb4).below p.below) ((hgp.below hb4).below p.below)).mono fun _ _ h => ⟨by rw [← hSM]; exact h.1, h.2⟩)
      have R0 : ∀ q : Later w4, q.now.cell? ⟨w3.heap.size, 0, none⟩ = some (.int .i64 pf) := fun q => q.cell r0
      have R1 : ∀ q : Later w4, q.now.cell? ⟨w3.heap.size, 1, none⟩ = some (.int .i64 pt) := fun q => q.cell r1
      have R2 : ∀ q : Later w4, q.now.cell? ⟨w3.heap.size, 2, none⟩ = some (.slice pA pn pc) := fun q => q.cell r2
      have C0 : ∀ q : Later w4, q.now.cell? (ax.add (k * 3)) = some (.int .i64 qf) := fun q => q.cell ((hb4.cell (by rw [block_of_add]; exact hbq)).trans g0)
      have C1 : ∀ q : Later w4, q.now.cell? ⟨(ax.add (k * 3)).block, (ax.add (k * 3)).off + 1, none⟩ = some (.int .i64 qt) := fun q => q.cell ((hb4.cell (by show (ax.add (k * 3)).block < _; rw [block_of_add]; exact hbq)).trans g1)
      have C2 : ∀ q : Later w4, q.now.cell? ⟨(ax.add (k * 3)).block, (ax.add (k * 3)).off + 2, none⟩ = some (.slice qA qn qc) := fun q => q.cell ((hb4.cell (by show (ax.add (k * 3)).block < _; rw [block_of_add]; exact hbq)).trans g2)
      have l1 : (k : Int) < (N : Int) := by omega
      have l0 : (0 : Int) ≤ (k : Int) := by omega
      clear hp hq hpq hgp hgq hSM hb4 hx4 hbl hbq
      by_cases hx : pt = x
      · have HE := Lib.hid (toK_yes (k := k) (htp.trans (by rw [hx])))
        subst hx
        clear htp
        go_wp2
        skip
        refine wp_region_later (by kernel_rfl) (by kernel_rfl) ?_
        repeat (go_big_quiet_step (first | (go_at_call 10; with_reducible exact Later.calls (HSM.out _)) | fail))
        refine wpQuiet_nil ?_
        intro _ hw'
        obtain ⟨pr, hw''⟩ := hw'
        subst hw''
        have hb5 := pr.below
        have E1 := R1 pr
        generalize pr.now = w5 at *
        have HB5 := Lib.hid (HB4.out.trans (hb5.mono HB4.out.size))
        have HO5 := Lib.hid (own_below HO4.out hb5)
        clear hb5 R0 R1 R2 C0 C1 C2 HSM r0 r1 r2 d0 d1 d2 g0 g1 g2
        have HBB : Hid (Below w1.heap.size w1 (w5.alloc (.cells #[.int .i64 (k : Int)] 3))) := Lib.hid (HB5.out.alloc HB5.out.size _)
        have HOB := Lib.hid (HO5.out.alloc (.cells #[.int .i64 (k : Int)] 3))
        have HON := Lib.hid (rd_one w5 (k : Int))
        have HS := HBB.out.size
        go_wp2_with (at_builtin; refine wpList_append_rd _ rfl _ _ 43 rfl w1.heap.size 3 i0 _ 1 8 Try.underlying43 hi0 hz0 hz1 hz2 rfl (by omega) (.slice Pv m cp) m (zints (toK ts pt k)) rfl HOB.out no (some ⟨w5.heap.size, 0, none⟩) 1 1 (zints [(k : Int)]) rfl HON.out (zints_one _) (by unfold maxLen; omega) (by omega) HS ?_; intro v6 w6 hown6 hg6 hat6; obtain ⟨A6, c6, rfl, _, _⟩ := own_form hown6; have H6 := Lib.hid hown6; have HB6 := Lib.hid (HBB.out.grown hg6 HBB.out.size (fun k hk => (HOB.out.lt k hk).1)); clear hown6 hg6 hat6)
        go_roundw
        case rel => exact ⟨k + 1, m + 1, A6, c6, by omega, by omega, by go_num, rfl, by rw [HE.out, List.length_append, HM.out]; rfl, by rw [HE.out, zints_append]; exact H6.out, HB6.out⟩
        case measure => simp [RowKit.intOf]; omega
      · have HE := Lib.hid (toK_no (k := k) htp hx)
        have t1 : (pt == x) = false := by simpa using hx
        clear htp hx
        go_wp2
        skip
        refine wp_region_later (by kernel_rfl) (by kernel_rfl) ?_
        repeat (go_big_quiet_step (first | (go_at_call 10; with_reducible exact Later.calls (HSM.out _)) | fail))
        refine wpQuiet_nil ?_
        intro _ hw'
        obtain ⟨pr, hw''⟩ := hw'
        subst hw''
        have hb5 := pr.below
        have E1 := R1 pr
        generalize pr.now = w5 at *
        have HB5 := Lib.hid (HB4.out.trans (hb5.mono HB4.out.size))
        have HO5 := Lib.hid (own_below HO4.out hb5)
        clear hb5 R0 R1 R2 C0 C1 C2 HSM r0 r1 r2 d0 d1 d2 g0 g1 g2
        go_wp2
        go_roundw
        case rel => exact ⟨k + 1, m, Pv, cp, by omega, by omega, by go_num, rfl, by rw [HE.out]; exact HM.out, by rw [HE.out]; exact HO5.out, HB5.out⟩
        case measure => simp [RowKit.intOf]; omega
    · obtain rfl : k = N := by omega
      have HN3 := Lib.hid (HN1.out.below HB.out)
      go_wp2_with (fail)
      refine (to_any C n U l kk _ HN3.out x).mono ?_
      rintro e w4 ⟨hb4, v4, rfl, ho4⟩
      rw [HTO.out, HLN.out] at ho4
      obtain ⟨LT, hLT⟩ : ∃ y, toK ts x k = y := ⟨_, rfl⟩
      rw [hLT] at ho4 HO HM
      rw [HM.out] at ho4
      obtain ⟨A4, c4, rfl, hc4, hcm4⟩ := own_form ho4
      have HT4 : Hid (Rd w4 no 1 A4 m (zints LT)) := Lib.hid (Rd.of_own ho4 rfl (fun _ _ f => f))
      have HP4 : Hid (Rd w4 no 1 Pv m (zints LT)) := Lib.hid (Rd.of_own (own_below HO.out hb4) rfl (fun _ _ f => f))
      have HB4 := Lib.hid (HB.out.trans (hb4.mono HB.out.size))
      have tm : ((m : Int) != (m : Int)) = false := by simp
      clear hb4 ho4 hLT
      go_wp2
      go_loopw [61] (fun i wr => ∃ j : Nat, j ≤ m ∧ i = .int .i64 j ∧ wr = w4) (fun i _ => m - (RowKit.intOf i).toNat)
      case atStart => exact ⟨0, by omega, rfl, (by first | rfl | trivial)⟩
      case round =>
        obtain ⟨j, hj, rfl, rfl⟩ := hrel
        by_cases hjl : j < m
        · obtain ⟨a1, z, rfl, hz, _, _, e0⟩ := HT4.out.atZ hjl
          obtain ⟨a2, z2, rfl, hz2', _, _, e2⟩ := HP4.out.atZ hjl
          rw [hz] at hz2'
          injection hz2' with hz2'
          subst hz2'
          have tz : (z != z) = false := by simp
          clear hz
          go_wp2
          go_roundw
          case rel => exact ⟨j + 1, by omega, by go_num, (by first | rfl | trivial)⟩
          case measure => simp [RowKit.intOf]; omega
        · obtain rfl : j = m := by omega
          go_wp2
          go_ret
          exact ⟨rfl, HB1.out.trans (HB4.out.mono HB1.out.size)⟩
end Go.Proofs.Ytblmfjndemfkjaa
