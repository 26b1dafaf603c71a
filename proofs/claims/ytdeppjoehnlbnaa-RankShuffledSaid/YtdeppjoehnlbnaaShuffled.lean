/-
  WHAT IS PROVED: the law RankShuffled answers true for all arguments, which read behind the call as before it (the order in which replicas are handed in plays no part). No condition beyond those of the given row.
-/
import Derived.Test.YtdeppjoehnlbnaaRow
import Derived.Test.YtdeppjoehnlbnaaSame
namespace Go.Proofs.Ytdeppjoehnlbnaa
open Go.RowKit Go.Lib Go.Sort Go.ChangeShapes Go.WideShapes Go.ChangeAt Go.WideElems

theorem turn_perm (l : List Rep) (k : Nat) : (l.drop k ++ l.take k).Perm l := by
  have h : (l.take k ++ l.drop k).Perm (l.drop k ++ l.take k) := List.perm_append_comm
  rw [List.take_append_drop] at h
  exact h.symm

/-- what Order answers -/
def Told (x : Int) (m : Nat) (o : List Rep) (w : World) (e : Ending) (w' : World) : Prop :=
  Below w.heap.size w w' ∧ ∃ A c, e = .returned (.tuple #[.slice A m c, .int .i64 x]) ∧ m ≤ c ∧ RepsAt w' A m o
/-- whether its replicas are right or not, it answers the same of each list of the same ones -/
theorem order_all (l : List Rep) : ∃ (x : Int) (m : Nat) (o : List Rep), m ≤ 16 ∧ ∀ l' : List Rep, l'.Perm l → ∀ (A : Option Addr) (n c : Nat) (w : World), n ≤ c → RepsAt w A n l' → Calls Try.prog 11 #[.slice A n c] w (Told x m o w) := by
  cases h : rightB l with
  | false =>
    refine ⟨10, 0, [], by omega, fun l' hp A n c w hnc hr => ?_⟩
    refine (order_no A n c l' w hnc hr ((right_perm hp).trans h)).mono ?_
    rintro e w' ⟨rfl, hb⟩
    exact ⟨hb, none, 0, rfl, by omega, RepsAt.nil_ _ _⟩
  | true =>
    refine ⟨0, l.length, orderL l, (right_iff.1 h).1, fun l' hp A n c w hnc hr => ?_⟩
    refine (order_yes A n c l' w hnc hr ((right_perm hp).trans h)).mono ?_
    rintro e w' ⟨hb, A1, c1, rfl, h1, _, hr1⟩
    have hn : l.length = n := by rw [← hp.length_eq]; exact hr.1
    rw [order_same hp] at hr1
    exact ⟨hb, A1, c1, by rw [hn], by omega, by rw [hn]; exact hr1⟩

set_option maxRecDepth 100000 in
set_option maxHeartbeats 8000000 in
theorem shuffled_main (A : Option Addr) (n c : Nat) (l : List Rep) (z : Int) (W : World) (hnc : n ≤ c) (hc : c ≤ 9223372036854775807) (hr : RepsAt W A n l) (hn : n ≤ 40) (hz : 0 ≤ z) :
    Calls Try.prog 8 #[.slice A n c, .int .i64 z] W (Says true W) := by
  obtain ⟨x, m, o, hm16, hall⟩ := order_all l
  obtain ⟨k, hk, hrem⟩ : ∃ k : Nat, k ≤ n ∧ z % ((n : Int) + 1) = (k : Int) :=
    ⟨(z % ((n : Int) + 1)).toNat, by have := Int.emod_lt_of_pos z (show (0 : Int) < (n : Int) + 1 by omega); have := Int.emod_nonneg z (show ((n : Int) + 1) ≠ 0 by omega); omega, by have := Int.emod_nonneg z (show ((n : Int) + 1) ≠ 0 by omega); omega⟩
  obtain ⟨i0, hi0, hz0, hz1, hz2⟩ := info_parts rep_info
  have HI0 : Hid (Try.prog.info? 29 = some i0) := hi0
  have HZ0 := Lib.hid hz0
  have HZ1 := Lib.hid hz1
  have HZ2 := Lib.hid hz2
  have hz' : decide (z < 0) = false := by simp; omega
  have HR := Lib.hid hr
  have HALL := Lib.hid hall
  have k0 : (0 : Int) ≤ (k : Int) := by omega
  have k1 : (k : Int) ≤ (n : Int) := by omega
  have k2 : (n : Int) ≤ (c : Int) := by omega
  have k3 : (k : Int) ≤ (c : Int) := by omega
  have hn1 : ((n : Int) + 1) ≠ 0 := by omega
  clear hi0 hz0 hz1 hz2 hr hall
  go_enter Try.func8, Try.ntmps8
  go_wp2_with (fail)
  refine (anchor_any W).mono ?_
  rintro e w1 ⟨rfl, hb1⟩
  go_wp2_with (fail)
  refine (HALL.out l (List.Perm.refl _) A n c _ hnc (HR.out.below hb1)).mono ?_
  rintro e w2 ⟨hb2', A1, c1, rfl, hc1, hr1⟩
  have hb2 := hb1.trans (hb2'.mono hb1.size)
  have HOA := Lib.hid hr1
  have HTURN := Lib.hid (HALL.out _ (turn_perm l k))
  have HW1 : Below w2.heap.size w2 (w2.drew.alloc (.cells #[] 29)) := (below_drewN (Below.refl _ _) 1).alloc (Nat.le_refl _) _
  have HBB : Hid (∀ w', (w2.drew.alloc (.cells #[] 29)).grownBy w' (some w2.heap.size) → Below w2.heap.size w2 w') := fun w' hg => HW1.grown hg HW1.size (fun j e => by injection e with e; omega)
  have HRD : Hid (∀ w', Below w2.heap.size w2 w' → RepsAt w' A k (l.take k)) := fun w' hb => ((HR.out.below (hb2.trans (hb.mono hb2.size))).take hk)
  have HRC := Lib.hid ((HR.out.below (hb2.trans (HW1.mono hb2.size))).cut hk hnc)
  clear HALL hb1 hb2' hr1
  by_cases hck : c = k
  · have HRA := HRC
    rw [if_pos hck] at HRA
    obtain rfl : n = k := by omega
    obtain rfl : c = n := hck
    rw [Nat.sub_self] at HRA
    clear HRC
    · go_wp2
      go_region_held3 (fun _ => True) (first | exact trivial) (first | ((refine step_append_reps _ (by rfl) (.tmp 32) (.tmp 35) 22 (by rfl) w2.heap.size 29 i0 _ Try.underlying22 HI0.out HZ0.out HZ1.out HZ2.out (by rfl) _ 0 [] (by rfl) (World.ownsRow_made w2.drew #[] 0 (Nat.le_refl _) (Nat.zero_le _) rfl) A 0 0 (l.drop c) (by rfl) HRA.out (by omega) (by simp) ?_; intro v4 w4 hown4 hg4 _; simp only [Nat.add_zero, List.nil_append] at hown4; have HO4 := Lib.hid hown4; have HB4 := HBB.out w4 hg4; clear hown4 hg4)) | ((refine step_append_reps _ (by rfl) (.tmp 36) (.tmp 39) 22 (by rfl) w2.heap.size 29 i0 _ Try.underlying22 HI0.out HZ0.out HZ1.out HZ2.out (by rfl) _ 0 _ (by rfl) HO4.out A c c (l.take c) (by rfl) (HRD.out w4 HB4) (by omega) HB4.size ?_; intro v5 w5 hown5 hg5 _; rw [Nat.zero_add] at hown5; have HB5 : Below w2.heap.size w2 w5 := HB4.grown hg5 HB4.size (fun j e => (HO4.out.lt j e).1); obtain ⟨A5, c5, rfl, hc5, _, hr5⟩ := own_reps hown5; have HO5 := Lib.hid hr5; clear hown5 hg5 hr5)) | (go_at_call 11; refine (HTURN.out _ _ _ _ hc5 HO5.out).mono ?_; rintro e w6 ⟨hb6, A6, c6, rfl, hc6, hr6⟩; have HB26 := Lib.hid (HB5.trans (hb6.mono HB5.size)); have HR6 := Lib.hid hr6; have HB6 := hb2.trans (HB26.out.mono hb2.size); clear hb6 hr6))

      have HB := Lib.hid HB6
      clear HO5 HO4
      go_wp2
      go_loopw [56] (fun i wr => ∃ j : Nat, j ≤ m ∧ i = .int .i64 j ∧ Below w6.heap.size w6 wr) (fun i _ => m - (intOf i).toNat)
      case atStart => exact ⟨0, by omega, rfl, Below.refl _ _⟩
      case round =>
        obtain ⟨j, hj, rfl, hb⟩ := hrel
        by_cases hlt : j < m
        · obtain ⟨a1, s, rfl, hs0, _, c0, c1⟩ := (HOA.out.below (HB26.out.trans (hb.mono HB26.out.size))).at_ hlt
          obtain ⟨a2, s2, rfl, hs2, _, _, _⟩ := (HR6.out.below hb).at_ hlt
          obtain rfl : s = s2 := by rw [hs0] at hs2; injection hs2
          have hd : ∀ ob, (wr.alloc ob).cell? (a2.add (j * 2)) = some (.int .i64 s.id) ∧ (wr.alloc ob).cell? ⟨(a2.add (j * 2)).block, (a2.add (j * 2)).off + 1, none⟩ = some (.int .i64 s.off) := fun ob => by
            obtain ⟨a3, s3, ea, hs3, _, d0, d1⟩ := (HR6.out.below (below_alloc hb ob)).at_ hlt
            cases ea
            obtain rfl : s = s3 := by rw [hs0] at hs3; injection hs3
            exact ⟨d0, d1⟩
          have d0 := fun ob => (hd ob).1
          have d1 := fun ob => (hd ob).2
          have hq := same_rep s s
          rw [show decide (s = s) = true by simp] at hq
          have HBO := Lib.hid (below_alloc hb (.cells #[.int .i64 s.id, .int .i64 s.off] 29))
          clear hd hs0 hs2 hb
          go_wp2
          go_quiet (fail)
          go_wp2
          go_roundw
          case rel => exact ⟨j + 1, by omega, by go_num, below_drewN HBO.out nq⟩
          case measure => simp [intOf]; omega
        · obtain rfl : j = m := by omega
          go_wp2
          go_ret
          exact ⟨rfl, HB.out.trans (hb.mono HB.out.size)⟩
  · have HRA := HRC
    rw [if_neg hck] at HRA
    clear HRC
    · go_wp2
      go_region_held3 (fun _ => True) (first | exact trivial) (first | ((refine step_append_reps _ (by rfl) (.tmp 32) (.tmp 35) 22 (by rfl) w2.heap.size 29 i0 _ Try.underlying22 HI0.out HZ0.out HZ1.out HZ2.out (by rfl) _ 0 [] (by rfl) (World.ownsRow_made w2.drew #[] 0 (Nat.le_refl _) (Nat.zero_le _) rfl) (A.map fun x => x.add (k * 2)) (n - k) (c - k) (l.drop k) (by rfl) HRA.out (by omega) (by simp) ?_; intro v4 w4 hown4 hg4 _; simp only [Nat.zero_add, List.nil_append] at hown4; have HO4 := Lib.hid hown4; have HB4 := HBB.out w4 hg4; clear hown4 hg4)) | ((refine step_append_reps _ (by rfl) (.tmp 36) (.tmp 39) 22 (by rfl) w2.heap.size 29 i0 _ Try.underlying22 HI0.out HZ0.out HZ1.out HZ2.out (by rfl) _ (n - k) _ (by rfl) HO4.out A k c (l.take k) (by rfl) (HRD.out w4 HB4) (by omega) HB4.size ?_; intro v5 w5 hown5 hg5 _; rw [Nat.sub_add_cancel hk] at hown5; have HB5 : Below w2.heap.size w2 w5 := HB4.grown hg5 HB4.size (fun j e => (HO4.out.lt j e).1); obtain ⟨A5, c5, rfl, hc5, _, hr5⟩ := own_reps hown5; have HO5 := Lib.hid hr5; clear hown5 hg5 hr5)) | (go_at_call 11; refine (HTURN.out _ _ _ _ hc5 HO5.out).mono ?_; rintro e w6 ⟨hb6, A6, c6, rfl, hc6, hr6⟩; have HB26 := Lib.hid (HB5.trans (hb6.mono HB5.size)); have HR6 := Lib.hid hr6; have HB6 := hb2.trans (HB26.out.mono hb2.size); clear hb6 hr6))

      have HB := Lib.hid HB6
      clear HO5 HO4
      go_wp2
      go_loopw [56] (fun i wr => ∃ j : Nat, j ≤ m ∧ i = .int .i64 j ∧ Below w6.heap.size w6 wr) (fun i _ => m - (intOf i).toNat)
      case atStart => exact ⟨0, by omega, rfl, Below.refl _ _⟩
      case round =>
        obtain ⟨j, hj, rfl, hb⟩ := hrel
        by_cases hlt : j < m
        · obtain ⟨a1, s, rfl, hs0, _, c0, c1⟩ := (HOA.out.below (HB26.out.trans (hb.mono HB26.out.size))).at_ hlt
          obtain ⟨a2, s2, rfl, hs2, _, _, _⟩ := (HR6.out.below hb).at_ hlt
          obtain rfl : s = s2 := by rw [hs0] at hs2; injection hs2
          have hd : ∀ ob, (wr.alloc ob).cell? (a2.add (j * 2)) = some (.int .i64 s.id) ∧ (wr.alloc ob).cell? ⟨(a2.add (j * 2)).block, (a2.add (j * 2)).off + 1, none⟩ = some (.int .i64 s.off) := fun ob => by
            obtain ⟨a3, s3, ea, hs3, _, d0, d1⟩ := (HR6.out.below (below_alloc hb ob)).at_ hlt
            cases ea
            obtain rfl : s = s3 := by rw [hs0] at hs3; injection hs3
            exact ⟨d0, d1⟩
          have d0 := fun ob => (hd ob).1
          have d1 := fun ob => (hd ob).2
          have hq := same_rep s s
          rw [show decide (s = s) = true by simp] at hq
          have HBO := Lib.hid (below_alloc hb (.cells #[.int .i64 s.id, .int .i64 s.off] 29))
          clear hd hs0 hs2 hb
          go_wp2
          go_quiet (fail)
          go_wp2
          go_roundw
          case rel => exact ⟨j + 1, by omega, by go_num, below_drewN HBO.out nq⟩
          case measure => simp [intOf]; omega
        · obtain rfl : j = m := by omega
          go_wp2
          go_ret
          exact ⟨rfl, HB.out.trans (hb.mono HB.out.size)⟩

theorem shuffled_skip (A : Option Addr) (n c : Nat) (z : Int) (W : World) (hcase : 40 < n ∨ (decide (40 < (n : Int)) = false ∧ z < 0)) :
    Calls Try.prog 8 #[.slice A n c, .int .i64 z] W (Says true W) := by
  go_enter Try.func8, Try.ntmps8
  go_wp2_with (fail)
  refine (anchor_any W).mono ?_
  rintro e w1 ⟨rfl, hb1⟩
  rcases hcase with g | ⟨g, g2⟩
  all_goals (go_wp2; go_ret; exact ⟨rfl, hb1⟩)

theorem shuffled_any (A : Option Addr) (n c : Nat) (l : List Rep) (z : Int) (W : World) (hnc : n ≤ c) (hc : c ≤ 9223372036854775807) (hr : RepsAt W A n l) :
    Calls Try.prog 8 #[.slice A n c, .int .i64 z] W (Says true W) := by
  by_cases hn : n ≤ 40
  · rcases Int.lt_or_le z 0 with h | h
    · exact shuffled_skip A n c z W (.inr ⟨by simp; omega, h⟩)
    · exact shuffled_main A n c l z W hnc hc hr hn h
  · exact shuffled_skip A n c z W (.inl (by omega))

theorem shuffled_lifted (os : Os) (started : os.Started) (H : Type) (enc : TypeId × Value → H) :
    ReturnsInHanded {} Try.checked os 8 .any (Rows.rankShuffledSpec.pre6 enc Try.prog Try.f8 Rows.rankShuffledRow.domain false) (Rows.rankShuffledSpec.post enc Try.prog Try.f8 false true false false) := by
  refine returnsInHanded_of_change (C := Try.checked) own started (by kernel_rfl) Try.func8
    (ChangeSpec.witness6 (enc := enc) (C := Try.checked) false ⟨#[], #[.slice none 0 0, .int .i64 0], []⟩ 8 (by kernel_rfl) (by kernel_rfl) (by kernel_rfl) (by kernel_rfl)) ?_
  intro W base args ds gs before hval0 hW _ _
  have hval : ∀ (j : Nat) t v, Try.f8.params[j]? = some t → args[j]? = some v → Value.okWide Try.prog W .any base t v := hval0
  have hW' := hW
  obtain ⟨p, q, hA0, hV, rfl, _, _⟩ := hW
  have hA : DataW.TrodAll enc Try.prog W 0 (fun _ => true) true Try.f8.params.toList args.toList ds p := hA0
  rw [Try.params8] at hA hval
  obtain ⟨v0, vs0, d0, ds0, p0, q0, hargs, rfl, rfl, h0, r0⟩ := trodAll_cons hA
  obtain ⟨v1, vs1, d1, ds1, p1, q1, rfl, rfl, rfl, h1, r1⟩ := trodAll_cons r0
  obtain ⟨rfl, rfl, rfl⟩ := trodAll_nil r1
  obtain rfl : args = #[v0, v1] := by cases args; simp_all
  obtain ⟨rfl, rfl⟩ := trodVars_none hV
  obtain ⟨A0, n0, c0, l0, rfl, hl0, hc0, hm0, hr0, hz0⟩ := open_reps (hval 0 22 v0 rfl rfl) h0
  obtain ⟨z1, rfl, rfl, rfl, wz1⟩ := open_int Try.underlying3 (hval 1 3 v1 rfl rfl) h1
  clear hA0
  have hk := shuffled_any A0 n0 c0 l0 z1 W hc0 hm0 hr0
  exact hk.mono fun e W' ⟨he, hb⟩ => ⟨_, he, law_post laid_ok (by kernel_rfl) rfl Try.underlying4 rfl hW' rfl hb⟩

theorem shuffled_holds : Rows.RankShuffledSaid :=
  OpenClaim.holds_of_wide 8 Try.f8 rfl rfl rfl rfl rfl rfl rfl ⟨rfl, rfl, rfl, rfl, rfl⟩ rfl rfl rfl rfl rfl (by kernel_rfl) Try.func8 (by kernel_rfl)
    (of_decide_eq_true (by kernel_rfl)) (by unfold Func.isWrapper; first | (rw [if_pos (by decide +kernel)]; kernel_rfl) | (rw [if_neg (by decide +kernel)]; exact ⟨rfl, rfl⟩))
    (fun os started H enc _ => shuffled_lifted os started H enc)

end Go.Proofs.Ytdeppjoehnlbnaa
