/-
  WHAT IS PROVED: the law QuorumGrows answers true for all arguments, which read behind the call as before it (more who say yes never take a majority away; all are one, where there is a voter; none are none). No condition beyond those of the given row.
-/
import Derived.Test.YtacljdpmcndhdaaArg
import Derived.Test.YtacljdpmcndhdaaAppend
namespace Go.Proofs.Ytacljdpmcndhdaa
open Go.RowKit Go.Lib Go.ChangeShapes Go.WideShapes Go.ChangeAt Go.WideElems

set_option maxRecDepth 100000 in
set_option maxHeartbeats 2000000 in
theorem grows_in (r1 r2 r3 : Bool) (A B C : Option Addr) (n c m d o p : Nat) (vs xs ys : List Int) (W : World) (hnc : n ≤ c) (hc : c ≤ 9223372036854775807) (hn : n ≤ 30) (hm : m ≤ 60) (ho : o ≤ 60)
    (hra : Arg W A n vs) (hrb : Arg W B m xs) (hrc : Arg W C o ys) (hvs : inInts vs) (hxs : inInts xs) (hys : inInts ys) (H1 : Hid (majB vs xs = r1)) (H2 : Hid (rightB vs = r2)) (h3 : decide (0 < n) = r3) :
    Calls Try.prog 7 #[.slice A n c, .slice B m d, .slice C o p] W (Says true W) := by
  have HL := Lib.hid hra.len
  have HA : Hid (majB vs vs = (r2 && r3)) := by show _ = _; rw [maj_all, H2.out, ← h3, HL.out]
  have HO := Lib.hid (maj_none vs)
  have HM : Hid (r1 = true → majB vs (xs ++ ys) = true) := fun h => maj_mono (fun x hx => List.mem_append_left _ hx) (H1.out.trans h)
  have HI : Hid (inInts (xs ++ ys)) := fun x hx => by
    rcases List.mem_append.1 hx with hx | hx
    · exact hxs x hx
    · exact hys x hx
  obtain ⟨i0, hi0, hz0, hz1, hz2⟩ := info_parts int_info
  have HI0 : Hid (Try.prog.info? 3 = some i0) := hi0
  have HZ0 := Lib.hid hz0
  have HZ1 := Lib.hid hz1
  have HZ2 := Lib.hid hz2
  clear hi0 hz0 hz1 hz2
  go_enter Try.func7, Try.ntmps7
  go_wp2_with (fail)
  refine (anchor_any W).mono ?_
  rintro e w1 ⟨rfl, hb1⟩
  have hs1 := hb1.size
  have hb2 : Below W.heap.size W (w1.alloc (.cells #[] 3)) := hb1.alloc hs1 _
  have hs2 := hb2.size
  have hown2 : (w1.alloc (.cells #[] 3)).ownsRow W.heap.size 3 1 (.slice (some ⟨w1.heap.size, 0, none⟩) 0 0) 0 [] := World.ownsRow_made w1 #[] 0 hs1 (Nat.zero_le _) rfl
  have HB2 := Lib.hid hb2
  have HG : Hid (∀ W', (w1.alloc (.cells #[] 3)).grownBy W' (some w1.heap.size) → Below W.heap.size W W') := fun W' hg => HB2.out.grown hg hs2 (fun k e => by injection e with e; rw [← e]; exact hs1)
  have hrb2 := (hrb.now hb2)
  clear hb2
  go_wp2_with (first | (at_builtin; refine wpList_append_cells _ rfl (.tmp 23) (.tmp 24) 25 rfl W.heap.size 3 i0 _ 8 Try.underlying25 HI0.out HZ0.out HZ1.out HZ2.out rfl _ 0 [] rfl hown2 _ B m d (zints xs) rfl hrb2 (zints_oneCell xs) (by unfold maxLen; omega) (by omega) hs2 ?_; intro v4 w4 hown4 hg4 _; have hb5 := HG.out _ hg4; have hrc5 := hrc.now hb5; have hs5 := hb5.size; simp only [Nat.zero_add, List.nil_append] at hown4) | (at_builtin; refine wpList_append_cells _ rfl (.tmp 25) (.tmp 26) 25 rfl W.heap.size 3 i0 _ 8 Try.underlying25 HI0.out HZ0.out HZ1.out HZ2.out rfl _ m (zints xs) rfl hown4 _ C o p (zints ys) rfl hrc5 (zints_oneCell ys) (by unfold maxLen; omega) (by omega) hs5 ?_; intro v5 w5 hown5 hg5 _; have hb6 : Below W.heap.size W w5 := hb5.grown hg5 hs5 (fun k e => (hown4.lt k e).1); obtain ⟨A5, c5, rfl, hc5, hc5m⟩ := own_slice hown5; rw [← zints_append] at hown5; have HR5 := Lib.hid (own_read hown5); clear hown5 hg5 hg4 hown4 hb5 hrc5 hs5))
  refine (maj_any A B n c m d vs xs _ hnc hc (by omega) (hra.now hb6) (hrb.now hb6) hxs).mono ?_
  rintro e w7 ⟨rfl, hb7'⟩
  rw [H1.out]
  have hb7 := hb6.trans (hb7'.mono hb6.size)
  have hr5 : Reads w7 w7.heap.size A5 (m + o) (zints (xs ++ ys)) := (HR5.out _ (.inl (Nat.le_refl _))).old hb7' hb7'.size
  clear hb6 hb7' HR5
  have KEY : Hid (∀ w : World, Below W.heap.size W w → Calls Try.prog 16 #[.slice A n c, .slice A n c] w (Says (r2 && r3) w) ∧ Calls Try.prog 16 #[.slice A n c, .slice none 0 0] w (Says false w) ∧ Calls Try.prog 15 #[.slice A n c] w fun e w' => e = .returned (.bool r2) ∧ w = w') := fun w hb =>
    ⟨by rw [← HA.out]; exact maj_any A A n c n c vs vs w hnc hc (by omega) (hra.now hb) (hra.now hb) hvs, by rw [← HO.out]; exact maj_any A none n c 0 0 vs [] w hnc hc (by omega) (hra.now hb) Reads.none_ (fun x hx => by cases hx), by rw [← H2.out]; exact right_any A n c vs _ w hnc hc (hra.now hb)⟩
  cases r1
  · cases r2
    · go_wp2_with (fail)
      refine (KEY.out _ hb7).1.mono ?_
      rintro e w8 ⟨rfl, hb8'⟩
      have hb8 := hb7.trans (hb8'.mono hb7.size)
      simp only [Bool.false_and]
      go_wp2_with (fail)
      refine (KEY.out _ hb8).2.2.mono ?_
      rintro e w9 ⟨rfl, rfl⟩
      go_wp2_with (fail)
      refine (KEY.out _ hb8).2.1.mono ?_
      rintro e w10 ⟨rfl, hb10'⟩
      have hb10 := hb8.trans (hb10'.mono hb8.size)
      go_wp2
      go_ret
      exact ⟨rfl, hb10⟩
    · go_wp2_with (fail)
      refine (KEY.out _ hb7).1.mono ?_
      rintro e w8 ⟨rfl, hb8'⟩
      have hb8 := hb7.trans (hb8'.mono hb7.size)
      simp only [Bool.true_and]
      go_wp2_with (fail)
      refine (KEY.out _ hb8).2.2.mono ?_
      rintro e w9 ⟨rfl, rfl⟩
      cases r3
      all_goals
        go_wp2_with (fail)
        refine (KEY.out _ hb8).2.1.mono ?_
        rintro e w10 ⟨rfl, hb10'⟩
        have hb10 := hb8.trans (hb10'.mono hb8.size)
        go_wp2
        go_ret
        exact ⟨rfl, hb10⟩
  · go_wp2_with (fail)
    refine (maj_any A A5 n c (m + o) c5 vs (xs ++ ys) _ hnc hc (by omega) (hra.now hb7) hr5 HI.out).mono ?_
    rintro e w6 ⟨rfl, hb6'⟩
    rw [HM.out (by first | trivial | rfl)]
    have hb6 := hb7.trans (hb6'.mono hb7.size)
    clear hb7 hb6' hr5
    have hb7 := hb6
    clear hb6
    cases r2
    · go_wp2_with (fail)
      refine (KEY.out _ hb7).1.mono ?_
      rintro e w8 ⟨rfl, hb8'⟩
      have hb8 := hb7.trans (hb8'.mono hb7.size)
      simp only [Bool.false_and]
      go_wp2_with (fail)
      refine (KEY.out _ hb8).2.2.mono ?_
      rintro e w9 ⟨rfl, rfl⟩
      go_wp2_with (fail)
      refine (KEY.out _ hb8).2.1.mono ?_
      rintro e w10 ⟨rfl, hb10'⟩
      have hb10 := hb8.trans (hb10'.mono hb8.size)
      go_wp2
      go_ret
      exact ⟨rfl, hb10⟩
    · go_wp2_with (fail)
      refine (KEY.out _ hb7).1.mono ?_
      rintro e w8 ⟨rfl, hb8'⟩
      have hb8 := hb7.trans (hb8'.mono hb7.size)
      simp only [Bool.true_and]
      go_wp2_with (fail)
      refine (KEY.out _ hb8).2.2.mono ?_
      rintro e w9 ⟨rfl, rfl⟩
      cases r3
      all_goals
        go_wp2_with (fail)
        refine (KEY.out _ hb8).2.1.mono ?_
        rintro e w10 ⟨rfl, hb10'⟩
        have hb10 := hb8.trans (hb10'.mono hb8.size)
        go_wp2
        go_ret
        exact ⟨rfl, hb10⟩

set_option maxHeartbeats 1000000 in
theorem grows_any (A B C : Option Addr) (n c m d o p : Nat) (vs xs ys : List Int) (W : World) (hnc : n ≤ c) (hc : c ≤ 9223372036854775807)
    (hra : Arg W A n vs) (hrb : Arg W B m xs) (hrc : Arg W C o ys) (hvs : inInts vs) (hxs : inInts xs) (hys : inInts ys) :
    Calls Try.prog 7 #[.slice A n c, .slice B m d, .slice C o p] W (Says true W) := by
  by_cases h : n ≤ 30 ∧ m ≤ 60 ∧ o ≤ 60
  · exact grows_in _ _ _ A B C n c m d o p vs xs ys W hnc hc h.1 h.2.1 h.2.2 hra hrb hrc hvs hxs hys (Lib.hid rfl) (Lib.hid rfl) rfl
  · have h2 : (30 : Int) < n ∨ ((n : Int) ≤ 30 ∧ (60 : Int) < m) ∨ ((n : Int) ≤ 30 ∧ (m : Int) ≤ 60 ∧ (60 : Int) < o) := by omega
    clear h
    rcases h2 with h | ⟨h1, h2⟩ | ⟨h1, h2, h3⟩
    all_goals
      go_enter Try.func7, Try.ntmps7
      go_wp2_with (fail)
      refine (anchor_any W).mono ?_
      rintro e w1 ⟨rfl, hb1⟩
      go_wp2
      go_ret
      exact ⟨rfl, hb1⟩

theorem grows_lifted (os : Os) (started : os.Started) (H : Type) (enc : TypeId × Value → H) :
    ReturnsInHanded {} Try.checked os 7 .any (Rows.quorumGrowsSpec.pre6 enc Try.prog Try.f7 Rows.quorumGrowsRow.domain false) (Rows.quorumGrowsSpec.post enc Try.prog Try.f7 false true false false) := by
  refine returnsInHanded_of_change (C := Try.checked) own started (by kernel_rfl) Try.func7
    (ChangeSpec.witness6 (enc := enc) (C := Try.checked) false ⟨#[], #[.slice none 0 0, .slice none 0 0, .slice none 0 0], []⟩ 8 (by kernel_rfl) (by kernel_rfl) (by kernel_rfl) (by kernel_rfl)) ?_
  intro W base args ds gs before hval0 hW _ _
  have hval : ∀ (j : Nat) t v, Try.f7.params[j]? = some t → args[j]? = some v → Value.okWide Try.prog W .any base t v := hval0
  have hW' := hW
  obtain ⟨p, q, hA0, hV, rfl, _, _⟩ := hW
  have hA : DataW.TrodAll enc Try.prog W 0 (fun _ => true) true Try.f7.params.toList args.toList ds p := hA0
  rw [Try.params7] at hA hval
  obtain ⟨v0, vs0, d0, ds0, p0, q0, hargs, rfl, rfl, h0, r0⟩ := trodAll_cons hA
  obtain ⟨v1, vs1, d1, ds1, p1, q1, rfl, rfl, rfl, h1, r1⟩ := trodAll_cons r0
  obtain ⟨v2, vs2, d2, ds2, p2, q2, rfl, rfl, rfl, h2, r2⟩ := trodAll_cons r1
  obtain ⟨rfl, rfl, rfl⟩ := trodAll_nil r2
  obtain rfl : args = #[v0, v1, v2] := by cases args; simp_all
  obtain ⟨rfl, rfl⟩ := trodVars_none hV
  obtain ⟨A0, n0, c0, l0, rfl, hl0, hc0, hm0, hr0, hz0⟩ := open_zints Try.underlying25 Try.underlying3 cells_int (hval 0 25 v0 rfl rfl) h0
  obtain ⟨A1, n1, c1, l1, rfl, hl1, hc1, hm1, hr1, hz1⟩ := open_zints Try.underlying25 Try.underlying3 cells_int (hval 1 25 v1 rfl rfl) h1
  obtain ⟨A2, n2, c2, l2, rfl, hl2, hc2, hm2, hr2, hz2⟩ := open_zints Try.underlying25 Try.underlying3 cells_int (hval 2 25 v2 rfl rfl) h2
  clear hA0
  have hk := grows_any A0 A1 A2 n0 c0 n1 c1 n2 c2 l0 l1 l2 W hc0 hm0 hr0 hr1 hr2 hz0 hz1 hz2
  exact hk.mono fun e W' ⟨he, hb⟩ => ⟨_, he, law_post laid_ok (by kernel_rfl) rfl Try.underlying4 rfl hW' rfl hb⟩

theorem grows_holds : Rows.QuorumGrowsSaid :=
  OpenClaim.holds_of_wide 7 Try.f7 rfl rfl rfl rfl rfl rfl rfl ⟨rfl, rfl, rfl, rfl, rfl⟩ rfl rfl rfl rfl rfl (by kernel_rfl) Try.func7 (by kernel_rfl)
    (of_decide_eq_true (by kernel_rfl)) (by unfold Func.isWrapper; first | (rw [if_pos (by decide +kernel)]; kernel_rfl) | (rw [if_neg (by decide +kernel)]; exact ⟨rfl, rfl⟩))
    (fun os started H enc _ => grows_lifted os started H enc)

end Go.Proofs.Ytacljdpmcndhdaa
