/-
  WHAT IS PROVED: the law QuorumOrder answers true for all arguments, which read behind the call as before it (the order of voters, and of those who say yes, plays no part). No condition beyond those of the given row.
-/
import Derived.Test.YtacljdpmcndhdaaTurn
namespace Go.Proofs.Ytacljdpmcndhdaa
open Go.RowKit Go.Lib Go.ChangeShapes Go.WideShapes Go.ChangeAt Go.WideElems

theorem turn_perm (l : List Int) (a : Nat) : (turnL l a).Perm l := by
  unfold turnL
  have h := List.perm_append_comm (l₁ := l.drop (a % (l.length + 1))) (l₂ := l.take (a % (l.length + 1)))
  rwa [List.take_append_drop] at h
theorem turn_len (l : List Int) (a : Nat) : (turnL l a).length = l.length := (turn_perm l a).length_eq
theorem turn_maj (vs ys : List Int) (a : Nat) : majB (turnL vs a) (turnL ys a) = majB vs ys := maj_perm (turn_perm vs a) (fun _ => (turn_perm ys a).mem_iff)
theorem Arg.later {W w : World} {A : Option Addr} {n : Nat} {l : List Int} (h : Arg W A n l) (hb : Below W.heap.size W w) : Arg w A n l := fun _ hg => (h _ (Nat.le_refl _)).old hb (Nat.le_trans hb.size hg)

set_option maxRecDepth 100000 in
set_option maxHeartbeats 4000000 in
theorem order_in (r1 r2 : Bool) (A B : Option Addr) (n c m d a : Nat) (vs ys : List Int) (W : World) (hnc : n ≤ c) (hc : c ≤ 9223372036854775807) (hmd : m ≤ d) (hd : d ≤ 9223372036854775807) (hn : n ≤ 30) (hm : m ≤ 60) (ha : a ≤ 9223372036854775807)
    (hra : Arg W A n vs) (hrb : Arg W B m ys) (hys : inInts ys) (H1 : Hid (majB vs ys = r1)) (H2 : Hid (rightB vs = r2)) :
    Calls Try.prog 9 #[.slice A n c, .slice B m d, .int .i64 (a : Int)] W (Says true W) := by
  have hblk := Blk.new W 3 #[.int .i64 (a : Int)]
  have hb0 : Below W.heap.size W (W.alloc (.cells #[.int .i64 (a : Int)] 3)) := (Below.refl _ _).alloc (Nat.le_refl _) _
  have HB := Lib.hid hblk
  have HB0 := Lib.hid hb0
  have HRA := Lib.hid (hra.later hb0)
  have HRB := Lib.hid (hrb.later hb0)
  have HT : Hid (inInts (turnL ys a)) := fun x hx => hys x ((turn_perm ys a).mem_iff.1 hx)
  have HM := Lib.hid ((turn_maj vs ys a).trans H1.out)
  have HR2 := Lib.hid ((right_perm (turn_perm vs a)).trans H2.out)
  have HLA := Lib.hid ((turn_len vs a).trans hra.len)
  have HLB := Lib.hid ((turn_len ys a).trans hrb.len)
  clear hblk hb0 hra hrb
  go_enter Try.func9, Try.ntmps9
  go_wp2_with (fail)
  refine (anchor_any _).mono ?_
  rintro e w1 ⟨rfl, hb1⟩
  have hcell1 := (HB.out.below hb1 HB.out.lt).cell 0
  simp at hcell1
  have HK1 := Lib.hid hcell1
  go_wp2_with (fail)
  refine (maj_any A B n c m d vs ys _ hnc hc (by omega) (HRA.out.now hb1) (HRB.out.now hb1) hys).mono ?_
  rintro e w2 ⟨rfl, hb2'⟩
  rw [H1.out]
  have hb2 := hb1.trans (hb2'.mono hb1.size)
  have HK2 := Lib.hid ((HB.out.below hb2 HB.out.lt).cell 0)
  simp at HK2
  clear hb1 hb2' HK1 hcell1
  go_wp2_with (fail)
  refine (turn_any A n c W.heap.size a vs _ hnc hc (by omega) ha HK2.out (HRA.out.later hb2)).mono ?_
  rintro e w3 ⟨hb3', A3, c3, rfl, h3, h3m, hr3⟩
  have hb3 := hb2.trans (hb3'.mono hb2.size)
  have HR3 : Hid (Reads w3 w3.heap.size A3 (turnL vs a).length (zints (turnL vs a))) := hr3 _ (.inl (Nat.le_refl _))
  have HK3 := Lib.hid ((HB.out.below hb3 HB.out.lt).cell 0)
  simp at HK3
  clear hb2 hb3' HK2 hr3
  go_wp2_with (fail)
  refine (turn_any B m d W.heap.size a ys _ hmd hd hm ha HK3.out (HRB.out.later hb3)).mono ?_
  rintro e w4 ⟨hb4', A4, c4, rfl, h4, h4m, hr4⟩
  have hb4 := hb3.trans (hb4'.mono hb3.size)
  have HR4 : Hid (Reads w4 w4.heap.size A4 (turnL ys a).length (zints (turnL ys a))) := hr4 _ (.inl (Nat.le_refl _))
  have HR34 : Hid (Reads w4 w4.heap.size A3 (turnL vs a).length (zints (turnL vs a))) := HR3.out.old hb4' hb4'.size
  have hly : (turnL ys a).length ≤ 9223372036854775807 := by omega
  clear hb3 hb4' HK3 hr4 HR3
  go_wp2_with (fail)
  refine (maj_any A3 A4 _ c3 _ c4 (turnL vs a) (turnL ys a) _ h3 h3m hly HR34.out HR4.out HT.out).mono ?_
  rintro e w5 ⟨rfl, hb5'⟩
  rw [HM.out]
  have hb5 := hb4.trans (hb5'.mono hb4.size)
  have HK5 := Lib.hid ((HB.out.below hb5 HB.out.lt).cell 0)
  simp at HK5
  have HL5 := Lib.hid (HRA.out.later hb5)
  clear hb4 hb5' HR4 HR34 hly h4 h4m h3 h3m
  have hfin : ∀ w, Below (W.alloc (.cells #[.int .i64 (a : Int)] 3)).heap.size (W.alloc (.cells #[.int .i64 (a : Int)] 3)) w → Below W.heap.size W w := fun w hb => HB0.out.trans (hb.mono HB0.out.size)
  have HF := Lib.hid hfin
  clear hfin
  cases r1
  all_goals
    go_wp2_with (fail)
    refine (Right_any A n c vs _ _ hnc hc (HL5.out _ (Nat.le_refl _))).mono ?_
    rintro e w6 ⟨rfl, rfl⟩
    rw [H2.out]
    go_wp2_with (fail)
    refine (turn_any A n c W.heap.size a vs _ hnc hc (by omega) ha HK5.out HL5.out).mono ?_
    rintro e w7 ⟨hb7', A7, c7, rfl, h7, h7m, hr7⟩
    have HR7 : Hid (Reads w7 w7.heap.size A7 (turnL vs a).length (zints (turnL vs a))) := hr7 _ (.inl (Nat.le_refl _))
    have hb7 := hb5.trans (hb7'.mono hb5.size)
    clear hb7' hr7
    go_wp2_with (fail)
    refine (Right_any A7 _ c7 (turnL vs a) _ _ h7 h7m HR7.out).mono ?_
    rintro e w8 ⟨rfl, rfl⟩
    rw [HR2.out]
    cases r2
    all_goals
      go_wp2
      go_ret
      exact ⟨rfl, HF.out _ hb7⟩

set_option maxHeartbeats 1000000 in
theorem order_any (A B : Option Addr) (n c m d : Nat) (z : Int) (vs ys : List Int) (W : World) (hnc : n ≤ c) (hc : c ≤ 9223372036854775807) (hmd : m ≤ d) (hd : d ≤ 9223372036854775807) (hz : -9223372036854775808 ≤ z ∧ z ≤ 9223372036854775807)
    (hra : Arg W A n vs) (hrb : Arg W B m ys) (hys : inInts ys) :
    Calls Try.prog 9 #[.slice A n c, .slice B m d, .int .i64 z] W (Says true W) := by
  by_cases h : n ≤ 30 ∧ m ≤ 60 ∧ 0 ≤ z
  · obtain ⟨a, rfl⟩ := Int.eq_ofNat_of_zero_le h.2.2
    exact order_in _ _ A B n c m d a vs ys W hnc hc hmd hd h.1 h.2.1 (by omega) hra hrb hys (Lib.hid rfl) (Lib.hid rfl)
  · have h2 : (30 : Int) < n ∨ ((n : Int) ≤ 30 ∧ (60 : Int) < m) ∨ ((n : Int) ≤ 30 ∧ (m : Int) ≤ 60 ∧ z < 0) := by omega
    have hb0 : Below W.heap.size W (W.alloc (.cells #[.int .i64 z] 3)) := (Below.refl _ _).alloc (Nat.le_refl _) _
    have HB0 := Lib.hid hb0
    have hcl := (Blk.new W 3 #[.int .i64 z])
    have HCL := Lib.hid hcl
    clear h hb0 hcl
    rcases h2 with h | ⟨h1, h2⟩ | ⟨h1, h2, h3⟩
    all_goals
      go_enter Try.func9, Try.ntmps9
      go_wp2_with (fail)
      refine (anchor_any _).mono ?_
      rintro e w1 ⟨rfl, hb1⟩
      have hcell1 := (HCL.out.below hb1 HCL.out.lt).cell 0
      simp at hcell1
      go_wp2
      go_ret
      exact ⟨rfl, HB0.out.trans (hb1.mono HB0.out.size)⟩

theorem order_lifted (os : Os) (started : os.Started) (H : Type) (enc : TypeId × Value → H) :
    ReturnsInHanded {} Try.checked os 9 .any (Rows.quorumOrderSpec.pre6 enc Try.prog Try.f9 Rows.quorumOrderRow.domain false) (Rows.quorumOrderSpec.post enc Try.prog Try.f9 false true false false) := by
  refine returnsInHanded_of_change (C := Try.checked) own started (by kernel_rfl) Try.func9
    (ChangeSpec.witness6 (enc := enc) (C := Try.checked) false ⟨#[], #[.slice none 0 0, .slice none 0 0, .int .i64 0], []⟩ 8 (by kernel_rfl) (by kernel_rfl) (by kernel_rfl) (by kernel_rfl)) ?_
  intro W base args ds gs before hval0 hW _ _
  have hval : ∀ (j : Nat) t v, Try.f9.params[j]? = some t → args[j]? = some v → Value.okWide Try.prog W .any base t v := hval0
  have hW' := hW
  obtain ⟨p, q, hA0, hV, rfl, _, _⟩ := hW
  have hA : DataW.TrodAll enc Try.prog W 0 (fun _ => true) true Try.f9.params.toList args.toList ds p := hA0
  rw [Try.params9] at hA hval
  obtain ⟨v0, vs0, d0, ds0, p0, q0, hargs, rfl, rfl, h0, r0⟩ := trodAll_cons hA
  obtain ⟨v1, vs1, d1, ds1, p1, q1, rfl, rfl, rfl, h1, r1⟩ := trodAll_cons r0
  obtain ⟨v2, vs2, d2, ds2, p2, q2, rfl, rfl, rfl, h2, r2⟩ := trodAll_cons r1
  obtain ⟨rfl, rfl, rfl⟩ := trodAll_nil r2
  obtain rfl : args = #[v0, v1, v2] := by cases args; simp_all
  obtain ⟨rfl, rfl⟩ := trodVars_none hV
  obtain ⟨A0, n0, c0, l0, rfl, hl0, hc0, hm0, hr0, hz0⟩ := open_zints Try.underlying25 Try.underlying3 cells_int (hval 0 25 v0 rfl rfl) h0
  obtain ⟨A1, n1, c1, l1, rfl, hl1, hc1, hm1, hr1, hz1⟩ := open_zints Try.underlying25 Try.underlying3 cells_int (hval 1 25 v1 rfl rfl) h1
  obtain ⟨z2, rfl, rfl, rfl, wz2⟩ := open_int Try.underlying3 (hval 2 3 v2 rfl rfl) h2
  clear hA0
  have hk := order_any A0 A1 n0 c0 n1 c1 z2 l0 l1 W hc0 hm0 hc1 hm1 (wf_i64 wz2) hr0 hr1 hz1
  exact hk.mono fun e W' ⟨he, hb⟩ => ⟨_, he, law_post laid_ok (by kernel_rfl) rfl Try.underlying4 rfl hW' rfl hb⟩

theorem order_holds : Rows.QuorumOrderSaid :=
  OpenClaim.holds_of_wide 9 Try.f9 rfl rfl rfl rfl rfl rfl rfl ⟨rfl, rfl, rfl, rfl, rfl⟩ rfl rfl rfl rfl rfl (by kernel_rfl) Try.func9 (by kernel_rfl)
    (of_decide_eq_true (by kernel_rfl)) (by unfold Func.isWrapper; first | (rw [if_pos (by decide +kernel)]; kernel_rfl) | (rw [if_neg (by decide +kernel)]; exact ⟨rfl, rfl⟩))
    (fun os started H enc _ => order_lifted os started H enc)

end Go.Proofs.Ytacljdpmcndhdaa
