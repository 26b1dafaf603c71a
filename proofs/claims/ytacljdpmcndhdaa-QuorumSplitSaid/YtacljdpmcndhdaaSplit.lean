/-
  WHAT IS PROVED: the law QuorumSplit answers true for all arguments, which read behind the call as before it (of voters who grant to one of any number at most one has a majority). No condition beyond those of the given row.
-/
import Derived.Test.YtacljdpmcndhdaaArg
namespace Go.Proofs.Ytacljdpmcndhdaa
open Go.RowKit Go.Lib Go.ChangeShapes Go.WideShapes Go.ChangeAt Go.WideElems

/-- how many of the first k choices had a majority: one at most -/
def Wins (vs : List Int) (cs : List Int) (k q : Nat) : Prop :=
  (q = 0 ∧ ∀ c : Nat, c < k → majB vs (sel vs cs (c : Int) vs.length) = false) ∨ (q = 1 ∧ ∃ c : Nat, c < k ∧ majB vs (sel vs cs (c : Int) vs.length) = true)
theorem Wins.le {vs cs : List Int} {k q : Nat} (h : Wins vs cs k q) : q ≤ 1 := by rcases h with ⟨h, _⟩ | ⟨h, _⟩ <;> omega
theorem Wins.no {vs cs : List Int} {k q : Nat} (h : Wins vs cs k q) (hm : majB vs (sel vs cs (k : Int) vs.length) = false) : Wins vs cs (k + 1) q := by
  rcases h with ⟨h, h2⟩ | ⟨h, c, h2, h3⟩
  · refine .inl ⟨h, fun c hc => ?_⟩
    by_cases e : c = k
    · subst e; exact hm
    · exact h2 c (by omega)
  · exact .inr ⟨h, c, by omega, h3⟩
theorem Wins.yes {vs cs : List Int} {k q : Nat} (hr : rightB vs = true) (h : Wins vs cs k q) (hm : majB vs (sel vs cs (k : Int) vs.length) = true) : q = 0 ∧ Wins vs cs (k + 1) 1 := by
  rcases h with ⟨h, h2⟩ | ⟨h, c, h2, h3⟩
  · exact ⟨h, .inr ⟨rfl, k, by omega, hm⟩⟩
  · have := sel_maj hr h3 hm
    omega

set_option maxRecDepth 100000 in
set_option maxHeartbeats 2000000 in
theorem split_in (A B : Option Addr) (n c m d : Nat) (vs cs : List Int) (W : World) (hnc : n ≤ c) (hc : c ≤ 9223372036854775807) (hm : m ≤ 60) (hra : Arg W A n vs) (hrb : Arg W B m cs) (hr : rightB vs = true) :
    Calls Try.prog 8 #[.slice A n c, .slice B m d] W (Says true W) := by
  have HL := Lib.hid hra.len
  have HLC := Lib.hid hrb.len
  have HR := Lib.hid hr
  have h16 : n ≤ 16 := by have := (right_iff.1 hr).1; have := hra.len; omega
  have HD : Hid (inInts vs) := ids_in hr
  obtain ⟨i0, hi0, hz0, hz1, hz2⟩ := info_parts int_info
  have HI0 : Hid (Try.prog.info? 3 = some i0) := hi0
  have HZ0 := Lib.hid hz0
  have HZ1 := Lib.hid hz1
  have HZ2 := Lib.hid hz2
  clear hi0 hz0 hz1 hz2 hr
  go_enter Try.func8, Try.ntmps8
  go_wp2_with (fail)
  refine (anchor_any W).mono ?_
  rintro e w1 ⟨rfl, hb1⟩
  go_wp2_with (fail)
  refine (right_any A n c vs _ _ hnc hc (hra.now hb1)).mono ?_
  rintro e w2 ⟨rfl, rfl⟩
  rw [HR.out]
  go_wp2
  go_loopw [5, 20] (fun wn ci wr => ∃ k q : Nat, k ≤ 16 ∧ ci = .int .i64 k ∧ wn = .int .i64 q ∧ Wins vs cs k q ∧ Below W.heap.size W wr) (fun _ ci _ => 16 - (intOf ci).toNat)
  case atStart => exact ⟨0, 0, by omega, rfl, rfl, .inl ⟨rfl, fun c hc => absurd hc (by omega)⟩, hb1⟩
  case round =>
    obtain ⟨k, q, hk, rfl, rfl, hw, hb⟩ := hrel
    have hq := hw.le
    have HW := Lib.hid hw
    clear hw
    by_cases hlt : k < 16
    · have hbs := hb.size
      have hd16 : decide ((k : Int) < 16) = true := by simp; omega
      go_wp2
      obtain ⟨wo, rfl⟩ : ∃ wo : World, wo = wr := ⟨_, rfl⟩
      go_loopw [7, 25] (fun va i wi => ∃ j : Nat, j ≤ n ∧ i = .int .i64 j ∧ Below W.heap.size W wi ∧ wi.ownsRow W.heap.size 3 1 va (sel vs cs (k : Int) j).length (zints (sel vs cs (k : Int) j))) (fun _ i _ => n - (intOf i).toNat)
      case atStart => exact ⟨0, by omega, rfl, hb, rfl, .inl ⟨rfl, rfl⟩⟩
      case round =>
        obtain ⟨j, hj, rfl, hbi, hown⟩ := hrel
        have hle := sel_le vs cs (k : Int) j
        by_cases hjn : j < n
        · obtain ⟨ad, u, rfl, hu, hcell⟩ := (hra.now hbi).at_ hjn
          obtain ⟨z, hz, rfl⟩ := zints_at hu
          clear hu
          by_cases hjm : j < m
          · obtain ⟨adb, u, rfl, hu, hcellb⟩ := (hrb.now hbi).at_ hjm
            obtain ⟨y, hy, rfl⟩ := zints_at hu
            clear hu
            have hbis := hbi.size
            by_cases hyk : y = (k : Int)
            · subst hyk
              have HS := Lib.hid (sel_yes hz hy)
              clear hz hy
              generalize sel vs cs (k : Int) j = F at *
              go_wp2_with (at_builtin; refine wpList_append_own _ rfl _ _ 25 rfl W.heap.size 3 i0 (.int .i64 0) 1 8 Try.underlying25 HI0.out HZ0.out HZ1.out HZ2.out rfl (by decide) _ _ _ rfl (hown.alloc _) ⟨wr.heap.size, 0, none⟩ 1 1 [.int .i64 z] rfl rfl (cell_one_new _ _ _) (by simp [Value.oneCell']) (by unfold maxLen; omega) (by omega) (by simp; omega) ?_; intro v' w3 hown' hg3 _)
              have hb4 : Below W.heap.size W w3 := (hbi.alloc hbis _).grown hg3 (by simp; omega) (fun g e => (hown.lt g e).1)
              go_wp2
              go_roundw
              case rel => exact ⟨j + 1, by omega, by go_num, hb4, by rw [HS.out, zints_append]; simpa [zints] using hown'⟩
              case measure => simp [intOf]; omega
            · have HS := Lib.hid (sel_no hz hy hyk)
              have ht : (y == (k : Int)) = false := by simpa using hyk
              clear hz hy hyk
              generalize sel vs cs (k : Int) j = F at *
              go_wp2
              go_roundw
              case rel => exact ⟨j + 1, by omega, by go_num, hbi, by rw [HS.out]; exact hown⟩
              case measure => simp [intOf]; omega
          · have HS : Hid (sel vs cs (k : Int) (j + 1) = sel vs cs (k : Int) j) := sel_past (by have := HLC.out; omega)
            clear hz
            generalize sel vs cs (k : Int) j = F at *
            go_wp2
            go_roundw
            case rel => exact ⟨j + 1, by omega, by go_num, hbi, by rw [HS.out]; exact hown⟩
            case measure => simp [intOf]; omega
        · obtain rfl : j = n := by omega
          obtain ⟨A5, c5, rfl, hc5, hc5m⟩ := own_slice hown
          have HR5 := Lib.hid (own_read hown _ (.inl (Nat.le_refl _)))
          have HIN : Hid (inInts (sel vs cs (k : Int) j)) := fun x hx => HD.out x (List.mem_of_mem_take (sel_sub hx))
          obtain ⟨r, HM⟩ : ∃ r, Hid (majB vs (sel vs cs (k : Int) j) = r) := ⟨_, Lib.hid rfl⟩
          have HM2 : Hid (majB vs (sel vs cs (k : Int) vs.length) = r) := by show _ = _; rw [HL.out]; exact HM.out
          clear hown
          generalize sel vs cs (k : Int) j = F at *
          go_wp2_with (fail)
          refine (maj_any A A5 j c _ c5 vs F _ hnc hc (by omega) (hra.now hbi) HR5.out HIN.out).mono ?_
          rintro e w3 ⟨rfl, hb3'⟩
          rw [HM.out]
          have hb3 := hbi.trans (hb3'.mono hbi.size)
          clear hbi hb3' HR5 hb
          cases r
          · have HN := Lib.hid (HW.out.no HM2.out)
            go_wp2
            go_roundw
            case rel => exact ⟨k + 1, q, by omega, by go_num, rfl, HN.out, hb3⟩
            case measure => simp [intOf]; omega
          · obtain ⟨rfl, hn⟩ := HW.out.yes HR.out HM2.out
            have HN := Lib.hid hn
            clear hn
            go_wp2
            go_roundw
            case rel => exact ⟨k + 1, 1, by omega, by go_num, rfl, HN.out, hb3⟩
            case measure => simp [intOf]; omega
    · obtain rfl : k = 16 := by omega
      have hq2 : (q : Int) ≤ 1 := by omega
      go_wp2
      go_ret
      exact ⟨rfl, hb⟩

set_option maxHeartbeats 1000000 in
theorem split_any (A B : Option Addr) (n c m d : Nat) (vs cs : List Int) (W : World) (hnc : n ≤ c) (hc : c ≤ 9223372036854775807) (hra : Arg W A n vs) (hrb : Arg W B m cs) :
    Calls Try.prog 8 #[.slice A n c, .slice B m d] W (Says true W) := by
  by_cases h : rightB vs = true ∧ m ≤ 60
  · exact split_in A B n c m d vs cs W hnc hc h.2 hra hrb h.1
  · have h2 : Hid (rightB vs = false) ∨ Hid (rightB vs = true) ∧ 60 < m := by
      by_cases hr : rightB vs = true
      · exact .inr ⟨Lib.hid hr, by have : ¬ m ≤ 60 := fun hm => h ⟨hr, hm⟩; omega⟩
      · exact .inl (Lib.hid (by simpa using hr))
    clear h
    rcases h2 with HR | ⟨HR, hm⟩
    all_goals
      go_enter Try.func8, Try.ntmps8
      go_wp2_with (fail)
      refine (anchor_any W).mono ?_
      rintro e w1 ⟨rfl, hb1⟩
      go_wp2_with (fail)
      refine (right_any A n c vs _ _ hnc hc (hra.now hb1)).mono ?_
      rintro e w2 ⟨rfl, rfl⟩
      rw [HR.out]
      go_wp2
      go_ret
      exact ⟨rfl, hb1⟩

theorem split_lifted (os : Os) (started : os.Started) (H : Type) (enc : TypeId × Value → H) :
    ReturnsInHanded {} Try.checked os 8 .any (Rows.quorumSplitSpec.pre6 enc Try.prog Try.f8 Rows.quorumSplitRow.domain false) (Rows.quorumSplitSpec.post enc Try.prog Try.f8 false true false false) := by
  refine returnsInHanded_of_change (C := Try.checked) own started (by kernel_rfl) Try.func8
    (ChangeSpec.witness6 (enc := enc) (C := Try.checked) false ⟨#[], #[.slice none 0 0, .slice none 0 0], []⟩ 8 (by kernel_rfl) (by kernel_rfl) (by kernel_rfl) (by kernel_rfl)) ?_
  intro W base args ds gs before hval0 hW _ _
  have hval : ∀ (j : Nat) t v, Try.f8.params[j]? = some t → args[j]? = some v → Value.okWide Try.prog W .any base t v := hval0
  have hW' := hW
  obtain ⟨p, q, hA0, hV, rfl, _, _⟩ := hW
  have hA : DataW.TrodAll enc Try.prog W 0 (fun _ => true) true Try.f8.params.toList args.toList ds p := hA0
  rw [Try.params8] at hA hval
  obtain ⟨v0, vs0, d0, ds0, p0, q0, hargs, rfl, rfl, h0, r0⟩ := trodAll_cons hA
  obtain ⟨v1, vs1, d1, ds1, p1, q1, rfl, rfl, rfl, h1, r1⟩ := trodAll_cons r0
  obtain ⟨rfl, rfl, rfl⟩ := trodAll_nil r1
  obtain rfl : args = #[v0, v1] := by cases args; simp_all
  obtain ⟨rfl, rfl⟩ := trodVars_none hV
  obtain ⟨A0, n0, c0, l0, rfl, hl0, hc0, hm0, hr0, hz0⟩ := open_zints Try.underlying25 Try.underlying3 cells_int (hval 0 25 v0 rfl rfl) h0
  obtain ⟨A1, n1, c1, l1, rfl, hl1, hc1, hm1, hr1, hz1⟩ := open_zints Try.underlying25 Try.underlying3 cells_int (hval 1 25 v1 rfl rfl) h1
  clear hA0
  have hk := split_any A0 A1 n0 c0 n1 c1 l0 l1 W hc0 hm0 hr0 hr1
  exact hk.mono fun e W' ⟨he, hb⟩ => ⟨_, he, law_post laid_ok (by kernel_rfl) rfl Try.underlying4 rfl hW' rfl hb⟩

theorem split_holds : Rows.QuorumSplitSaid :=
  OpenClaim.holds_of_wide 8 Try.f8 rfl rfl rfl rfl rfl rfl rfl ⟨rfl, rfl, rfl, rfl, rfl⟩ rfl rfl rfl rfl rfl (by kernel_rfl) Try.func8 (by kernel_rfl)
    (of_decide_eq_true (by kernel_rfl)) (by unfold Func.isWrapper; first | (rw [if_pos (by decide +kernel)]; kernel_rfl) | (rw [if_neg (by decide +kernel)]; exact ⟨rfl, rfl⟩))
    (fun os started H enc _ => split_lifted os started H enc)

end Go.Proofs.Ytacljdpmcndhdaa
