/-
  WHAT IS PROVED: the law RankRises answers true for all arguments, which read behind the call as before it (a replica that has more never stands further behind, and no other one further ahead). No condition beyond those of the given row.
-/
import Derived.Test.YtdeppjoehnlbnaaRow
namespace Go.Proofs.Ytdeppjoehnlbnaa
open Go.RowKit Go.Lib Go.Sort Go.ChangeShapes Go.WideShapes Go.ChangeAt Go.WideElems

/-- each replica's twin, and how its rank goes -/
theorem rise_step {l : List Rep} {k : Nat} {r : Rep} (hr : l[k]? = some r) {d : Int} (hd : 0 ≤ d) :
    ∀ i s, l[i]? = some s → s ∈ l ∧ ∃ s' : Rep, s'.id = s.id ∧ s' ∈ l.set k ⟨r.id, r.off + d⟩ ∧ (i = k → cnt (l.set k ⟨r.id, r.off + d⟩) s' ≤ cnt l s) ∧ (i ≠ k → cnt l s ≤ cnt (l.set k ⟨r.id, r.off + d⟩) s') := fun i s hs => by
  have hk : k < l.length := (List.getElem?_eq_some_iff.1 hr).1
  refine ⟨List.mem_of_getElem? hs, ?_⟩
  by_cases h : i = k
  · subst h
    obtain rfl : s = r := by rw [hr] at hs; injection hs with e; exact e.symm
    exact ⟨⟨s.id, s.off + d⟩, rfl, List.mem_of_getElem? (List.getElem?_set_self hk), fun _ => rise_self hr hd, fun h => absurd rfl h⟩
  · exact ⟨s, rfl, List.mem_of_getElem? ((List.getElem?_set_ne (fun e => h e.symm)).trans hs), fun e => absurd e h, fun _ => rise_other hr hd⟩

set_option maxRecDepth 100000 in
set_option maxHeartbeats 2000000 in
theorem rises_bad (A : Option Addr) (n c : Nat) (l : List Rep) (z d : Int) (W : World) (hnc : n ≤ c) (hr : RepsAt W A n l) (h : Hid (rightB l = false)) :
    Calls Try.prog 9 #[.slice A n c, .int .i64 z, .int .i64 d] W (Says true W) := by
  have HR := Lib.hid hr
  clear hr
  go_enter Try.func9, Try.ntmps9
  go_wp2_with (fail)
  refine (anchor_any W).mono ?_
  rintro e w1 ⟨rfl, hb1⟩
  go_wp2_with (fail)
  refine (right_any A n c l _ hnc (HR.out.below hb1)).mono ?_
  rintro e w2 ⟨rfl, hb2⟩
  rw [h.out]
  have hb3 := hb1.trans (hb2.mono hb1.size)
  clear hb1 hb2
  go_wp2
  go_ret
  exact ⟨rfl, hb3⟩

set_option maxRecDepth 100000 in
set_option maxHeartbeats 2000000 in
theorem rises_skip (A : Option Addr) (n c : Nat) (l : List Rep) (z d : Int) (W : World) (hnc : n ≤ c) (hr : RepsAt W A n l) (h : Hid (rightB l = true))
    (hcase : z < 0 ∨ (decide (z < 0) = false ∧ (n : Int) ≤ z) ∨ (decide (z < 0) = false ∧ decide ((n : Int) ≤ z) = false ∧ d < 0)) :
    Calls Try.prog 9 #[.slice A n c, .int .i64 z, .int .i64 d] W (Says true W) := by
  have HR := Lib.hid hr
  clear hr
  go_enter Try.func9, Try.ntmps9
  go_wp2_with (fail)
  refine (anchor_any W).mono ?_
  rintro e w1 ⟨rfl, hb1⟩
  go_wp2_with (fail)
  refine (right_any A n c l _ hnc (HR.out.below hb1)).mono ?_
  rintro e w2 ⟨rfl, hb2⟩
  rw [h.out]
  have hb3 := hb1.trans (hb2.mono hb1.size)
  clear hb1 hb2
  rcases hcase with g | ⟨g, g2⟩ | ⟨g, g2, g3⟩
  all_goals (go_wp2; go_ret; exact ⟨rfl, hb3⟩)

set_option maxRecDepth 100000 in
set_option maxHeartbeats 2000000 in
theorem rises_far (A : Option Addr) (n c k : Nat) (l : List Rep) (r : Rep) (d : Int) (W : World) (hnc : n ≤ c) (hr : RepsAt W A n l) (h : Hid (rightB l = true)) (hk : l[k]? = some r) (hd : 0 ≤ d) (hf : 281474976710656 - r.off < d) :
    Calls Try.prog 9 #[.slice A n c, .int .i64 k, .int .i64 d] W (Says true W) := by
  have hkn : k < n := by have := hr.1; have := (List.getElem?_eq_some_iff.1 hk).1; omega
  have hro := ok_iff.1 ((right_iff.1 h.out).2.1 r (List.mem_of_getElem? hk))
  have ho0 := hro.2.2.1
  have ho1 := hro.2.2.2
  have hd' : decide (d < 0) = false := by simp; omega
  have HR := Lib.hid hr
  have HK := Lib.hid hk
  clear hr hk hro hd
  go_enter Try.func9, Try.ntmps9
  go_wp2_with (fail)
  refine (anchor_any W).mono ?_
  rintro e w1 ⟨rfl, hb1⟩
  go_wp2_with (fail)
  refine (right_any A n c l _ hnc (HR.out.below hb1)).mono ?_
  rintro e w2 ⟨rfl, hb2⟩
  rw [h.out]
  have hb3 := hb1.trans (hb2.mono hb1.size)
  clear hb1 hb2
  obtain ⟨ad, r', rfl, hr0, _, c0, c1⟩ := (HR.out.below hb3).at_ hkn
  obtain rfl : r' = r := by have := HK.out; rw [hr0] at this; injection this
  clear hr0
  go_wp2
  go_ret
  exact ⟨rfl, hb3⟩

set_option maxRecDepth 100000 in
set_option maxHeartbeats 8000000 in
theorem rises_main (A : Option Addr) (n c k : Nat) (l : List Rep) (r : Rep) (d : Int) (W : World) (hnc : n ≤ c) (hr : RepsAt W A n l) (h : Hid (rightB l = true)) (hk : l[k]? = some r) (hd : 0 ≤ d) (hf : d ≤ 281474976710656 - r.off) :
    Calls Try.prog 9 #[.slice A n c, .int .i64 k, .int .i64 d] W (Says true W) := by
  obtain ⟨i0, hi0, hz0, hz1, hz2⟩ := info_parts rep_info
  have HI0 : Hid (Try.prog.info? 29 = some i0) := hi0
  have HZ0 := Lib.hid hz0
  have HZ1 := Lib.hid hz1
  have HZ2 := Lib.hid hz2
  clear hi0 hz0 hz1 hz2
  have hkn : k < n := by have := hr.1; have := (List.getElem?_eq_some_iff.1 hk).1; omega
  have hn16 : n ≤ 16 := by have := hr.1; have := (right_iff.1 h.out).1; omega
  have hro := ok_iff.1 ((right_iff.1 h.out).2.1 r (List.mem_of_getElem? hk))
  have ho0 := hro.2.2.1
  have ho1 := hro.2.2.2
  have hd' : decide (d < 0) = false := by simp; omega
  have hf' : decide (281474976710656 - r.off < d) = false := by simp; omega
  have HRR := Lib.hid (rise_right hk h.out hd hf)
  have HSTEP := Lib.hid (rise_step hk hd)
  have HR := Lib.hid hr
  have HK := Lib.hid hk
  have hsum : r.off + d ≤ 281474976710656 := by omega
  clear hr hk hro hf
  go_enter Try.func9, Try.ntmps9
  go_wp2_with (fail)
  refine (anchor_any W).mono ?_
  rintro e w1 ⟨rfl, hb1⟩
  go_wp2_with (fail)
  refine (right_any A n c l _ hnc (HR.out.below hb1)).mono ?_
  rintro e w2 ⟨rfl, hb2⟩
  rw [h.out]
  have hb3 := hb1.trans (hb2.mono hb1.size)
  clear hb1 hb2
  obtain ⟨ad, r', rfl, hr0, _, c0, c1⟩ := (HR.out.below hb3).at_ hkn
  obtain rfl : r' = r := by have := HK.out; rw [hr0] at this; injection this
  clear hr0
  have HB3 := Lib.hid hb3
  have hba := below_alloc hb3 (.cells #[] 29)
  have HRA := Lib.hid (HR.out.below hba)
  have HOWN : Hid ((w2.alloc (.cells #[] 29)).ownsRow W.heap.size 29 2 (.slice (some ⟨w2.heap.size, 0, none⟩) 0 0) 0 (flatR [])) := World.ownsRow_made w2 #[] 0 hb3.size (Nat.zero_le _) rfl
  have HBA := Lib.hid hba
  clear hb3 hba
  go_wp2_with (at_builtin; refine wpList_append_reps _ rfl (.tmp 43) (.tmp 44) 22 rfl W.heap.size 29 i0 _ Try.underlying22 HI0.out HZ0.out HZ1.out HZ2.out rfl _ 0 [] rfl HOWN.out (some ad) n c l rfl HRA.out (by omega) HBA.out.size ?_; intro v4 w4 hown4 hg4 _; rw [Nat.zero_add, List.nil_append] at hown4; have hb4 : Below W.heap.size W w4 := HBA.out.grown hg4 HBA.out.size (fun j e => (HOWN.out.lt j e).1); obtain ⟨am, cm, rfl, hm1, hm2, hm3, hm4, hm5, hm6, hm7, hm8⟩ := own_set hown4 HK.out; have HM8 : Hid (∀ x, RepsAt (w4.setCell ⟨(am.add (k * 2)).block, (am.add (k * 2)).off + 1, none⟩ (.int .i64 x)) (some am) n (l.set k ⟨r'.id, x⟩) ∧ Below W.heap.size W (w4.setCell ⟨(am.add (k * 2)).block, (am.add (k * 2)).off + 1, none⟩ (.int .i64 x))) := fun x => ⟨hm8 x, hb4.setCell (by rw [hm7]; exact hm3) _⟩; clear hown4 hg4 hb4 hm8 hm3 hm7)
  obtain ⟨hrm, hb5⟩ := HM8.out (r'.off + d)
  have HL := Lib.hid HR.out.1
  have HRL := Lib.hid (HR.out.below hb5)
  have HRM := Lib.hid hrm
  clear HM8 hrm HRA HOWN HBA HB3 c0 c1 hm4 hm5 hm6 HR
  generalize w4.setCell ⟨(am.add (k * 2)).block, (am.add (k * 2)).off + 1, none⟩ (.int .i64 (r'.off + d)) = w5 at *
  generalize l.set k ⟨r'.id, r'.off + d⟩ = lm at *
  go_loopw [57] (fun i wr => ∃ j : Nat, j ≤ n ∧ i = .int .i64 j ∧ Below w5.heap.size w5 wr) (fun i _ => n - (intOf i).toNat)
  case atStart => exact ⟨0, by omega, rfl, Below.refl _ _⟩
  case round =>
    obtain ⟨j, hj, rfl, hb⟩ := hrel
    by_cases hlt : j < n
    · obtain ⟨ad', s, hadd, hs0, _, c0, c1⟩ := (HRL.out.below hb).at_ hlt
      cases hadd
      have HB := Lib.hid (below_alloc hb (.cells #[.int .i64 s.id, .int .i64 s.off] 29))
      have HBX := Lib.hid (BoxAt.new wr s)
      obtain ⟨hm, s', hid, hm', hself, hother⟩ := HSTEP.out j s hs0
      obtain ⟨a, HA⟩ : ∃ a, Hid (cnt l s = a) := ⟨_, Lib.hid rfl⟩
      obtain ⟨b, HC⟩ : ∃ b, Hid (cnt lm s' = b) := ⟨_, Lib.hid rfl⟩
      have K2 : Hid (∀ W2, Below w5.heap.size w5 W2 → Calls Try.prog 14 #[.slice (some am) n cm, .int .i64 s.id] W2 fun e w' => e = .returned (.tuple #[.int .i64 b, .int .i64 0]) ∧ Below W2.heap.size W2 w') := fun W2 h2 => by
        rw [← hid]
        exact rank_of (some am) n cm lm s' b W2 hm1 (HRM.out.below h2) HRR hm' HC
      have K1 : Hid (∀ W2, Below w5.heap.size w5 W2 → Calls Try.prog 14 #[.slice (some ad) n c, .int .i64 s.id] W2 fun e w' => e = .returned (.tuple #[.int .i64 a, .int .i64 0]) ∧ Below W2.heap.size W2 w') := fun W2 h2 => rank_of (some ad) n c l s a W2 hnc (HRL.out.below h2) h hm HA
      have hab : (j = k ∧ decide (a < b) = false) ∨ (¬ j = k ∧ decide (b < a) = false) := by
        by_cases e : j = k
        · have := hself e
          rw [HA.out, HC.out] at this
          exact .inl ⟨e, by simpa using this⟩
        · have := hother e
          rw [HA.out, HC.out] at this
          exact .inr ⟨e, by simpa using this⟩
      clear hb hself hother hm hm' hid hs0 HA HC
      go_wp2_with (fail)
      refine (K1.out _ HB.out).mono ?_
      rintro e w6 ⟨rfl, hb6'⟩
      obtain ⟨b0, b1⟩ := HBX.out.below hb6'
      have hb6 := HB.out.trans (hb6'.mono HB.out.size)
      clear hb6' HB K1
      go_wp2_with (fail)
      refine (K2.out _ hb6).mono ?_
      rintro e w7 ⟨rfl, hb7'⟩
      have hb7 := hb6.trans (hb7'.mono hb6.size)
      clear hb7' hb6 K2 b0 b1 HBX
      rcases hab with ⟨e, g⟩ | ⟨e, g⟩
      · subst e
        go_wp2
        go_roundw
        case rel => exact ⟨j + 1, by omega, by go_num, hb7⟩
        case measure => simp [intOf]; omega
      · go_wp2
        go_roundw
        case rel => exact ⟨j + 1, by omega, by go_num, hb7⟩
        case measure => simp [intOf]; omega
    · obtain rfl : j = n := by omega
      go_wp2
      go_ret
      exact ⟨rfl, hb5.trans (hb.mono hb5.size)⟩

theorem rises_any (A : Option Addr) (n c : Nat) (l : List Rep) (z d : Int) (W : World) (hnc : n ≤ c) (hr : RepsAt W A n l) :
    Calls Try.prog 9 #[.slice A n c, .int .i64 z, .int .i64 d] W (Says true W) := by
  cases h : rightB l with
  | false => exact rises_bad A n c l z d W hnc hr h
  | true =>
    rcases Int.lt_or_le z 0 with h1 | h1
    · exact rises_skip A n c l z d W hnc hr h (.inl h1)
    · have g1 : decide (z < 0) = false := by simp; omega
      rcases Int.lt_or_le z n with h2 | h2
      · have g2 : decide ((n : Int) ≤ z) = false := by simp; omega
        rcases Int.lt_or_le d 0 with h3 | h3
        · exact rises_skip A n c l z d W hnc hr h (.inr (.inr ⟨g1, g2, h3⟩))
        · obtain ⟨k, rfl⟩ : ∃ k : Nat, z = k := ⟨z.toNat, by omega⟩
          have hk : k < l.length := by have := hr.1; omega
          have hk' := List.getElem?_eq_getElem hk
          rcases Int.lt_or_le (281474976710656 - l[k].off) d with h4 | h4
          · exact rises_far A n c k l _ d W hnc hr h hk' h3 h4
          · exact rises_main A n c k l _ d W hnc hr h hk' h3 h4
      · exact rises_skip A n c l z d W hnc hr h (.inr (.inl ⟨g1, h2⟩))

theorem rises_lifted (os : Os) (started : os.Started) (H : Type) (enc : TypeId × Value → H) :
    ReturnsInHanded {} Try.checked os 9 .any (Rows.rankRisesSpec.pre6 enc Try.prog Try.f9 Rows.rankRisesRow.domain false) (Rows.rankRisesSpec.post enc Try.prog Try.f9 false true false false) := by
  refine returnsInHanded_of_change (C := Try.checked) own started (by kernel_rfl) Try.func9
    (ChangeSpec.witness6 (enc := enc) (C := Try.checked) false ⟨#[], #[.slice none 0 0, .int .i64 0, .int .i64 0], []⟩ 8 (by kernel_rfl) (by kernel_rfl) (by kernel_rfl) (by kernel_rfl)) ?_
  intro W base args ds gs before hval0 hW _ _
  have hval : ∀ (j : Nat) t v, Try.f9.params[j]? = some t → args[j]? = some v → Value.okWide Try.prog W .any base t v := hval0
  have hW' := hW
  obtain ⟨p, q, hA0, hV, rfl, _, _⟩ := hW
  have hA : DataW.TrodAll enc Try.prog W 0 (fun _ => true) true Try.f9.params.toList args.toList ds p := hA0
  rw [Try.params9] at hA hval
  obtain ⟨v0, vs0, d0, ds0, p0, q0, hargs, rfl, rfl, h0, r0⟩ := trodAll_cons hA
  obtain ⟨v1, vs1, d1, ds1, p1, q1, rfl, rfl, rfl, h1, r1⟩ := trodAll_cons r0
  obtain ⟨v2, vs2, d2, ds2, p2, q2, rfl, rfl, rfl, h2, r2⟩ := trodAll_cons r1
  obtain ⟨rfl, rfl, rfl⟩ := trodAll_nil r2
  obtain rfl : args = #[v0, v1, v2] := by cases args; simp_all
  obtain ⟨rfl, rfl⟩ := trodVars_none hV
  obtain ⟨A0, n0, c0, l0, rfl, hl0, hc0, hm0, hr0, hz0⟩ := open_reps (hval 0 22 v0 rfl rfl) h0
  obtain ⟨z1, rfl, rfl, rfl, wz1⟩ := open_int Try.underlying3 (hval 1 3 v1 rfl rfl) h1
  obtain ⟨z2, rfl, rfl, rfl, wz2⟩ := open_int Try.underlying3 (hval 2 3 v2 rfl rfl) h2
  clear hA0
  have hk := rises_any A0 n0 c0 l0 z1 z2 W hc0 hr0
  exact hk.mono fun e W' ⟨he, hb⟩ => ⟨_, he, law_post laid_ok (by kernel_rfl) rfl Try.underlying4 rfl hW' rfl hb⟩

theorem rises_holds : Rows.RankRisesSaid :=
  OpenClaim.holds_of_wide 9 Try.f9 rfl rfl rfl rfl rfl rfl rfl ⟨rfl, rfl, rfl, rfl, rfl⟩ rfl rfl rfl rfl rfl (by kernel_rfl) Try.func9 (by kernel_rfl)
    (of_decide_eq_true (by kernel_rfl)) (by unfold Func.isWrapper; first | (rw [if_pos (by decide +kernel)]; kernel_rfl) | (rw [if_neg (by decide +kernel)]; exact ⟨rfl, rfl⟩))
    (fun os started H enc _ => rises_lifted os started H enc)

end Go.Proofs.Ytdeppjoehnlbnaa
