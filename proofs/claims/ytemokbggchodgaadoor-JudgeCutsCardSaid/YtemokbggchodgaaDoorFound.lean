/-
  WHAT IS PROVED: Unfounded answers the first place of a win without votes. Condition: the events are there, at most 1000.
-/
import Derived.Test.YtemokbggchodgaaDoorCount
import Derived.Test.YtemokbggchodgaaDoorLater
import Derived.Carry
namespace Go.Proofs.YtemokbggchodgaaDoor
open Go.RowKit Go.Lib
set_option maxRecDepth 100000

set_option maxHeartbeats 4000000 in
theorem unfounded_any (w : World) (F : Nat → Prop) (A : Option Addr) (N c : Nat) (l : List Ev) (hr : Rd w F 5 A N (flatE l)) (hg : ∀ e ∈ l, OkE w F e) (hN : N ≤ 1000) :
    Calls Tryd.prog 10 #[.slice A N c] w fun e w' => e = .returned (.int .i64 (firstF (badW l) N 0)) ∧ Below w.heap.size w w' := by
  have HR := Lib.hid hr
  have HG := Lib.hid hg
  obtain ⟨w0, hw0⟩ : ∃ x, w.alloc (.map #[] 0) = x := ⟨_, rfl⟩
  have HB0 : Hid (Below w.heap.size w w0) := Lib.hid (by rw [← hw0]; exact (Below.refl _ _).alloc (Nat.le_refl _) _)
  have HS0 : Hid (Vo.SetAt w0 w.heap.size 0 (gaveB (l.take 0))) := Lib.hid (by rw [← hw0]; exact (Vo.set_new w).wide (Nat.le_refl _) (fun _ _ _ => rfl))
  obtain ⟨g, hgs⟩ : ∃ g, w.heap.size = g := ⟨_, rfl⟩
  rw [hgs] at HS0
  have HGS := Lib.hid hgs
  obtain ⟨X, hX⟩ : ∃ x, firstF (badW l) N 0 = x := ⟨_, rfl⟩
  have HX := Lib.hid hX
  rw [hX]
  clear hr hg hX
  have hmm := @run_makeMap Tryd.prog
  go_enter Tryd.func10, Tryd.ntmps10
  go_wp2
  go_loopw [9] (fun i wr => ∃ (k : Nat), k ≤ N ∧ i = .int .i64 k ∧ Vo.SetAt wr g k (gaveB (l.take k)) ∧ Below w.heap.size w wr ∧ X = firstF (badW l) (N - k) k) (fun i _ => N - (RowKit.intOf i).toNat)
  case atStart => exact ⟨0, by omega, rfl, HS0.out, HB0.out, HX.out.symm⟩
  case round =>
    obtain ⟨w3, rfl⟩ : ∃ w3, w3 = wr := ⟨_, rfl⟩
    obtain ⟨k, hk, rfl, hs3, hb3, hx3⟩ := hrel
    have HS3 := Lib.hid hs3
    have HB3 := Lib.hid hb3
    have HX3 := Lib.hid hx3
    have hw3 := hb3
    clear hs3 hb3 hx3
    by_cases hlt : k < N
    · obtain ⟨ad, e, rfl, he, hbl, _, c0, c1, c2, c3, c4⟩ := (HR.out.below hw3).atE hlt
      have hge := HG.out e (List.mem_of_getElem? he)
      have HG3 := Lib.hid (hge.below hw3)
      have hel := hge.len
      obtain ⟨_, m1, m2, i0, i1, i2, i3, _⟩ := hge
      have HH := Lib.hid (badW_at he)
      have HM := Lib.hid (gaveB_more he)
      obtain ⟨ek, eb, ea, ee, eA, en, ec, ew⟩ := e
      dsimp only at i0 i1 i2 i3 c0 c1 c2 c3 c4 m1 m2 hel
      obtain ⟨w4, hw4⟩ : ∃ x, w3.alloc (.cells #[.int .i64 ek, .int .i64 eb, .int .i64 ea, .int .i64 ee, .slice eA en ec] 29) = x := ⟨_, rfl⟩
      have hb4 : Below w3.heap.size w3 w4 := by rw [← hw4]; exact (Below.refl _ _).alloc (Nat.le_refl _) _
      have hx4 : Bx w4 w3.heap.size ⟨ek, eb, ea, ee, eA, en, ec, ew⟩ := by rw [← hw4]; exact Bx.new w3 ⟨ek, eb, ea, ee, eA, en, ec, ew⟩
      obtain ⟨x0, x1, x2, x3, x4⟩ := hx4.cells
      dsimp only at x0 x1 x2 x3 x4
      have HB4 := Lib.hid (HB3.out.trans (hb4.mono HB3.out.size))
      have HS4 := Lib.hid (HS3.out.below hb4)
      have HG4 := Lib.hid (HG3.out.below hb4)
      have HEL := Lib.hid hel
      clear he hbl hb4 hx4 hel
      by_cases h1 : ek = 1
      · have e1 : (ek == 1) = true := by simpa using h1
        have e3 : (ek == 3) = false := by rw [h1]; rfl
        have E1 := Lib.hid e1
        have hno : badW l k = false := by rw [HH.out, e3]; rfl
        have HN := Lib.hid (firstF_no hlt hno)
        clear hno e3 h1
        go_wp2_with (at_mapUpdate; refine Vo.wpList_store HS4.out (by unfold maxLen; omega) rfl _ _ _ rfl rfl i1 i2 i3 rfl rfl ?_; intro w7 hs7 hg7; have HS7 := Lib.hid hs7; have HB7 : Hid (Below w.heap.size w w7) := Lib.hid (HB4.out.grown hg7 HB4.out.size (fun k hk => by injection hk with hk; omega)); clear hs7 hg7)
        go_roundw
        case rel => exact ⟨k + 1, by omega, by go_num, HS7.out.wide (by omega) (fun x y z => by rw [HM.out, E1.out]; rfl), HB7.out, HX3.out.trans HN.out⟩
        case measure => simp [RowKit.intOf]; omega
      · have e1 : (ek == 1) = false := by simpa using h1
        have E1 := Lib.hid e1
        by_cases h3 : ek = 3
        · have e3 : (ek == 3) = true := by simpa using h3
          have E3 := Lib.hid e3
          obtain ⟨q, hq⟩ : ∃ q, cntV (l.take k) ⟨ek, eb, ea, ee, eA, en, ec, ew⟩ en = q := ⟨_, rfl⟩
          obtain ⟨nz, hnz⟩ : ∃ z, needZ (en : Int) = z := ⟨_, rfl⟩
          have HCN : Hid (∀ p : Later w4, Calls Tryd.prog 14 #[.map (some g), .agg #[.int .i64 ek, .int .i64 eb, .int .i64 ea, .int .i64 ee, .slice eA en ec]] p.now fun e w' => e = .returned (.int .i64 (q : Int)) ∧ Below p.now.heap.size p.now w') :=
            Lib.hid (fun p => (count_any p.now _ g k (l.take k) ⟨ek, eb, ea, ee, eA, en, ec, ew⟩ (HS4.out.below p.below) (HG4.out.below p.below)).mono fun _ _ h => ⟨by rw [← hq]; exact h.1, h.2⟩)
          have HND : Hid (∀ p : Later w4, Calls Tryd.prog 15 #[.int .i64 (en : Int)] p.now fun e w' => e = .returned (.int .i64 nz) ∧ Below p.now.heap.size p.now w') :=
            Lib.hid (fun p => (need_any (en : Int) p.now (by omega)).mono fun _ w' h => ⟨by rw [← hnz]; exact h.1, by rw [← h.2]; exact Below.refl _ _⟩)
          have R0 : ∀ p : Later w4, p.now.cell? ⟨w3.heap.size, 0, none⟩ = some (.int .i64 ek) := fun p => p.cell x0
          have R1 : ∀ p : Later w4, p.now.cell? ⟨w3.heap.size, 1, none⟩ = some (.int .i64 eb) := fun p => p.cell x1
          have R2 : ∀ p : Later w4, p.now.cell? ⟨w3.heap.size, 2, none⟩ = some (.int .i64 ea) := fun p => p.cell x2
          have R3 : ∀ p : Later w4, p.now.cell? ⟨w3.heap.size, 3, none⟩ = some (.int .i64 ee) := fun p => p.cell x3
          have R4 : ∀ p : Later w4, p.now.cell? ⟨w3.heap.size, 4, none⟩ = some (.slice eA en ec) := fun p => p.cell x4
          have hbad : badW l k = decide (q < en / 2 + 1) := by
            rw [HH.out, E3.out, Bool.true_and]
            dsimp only
            rw [HEL.out, hq, decide_eq_decide]
            omega
          have hdec : decide ((q : Int) < nz) = decide (q < en / 2 + 1) := by
            rw [← hnz, decide_eq_decide]
            unfold needZ
            rw [if_neg (by omega)]
            omega
          have HBD := Lib.hid hbad
          clear hq hnz hbad h1 h3
          obtain ⟨d, hd⟩ : ∃ b, decide (q < en / 2 + 1) = b := ⟨_, rfl⟩
          rw [hd] at HBD hdec
          clear hd
          cases d
          · have HN := Lib.hid (firstF_no hlt HBD.out)
            go_wp2
            refine wp_region_later (by kernel_rfl) (by kernel_rfl) ?_
            repeat (go_big_quiet_step (first | (go_at_call 14; with_reducible exact Later.calls (HCN.out _)) | (go_at_call 15; with_reducible exact Later.calls (HND.out _)) | fail))
            refine wpQuiet_nil ?_
            intro _ hw'
            obtain ⟨pr, hw''⟩ := hw'
            subst hw''
            have hb8 := pr.below
            generalize pr.now = w8 at *
            have HB8 := Lib.hid (HB4.out.trans (hb8.mono HB4.out.size))
            have HS8 := Lib.hid (HS4.out.below hb8)
            clear hb8 R0 R1 R2 R3 R4
            go_wp2
            go_roundw
            case rel => exact ⟨k + 1, by omega, by go_num, HS8.out.wide (by omega) (fun x y z => by rw [HM.out, E1.out]; simp), HB8.out, HX3.out.trans HN.out⟩
            case measure => simp [RowKit.intOf]; omega
          · have HN := Lib.hid (firstF_yes hlt HBD.out)
            go_wp2
            refine wp_region_later (by kernel_rfl) (by kernel_rfl) ?_
            repeat (go_big_quiet_step (first | (go_at_call 14; with_reducible exact Later.calls (HCN.out _)) | (go_at_call 15; with_reducible exact Later.calls (HND.out _)) | fail))
            refine wpQuiet_nil ?_
            intro _ hw'
            obtain ⟨pr, hw''⟩ := hw'
            subst hw''
            have hb8 := pr.below
            generalize pr.now = w8 at *
            have HB8 := Lib.hid (HB4.out.trans (hb8.mono HB4.out.size))
            clear hb8 R0 R1 R2 R3 R4
            go_wp2
            go_ret
            exact ⟨by rw [HX3.out.trans HN.out]; rfl, HB8.out⟩
        · have e3 : (ek == 3) = false := by simpa using h3
          have hno : badW l k = false := by rw [HH.out, e3]; rfl
          have HN := Lib.hid (firstF_no hlt hno)
          clear hno h1 h3
          go_wp2
          go_roundw
          case rel => exact ⟨k + 1, by omega, by go_num, HS4.out.wide (by omega) (fun x y z => by rw [HM.out, E1.out]; simp), HB4.out, HX3.out.trans HN.out⟩
          case measure => simp [RowKit.intOf]; omega
    · obtain rfl : k = N := by omega
      have HN := Lib.hid (firstF_end (badW l) k)
      go_wp2
      go_ret
      exact ⟨by rw [HX3.out.trans HN.out]; rfl, HB3.out⟩
end Go.Proofs.YtemokbggchodgaaDoor
