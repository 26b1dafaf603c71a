/-
  WHAT IS PROVED: Twice answers the first place of what was done before. Condition: the events are there, at most 1000.
-/
import Derived.Test.YtemokbggchodgaaDoorEvm
import Derived.Test.YtemokbggchodgaaDoorDe
import Derived.Carry
namespace Go.Proofs.YtemokbggchodgaaDoor
open Go.RowKit Go.Lib
set_option maxRecDepth 100000

set_option maxHeartbeats 4000000 in
theorem twice_any (w : World) (F : Nat → Prop) (A : Option Addr) (N c : Nat) (l : List Ev) (hr : Rd w F 5 A N (flatE l)) (hg : ∀ e ∈ l, OkE w F e) (hN : N ≤ 1000) :
    Calls Tryd.prog 9 #[.slice A N c] w fun e w' => e = .returned (.int .i64 (firstF (hitT l) N 0)) ∧ Below w.heap.size w w' := by
  have HR := Lib.hid hr
  have HG := Lib.hid hg
  obtain ⟨w0, hw0⟩ : ∃ x, w.alloc (.map #[] 0) = x := ⟨_, rfl⟩
  have HB0 : Hid (Below w.heap.size w w0) := Lib.hid (by rw [← hw0]; exact (Below.refl _ _).alloc (Nat.le_refl _) _)
  have HS0 : Hid (De.SetAt w0 w.heap.size 0 (didB (l.take 0))) := Lib.hid (by rw [← hw0]; exact (De.set_new w).wide (Nat.le_refl _) (fun _ _ _ => rfl))
  obtain ⟨g, hgs⟩ : ∃ g, w.heap.size = g := ⟨_, rfl⟩
  rw [hgs] at HS0
  have HGS := Lib.hid hgs
  obtain ⟨X, hX⟩ : ∃ x, firstF (hitT l) N 0 = x := ⟨_, rfl⟩
  have HX := Lib.hid hX
  rw [hX]
  clear hr hg hX
  have hmm := @run_makeMap Tryd.prog
  go_enter Tryd.func9, Tryd.ntmps9
  go_wp2
  go_loopw [12] (fun i wr => ∃ (k : Nat), k ≤ N ∧ i = .int .i64 k ∧ De.SetAt wr g k (didB (l.take k)) ∧ Below w.heap.size w wr ∧ X = firstF (hitT l) (N - k) k) (fun i _ => N - (RowKit.intOf i).toNat)
  case atStart => exact ⟨0, by omega, rfl, HS0.out, HB0.out, HX.out.symm⟩
  case round =>
    obtain ⟨w3, rfl⟩ : ∃ w3, w3 = wr := ⟨_, rfl⟩
    obtain ⟨k, hk, rfl, hs3, hb3, hx3⟩ := hrel
    have HS3 := Lib.hid hs3
    have HB3 := Lib.hid hb3
    have HX3 := Lib.hid hx3
    have hw3 := hb3
    clear hs3 hb3 hx3
    by_cases hlt : k < N
    · obtain ⟨ad, e, rfl, he, hbl, _, c0, c1, c2, c3, c4⟩ := (HR.out.below hw3).atE hlt
      obtain ⟨_, _, _, i0, i1, i2, i3, _⟩ := HG.out e (List.mem_of_getElem? he)
      have HH := Lib.hid (hitT_at he)
      have HM := Lib.hid (didB_more he)
      obtain ⟨a, ha⟩ : ∃ b, actB e = b := ⟨_, rfl⟩
      have HA := Lib.hid ha
      obtain ⟨d, hd⟩ : ∃ b, didB (l.take k) e.kind e.by_ e.epoch = b := ⟨_, rfl⟩
      have HD := Lib.hid hd
      obtain ⟨ek, eb, ea, ee, eA, en, ec, ew⟩ := e
      dsimp only at i0 i1 i2 i3 c0 c1 c2 c3 c4
      obtain ⟨w4, hw4⟩ : ∃ x, w3.alloc (.cells #[.int .i64 ek, .int .i64 eb, .int .i64 ea, .int .i64 ee, .slice eA en ec] 29) = x := ⟨_, rfl⟩
      have hb4 : Below w3.heap.size w3 w4 := by rw [← hw4]; exact (Below.refl _ _).alloc (Nat.le_refl _) _
      have hx4 : Bx w4 w3.heap.size ⟨ek, eb, ea, ee, eA, en, ec, ew⟩ := by rw [← hw4]; exact Bx.new w3 ⟨ek, eb, ea, ee, eA, en, ec, ew⟩
      obtain ⟨x0, x1, x2, x3, x4⟩ := hx4.cells
      dsimp only at x0 x1 x2 x3 x4
      have HB4 := Lib.hid (HB3.out.trans (hb4.mono HB3.out.size))
      have HS4 := Lib.hid (HS3.out.below hb4)
      have hha : actB ⟨ek, eb, ea, ee, eA, en, ec, ew⟩ = ((ek == 1) || (ek == 3)) := rfl
      clear hd he hbl hb4 hx4
      have hact : (a = false ∧ (ek != 1) = true ∧ (ek != 3) = true) ∨ (a = true ∧ ((ek != 1) = false ∨ (ek != 1) = true ∧ (ek != 3) = false)) := by
        rw [← ha, hha]
        by_cases h1 : ek = 1 <;> by_cases h3 : ek = 3 <;> simp [h1, h3]
      clear hha ha
      rcases hact with ⟨rfl, n1, n3⟩ | ⟨rfl, n1⟩
      · have hno : hitT l k = false := by rw [HH.out, HA.out]; rfl
        have HN := Lib.hid (firstF_no hlt hno)
        clear hno
        go_wp2
        go_roundw
        case rel => exact ⟨k + 1, by omega, by go_num, HS4.out.wide (by omega) (fun x y z => by rw [HM.out, HA.out]; simp), HB4.out, HX3.out.trans HN.out⟩
        case measure => simp [RowKit.intOf]; omega
      · obtain ⟨w5, hw5⟩ : ∃ x, w4.alloc (.cells #[.int .i64 ek, .int .i64 eb, .int .i64 ee] 43) = x := ⟨_, rfl⟩
        have hb5 : Below w4.heap.size w4 w5 := by rw [← hw5]; exact (Below.refl _ _).alloc (Nat.le_refl _) _
        have hx5 : Blk w5 w4.heap.size 43 #[.int .i64 ek, .int .i64 eb, .int .i64 ee] := by rw [← hw5]; exact Blk.new _ _ _
        have y0 := hx5.cell 0
        have y1 := hx5.cell 1
        have y2 := hx5.cell 2
        simp at y0 y1 y2
        have HB5 := Lib.hid (HB4.out.trans (hb5.mono HB4.out.size))
        have HS5 := Lib.hid (HS4.out.below hb5)
        obtain ⟨w6, hw6⟩ : ∃ x, w5.alloc (.cells #[] 44) = x := ⟨_, rfl⟩
        have hb6 : Below w5.heap.size w5 w6 := by rw [← hw6]; exact (Below.refl _ _).alloc (Nat.le_refl _) _
        have hx6 := Blk.below hx5 hb6 hx5.lt
        have z0 := hx6.cell 0
        have z1 := hx6.cell 1
        have z2 := hx6.cell 2
        simp at z0 z1 z2
        have HB6 := Lib.hid (HB5.out.trans (hb6.mono HB5.out.size))
        have HS6 := Lib.hid (HS5.out.below hb6)
        clear hb5 hx5 hb6 hx6
        rcases n1 with n1 | ⟨n1, n3⟩
        all_goals
          cases d
          · have hno : hitT l k = false := by rw [HH.out, HA.out, HD.out]; rfl
            have HN := Lib.hid (firstF_no hlt hno)
            clear hno
            go_wp2_with (first | (at_lookup; refine De.wpList_look HS5.out rfl _ _ rfl rfl i0 i1 i3 rfl ?_; rw [HD.out]) | (at_mapUpdate; refine De.wpList_store HS6.out (by unfold maxLen; omega) rfl _ _ _ rfl rfl i0 i1 i3 rfl rfl ?_; intro w7 hs7 hg7; have HS7 := Lib.hid hs7; have HB7 : Hid (Below w.heap.size w w7) := Lib.hid (HB6.out.grown hg7 HB6.out.size (fun k hk => by injection hk with hk; omega)); clear hs7 hg7))
            go_roundw
            case rel => exact ⟨k + 1, by omega, by go_num, HS7.out.wide (by omega) (fun x y z => by rw [HM.out, HA.out]; rfl), HB7.out, HX3.out.trans HN.out⟩
            case measure => simp [RowKit.intOf]; omega
          · have hyes : hitT l k = true := by rw [HH.out, HA.out, HD.out]; rfl
            have HN := Lib.hid (firstF_yes hlt hyes)
            clear hyes
            go_wp2_with (at_lookup; refine De.wpList_look HS5.out rfl _ _ rfl rfl i0 i1 i3 rfl ?_; rw [HD.out])
            go_ret
            exact ⟨by rw [HX3.out.trans HN.out]; rfl, (by have h := HB6.out; rw [hgs] at h; exact h)⟩
    · obtain rfl : k = N := by omega
      have HN := Lib.hid (firstF_end (hitT l) k)
      go_wp2
      go_ret
      exact ⟨by rw [HX3.out.trans HN.out]; rfl, HB3.out⟩
end Go.Proofs.YtemokbggchodgaaDoor
