/-
  WHAT IS PROVED: Need, and how many votes a win has. Condition: the win's voters are there.
-/
import Derived.Test.YtemokbggchodgaaDoorEvm
import Derived.Test.YtemokbggchodgaaDoorVo
namespace Go.Proofs.YtemokbggchodgaaDoor
open Go.RowKit Go.Lib
set_option maxRecDepth 100000

def needZ (n : Int) : Int := if n < 0 then 1 else n / 2 + 1
theorem need_any (n : Int) (w : World) (hn : n ≤ 9223372036854775807) :
    Calls Tryd.prog 15 #[.int .i64 n] w fun e w' => e = .returned (.int .i64 (needZ n)) ∧ w = w' := by
  by_cases h : n < 0
  · have HX : Hid (needZ n = 1) := if_pos h
    go_enter Tryd.func15, Tryd.ntmps15
    go_wp2
    go_ret
    exact ⟨by rw [HX.out]; rfl, rfl⟩
  · have HX : Hid (needZ n = n / 2 + 1) := if_neg h
    have h0 : 0 ≤ n := by omega
    clear h
    go_enter Tryd.func15, Tryd.ntmps15
    go_wp2
    go_ret
    exact ⟨by rw [HX.out]; rfl, rfl⟩
set_option maxHeartbeats 4000000 in
theorem count_any (w : World) (F : Nat → Prop) (g k : Nat) (l : List Ev) (e : Ev) (hs : Vo.SetAt w g k (gaveB l)) (he : OkE w F e) :
    Calls Tryd.prog 14 #[.map (some g), vE e] w fun r w' => r = .returned (.int .i64 ((cntV l e e.n : Nat) : Int)) ∧ Below w.heap.size w w' := by
  obtain ⟨ek, eb, ea, ee, eA, en, ec, ew⟩ := e
  obtain ⟨w1, hw1⟩ : ∃ x, w.alloc (.cells #[.int .i64 ek, .int .i64 eb, .int .i64 ea, .int .i64 ee, .slice eA en ec] 29) = x := ⟨_, rfl⟩
  have hb1 : Below w.heap.size w w1 := by rw [← hw1]; exact (Below.refl _ _).alloc (Nat.le_refl _) _
  have hx1 : Bx w1 w.heap.size ⟨ek, eb, ea, ee, eA, en, ec, ew⟩ := by rw [← hw1]; exact Bx.new w ⟨ek, eb, ea, ee, eA, en, ec, ew⟩
  have HS1 := Lib.hid (hs.below hb1)
  have HE1 := Lib.hid (he.below hb1)
  obtain ⟨_, n1, n2, _, i1, _, i3, iw⟩ := he
  dsimp only at n1 n2 i1 i3 iw
  obtain ⟨x0, x1, x2, x3, x4⟩ := hx1.cells
  dsimp only at x0 x1 x2 x3 x4
  have HX1 := Lib.hid hx1
  have HB1 := Lib.hid hb1
  have HIW := Lib.hid iw
  clear hs hb1 hx1 iw
  go_enter Tryd.func14, Tryd.ntmps14
  go_wp2
  go_loopw [5, 13] (fun n i wr => ∃ (m q : Nat), m ≤ en ∧ q ≤ m ∧ n = .int .i64 q ∧ i = .int .i64 m ∧ cntV l ⟨ek, eb, ea, ee, eA, en, ec, ew⟩ m = q ∧ Below w1.heap.size w1 wr) (fun _ i _ => en - (RowKit.intOf i).toNat)
  case atStart => exact ⟨0, 0, by omega, by omega, rfl, rfl, rfl, Below.refl _ _⟩
  case round =>
    obtain ⟨w3, rfl⟩ : ∃ w3, w3 = wr := ⟨_, rfl⟩
    obtain ⟨m, q, hm, hqm, rfl, rfl, hq, hb3⟩ := hrel
    have HQ := Lib.hid hq
    have HB3 := Lib.hid hb3
    have HS3 := Lib.hid (HS1.out.below hb3)
    have HE3 := Lib.hid (HE1.out.below hb3)
    have HX3 := Lib.hid (HX1.out.later hb3)
    clear x0 x1 x2 x3 x4
    obtain ⟨x0, x1, x2, x3, x4⟩ := HX3.out.cells
    dsimp only at x0 x1 x2 x3 x4
    clear hq hb3
    by_cases hlt : m < en
    · obtain ⟨ad, v, hA, hv, hbl, _, c0⟩ := HE3.out.rd.atZ hlt
      dsimp only at hA hv
      subst hA
      have iv := HIW.out v (List.mem_of_getElem? hv)
      have HC := Lib.hid (cntV_more (l := l) (e := ⟨ek, eb, ea, ee, some ad, en, ec, ew⟩) hv)
      dsimp only at HC
      obtain ⟨d, hd⟩ : ∃ b, gaveB l v eb ee = b := ⟨_, rfl⟩
      have HD := Lib.hid hd
      obtain ⟨w4, hw4⟩ : ∃ x, w3.alloc (.cells #[] 44) = x := ⟨_, rfl⟩
      have hb4 : Below w3.heap.size w3 w4 := by rw [← hw4]; exact (Below.refl _ _).alloc (Nat.le_refl _) _
      have HB4 := Lib.hid (HB3.out.trans (hb4.mono HB3.out.size))
      clear hd hv hbl hb4
      cases d
      · go_wp2_with (at_lookup; refine Vo.wpList_look HS3.out rfl _ _ rfl rfl iv i1 i3 rfl ?_; rw [HD.out])
        go_roundw
        case rel => exact ⟨m + 1, q, by omega, by omega, rfl, by go_num, by rw [HC.out, HD.out, HQ.out]; rfl, HB4.out⟩
        case measure => simp [RowKit.intOf]; omega
      · go_wp2_with (at_lookup; refine Vo.wpList_look HS3.out rfl _ _ rfl rfl iv i1 i3 rfl ?_; rw [HD.out])
        go_roundw
        case rel => exact ⟨m + 1, q + 1, by omega, by omega, by go_num, by go_num, by rw [HC.out, HD.out, HQ.out]; rfl, HB4.out⟩
        case measure => simp [RowKit.intOf]; omega
    · obtain rfl : m = en := by omega
      go_wp2
      go_ret
      exact ⟨by rw [HQ.out]; rfl, HB1.out.trans (HB3.out.mono HB1.out.size)⟩
end Go.Proofs.YtemokbggchodgaaDoor
