/-
  WHAT IS PROVED: the contract of the document's stand. Condition: the block is the document's ballot.
-/
import Derived.Test.YtmjbacmaafbdlaaTwinB
import Derived.BigQuiet
namespace Go.Proofs.Ytmjbacmaafbdlaa
open Go.RowKit Go.Lib Go.Maps

section
variable (C x : Nat) (F : Nat → Prop) (T : Int) (s : Bst) (w : World) (h : Tw w C x F T s) (hfine : Fine T s) (how ep id now : Int) (A : Option Addr) (n c : Nat) (vs : List Int) (hnc : n ≤ c) (hc : c ≤ 9223372036854775807) (hr : ∀ w', Below w.heap.size w w' → Reads w' w'.heap.size A n (zints vs))
include h hnc hc hr
theorem tstand_out0 (hR : rightB vs = false) : Calls Try.prog 10 #[.pointer (some ⟨x, 0, none⟩), .agg #[.int .i64 how, .int .i64 ep, .int .i64 id, .int .i64 now, .slice A n c], .int .i64 T] w (DidT C x F T (.int .i64 (standE T s ep vs now)) (standS T s ep vs now) w) := by
  have HF : Hid (fineB ep vs now = false) := Lib.hid (by unfold fineB; rw [hR]; rfl)
  have HE : Hid (standE T s ep vs now = 10 ∧ standS T s ep vs now = s) := Lib.hid (by unfold standE standS; rw [HF.out]; exact ⟨rfl, rfl⟩)
  rw [HE.out.1, HE.out.2]
  have HH := Lib.hid h
  have HB0 : Hid (Below w.heap.size w (w.alloc (.cells #[.int .i64 how, .int .i64 ep, .int .i64 id, .int .i64 now, .slice A n c] 33))) := Lib.hid ((Below.refl _ _).alloc (Nat.le_refl _) _)
  have hra := hr _ HB0.out
  have HR := Lib.hid hR
  clear h hR hr
  go_enter Try.func10, Try.ntmps10
  go_wp2_with (fail)
  refine (Right_any A n c vs _ _ hnc hc hra).mono ?_
  rw [HR.out]
  rintro e w1 ⟨rfl, rfl⟩
  go_wp2
  go_ret
  exact DidT.same HH.out HB0.out
theorem tstand_out1 (hR : rightB vs = true) (c0 : ep < 1) : Calls Try.prog 10 #[.pointer (some ⟨x, 0, none⟩), .agg #[.int .i64 how, .int .i64 ep, .int .i64 id, .int .i64 now, .slice A n c], .int .i64 T] w (DidT C x F T (.int .i64 (standE T s ep vs now)) (standS T s ep vs now) w) := by
  have HF : Hid (fineB ep vs now = false) := Lib.hid (by unfold fineB; rw [hR, ep_no (fun h => by omega)]; rfl)
  have HE : Hid (standE T s ep vs now = 10 ∧ standS T s ep vs now = s) := Lib.hid (by unfold standE standS; rw [HF.out]; exact ⟨rfl, rfl⟩)
  rw [HE.out.1, HE.out.2]
  have HH := Lib.hid h
  have HB0 : Hid (Below w.heap.size w (w.alloc (.cells #[.int .i64 how, .int .i64 ep, .int .i64 id, .int .i64 now, .slice A n c] 33))) := Lib.hid ((Below.refl _ _).alloc (Nat.le_refl _) _)
  have hra := hr _ HB0.out
  have HR := Lib.hid hR
  clear h hR hr
  go_enter Try.func10, Try.ntmps10
  go_wp2_with (fail)
  refine (Right_any A n c vs _ _ hnc hc hra).mono ?_
  rw [HR.out]
  rintro e w1 ⟨rfl, rfl⟩
  go_wp2
  go_ret
  exact DidT.same HH.out HB0.out
theorem tstand_out2 (hR : rightB vs = true) (n0 : 1 ≤ ep) (c0 : 281474976710656 < ep) : Calls Try.prog 10 #[.pointer (some ⟨x, 0, none⟩), .agg #[.int .i64 how, .int .i64 ep, .int .i64 id, .int .i64 now, .slice A n c], .int .i64 T] w (DidT C x F T (.int .i64 (standE T s ep vs now)) (standS T s ep vs now) w) := by
  have HF : Hid (fineB ep vs now = false) := Lib.hid (by unfold fineB; rw [hR, ep_no (fun h => by omega)]; rfl)
  have HE : Hid (standE T s ep vs now = 10 ∧ standS T s ep vs now = s) := Lib.hid (by unfold standE standS; rw [HF.out]; exact ⟨rfl, rfl⟩)
  rw [HE.out.1, HE.out.2]
  have HH := Lib.hid h
  have HB0 : Hid (Below w.heap.size w (w.alloc (.cells #[.int .i64 how, .int .i64 ep, .int .i64 id, .int .i64 now, .slice A n c] 33))) := Lib.hid ((Below.refl _ _).alloc (Nat.le_refl _) _)
  have hra := hr _ HB0.out
  have HR := Lib.hid hR
  clear h hR hr
  go_enter Try.func10, Try.ntmps10
  go_wp2_with (fail)
  refine (Right_any A n c vs _ _ hnc hc hra).mono ?_
  rw [HR.out]
  rintro e w1 ⟨rfl, rfl⟩
  go_wp2
  go_ret
  exact DidT.same HH.out HB0.out
theorem tstand_out3 (hR : rightB vs = true) (n0 : 1 ≤ ep) (n1 : ep ≤ 281474976710656) (c0 : now < 0) : Calls Try.prog 10 #[.pointer (some ⟨x, 0, none⟩), .agg #[.int .i64 how, .int .i64 ep, .int .i64 id, .int .i64 now, .slice A n c], .int .i64 T] w (DidT C x F T (.int .i64 (standE T s ep vs now)) (standS T s ep vs now) w) := by
  have HF : Hid (fineB ep vs now = false) := Lib.hid (by unfold fineB; rw [hR, tim_no (fun h => by omega), Bool.and_false]; rfl)
  have HE : Hid (standE T s ep vs now = 10 ∧ standS T s ep vs now = s) := Lib.hid (by unfold standE standS; rw [HF.out]; exact ⟨rfl, rfl⟩)
  rw [HE.out.1, HE.out.2]
  have HH := Lib.hid h
  have HB0 : Hid (Below w.heap.size w (w.alloc (.cells #[.int .i64 how, .int .i64 ep, .int .i64 id, .int .i64 now, .slice A n c] 33))) := Lib.hid ((Below.refl _ _).alloc (Nat.le_refl _) _)
  have hra := hr _ HB0.out
  have HR := Lib.hid hR
  clear h hR hr
  go_enter Try.func10, Try.ntmps10
  go_wp2_with (fail)
  refine (Right_any A n c vs _ _ hnc hc hra).mono ?_
  rw [HR.out]
  rintro e w1 ⟨rfl, rfl⟩
  go_wp2
  go_ret
  exact DidT.same HH.out HB0.out
theorem tstand_out4 (hR : rightB vs = true) (n0 : 1 ≤ ep) (n1 : ep ≤ 281474976710656) (n2 : 0 ≤ now) (c0 : 1099511627776 < now) : Calls Try.prog 10 #[.pointer (some ⟨x, 0, none⟩), .agg #[.int .i64 how, .int .i64 ep, .int .i64 id, .int .i64 now, .slice A n c], .int .i64 T] w (DidT C x F T (.int .i64 (standE T s ep vs now)) (standS T s ep vs now) w) := by
  have HF : Hid (fineB ep vs now = false) := Lib.hid (by unfold fineB; rw [hR, tim_no (fun h => by omega), Bool.and_false]; rfl)
  have HE : Hid (standE T s ep vs now = 10 ∧ standS T s ep vs now = s) := Lib.hid (by unfold standE standS; rw [HF.out]; exact ⟨rfl, rfl⟩)
  rw [HE.out.1, HE.out.2]
  have HH := Lib.hid h
  have HB0 : Hid (Below w.heap.size w (w.alloc (.cells #[.int .i64 how, .int .i64 ep, .int .i64 id, .int .i64 now, .slice A n c] 33))) := Lib.hid ((Below.refl _ _).alloc (Nat.le_refl _) _)
  have hra := hr _ HB0.out
  have HR := Lib.hid hR
  clear h hR hr
  go_enter Try.func10, Try.ntmps10
  go_wp2_with (fail)
  refine (Right_any A n c vs _ _ hnc hc hra).mono ?_
  rw [HR.out]
  rintro e w1 ⟨rfl, rfl⟩
  go_wp2
  go_ret
  exact DidT.same HH.out HB0.out
include hfine
set_option maxRecDepth 100000 in
set_option maxHeartbeats 4000000 in
theorem tstand_in (hn : n ≤ 100) (hR : rightB vs = true) (n0 : 1 ≤ ep) (n1 : ep ≤ 281474976710656) (n2 : 0 ≤ now) (n3 : now ≤ 1099511627776) : Calls Try.prog 10 #[.pointer (some ⟨x, 0, none⟩), .agg #[.int .i64 how, .int .i64 ep, .int .i64 id, .int .i64 now, .slice A n c], .int .i64 T] w (DidT C x F T (.int .i64 (standE T s ep vs now)) (standS T s ep vs now) w) := by
  have HFB : Hid (fineB ep vs now = true) := Lib.hid (fineB_iff.2 ⟨hR, ep_yes ⟨n0, n1⟩, tim_yes ⟨n2, n3⟩⟩)
  have HT : Hid (2 ≤ T ∧ T ≤ 1073741824) := Lib.hid ⟨hfine.t1, hfine.t2⟩
  have HH := Lib.hid h
  have HB0 : Hid (Below w.heap.size w (w.alloc (.cells #[.int .i64 how, .int .i64 ep, .int .i64 id, .int .i64 now, .slice A n c] 33))) := Lib.hid ((Below.refl _ _).alloc (Nat.le_refl _) _)
  have HRA := Lib.hid hr
  have HVL : Hid (vs.length = n) := Lib.hid (zlen (hr _ (Below.refl _ _)))
  have HR := Lib.hid hR
  obtain ⟨un, v, l, h1, h2, h3, h4, h5, h6, h7, h8, h9⟩ := h.ex
  obtain ⟨y, hy⟩ : ∃ y, w.heap.size = y := ⟨_, rfl⟩
  have hxl := h.lt x h.fx
  have hXY : x ≠ y := by omega
  have HLE : Hid (l 0 = s.vs ∧ l 1 = s.ys ∧ l 2 = s.G.map (·.id) ∧ l 3 = s.G.map (·.till) ∧ (s.on = true → un = s.si + 2 * T) ∧ Mp.inInt un ∧ ∀ i, i < 4 → ∀ k, (v i).ownBlock = some k → F k) := Lib.hid ⟨h3, h4, h5, h6, h7, h8, h9⟩
  obtain ⟨w1, hw1⟩ : ∃ w1, w.alloc (.cells #[.int .i64 how, .int .i64 ep, .int .i64 id, .int .i64 now, .slice A n c] 33) = w1 := ⟨_, rfl⟩
  have HY : Hid (Blk w1 y 33 #[.int .i64 how, .int .i64 ep, .int .i64 id, .int .i64 now, .slice A n c]) := Lib.hid (by rw [← hw1, ← hy]; exact Blk.new _ _ _)
  have HB1 : Hid (Below w.heap.size w w1) := Lib.hid (by rw [← hw1]; exact HB0.out)
  have HX1 : Hid (Blk w1 x 31 #[.bool s.on, .int .i64 s.ep, .int .i64 un, v 0, v 1, v 2, v 3]) := Lib.hid (h1.below HB1.out h1.lt)
  have HRW := Lib.hid (h2.below HB1.out)
  have HSZ : Hid (w1.heap.size = y + 1) := Lib.hid (by rw [← hw1, ← hy]; simp)
  have hra := HRA.out _ HB1.out
  have a1 := HY.out.cell 1
  have a3 := HY.out.cell 3
  have a4 := HY.out.cell 4
  have x0 := HX1.out.cell 0
  have x2 := HX1.out.cell 2
  simp at a1 a3 a4 x0 x2
  clear h hR hr h1 h2 h3 h4 h5 h6 h7 h8 h9
  obtain ⟨on, HON⟩ : ∃ on, Hid (s.on = on) := ⟨_, Lib.hid rfl⟩
  rw [HON.out] at x0 HX1
  obtain ⟨q, HQ⟩ : ∃ q, Hid (stB T s now = q) := ⟨_, Lib.hid rfl⟩
  have HE : Hid (standE T s ep vs now = (if q = true then 21 else 0)) := Lib.hid (by unfold standE; rw [HFB.out, HQ.out]; rfl)
  have HS : Hid (standS T s ep vs now = (if q = true then s else ⟨true, ep, now, vs, [], s.G⟩)) := Lib.hid (by unfold standS; rw [HFB.out, HQ.out]; cases q <;> rfl)
  have hd : (on = true ∧ decide (now ≤ un) = true ∧ q = true) ∨ (on = true ∧ decide (now ≤ un) = false ∧ q = false) ∨ (on = false ∧ q = false) := by
    have e : stB T s now = (on && lastB T s.si now) := by unfold stB; rw [HON.out]
    rw [HQ.out] at e
    cases on with
    | false => exact .inr (.inr ⟨rfl, e⟩)
    | true =>
      have hun := HLE.out.2.2.2.2.1 HON.out
      rw [hun]
      cases q with
      | true => exact .inl ⟨rfl, e.symm, rfl⟩
      | false => exact .inr (.inl ⟨rfl, e.symm, rfl⟩)
  have HHD := Lib.hid hd
  clear hd
  go_enter Try.func10, Try.ntmps10
  go_wp2_with (fail)
  refine (Right_any A n c vs _ _ hnc hc hra).mono ?_
  rw [HR.out]
  rintro e w2 ⟨rfl, rfl⟩
  clear hra
  have hdone : ∀ nq, standE T s ep vs now = 21 ∧ standS T s ep vs now = s → DidT C x F T (.int .i64 (standE T s ep vs now)) (standS T s ep vs now) w (.returned (.int .i64 21)) (w1.drewN nq) := fun nq hE => by
    rw [hE.1, hE.2]
    exact DidT.same HH.out (below_drewN HB1.out nq)
  have HDN := Lib.hid hdone
  clear hdone
  rcases HHD.out with ⟨rfl, hle, rfl⟩ | ⟨rfl, hle, rfl⟩ | ⟨rfl, rfl⟩
  · go_wp2
    go_quiet (fail)
    go_wp2
    go_ret
    exact HDN.out _ ⟨HE.out, HS.out⟩
  · go_wp2
    go_quiet (fail)
    clear x0 x2 a1 a3 a4
    rename_i nq
    have HB3 := Lib.hid (below_drewN HB1.out nq)
    have HY3 : Hid (Blk (w1.drewN nq) y 33 #[.int .i64 how, .int .i64 ep, .int .i64 id, .int .i64 now, .slice A n c]) := Lib.hid HY.out
    have HX3 := Lib.hid (show Blk (w1.drewN nq) x _ _ from HX1.out)
    have HW3 := Lib.hid (HRW.out.below (below_drewN (Below.refl _ _) nq))
    have HZ3 : Hid ((w1.drewN nq).heap.size = y + 1) := Lib.hid HSZ.out
    generalize w1.drewN nq = w3 at *
    have a1 := HY3.out.cell 1
    have a3 := HY3.out.cell 3
    have a4 := HY3.out.cell 4
    simp at a1 a3 a4
    have HC : Hid (∀ w', Below w3.heap.size w3 w' → w'.cell? ⟨y, 1, none⟩ = some (.int .i64 ep) ∧ w'.cell? ⟨y, 3, none⟩ = some (.int .i64 now) ∧ w'.cell? ⟨y, 4, none⟩ = some (.slice A n c)) := Lib.hid fun w' hb => by
      have hyl : y < w3.heap.size := by rw [HZ3.out]; omega
      exact ⟨(hb.cell hyl).trans a1, (hb.cell hyl).trans a3, (hb.cell hyl).trans a4⟩
    have HK : Hid (∀ (w' : World) i u, (w'.cell? ⟨y, 1, none⟩ = some (.int .i64 ep) ∧ w'.cell? ⟨y, 3, none⟩ = some (.int .i64 now) ∧ w'.cell? ⟨y, 4, none⟩ = some (.slice A n c)) → (w'.setCell ⟨x, i, none⟩ u).cell? ⟨y, 1, none⟩ = some (.int .i64 ep) ∧ (w'.setCell ⟨x, i, none⟩ u).cell? ⟨y, 3, none⟩ = some (.int .i64 now) ∧ (w'.setCell ⟨x, i, none⟩ u).cell? ⟨y, 4, none⟩ = some (.slice A n c)) := Lib.hid fun w' i u hS =>
      ⟨(World.cell?_setCell_far _ _ _ _ (show x ≠ y from hXY)).trans hS.1, (World.cell?_setCell_far _ _ _ _ (show x ≠ y from hXY)).trans hS.2.1, (World.cell?_setCell_far _ _ _ _ (show x ≠ y from hXY)).trans hS.2.2⟩
    have hd0 : Below w3.heap.size w3 w3.drew := below_drewN (Below.refl _ _) 1
    have hd1 : Below w3.heap.size w3 (w3.drew.alloc (.cells #[] 3)) := hd0.alloc hd0.size _
    have HRD := Lib.hid (HRA.out _ (HB3.out.trans (hd1.mono HB3.out.size)))
    have wr1 : IntKind.i64.wrap (2 * T) = 2 * T := by rw [IntKind.wrap_i64]; have := HT.out; omega
    have wr2 : IntKind.i64.wrap (now + 2 * T) = now + 2 * T := by rw [IntKind.wrap_i64]; have := HT.out; omega
    obtain ⟨i0, hi0, hz0, hz1, hz2⟩ := info_parts int_info
    have HI0 : Hid (Try.prog.info? 3 = some i0) := hi0
    have HZ0 := Lib.hid hz0
    have HZ1 := Lib.hid hz1
    have HZ2 := Lib.hid hz2
    clear hi0 hz0 hz1 hz2 a1 a3 a4
    have HXW : Hid (∀ w', Below w3.heap.size w3 w' → Blk w' x 31 #[.bool true, .int .i64 s.ep, .int .i64 un, v 0, v 1, v 2, v 3]) := Lib.hid fun w' hb => HX3.out.below hb HX3.out.lt
    go_wp2
    go_region_held3 (fun w' => w'.cell? ⟨y, 1, none⟩ = some (.int .i64 ep) ∧ w'.cell? ⟨y, 3, none⟩ = some (.int .i64 now) ∧ w'.cell? ⟨y, 4, none⟩ = some (.slice A n c)) (first | exact HC.out _ hd0 | exact HC.out _ hd1 | exact HC.out _ HB4.out | (refine HK.out _ _ _ ?_; assumption)) (first | ((refine step_append_cells _ (by rfl) (.tmp 56) (.tmp 58) 29 (by rfl) w3.heap.size 3 i0 _ 8 Try.underlying29 HI0.out HZ0.out HZ1.out HZ2.out (by rfl) _ 0 [] (by rfl) (World.ownsRow_made w3.drew #[] 0 (Nat.le_refl _) (Nat.zero_le _) rfl) _ A n c (zints vs) (by rfl) HRD.out (zints_oneCell _) (by unfold maxLen; omega) (by omega) (by simp) ?_; intro v4 w4 hown4 hg4 _; simp only [Nat.zero_add, List.nil_append] at hown4; obtain ⟨A4, c4, rfl, hc4, hcm4⟩ := own_slice hown4; have HO4 := Lib.hid hown4; have HB4 : Hid (Below w3.heap.size w3 w4) := Lib.hid (hd1.grown hg4 hd1.size (fun j e => by cases e; exact Nat.le_refl _)); have XB4 := Lib.hid (HXW.out _ HB4.out); have f0 := XB4.out.frozen 0; have f1 := XB4.out.frozen 1; have f2 := XB4.out.frozen 2; have f3 := XB4.out.frozen 3; have f4 := XB4.out.frozen 4; have x0 := XB4.out.cell 0; have x1 := XB4.out.cell 1; have x2 := XB4.out.cell 2; have x3 := XB4.out.cell 3; have x4 := XB4.out.cell 4; simp at x0 x1 x2 x3 x4; clear hown4 hg4)) | fail)
    clear f0 f1 f2 f3 f4 x0 x1 x2 x3 x4 hd0 hd1 wr1 wr2
    go_wp2
    go_ret
    rw [HE.out, HS.out]
    exact HH.out.stood HB3.out HB4.out XB4.out HW3.out HO4.out HVL.out ⟨HLE.out.2.2.1, HLE.out.2.2.2.1⟩ HLE.out.2.2.2.2.2.2 (by have := HT.out; unfold Mp.inInt; omega)
  · go_wp2
    go_quiet (fail)
    clear x0 x2 a1 a3 a4
    rename_i nq
    have HB3 := Lib.hid (below_drewN HB1.out nq)
    have HY3 : Hid (Blk (w1.drewN nq) y 33 #[.int .i64 how, .int .i64 ep, .int .i64 id, .int .i64 now, .slice A n c]) := Lib.hid HY.out
    have HX3 := Lib.hid (show Blk (w1.drewN nq) x _ _ from HX1.out)
    have HW3 := Lib.hid (HRW.out.below (below_drewN (Below.refl _ _) nq))
    have HZ3 : Hid ((w1.drewN nq).heap.size = y + 1) := Lib.hid HSZ.out
    generalize w1.drewN nq = w3 at *
    have a1 := HY3.out.cell 1
    have a3 := HY3.out.cell 3
    have a4 := HY3.out.cell 4
    simp at a1 a3 a4
    have HC : Hid (∀ w', Below w3.heap.size w3 w' → w'.cell? ⟨y, 1, none⟩ = some (.int .i64 ep) ∧ w'.cell? ⟨y, 3, none⟩ = some (.int .i64 now) ∧ w'.cell? ⟨y, 4, none⟩ = some (.slice A n c)) := Lib.hid fun w' hb => by
      have hyl : y < w3.heap.size := by rw [HZ3.out]; omega
      exact ⟨(hb.cell hyl).trans a1, (hb.cell hyl).trans a3, (hb.cell hyl).trans a4⟩
    have HK : Hid (∀ (w' : World) i u, (w'.cell? ⟨y, 1, none⟩ = some (.int .i64 ep) ∧ w'.cell? ⟨y, 3, none⟩ = some (.int .i64 now) ∧ w'.cell? ⟨y, 4, none⟩ = some (.slice A n c)) → (w'.setCell ⟨x, i, none⟩ u).cell? ⟨y, 1, none⟩ = some (.int .i64 ep) ∧ (w'.setCell ⟨x, i, none⟩ u).cell? ⟨y, 3, none⟩ = some (.int .i64 now) ∧ (w'.setCell ⟨x, i, none⟩ u).cell? ⟨y, 4, none⟩ = some (.slice A n c)) := Lib.hid fun w' i u hS =>
      ⟨(World.cell?_setCell_far _ _ _ _ (show x ≠ y from hXY)).trans hS.1, (World.cell?_setCell_far _ _ _ _ (show x ≠ y from hXY)).trans hS.2.1, (World.cell?_setCell_far _ _ _ _ (show x ≠ y from hXY)).trans hS.2.2⟩
    have hd0 : Below w3.heap.size w3 w3.drew := below_drewN (Below.refl _ _) 1
    have hd1 : Below w3.heap.size w3 (w3.drew.alloc (.cells #[] 3)) := hd0.alloc hd0.size _
    have HRD := Lib.hid (HRA.out _ (HB3.out.trans (hd1.mono HB3.out.size)))
    have wr1 : IntKind.i64.wrap (2 * T) = 2 * T := by rw [IntKind.wrap_i64]; have := HT.out; omega
    have wr2 : IntKind.i64.wrap (now + 2 * T) = now + 2 * T := by rw [IntKind.wrap_i64]; have := HT.out; omega
    obtain ⟨i0, hi0, hz0, hz1, hz2⟩ := info_parts int_info
    have HI0 : Hid (Try.prog.info? 3 = some i0) := hi0
    have HZ0 := Lib.hid hz0
    have HZ1 := Lib.hid hz1
    have HZ2 := Lib.hid hz2
    clear hi0 hz0 hz1 hz2 a1 a3 a4
    have HXW : Hid (∀ w', Below w3.heap.size w3 w' → Blk w' x 31 #[.bool false, .int .i64 s.ep, .int .i64 un, v 0, v 1, v 2, v 3]) := Lib.hid fun w' hb => HX3.out.below hb HX3.out.lt
    go_wp2
    go_region_held3 (fun w' => w'.cell? ⟨y, 1, none⟩ = some (.int .i64 ep) ∧ w'.cell? ⟨y, 3, none⟩ = some (.int .i64 now) ∧ w'.cell? ⟨y, 4, none⟩ = some (.slice A n c)) (first | exact HC.out _ hd0 | exact HC.out _ hd1 | exact HC.out _ HB4.out | (refine HK.out _ _ _ ?_; assumption)) (first | ((refine step_append_cells _ (by rfl) (.tmp 56) (.tmp 58) 29 (by rfl) w3.heap.size 3 i0 _ 8 Try.underlying29 HI0.out HZ0.out HZ1.out HZ2.out (by rfl) _ 0 [] (by rfl) (World.ownsRow_made w3.drew #[] 0 (Nat.le_refl _) (Nat.zero_le _) rfl) _ A n c (zints vs) (by rfl) HRD.out (zints_oneCell _) (by unfold maxLen; omega) (by omega) (by simp) ?_; intro v4 w4 hown4 hg4 _; simp only [Nat.zero_add, List.nil_append] at hown4; obtain ⟨A4, c4, rfl, hc4, hcm4⟩ := own_slice hown4; have HO4 := Lib.hid hown4; have HB4 : Hid (Below w3.heap.size w3 w4) := Lib.hid (hd1.grown hg4 hd1.size (fun j e => by cases e; exact Nat.le_refl _)); have XB4 := Lib.hid (HXW.out _ HB4.out); have f0 := XB4.out.frozen 0; have f1 := XB4.out.frozen 1; have f2 := XB4.out.frozen 2; have f3 := XB4.out.frozen 3; have f4 := XB4.out.frozen 4; have x0 := XB4.out.cell 0; have x1 := XB4.out.cell 1; have x2 := XB4.out.cell 2; have x3 := XB4.out.cell 3; have x4 := XB4.out.cell 4; simp at x0 x1 x2 x3 x4; clear hown4 hg4)) | fail)
    clear f0 f1 f2 f3 f4 x0 x1 x2 x3 x4 hd0 hd1 wr1 wr2
    go_wp2
    go_ret
    rw [HE.out, HS.out]
    exact HH.out.stood HB3.out HB4.out XB4.out HW3.out HO4.out HVL.out ⟨HLE.out.2.2.1, HLE.out.2.2.2.1⟩ HLE.out.2.2.2.2.2.2 (by have := HT.out; unfold Mp.inInt; omega)
theorem tstand_any (hn : n ≤ 100) : Calls Try.prog 10 #[.pointer (some ⟨x, 0, none⟩), .agg #[.int .i64 how, .int .i64 ep, .int .i64 id, .int .i64 now, .slice A n c], .int .i64 T] w (DidT C x F T (.int .i64 (standE T s ep vs now)) (standS T s ep vs now) w) := by
  cases hR : rightB vs with
  | false => exact tstand_out0 C x F T s w h how ep id now A n c vs hnc hc hr hR
  | true =>
    by_cases n0 : 1 ≤ ep
    · by_cases n1 : ep ≤ 281474976710656
      · by_cases n2 : 0 ≤ now
        · by_cases n3 : now ≤ 1099511627776
          · exact tstand_in C x F T s w h hfine how ep id now A n c vs hnc hc hr hn hR n0 n1 n2 n3
          · exact tstand_out4 C x F T s w h how ep id now A n c vs hnc hc hr hR n0 n1 n2 (by omega)
        · exact tstand_out3 C x F T s w h how ep id now A n c vs hnc hc hr hR n0 n1 (by omega)
      · exact tstand_out2 C x F T s w h how ep id now A n c vs hnc hc hr hR n0 (by omega)
    · exact tstand_out1 C x F T s w h how ep id now A n c vs hnc hc hr hR (by omega)
end
end Go.Proofs.Ytmjbacmaafbdlaa
