/-
  WHAT IS PROVED: contracts of a ballot's Ack. Condition: the block is a ballot.
-/
import Derived.Test.YtmjbacmaafbdlaaBalW
namespace Go.Proofs.Ytmjbacmaafbdlaa
open Go.RowKit Go.Lib Go.Maps

theorem won_win (vs ys : List Int) : wonB (sorted vs) ys = winB vs ys := by unfold wonB winB; rw [sorted_len]
section
variable {w w' : World} {C g tb : Nat} {F : Nat → Prop} {T : Int} {s : Bst}
/-- a vote is counted: the tally's set grows, the rest stays -/
theorem Bl.counted (h : Bl w C g F T s) (hon : s.on = true) {mb sb tg tb : Nat} {ys' : List Int} (hb : Blk w g 52 #[.int .i64 T, .pointer (some ⟨sb, 0, none⟩), .map (some mb)]) (hm : Mp.MapAt w mb s.G) (hf : F mb)
    (h2 : Blk w sb 59 #[.pointer (some ⟨tg, 0, none⟩), .int .i64 s.ep, .int .i64 s.si]) (h3 : Ty w tg tb (sorted s.vs) s.ys) (h4 : Own w F tg) (h5 : F sb) (h6 : F tg) (h7 : F tb) (h8 : tb ≠ mb)
    (ht : Ty w' tg tb (sorted s.vs) ys') (hg : w.grownBy w' (some tb)) (hfine : Fine T { s with ys := ys' }) : Bl w' C g F T { s with ys := ys' } ∧ Turn w w' F := by
  have k : Turn w w' (fun i => i = tb) := Turn.of_grown hg (fun k e => by injection e with e; exact e.symm)
  refine ⟨⟨⟨mb, _, hb.turn k (blk_set_ne hb h3.set), map_turn hm k (fun e => h8 e.symm), hf, .inr ⟨hon, sb, tg, tb, rfl, h2.turn k (blk_set_ne h2 h3.set), ht, h4.turn k h3.ne, h5, h6, h7, h8⟩⟩, h.fg, hfine, fun i hi => Nat.lt_of_lt_of_le (h.lt i hi) k.size, h.lo⟩, ?_⟩
  exact ⟨k.os, k.tape, k.output, k.size, fun i hi hn => k.block i hi (fun e => hn (by rw [e]; exact h7))⟩
end
section
variable (C g : Nat) (F : Nat → Prop) (T : Int) (s : Bst) (w : World) (h : Bl w C g F T s)
include h
set_option maxHeartbeats 2000000 in
theorem ack_any (x ep now : Int) (hx : Mp.inInt x) : Calls Try.prog 13 #[.pointer (some ⟨g, 0, none⟩), .int .i64 x, .int .i64 ep, .int .i64 now] w (DidB C g F T (.bool (ackB T s x ep now)) (ackS T s x ep now) w) := by
  have HH := Lib.hid h
  have HI := Lib.hid hx
  have HFA := Lib.hid (h.fine.ack x ep now)
  clear hx
  cases hst : stB T s now with
  | false =>
    have HST := Lib.hid hst
    have HE : Hid (ackB T s x ep now = false ∧ ackS T s x ep now = s) := Lib.hid (by unfold ackB ackS ackO; rw [hst]; exact ⟨rfl, rfl⟩)
    rw [HE.out.1, HE.out.2]
    clear h hst
    go_enter Try.func13, Try.ntmps13
    go_wp2_with (fail)
    refine (standing_any C g F T s _ HH.out now).mono ?_
    rw [HST.out]
    rintro e w2 ⟨rfl, rfl⟩
    go_wp2
    go_ret
    exact DidB.same HH.out (Below.refl _ _)
  | true =>
    have HST := Lib.hid hst
    have hon : s.on = true := by unfold stB at hst; simp at hst; exact hst.1
    have HON := Lib.hid hon
    obtain ⟨mb, st, hb, hm, hf, hs⟩ := h.ex
    rcases hs with ⟨h0, rfl⟩ | ⟨_, sb, tg, tb, rfl, h2, h3, h4, h5, h6, h7, h8⟩
    · rw [hon] at h0; cases h0
    have HB := Lib.hid hb
    have HM := Lib.hid hm
    have HF := Lib.hid hf
    have H2 := Lib.hid h2
    have H3 := Lib.hid h3
    have H4 := Lib.hid h4
    have H5 := Lib.hid h5
    have H6 := Lib.hid h6
    have H7 := Lib.hid h7
    have H8 := Lib.hid h8
    have c1 := hb.cell 1
    have d0 := h2.cell 0
    simp at c1 d0
    by_cases hep : s.ep = ep
    · have HEP : Hid (ackO T s x ep now = okG s.vs s.ys x) := Lib.hid (by unfold ackO; rw [hst, hep]; simp)
      have HEE := Lib.hid hep
      have te : (ep != ep) = false := by simp
      clear hb hm hf h2 h3 h4 h5 h6 h7 h8 h hst hon hep
      cases hok : okG s.vs s.ys x with
      | false =>
        have HOK : Hid (okG (sorted s.vs) s.ys x = false) := Lib.hid (by rw [okG_sorted]; exact hok)
        have HAD := Lib.hid (addG_no HOK.out)
        have HE : Hid (ackB T s x ep now = false ∧ ackS T s x ep now = s) := Lib.hid (by unfold ackB ackS; rw [HEP.out, hok]; exact ⟨rfl, rfl⟩)
        rw [HE.out.1, HE.out.2]
        clear hok
        go_enter Try.func13, Try.ntmps13
        go_wp2_with (fail)
        refine (standing_any C g F T s _ HH.out now).mono ?_
        rw [HST.out, HEE.out]
        rintro e w2 ⟨rfl, rfl⟩
        go_wp2_with (fail)
        refine (grant_any tg tb _ s.ys x _ H3.out HI.out).mono ?_
        rw [HOK.out, HAD.out]
        rintro e w3 ⟨rfl, ht, hg⟩
        have HX := Lib.hid (HH.out.counted HON.out HB.out HM.out HF.out H2.out H3.out H4.out H5.out H6.out H7.out H8.out ht hg HH.out.fine)
        clear ht hg
        go_wp2
        go_ret
        exact ⟨rfl, F, HX.out.1, HX.out.2, Subs.refl _ _⟩
      | true =>
        have HOK : Hid (okG (sorted s.vs) s.ys x = true) := Lib.hid (by rw [okG_sorted]; exact hok)
        have HAD := Lib.hid (addG_yes HOK.out)
        cases hwn : winB s.vs (s.ys ++ [x]) with
        | false =>
          have HWN : Hid (wonB (sorted s.vs) (s.ys ++ [x]) = false) := Lib.hid (by rw [won_win]; exact hwn)
          have HE : Hid (ackB T s x ep now = false ∧ ackS T s x ep now = { s with ys := s.ys ++ [x] }) := Lib.hid (by unfold ackB ackS; rw [HEP.out, hok, hwn]; exact ⟨rfl, by rw [if_pos rfl, HON.out]; rfl⟩)
          rw [HE.out.2] at HFA
          rw [HE.out.1, HE.out.2]
          clear hok hwn
          go_enter Try.func13, Try.ntmps13
          go_wp2_with (fail)
          refine (standing_any C g F T s _ HH.out now).mono ?_
          rw [HST.out, HEE.out]
          rintro e w2 ⟨rfl, rfl⟩
          go_wp2_with (fail)
          refine (grant_any tg tb _ s.ys x _ H3.out HI.out).mono ?_
          rw [HOK.out, HAD.out]
          rintro e w3 ⟨rfl, ht, hg⟩
          have HX := Lib.hid (HH.out.counted HON.out HB.out HM.out HF.out H2.out H3.out H4.out H5.out H6.out H7.out H8.out ht hg HFA.out)
          have HT := Lib.hid ht
          have e1 : w3.cell? ⟨g, 1, none⟩ = w.cell? ⟨g, 1, none⟩ := World.cell?_of_block (hg.block g HB.out.lt (fun e => blk_set_ne HB.out H3.out.set (by injection e)))
          have e2 : w3.cell? ⟨sb, 0, none⟩ = w.cell? ⟨sb, 0, none⟩ := World.cell?_of_block (hg.block sb H2.out.lt (fun e => blk_set_ne H2.out H3.out.set (by injection e)))
          rw [c1] at e1
          rw [d0] at e2
          clear ht hg c1 d0
          go_wp2_with (fail)
          refine (won_any tg tb _ _ _ HT.out).mono ?_
          rw [HWN.out]
          rintro e w4 ⟨rfl, q, rfl⟩
          go_wp2
          go_ret
          exact ⟨rfl, F, HX.out.1.below (below_drewN (Below.refl _ _) q), HX.out.2.then_ (below_drewN (Below.refl _ _) q), Subs.refl _ _⟩
        | true =>
          have HWN : Hid (wonB (sorted s.vs) (s.ys ++ [x]) = true) := Lib.hid (by rw [won_win]; exact hwn)
          have HE : Hid (ackB T s x ep now = true ∧ ackS T s x ep now = stopS { s with ys := s.ys ++ [x] }) := Lib.hid (by unfold ackB ackS; rw [HEP.out, hok, hwn]; exact ⟨rfl, rfl⟩)
          have HFY : Hid (Fine T { s with ys := s.ys ++ [x] }) := Lib.hid (by have := HFA.out; rw [HE.out.2] at this; exact ⟨this.t1, this.t2, this.right, this.si, this.ep, this.sub, this.up, this.tl⟩)
          rw [HE.out.1, HE.out.2]
          clear hok hwn
          go_enter Try.func13, Try.ntmps13
          go_wp2_with (fail)
          refine (standing_any C g F T s _ HH.out now).mono ?_
          rw [HST.out, HEE.out]
          rintro e w2 ⟨rfl, rfl⟩
          go_wp2_with (fail)
          refine (grant_any tg tb _ s.ys x _ H3.out HI.out).mono ?_
          rw [HOK.out, HAD.out]
          rintro e w3 ⟨rfl, ht, hg⟩
          have HX := Lib.hid (HH.out.counted HON.out HB.out HM.out HF.out H2.out H3.out H4.out H5.out H6.out H7.out H8.out ht hg HFY.out)
          have HT := Lib.hid ht
          have e1 : w3.cell? ⟨g, 1, none⟩ = w.cell? ⟨g, 1, none⟩ := World.cell?_of_block (hg.block g HB.out.lt (fun e => blk_set_ne HB.out H3.out.set (by injection e)))
          have e2 : w3.cell? ⟨sb, 0, none⟩ = w.cell? ⟨sb, 0, none⟩ := World.cell?_of_block (hg.block sb H2.out.lt (fun e => blk_set_ne H2.out H3.out.set (by injection e)))
          rw [c1] at e1
          rw [d0] at e2
          clear ht hg c1 d0
          go_wp2_with (fail)
          refine (won_any tg tb _ _ _ HT.out).mono ?_
          rw [HWN.out]
          rintro e w4 ⟨rfl, q, rfl⟩
          go_wp2_with (fail)
          refine (stop_any C g F T _ _ (HX.out.1.below (below_drewN (Below.refl _ _) q))).mono ?_
          rintro e w5 ⟨rfl, F5, k5, t5, s5⟩
          go_wp2
          go_ret
          have k4 := HX.out.2.then_ (below_drewN (Below.refl _ _) q)
          exact ⟨rfl, F5, k5, k4.trans t5 (Subs.refl _ _), Subs.trans (Subs.refl _ _) s5 k4.size⟩
    · have HE : Hid (ackB T s x ep now = false ∧ ackS T s x ep now = s) := Lib.hid (by unfold ackB ackS ackO; rw [decide_eq_false hep, Bool.false_and, Bool.and_false]; exact ⟨rfl, rfl⟩)
      rw [HE.out.1, HE.out.2]
      have te : (s.ep != ep) = true := by simpa using hep
      clear hb hm hf h2 h3 h4 h5 h6 h7 h8 h hst hon hep
      go_enter Try.func13, Try.ntmps13
      go_wp2_with (fail)
      refine (standing_any C g F T s _ HH.out now).mono ?_
      rw [HST.out]
      rintro e w2 ⟨rfl, rfl⟩
      go_wp2
      go_ret
      exact DidB.same HH.out (Below.refl _ _)
end
end Go.Proofs.Ytmjbacmaafbdlaa
