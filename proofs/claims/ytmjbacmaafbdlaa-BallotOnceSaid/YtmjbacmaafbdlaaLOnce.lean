/-
  WHAT IS PROVED: the law BallotOnce answers true: a stand is won at most once, whoever votes, however often, and only by more than half of its voters. No condition beyond those of the given row.
-/
import Derived.Test.YtmjbacmaafbdlaaLAgain
import Derived.Test.YtmjbacmaafbdlaaMaj
namespace Go.Proofs.Ytmjbacmaafbdlaa
open Go.RowKit Go.Lib Go.Maps

/-! ### votes, one behind the other -/
/-- the ballot behind the first k votes: those who granted so far; on until they are more than half -/
def runO (vs : List Int) (ep : Int) : List Int → Bst
  | [] => ⟨true, ep, 0, vs, [], []⟩
  | x :: l => ackS 2 (runO vs ep l) x ep 0
/-- behind the votes fs -/
def bstO (vs : List Int) (ep : Int) (fs : List Int) : Bst := runO vs ep fs.reverse
theorem bstO_snoc (vs : List Int) (ep : Int) (fs : List Int) (x : Int) : bstO vs ep (fs ++ [x]) = ackS 2 (bstO vs ep fs) x ep 0 := by unfold bstO; rw [List.reverse_append]; rfl
structure InvO (vs : List Int) (ep : Int) (fs : List Int) (s : Bst) : Prop where
  vs_ : s.vs = vs
  ep_ : s.ep = ep
  si : s.si = 0
  G : s.G = []
  sub : Sub vs s.ys
  on : s.on = true → s.ys = gAll vs fs ∧ majB vs fs = false
  off : s.on = false → majB vs fs = true
theorem maj_len {vs fs : List Int} (hr : rightB vs = true) : majB vs fs = winB vs (gAll vs fs) := by
  rw [maj_right hr]
  unfold winB
  rw [len_gAll fs (right_iff.1 hr).2.1]
theorem maj_more {vs fs : List Int} {x : Int} (h : majB vs fs = true) : majB vs (fs ++ [x]) = true := maj_mono (fun _ hy => List.mem_append_left _ hy) h
theorem invO_start {vs : List Int} {ep : Int} : InvO vs ep [] (bstO vs ep []) :=
  ⟨rfl, rfl, rfl, rfl, Sub.nil vs, fun _ => ⟨rfl, maj_none vs⟩, fun h => by cases h⟩
theorem invO_step {vs : List Int} {ep : Int} {fs : List Int} {s : Bst} {x : Int} (hr : rightB vs = true) (h : InvO vs ep fs s) :
    InvO vs ep (fs ++ [x]) (ackS 2 s x ep 0) ∧ (ackB 2 s x ep 0 = true ↔ (s.on = true ∧ (ackS 2 s x ep 0).on = false)) := by
  have hst : stB 2 s 0 = s.on := by unfold stB lastB; rw [h.si]; simp
  cases hon : s.on with
  | false =>
    have ho : ackO 2 s x ep 0 = false := by unfold ackO; rw [hst, hon]; rfl
    have e1 : ackS 2 s x ep 0 = s := by unfold ackS; rw [ho]; rfl
    have e2 : ackB 2 s x ep 0 = false := by unfold ackB; rw [ho]; rfl
    rw [e1, e2]
    refine ⟨⟨h.vs_, h.ep_, h.si, h.G, h.sub, fun h1 => (by rw [hon] at h1; cases h1), fun _ => maj_more (h.off hon)⟩, ⟨fun h1 => (by cases h1), fun h1 => (by cases h1.1)⟩⟩
  | true =>
    obtain ⟨hy, hm⟩ := h.on hon
    have hok : ackO 2 s x ep 0 = okG vs s.ys x := by unfold ackO; rw [hst, hon, h.ep_, h.vs_]; simp
    cases hx : okG vs s.ys x with
    | false =>
      have e1 : ackS 2 s x ep 0 = s := by unfold ackS; rw [hok, hx]; rfl
      have e2 : ackB 2 s x ep 0 = false := by unfold ackB; rw [hok, hx]; rfl
      rw [e1, e2]
      have hg : gAll vs (fs ++ [x]) = gAll vs fs := by rw [gAll_snoc]; exact addG_no (by rw [← hy]; exact hx)
      refine ⟨⟨h.vs_, h.ep_, h.si, h.G, h.sub, fun _ => ⟨by rw [hg]; exact hy, ?_⟩, fun h1 => (by rw [hon] at h1; cases h1)⟩, ⟨fun h1 => (by cases h1), fun h1 => (by rw [hon] at h1; cases h1.2)⟩⟩
      rw [maj_len hr, hg, ← maj_len hr]; exact hm
    | true =>
      have hg : gAll vs (fs ++ [x]) = s.ys ++ [x] := by rw [gAll_snoc, ← hy]; exact addG_yes hx
      have hsub : Sub vs (s.ys ++ [x]) := by have := h.sub.add x; rwa [addG_yes hx] at this
      have hmj : majB vs (fs ++ [x]) = winB vs (s.ys ++ [x]) := by rw [maj_len hr, hg]
      have e1 : ackS 2 s x ep 0 = { s with on := !winB vs (s.ys ++ [x]), ys := s.ys ++ [x] } := by unfold ackS; rw [hok, hx, if_pos rfl, h.vs_]
      have e2 : ackB 2 s x ep 0 = winB vs (s.ys ++ [x]) := by unfold ackB; rw [hok, hx, h.vs_]; rfl
      rw [e1, e2]
      refine ⟨⟨h.vs_, h.ep_, h.si, h.G, hsub, fun h1 => ⟨hg.symm, ?_⟩, fun h1 => ?_⟩, ⟨fun h1 => ⟨rfl, by rw [h1]; rfl⟩, fun h1 => ?_⟩⟩
      · rw [hmj]; simpa using h1
      · rw [hmj]; simpa using h1
      · simpa using h1.2
/-- how often it was won so far -/
def winsO (s : Bst) : Int := if s.on = true then 0 else 1

set_option maxRecDepth 100000 in
set_option maxHeartbeats 4000000 in
theorem once_in (A B : Option Addr) (n c m d : Nat) (vs fs : List Int) (ep : Int) (W : World) (hnc : n ≤ c) (hc : c ≤ 9223372036854775807) (hmd : m ≤ d) (hn : n ≤ 100) (hm : m ≤ 200) (hra : Arg W A n vs) (hrb : Arg W B m fs) (hfs : inInts fs) :
    Calls Try.prog 4 #[.slice A n c, .slice B m d, .int .i64 ep] W (Says true W) := by
  have HLB := Lib.hid hrb.len
  have HRA := Lib.hid hra
  have HRB := Lib.hid hrb
  have HFS := Lib.hid hfs
  clear hra hrb hfs
  go_enter Try.func4, Try.ntmps4
  go_wp2_with (fail)
  refine (anchor_any _).mono ?_
  rintro e w0 ⟨rfl, hb0⟩
  have HB0 := Lib.hid hb0
  clear hb0
  go_wp2_with (fail)
  refine (bnew_yes 2 _ (by decide) (by decide)).mono ?_
  rintro e w1 ⟨g, F0, rfl, k1, hb1⟩
  have K1 := Lib.hid (k1.low HB0.out.size)
  have HB1 := Lib.hid (HB0.out.trans (hb1.mono HB0.out.size))
  clear k1 hb1
  have hra := HRA.out.now HB1.out
  cases hf : fineB ep vs 0 with
  | false =>
    have HE := Lib.hid (again0 (s := Bst.zero) hf)
    clear hf
    go_wp2_with (fail)
    refine (stand_any W.heap.size g F0 2 _ _ K1.out ep _ n c vs 0 hnc hc hra).mono ?_
    rintro e w3 ⟨rfl, F3, k3, t3, _⟩
    rw [HE.out.1]
    have HB3 := Lib.hid (K1.out.go HB1.out t3)
    clear k3 t3
    go_wp2
    go_ret
    exact ⟨rfl, HB3.out⟩
  | true =>
    have HE := Lib.hid (again1 (s := Bst.zero) rfl hf)
    have HR : Hid (rightB vs = true) := Lib.hid (fineB_iff.1 hf).1
    clear hf
    go_wp2_with (fail)
    refine (stand_any W.heap.size g F0 2 _ _ K1.out ep _ n c vs 0 hnc hc hra).mono ?_
    rintro e w3 ⟨rfl, F3, k3, t3, _⟩
    rw [HE.out.1]
    rw [HE.out.2] at k3
    have K3 : Hid (Bl w3 W.heap.size g F3 2 (bstO vs ep [])) := Lib.hid k3
    have HB3 := Lib.hid (K1.out.go HB1.out t3)
    clear k3 t3 hra
    go_wp2
    go_loopw [9, 39] (fun q i wr => ∃ (k : Nat) (F : Nat → Prop) (s : Bst), k ≤ m ∧ i = .int .i64 k ∧ q = .int .i64 (winsO s) ∧ Bl wr W.heap.size g F 2 s ∧ Below W.heap.size W wr ∧ InvO vs ep (fs.take k) s) (fun _ i _ => m - (RowKit.intOf i).toNat)
    case atStart => exact ⟨0, F3, _, by omega, rfl, rfl, K3.out, HB3.out, invO_start⟩
    case round =>
      clear HB3 K3
      obtain ⟨k, F, s, hk, rfl, rfl, hp, hb, hinv⟩ := hrel
      obtain ⟨w4, rfl⟩ : ∃ w4, w4 = wr := ⟨_, rfl⟩
      have K4 := Lib.hid hp
      have HB4 := Lib.hid hb
      have HIV := Lib.hid hinv
      clear hp hb hinv
      by_cases hlt : k < m
      · obtain ⟨adb, z, rfl, hz, hcz⟩ := HRB.out.cell hlt
        have cz := hcz _ HB4.out
        have hzi : Mp.inInt z := HFS.out z (List.mem_of_getElem? hz)
        have HZI := Lib.hid hzi
        obtain ⟨hiv2, hiff⟩ := invO_step (x := z) HR.out HIV.out
        rw [← takeZ_snoc hz] at hiv2
        have HIV2 := Lib.hid hiv2
        have HTK : Hid (Reads w4 w4.heap.size (some adb) (k + 1) (zints (fs.take (k + 1)))) := Lib.hid (by rw [zints_take]; exact (HRB.out.now HB4.out).take (by omega))
        have HRT := Lib.hid (HRB.out)
        clear hcz hz hiv2 hzi
        obtain ⟨s2, HS2⟩ : ∃ s2, Hid (ackS 2 s z ep 0 = s2) := ⟨_, Lib.hid rfl⟩
        rw [HS2.out] at HIV2 hiff
        cases ha : ackB 2 s z ep 0 with
        | false =>
          have HQ : Hid (winsO s = winsO s2) := Lib.hid (by
            rw [ha] at hiff
            unfold winsO
            cases h1 : s.on with
            | false =>
              have e1 : s2 = s := by rw [← HS2.out]; unfold ackS ackO stB; rw [h1]; rfl
              rw [e1, h1]
            | true =>
              cases h2 : s2.on with
              | false => exact absurd (hiff.2 ⟨h1, h2⟩) (by simp)
              | true => rfl)
          have HA := Lib.hid ha
          clear ha hiff
          go_wp2_with (fail)
          refine (ack_any W.heap.size g F 2 _ _ K4.out z ep 0 HZI.out).mono ?_
          rintro e w5 ⟨rfl, F5, k5, t5, _⟩
          rw [HA.out]
          rw [HS2.out] at k5
          have K5 := Lib.hid k5
          have HB5 := Lib.hid (K4.out.go HB4.out t5)
          clear k5 t5 cz
          go_wp2
          go_roundw
          case rel => exact ⟨k + 1, F5, s2, by omega, by go_num, by rw [HQ.out], K5.out, HB5.out, HIV2.out⟩
          case measure => simp [RowKit.intOf]; omega
        | true =>
          obtain ⟨h1, h2⟩ := hiff.1 ha
          have HW0 : Hid (winsO s = 0) := Lib.hid (by unfold winsO; rw [h1]; rfl)
          have HW1 : Hid (winsO s2 = 1) := Lib.hid (by unfold winsO; rw [h2]; rfl)
          have HMJ : Hid (majB vs (fs.take (k + 1)) = true) := Lib.hid (HIV2.out.off h2)
          have HA := Lib.hid ha
          rw [HW0.out]
          clear ha hiff h1 h2
          go_wp2_with (fail)
          refine (ack_any W.heap.size g F 2 _ _ K4.out z ep 0 HZI.out).mono ?_
          rintro e w5 ⟨rfl, F5, k5, t5, _⟩
          rw [HA.out]
          rw [HS2.out] at k5
          have K5 := Lib.hid k5
          have HB5 := Lib.hid (K4.out.go HB4.out t5)
          clear k5 t5 cz
          have hr1 := HRA.out.now HB5.out
          have hr2 : Reads w5 w5.heap.size (some adb) (k + 1) (zints (fs.take (k + 1))) := by rw [zints_take]; exact (HRB.out.now HB5.out).take (by omega)
          have hin : inInts (fs.take (k + 1)) := fun y hy => HFS.out y (List.mem_of_mem_take hy)
          go_wp2_with (fail)
          refine (maj_any _ _ n c (k + 1) d vs (fs.take (k + 1)) _ hnc hc (by omega) hr1 hr2 hin).mono ?_
          rintro e w6 ⟨rfl, hb6⟩
          rw [HMJ.out]
          have K6 := Lib.hid (K5.out.below hb6)
          have HB6 := Lib.hid (HB5.out.trans (hb6.mono HB5.out.size))
          clear hb6 hr1 hr2 hin
          go_wp2
          go_roundw
          case rel => exact ⟨k + 1, F5, s2, by omega, by go_num, by rw [HW1.out], K6.out, HB6.out, HIV2.out⟩
          case measure => simp [RowKit.intOf]; omega
      · obtain rfl : k = m := by omega
        have HIV2 : Hid (InvO vs ep fs s) := Lib.hid (by have := HIV.out; rwa [List.take_of_length_le (by rw [HLB.out]; exact Nat.le_refl _)] at this)
        have hr1 := HRA.out.now HB4.out
        have hr2 := HRB.out.now HB4.out
        cases hon : s.on with
        | true =>
          have HW0 : Hid (winsO s = 0) := Lib.hid (by unfold winsO; rw [hon]; rfl)
          have HMJ : Hid (majB vs fs = false) := Lib.hid (HIV2.out.on hon).2
          rw [HW0.out]
          clear hon
          go_wp2_with (fail)
          refine (maj_any _ _ n c k d vs fs _ hnc hc (by omega) hr1 hr2 HFS.out).mono ?_
          rintro e w6 ⟨rfl, hb6⟩
          rw [HMJ.out]
          have HB6 := Lib.hid (HB4.out.trans (hb6.mono HB4.out.size))
          clear hb6
          go_wp2
          go_ret
          exact ⟨rfl, HB6.out⟩
        | false =>
          have HW0 : Hid (winsO s = 1) := Lib.hid (by unfold winsO; rw [hon]; rfl)
          have HMJ : Hid (majB vs fs = true) := Lib.hid (HIV2.out.off hon)
          rw [HW0.out]
          clear hon
          go_wp2_with (fail)
          refine (maj_any _ _ n c k d vs fs _ hnc hc (by omega) hr1 hr2 HFS.out).mono ?_
          rintro e w6 ⟨rfl, hb6⟩
          rw [HMJ.out]
          have HB6 := Lib.hid (HB4.out.trans (hb6.mono HB4.out.size))
          clear hb6
          go_wp2
          go_ret
          exact ⟨rfl, HB6.out⟩
theorem once_out0 (A B : Option Addr) (n c m d : Nat) (ep : Int) (W : World) (h : 100 < n) :
    Calls Try.prog 4 #[.slice A n c, .slice B m d, .int .i64 ep] W (Says true W) := by
  have q : (100 : Int) < (n : Int) := by omega
  go_enter Try.func4, Try.ntmps4
  go_wp2_with (fail)
  refine (anchor_any _).mono ?_
  rintro e w0 ⟨rfl, hb0⟩
  have HB0 := Lib.hid hb0
  clear hb0
  go_wp2_with (fail)
  refine (bnew_yes 2 _ (by decide) (by decide)).mono ?_
  rintro e w1 ⟨g, F0, rfl, k1, hb1⟩
  have HB1 := Lib.hid (HB0.out.trans (hb1.mono HB0.out.size))
  clear k1 hb1
  go_wp2
  go_ret
  exact ⟨rfl, HB1.out⟩
theorem once_out1 (A B : Option Addr) (n c m d : Nat) (ep : Int) (W : World) (h0 : n ≤ 100) (h : 200 < m) :
    Calls Try.prog 4 #[.slice A n c, .slice B m d, .int .i64 ep] W (Says true W) := by
  have q0 : decide ((100 : Int) < (n : Int)) = false := by simp; omega
  have q : (200 : Int) < (m : Int) := by omega
  go_enter Try.func4, Try.ntmps4
  go_wp2_with (fail)
  refine (anchor_any _).mono ?_
  rintro e w0 ⟨rfl, hb0⟩
  have HB0 := Lib.hid hb0
  clear hb0
  go_wp2_with (fail)
  refine (bnew_yes 2 _ (by decide) (by decide)).mono ?_
  rintro e w1 ⟨g, F0, rfl, k1, hb1⟩
  have HB1 := Lib.hid (HB0.out.trans (hb1.mono HB0.out.size))
  clear k1 hb1
  go_wp2
  go_ret
  exact ⟨rfl, HB1.out⟩
theorem once_any (A B : Option Addr) (n c m d : Nat) (vs fs : List Int) (ep : Int) (W : World) (hnc : n ≤ c) (hc : c ≤ 9223372036854775807) (hmd : m ≤ d) (hra : Arg W A n vs) (hrb : Arg W B m fs) (hfs : inInts fs) :
    Calls Try.prog 4 #[.slice A n c, .slice B m d, .int .i64 ep] W (Says true W) := by
  by_cases h0 : n ≤ 100
  · by_cases h1 : m ≤ 200
    · exact once_in A B n c m d vs fs ep W hnc hc hmd h0 h1 hra hrb hfs
    · exact once_out1 A B n c m d ep W h0 (by omega)
  · exact once_out0 A B n c m d ep W (by omega)
end Go.Proofs.Ytmjbacmaafbdlaa
