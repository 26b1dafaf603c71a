/-
  WHAT IS PROVED: the law EpochOrder answers true for all arguments, which read behind the call as before it (epochs that are seen in any order come to the same). No condition beyond those of the given row.
-/
import Derived.Test.YtckdibnadokipaaUp
import Derived.Test.YtckdibnadokipaaQuiet
import Derived.Deep.RegionHeld3
import Derived.Deep.CutRange
namespace Go.Proofs.Ytckdibnadokipaa
open Go.RowKit Go.Lib Go.ChangeShapes Go.WideShapes Go.ChangeAt Go.WideElems

/-- what an epoch that is seen leaves -/
def upd (e : Ep) (z : Int) : Ep := ⟨if upB z 281474976710656 = true then max e.cur z else e.cur, e.vote, e.conf⟩
theorem upd_see {e : Ep} {z : Int} (h : okB e = true) : (seeF e z = 0 ∧ seeE e z = upd e z) ∨ (seeF e z = 10 ∧ upd e z = e) := by
  rcases see_cases e z with ⟨g, _⟩ | ⟨_, g, _, e2⟩ | ⟨_, g, e1, e2⟩
  · rw [h] at g; cases g
  · refine .inr ⟨e2, ?_⟩
    unfold upd
    rw [g]
    simp
  · refine .inl ⟨e2, ?_⟩
    unfold upd
    rw [e1, g]
    simp
theorem upd_ok {e : Ep} {z : Int} (h : okB e = true) : okB (upd e z) = true := by
  unfold upd
  rw [ok_iff] at *
  simp only
  split
  · have := up_iff.1 (by assumption)
    omega
  · exact h
theorem upd_comm (e : Ep) (x y : Int) : upd (upd e x) y = upd (upd e y) x := by
  unfold upd
  congr 1
  simp only
  split <;> split <;> omega
def run (e : Ep) (l : List Int) : Ep := l.foldl upd e
theorem run_ok {e : Ep} (h : okB e = true) : ∀ l : List Int, okB (run e l) = true := by
  intro l
  induction l generalizing e with
  | nil => exact h
  | cons z l ih => exact ih (upd_ok h)
theorem run_upd (e : Ep) (z : Int) (l : List Int) : run (upd e z) l = upd (run e l) z := by
  induction l generalizing e with
  | nil => rfl
  | cons x l ih => show run (upd (upd e z) x) l = upd (run (upd e x) l) z; rw [upd_comm, ih]
theorem run_rev (e : Ep) (l : List Int) : run e l.reverse = run e l := by
  induction l generalizing e with
  | nil => rfl
  | cons x l ih =>
    rw [List.reverse_cons]
    show (l.reverse ++ [x]).foldl upd e = run (upd e x) l
    rw [List.foldl_append, run_upd]
    show upd (run e l.reverse) x = _
    rw [ih]
theorem run_take {l : List Int} {k : Nat} {z : Int} (e : Ep) (h : l[k]? = some z) : run e (l.take (k + 1)) = upd (run e (l.take k)) z := by
  rw [List.take_add_one, h]
  show (l.take k ++ [z]).foldl upd e = _
  rw [List.foldl_append]
  rfl
theorem i64_fits {n : Int} (h : -9223372036854775808 ≤ n) (h2 : n ≤ 9223372036854775807) : IntKind.i64.wrap n = n := by rw [IntKind.wrap_i64]; omega
/-- a variable of its own is made for an answer: it may be made ahead of the call, or behind it -/
theorem new_ahead {w w5 : World} {b : Nat} (hb : b = w.heap.size) (h5 : Below (w.alloc (.cells #[.int .i64 0, .int .i64 0, .int .i64 0] 23)).heap.size (w.alloc (.cells #[.int .i64 0, .int .i64 0, .int .i64 0] 23)) w5) :
    Bx w5 b ⟨0, 0, 0⟩ ∧ Below w.heap.size w w5 :=
  ⟨(Bx.new w ⟨0, 0, 0⟩ hb).later h5, ((Below.refl _ w).alloc (Nat.le_refl _) _).trans (h5.mono (by simp))⟩

set_option maxRecDepth 100000 in
set_option maxHeartbeats 8000000 in
theorem order_in (r : Ep) (A : Option Addr) (n cap : Nat) (l : List Int) (W : World) (hr0 : okB r = true) (hn : n ≤ 60) (hr : ∀ g, W.heap.size ≤ g → Reads W g A n (zints l)) :
    Calls Try.prog 11 #[vEp r, .slice A n cap] W (Says true W) := by
  have d0 : (n : Int) ≤ 60 := by omega
  have HR0 := Lib.hid hr0
  go_enter Try.func11, Try.ntmps11
  go_wp2_with (fail)
  refine (anchor_any _).mono ?_
  rintro e w1 ⟨rfl, hb1⟩
  have K1 := Lib.hid ((Bx.new W r rfl).later hb1)
  have HB1 := Lib.hid (((Below.refl _ W).alloc (Nat.le_refl _) _).trans (hb1.mono (by simp)))
  obtain ⟨a0, a1, a2⟩ := K1.out.box
  clear hb1 hr0
  go_wp2_with (fail)
  refine (lawright_any r _).mono ?_
  rintro e w2 ⟨rfl, hb2⟩
  rw [HR0.out]
  have K2 := Lib.hid (K1.out.later hb2)
  have HB2 := Lib.hid (HB1.out.trans (hb2.mono HB1.out.size))
  obtain ⟨b0, b1, b2⟩ := K2.out.box
  clear hb2 a0 a1 a2 K1 HB1
  have A0 := fun o => ((K2.out.alloc o).c0)
  have A1 := fun o => ((K2.out.alloc o).c1)
  have A2 := fun o => ((K2.out.alloc o).c2)
  have A3 := fun o o' => (((K2.out.alloc o).alloc o').c0)
  have A4 := fun o o' => (((K2.out.alloc o).alloc o').c1)
  have A5 := fun o o' => (((K2.out.alloc o).alloc o').c2)
  go_upto_region 5 with (fail)
  go_cut [5, 6] from 22 to 23 (fun va vb wx => ∃ ba bb, va = .pointer (some ⟨ba, 0, none⟩) ∧ vb = .pointer (some ⟨bb, 0, none⟩) ∧ ba ≠ bb ∧ w2.heap.size ≤ ba ∧ w2.heap.size ≤ bb ∧ Bx wx ba r ∧ Bx wx bb r ∧ Below W.heap.size W wx)
  case first =>
    have E1 := Lib.hid (Bx.new w2 r rfl)
    have E2 := Lib.hid (Bx.new (w2.alloc (.cells #[.int .i64 r.cur, .int .i64 r.vote, .int .i64 r.conf] 23)) r (b := w2.heap.size + 1) (by simp))
    have E3 := Lib.hid (below_new (below_new HB2.out HB2.out.size (.cells #[.int .i64 r.cur, .int .i64 r.vote, .int .i64 r.conf] 23)) (Nat.le_trans HB2.out.size (by simp)) (.cells #[.int .i64 r.cur, .int .i64 r.vote, .int .i64 r.conf] 23))
    go_region
    all_goals
      go_wp2_with fail
      go_meet
      first
      | exact ⟨w2.heap.size, w2.heap.size + 1, rfl, rfl, by omega, by omega, by omega, (E1.out.alloc _), E2.out, below_drewN E3.out 1⟩
      | exact ⟨w2.heap.size + 1, w2.heap.size, rfl, rfl, by omega, by omega, by omega, E2.out, (E1.out.alloc _), below_drewN E3.out 1⟩
  case rest =>
    obtain ⟨ba, bb, rfl, rfl, hne, hba, hbb, ha, hb, hw⟩ := hcut
    have HRR := Lib.hid hr
    have HA0 := Lib.hid ha
    have HBB0 := Lib.hid hb
    have HW0 := Lib.hid hw
    have HL := Lib.hid (show l.length = n by have := (hr _ (Nat.le_refl _)).1; simpa [zints] using this)
    clear hr ha hb hw A0 A1 A2 A3 A4 A5 b0 b1 b2 K2
    go_wp2
    go_loopw [7, 8, 9, 10, 11, 26] (fun _ _ _ _ _ i wr => ∃ k : Nat, k ≤ n ∧ i = .int .i64 k ∧ Bx wr ba (run r (l.take k)) ∧ Bx wr bb (run r (l.reverse.take k)) ∧ Below W.heap.size W wr) (fun _ _ _ _ _ i _ => n - (Go.Lib.intOf i).toNat)
    case atStart => exact ⟨0, by omega, rfl, HA0.out, HBB0.out, HW0.out⟩
    case round =>
      obtain ⟨k, hk, rfl, ha, hb, hw⟩ := hrel
      by_cases hlt : k < n
      · obtain ⟨ad, u, rfl, hu, hcu⟩ := ((HRR.out _ (Nat.le_refl _)).old hw hw.size).at_ hlt
        obtain ⟨z, hz, rfl⟩ := zints_at hu
        obtain ⟨a, EA⟩ : ∃ a, Hid (run r (l.take k) = a) := ⟨_, Lib.hid rfl⟩
        obtain ⟨b, EB⟩ : ∃ a, Hid (run r (l.reverse.take k) = a) := ⟨_, Lib.hid rfl⟩
        rw [EA.out] at ha
        rw [EB.out] at hb
        obtain ⟨x, HXf⟩ : ∃ x, Hid (seeE a z = x) := ⟨_, Lib.hid rfl⟩
        obtain ⟨f, HFf⟩ : ∃ f, Hid (seeF a z = f) := ⟨_, Lib.hid rfl⟩
        have HZ := Lib.hid hz
        have HA := Lib.hid ha
        have HB := Lib.hid hb
        have HW := Lib.hid hw
        have HSL : Hid (∀ w', Below wr.heap.size wr w' → (w'.cell? ⟨ba, 0, none⟩ = some (.int .i64 a.cur) ∧ w'.cell? ⟨ba, 1, none⟩ = some (.int .i64 a.vote) ∧ w'.cell? ⟨ba, 2, none⟩ = some (.int .i64 a.conf) ∧ w'.cell? (ad.add k) = some (.int .i64 z))) := fun w' h =>
          ⟨(HA.out.later h).c0, (HA.out.later h).c1, (HA.out.later h).c2, (h.cell (lt_of_cell hcu)).trans hcu⟩
        clear hu hz ha hb hw
        have HD0 : Below wr.heap.size wr wr.drew := below_drewN (Below.refl _ _) 1
        have HD1 : Below wr.heap.size wr (wr.drew.alloc (.cells #[.int .i64 0, .int .i64 0, .int .i64 0] 23)) := HD0.alloc (Nat.le_refl _) _
        have HD0 : Below wr.heap.size wr wr.drew := below_drewN (Below.refl _ _) 1
        have HD1 : Below wr.heap.size wr (wr.drew.alloc (.cells #[.int .i64 0, .int .i64 0, .int .i64 0] 23)) := HD0.alloc (Nat.le_refl _) _
        have HD0 : Below wr.heap.size wr wr.drew := below_drewN (Below.refl _ _) 1
        have HD1 : Below wr.heap.size wr (wr.drew.alloc (.cells #[.int .i64 0, .int .i64 0, .int .i64 0] 23)) := HD0.alloc (Nat.le_refl _) _
        have HD0 : Below wr.heap.size wr wr.drew := below_drewN (Below.refl _ _) 1
        have HD1 : Below wr.heap.size wr (wr.drew.alloc (.cells #[.int .i64 0, .int .i64 0, .int .i64 0] 23)) := HD0.alloc (Nat.le_refl _) _
        have HD0 : Below wr.heap.size wr wr.drew := below_drewN (Below.refl _ _) 1
        have HD1 : Below wr.heap.size wr (wr.drew.alloc (.cells #[.int .i64 0, .int .i64 0, .int .i64 0] 23)) := HD0.alloc (Nat.le_refl _) _
        have HD0 : Below wr.heap.size wr wr.drew := below_drewN (Below.refl _ _) 1
        have HD1 : Below wr.heap.size wr (wr.drew.alloc (.cells #[.int .i64 0, .int .i64 0, .int .i64 0] 23)) := HD0.alloc (Nat.le_refl _) _
        have HD0 : Below wr.heap.size wr wr.drew := below_drewN (Below.refl _ _) 1
        have HD1 : Below wr.heap.size wr (wr.drew.alloc (.cells #[.int .i64 0, .int .i64 0, .int .i64 0] 23)) := HD0.alloc (Nat.le_refl _) _
        have HD0 : Below wr.heap.size wr wr.drew := below_drewN (Below.refl _ _) 1
        have HD1 : Below wr.heap.size wr (wr.drew.alloc (.cells #[.int .i64 0, .int .i64 0, .int .i64 0] 23)) := HD0.alloc (Nat.le_refl _) _
        have HD0 : Below wr.heap.size wr wr.drew := below_drewN (Below.refl _ _) 1
        have HD1 : Below wr.heap.size wr (wr.drew.alloc (.cells #[.int .i64 0, .int .i64 0, .int .i64 0] 23)) := HD0.alloc (Nat.le_refl _) _
        go_upto_region 9 with (fail)
        go_cut [8, 9] from 29 to 37 (fun vx vf wx => ∃ bx, vx = .pointer (some ⟨bx, 0, none⟩) ∧ vf = .int .i64 f ∧ Bx wx bx x ∧ Bx wx ba a ∧ Bx wx bb b ∧ Below wr.heap.size wr wx ∧ wr.heap.size ≤ bx)
        case first =>
          go_region_held3 (fun w' => w'.cell? ⟨ba, 0, none⟩ = some (.int .i64 a.cur) ∧ w'.cell? ⟨ba, 1, none⟩ = some (.int .i64 a.vote) ∧ w'.cell? ⟨ba, 2, none⟩ = some (.int .i64 a.conf) ∧ w'.cell? (ad.add k) = some (.int .i64 z)) (first | exact HSL.out _ HD0 | exact HSL.out _ HD1 | exact HSL.out _ HB5 | exact HSL.out _ (below_new HB5 HB5.size _) | exact HSL.out _ (below3 HB5 (by first | exact Nat.le_refl _ | simp [World.setCell]) _ _ _)) (first | (go_at_call 13; refine (see_any a z _).mono ?_; rintro en w5 ⟨rfl, hb5⟩; rw [HXf.out, HFf.out]; first | (have HB5 : Below wr.heap.size wr w5 := HD0.trans (new_ahead (w := wr.drew) (b := wr.heap.size) (by first | rfl | simp [World.setCell]) hb5).2; have HN5 := Lib.hid (new_ahead (w := wr.drew) (b := wr.heap.size) (by first | rfl | simp [World.setCell]) hb5).1; obtain ⟨n0, n1, n2⟩ := HN5.out.box; have n3 := HN5.out.fz 0; have n4 := HN5.out.fz 1; have n5 := HN5.out.fz 2; clear hb5) | (have HB5 : Below wr.heap.size wr w5 := HD0.trans hb5; clear hb5)))
          all_goals
            go_wp2_with fail
            go_meet
            first
            | exact ⟨w5.heap.size, rfl, rfl, Bx.new w5 x rfl, (HA.out.later HB5).alloc _, (HB.out.later HB5).alloc _, HB5.alloc HB5.size _, HB5.size⟩
            | exact ⟨wr.heap.size, rfl, rfl, HN5.out.store x, (HA.out.later HB5).far3 (by have := HA.out.lt; (try simp [World.setCell] at this); omega) _ _ _, (HB.out.later HB5).far3 (by have := HB.out.lt; (try simp [World.setCell] at this); omega) _ _ _, below3 HB5 (by first | exact Nat.le_refl _ | simp [World.setCell]) _ _ _, by first | exact Nat.le_refl _ | simp [World.setCell]⟩
        case rest =>
          obtain ⟨bx, rfl, rfl, hx, ha, hb, hw, hbx⟩ := hcut
          obtain ⟨y, hy⟩ : ∃ y, l.reverse[k]? = some y := ⟨_, List.getElem?_eq_getElem (by rw [List.length_reverse, HL.out]; exact hlt)⟩
          have HK1 := Lib.hid (hw)
          have hbnx : ba ≠ bx := by have := HA.out.lt; omega
          have hbnx' : bb ≠ bx := by have := HB.out.lt; omega
          obtain ⟨x0, x1, x2⟩ := hx.box
          obtain ⟨a0, a1, a2⟩ := ha.box
          have f0 := ha.fz 0
          have f1 := ha.fz 1
          have f2 := ha.fz 2
          obtain ⟨v, HV⟩ : ∃ v, Hid (run r (l.take (k + 1)) = v) := ⟨_, Lib.hid rfl⟩
          obtain ⟨t, HT⟩ : ∃ v, Hid (run r (l.reverse.take (k + 1)) = v) := ⟨_, Lib.hid rfl⟩
          have HVA : Hid (v = upd a z) := by show _ = _; rw [← HV.out, ← EA.out]; exact run_take r HZ.out
          have HTB : Hid (t = upd b y) := by show _ = _; rw [← HT.out, ← EB.out]; exact run_take r hy
          have HOA := Lib.hid (show okB a = true by rw [← EA.out]; exact run_ok HR0.out _)
          have HOB := Lib.hid (show okB b = true by rw [← EB.out]; exact run_ok HR0.out _)
          obtain ⟨x', HXg⟩ : ∃ x, Hid (seeE b y = x) := ⟨_, Lib.hid rfl⟩
          obtain ⟨g, HFg⟩ : ∃ f, Hid (seeF b y = f) := ⟨_, Lib.hid rfl⟩
          have hcase := upd_see (z := z) HOA.out
          have hcase2 := upd_see (z := y) HOB.out
          rw [HXf.out, HFf.out, ← HVA.out] at hcase
          rw [HXg.out, HFg.out, ← HTB.out] at hcase2
          have HC2 := Lib.hid hcase2
          have HYC : Hid (∀ w', Below W.heap.size W w' → w'.cell? (ad.add (n - 1 - k)) = some (.int .i64 y)) := fun w' h => by
            obtain ⟨ad', u, ea, hu, hc⟩ := ((HRR.out _ (Nat.le_refl _)).old h h.size).at_ (show n - 1 - k < n by omega)
            cases ea
            rw [hc]
            have e := List.getElem?_reverse (l := l) (i := k) (by rw [HL.out]; exact hlt)
            rw [e, HL.out] at hy
            unfold zints at hu
            rw [List.getElem?_map, hy] at hu
            exact hu.symm
          have HWc := Lib.hid (HW.out.trans (hw.mono HW.out.size))
          have HX1 := Lib.hid hx
          have HA1 := Lib.hid ha
          have HB1 := Lib.hid hb
          clear hx ha hb hw hy hcase2 hbx
          have hne' := hne.symm
          obtain ⟨m, hm⟩ : ∃ m : Nat, n - 1 - k = m := ⟨_, rfl⟩
          have q1 : (n : Int) - 1 - (k : Int) = (m : Int) := by omega
          have q2 : m < n := by omega
          have q3 : IntKind.i64.wrap ((n : Int) - 1) = (n : Int) - 1 := i64_fits (by omega) (by omega)
          have q4 : IntKind.i64.wrap (m : Int) = (m : Int) := i64_fits (by omega) (by omega)
          rw [hm] at HYC
          clear hm
          rcases hcase with ⟨rfl, rfl⟩ | ⟨rfl, hva⟩
          · have HAq := Lib.hid (HA1.out.store x)
            have HBq := Lib.hid (HB1.out.far3 (c := ba) (i := 0) (j := 1) (k := 2) hne' (.int .i64 x.cur) (.int .i64 x.vote) (.int .i64 x.conf))
            have HWq := Lib.hid (below3 HWc.out (c := ba) (i := 0) (j := 1) (k := 2) (by have := HB2.out.size; omega) (.int .i64 x.cur) (.int .i64 x.vote) (.int .i64 x.conf))
            have HSL : Hid (∀ w', Below (((wc.setCell ⟨ba, 0, none⟩ (.int .i64 x.cur)).setCell ⟨ba, 1, none⟩ (.int .i64 x.vote)).setCell ⟨ba, 2, none⟩ (.int .i64 x.conf)).heap.size (((wc.setCell ⟨ba, 0, none⟩ (.int .i64 x.cur)).setCell ⟨ba, 1, none⟩ (.int .i64 x.vote)).setCell ⟨ba, 2, none⟩ (.int .i64 x.conf)) w' → (w'.cell? ⟨bb, 0, none⟩ = some (.int .i64 b.cur) ∧ w'.cell? ⟨bb, 1, none⟩ = some (.int .i64 b.vote) ∧ w'.cell? ⟨bb, 2, none⟩ = some (.int .i64 b.conf) ∧ w'.cell? (ad.add m) = some (.int .i64 y))) := fun w' h =>
              ⟨(HBq.out.later h).c0, (HBq.out.later h).c1, (HBq.out.later h).c2, HYC.out w' (HWq.out.trans (h.mono HWq.out.size))⟩
            have HD0 : Below (((wc.setCell ⟨ba, 0, none⟩ (.int .i64 x.cur)).setCell ⟨ba, 1, none⟩ (.int .i64 x.vote)).setCell ⟨ba, 2, none⟩ (.int .i64 x.conf)).heap.size (((wc.setCell ⟨ba, 0, none⟩ (.int .i64 x.cur)).setCell ⟨ba, 1, none⟩ (.int .i64 x.vote)).setCell ⟨ba, 2, none⟩ (.int .i64 x.conf)) (((wc.setCell ⟨ba, 0, none⟩ (.int .i64 x.cur)).setCell ⟨ba, 1, none⟩ (.int .i64 x.vote)).setCell ⟨ba, 2, none⟩ (.int .i64 x.conf)).drew := below_drewN (Below.refl _ _) 1
            have HD1 : Below (((wc.setCell ⟨ba, 0, none⟩ (.int .i64 x.cur)).setCell ⟨ba, 1, none⟩ (.int .i64 x.vote)).setCell ⟨ba, 2, none⟩ (.int .i64 x.conf)).heap.size (((wc.setCell ⟨ba, 0, none⟩ (.int .i64 x.cur)).setCell ⟨ba, 1, none⟩ (.int .i64 x.vote)).setCell ⟨ba, 2, none⟩ (.int .i64 x.conf)) ((((wc.setCell ⟨ba, 0, none⟩ (.int .i64 x.cur)).setCell ⟨ba, 1, none⟩ (.int .i64 x.vote)).setCell ⟨ba, 2, none⟩ (.int .i64 x.conf)).drew.alloc (.cells #[.int .i64 0, .int .i64 0, .int .i64 0] 23)) := HD0.alloc (Nat.le_refl _) _
            go_upto_region 12 with (fail)
            go_cut [10, 11] from 41 to 53 (fun vx vf wx => ∃ bx, vx = .pointer (some ⟨bx, 0, none⟩) ∧ vf = .int .i64 g ∧ Bx wx bx x' ∧ Bx wx ba x ∧ Bx wx bb b ∧ Below (((wc.setCell ⟨ba, 0, none⟩ (.int .i64 x.cur)).setCell ⟨ba, 1, none⟩ (.int .i64 x.vote)).setCell ⟨ba, 2, none⟩ (.int .i64 x.conf)).heap.size (((wc.setCell ⟨ba, 0, none⟩ (.int .i64 x.cur)).setCell ⟨ba, 1, none⟩ (.int .i64 x.vote)).setCell ⟨ba, 2, none⟩ (.int .i64 x.conf)) wx ∧ (((wc.setCell ⟨ba, 0, none⟩ (.int .i64 x.cur)).setCell ⟨ba, 1, none⟩ (.int .i64 x.vote)).setCell ⟨ba, 2, none⟩ (.int .i64 x.conf)).heap.size ≤ bx)
            case first =>
              go_region_held3 (fun w' => w'.cell? ⟨bb, 0, none⟩ = some (.int .i64 b.cur) ∧ w'.cell? ⟨bb, 1, none⟩ = some (.int .i64 b.vote) ∧ w'.cell? ⟨bb, 2, none⟩ = some (.int .i64 b.conf) ∧ w'.cell? (ad.add m) = some (.int .i64 y)) (first | exact HSL.out _ HD0 | exact HSL.out _ HD1 | exact HSL.out _ HB5 | exact HSL.out _ (below_new HB5 HB5.size _) | exact HSL.out _ (below3 HB5 (by first | exact Nat.le_refl _ | simp [World.setCell]) _ _ _)) (first | (go_at_call 13; refine (see_any b y _).mono ?_; rintro en w6 ⟨rfl, hb5⟩; rw [HXg.out, HFg.out]; first | (have HB5 : Below (((wc.setCell ⟨ba, 0, none⟩ (.int .i64 x.cur)).setCell ⟨ba, 1, none⟩ (.int .i64 x.vote)).setCell ⟨ba, 2, none⟩ (.int .i64 x.conf)).heap.size (((wc.setCell ⟨ba, 0, none⟩ (.int .i64 x.cur)).setCell ⟨ba, 1, none⟩ (.int .i64 x.vote)).setCell ⟨ba, 2, none⟩ (.int .i64 x.conf)) w6 := HD0.trans (new_ahead (w := (((wc.setCell ⟨ba, 0, none⟩ (.int .i64 x.cur)).setCell ⟨ba, 1, none⟩ (.int .i64 x.vote)).setCell ⟨ba, 2, none⟩ (.int .i64 x.conf)).drew) (b := wc.heap.size) (by first | rfl | simp [World.setCell]) hb5).2; have HN5 := Lib.hid (new_ahead (w := (((wc.setCell ⟨ba, 0, none⟩ (.int .i64 x.cur)).setCell ⟨ba, 1, none⟩ (.int .i64 x.vote)).setCell ⟨ba, 2, none⟩ (.int .i64 x.conf)).drew) (b := wc.heap.size) (by first | rfl | simp [World.setCell]) hb5).1; obtain ⟨n0, n1, n2⟩ := HN5.out.box; have n3 := HN5.out.fz 0; have n4 := HN5.out.fz 1; have n5 := HN5.out.fz 2; clear hb5) | (have HB5 : Below (((wc.setCell ⟨ba, 0, none⟩ (.int .i64 x.cur)).setCell ⟨ba, 1, none⟩ (.int .i64 x.vote)).setCell ⟨ba, 2, none⟩ (.int .i64 x.conf)).heap.size (((wc.setCell ⟨ba, 0, none⟩ (.int .i64 x.cur)).setCell ⟨ba, 1, none⟩ (.int .i64 x.vote)).setCell ⟨ba, 2, none⟩ (.int .i64 x.conf)) w6 := HD0.trans hb5; clear hb5)))
              all_goals
                go_wp2_with fail
                go_meet
                first
                | exact ⟨w6.heap.size, rfl, rfl, Bx.new w6 x' rfl, (HAq.out.later HB5).alloc _, (HBq.out.later HB5).alloc _, HB5.alloc HB5.size _, HB5.size⟩
                | exact ⟨wc.heap.size, rfl, rfl, HN5.out.store x', (HAq.out.later HB5).far3 (by have := HAq.out.lt; (try simp [World.setCell] at this); omega) _ _ _, (HBq.out.later HB5).far3 (by have := HBq.out.lt; (try simp [World.setCell] at this); omega) _ _ _, below3 HB5 (by first | exact Nat.le_refl _ | simp [World.setCell]) _ _ _, by first | exact Nat.le_refl _ | simp [World.setCell]⟩
            case rest =>
              obtain ⟨by_, rfl, rfl, hx, ha, hb, hw, hbx⟩ := hcut
              have hbny : bb ≠ by_ := by have := HBq.out.lt; omega
              obtain ⟨y0, y1, y2⟩ := hx.box
              obtain ⟨b0, b1, b2⟩ := hb.box
              have g0 := hb.fz 0
              have g1 := hb.fz 1
              have g2 := hb.fz 2
              have HAe := Lib.hid ha
              have HBe := Lib.hid hb
              have HWe := Lib.hid (HWq.out.trans (hw.mono HWq.out.size))
              clear hx ha hb hw hbx
              rcases HC2.out with ⟨rfl, rfl⟩ | ⟨rfl, htb⟩
              · go_wp2
                go_roundw
                case rel => exact ⟨k + 1, by omega, by go_num, by rw [HV.out]; exact HAe.out.far3 hne _ _ _, by rw [HT.out]; exact HBe.out.store x', below3 HWe.out (by have := HB2.out.size; omega) _ _ _⟩
                case measure => simp [Go.Lib.intOf]; omega
              · go_wp2
                go_roundw
                case rel => exact ⟨k + 1, by omega, by go_num, by rw [HV.out]; exact HAe.out, by rw [HT.out, htb]; exact HBe.out, HWe.out⟩
                case measure => simp [Go.Lib.intOf]; omega
          · subst hva
            have HAq := Lib.hid HA1.out
            have HBq := Lib.hid HB1.out
            have HWq := Lib.hid HWc.out
            have HSL : Hid (∀ w', Below wc.heap.size wc w' → (w'.cell? ⟨bb, 0, none⟩ = some (.int .i64 b.cur) ∧ w'.cell? ⟨bb, 1, none⟩ = some (.int .i64 b.vote) ∧ w'.cell? ⟨bb, 2, none⟩ = some (.int .i64 b.conf) ∧ w'.cell? (ad.add m) = some (.int .i64 y))) := fun w' h =>
              ⟨(HBq.out.later h).c0, (HBq.out.later h).c1, (HBq.out.later h).c2, HYC.out w' (HWq.out.trans (h.mono HWq.out.size))⟩
            have HD0 : Below wc.heap.size wc wc.drew := below_drewN (Below.refl _ _) 1
            have HD1 : Below wc.heap.size wc (wc.drew.alloc (.cells #[.int .i64 0, .int .i64 0, .int .i64 0] 23)) := HD0.alloc (Nat.le_refl _) _
            go_upto_region 12 with (fail)
            go_cut [10, 11] from 41 to 53 (fun vx vf wx => ∃ bx, vx = .pointer (some ⟨bx, 0, none⟩) ∧ vf = .int .i64 g ∧ Bx wx bx x' ∧ Bx wx ba v ∧ Bx wx bb b ∧ Below wc.heap.size wc wx ∧ wc.heap.size ≤ bx)
            case first =>
              go_region_held3 (fun w' => w'.cell? ⟨bb, 0, none⟩ = some (.int .i64 b.cur) ∧ w'.cell? ⟨bb, 1, none⟩ = some (.int .i64 b.vote) ∧ w'.cell? ⟨bb, 2, none⟩ = some (.int .i64 b.conf) ∧ w'.cell? (ad.add m) = some (.int .i64 y)) (first | exact HSL.out _ HD0 | exact HSL.out _ HD1 | exact HSL.out _ HB5 | exact HSL.out _ (below_new HB5 HB5.size _) | exact HSL.out _ (below3 HB5 (by first | exact Nat.le_refl _ | simp [World.setCell]) _ _ _)) (first | (go_at_call 13; refine (see_any b y _).mono ?_; rintro en w6 ⟨rfl, hb5⟩; rw [HXg.out, HFg.out]; first | (have HB5 : Below wc.heap.size wc w6 := HD0.trans (new_ahead (w := wc.drew) (b := wc.heap.size) (by first | rfl | simp [World.setCell]) hb5).2; have HN5 := Lib.hid (new_ahead (w := wc.drew) (b := wc.heap.size) (by first | rfl | simp [World.setCell]) hb5).1; obtain ⟨n0, n1, n2⟩ := HN5.out.box; have n3 := HN5.out.fz 0; have n4 := HN5.out.fz 1; have n5 := HN5.out.fz 2; clear hb5) | (have HB5 : Below wc.heap.size wc w6 := HD0.trans hb5; clear hb5)))
              all_goals
                go_wp2_with fail
                go_meet
                first
                | exact ⟨w6.heap.size, rfl, rfl, Bx.new w6 x' rfl, (HAq.out.later HB5).alloc _, (HBq.out.later HB5).alloc _, HB5.alloc HB5.size _, HB5.size⟩
                | exact ⟨wc.heap.size, rfl, rfl, HN5.out.store x', (HAq.out.later HB5).far3 (by have := HAq.out.lt; (try simp [World.setCell] at this); omega) _ _ _, (HBq.out.later HB5).far3 (by have := HBq.out.lt; (try simp [World.setCell] at this); omega) _ _ _, below3 HB5 (by first | exact Nat.le_refl _ | simp [World.setCell]) _ _ _, by first | exact Nat.le_refl _ | simp [World.setCell]⟩
            case rest =>
              obtain ⟨by_, rfl, rfl, hx, ha, hb, hw, hbx⟩ := hcut
              have hbny : bb ≠ by_ := by have := HBq.out.lt; omega
              obtain ⟨y0, y1, y2⟩ := hx.box
              obtain ⟨b0, b1, b2⟩ := hb.box
              have g0 := hb.fz 0
              have g1 := hb.fz 1
              have g2 := hb.fz 2
              have HAe := Lib.hid ha
              have HBe := Lib.hid hb
              have HWe := Lib.hid (HWq.out.trans (hw.mono HWq.out.size))
              clear hx ha hb hw hbx
              rcases HC2.out with ⟨rfl, rfl⟩ | ⟨rfl, htb⟩
              · go_wp2
                go_roundw
                case rel => exact ⟨k + 1, by omega, by go_num, by rw [HV.out]; exact HAe.out.far3 hne _ _ _, by rw [HT.out]; exact HBe.out.store x', below3 HWe.out (by have := HB2.out.size; omega) _ _ _⟩
                case measure => simp [Go.Lib.intOf]; omega
              · go_wp2
                go_roundw
                case rel => exact ⟨k + 1, by omega, by go_num, by rw [HV.out]; exact HAe.out, by rw [HT.out, htb]; exact HBe.out, HWe.out⟩
                case measure => simp [Go.Lib.intOf]; omega
      · obtain rfl : k = n := by omega
        have e1 : run r (l.take k) = run r l := by rw [List.take_of_length_le (by rw [HL.out]; exact Nat.le_refl _)]
        have e2 : run r (l.reverse.take k) = run r l := by rw [List.take_of_length_le (by rw [List.length_reverse, HL.out]; exact Nat.le_refl _), run_rev]
        rw [e1] at ha
        rw [e2] at hb
        obtain ⟨c, EC⟩ : ∃ c, Hid (run r l = c) := ⟨_, Lib.hid rfl⟩
        rw [EC.out] at ha hb
        have SA := fun w => same_ep c c w
        simp only [decide_true] at SA
        obtain ⟨a0, a1, a2⟩ := ha.box
        obtain ⟨b0, b1, b2⟩ := hb.box
        have HW := Lib.hid hw
        clear e1 e2 ha hb hw
        go_wp2
        go_ret
        exact ⟨rfl, HW.out⟩

set_option maxHeartbeats 1000000 in
theorem orderlaw_any (r : Ep) (A : Option Addr) (n cap : Nat) (l : List Int) (W : World) (_hnc : n ≤ cap) (_hc : cap ≤ 9223372036854775807) (hr : ∀ g, W.heap.size ≤ g → Reads W g A n (zints l)) :
    Calls Try.prog 11 #[vEp r, .slice A n cap] W (Says true W) := by
  obtain ⟨b1, B1⟩ : ∃ b, Hid (okB r = b) := ⟨_, Lib.hid rfl⟩
  by_cases hgo : b1 = true ∧ n ≤ 60
  · obtain ⟨rfl, hn⟩ := hgo
    exact order_in r A n cap l W B1.out hn hr
  · have hcase : b1 = false ∨ (b1 = true ∧ (60 : Int) < (n : Int)) := by
      cases b1
      · exact .inl rfl
      · exact .inr ⟨rfl, by simp at hgo; omega⟩
    clear hgo hr
    go_enter Try.func11, Try.ntmps11
    go_wp2_with (fail)
    refine (anchor_any _).mono ?_
    rintro e w1 ⟨rfl, hb1⟩
    have K1 := Lib.hid ((Bx.new W r rfl).later hb1)
    have HB1 := Lib.hid (((Below.refl _ W).alloc (Nat.le_refl _) _).trans (hb1.mono (by simp)))
    obtain ⟨a0, a1, a2⟩ := K1.out.box
    clear hb1
    go_wp2_with (fail)
    refine (lawright_any r _).mono ?_
    rintro e w2 ⟨rfl, hb2⟩
    rw [B1.out]
    have HB2 := Lib.hid (HB1.out.trans (hb2.mono HB1.out.size))
    clear hb2 a0 a1 a2
    rcases hcase with rfl | ⟨rfl, h1⟩
    all_goals
      go_wp2
      go_ret
      exact ⟨rfl, HB2.out⟩

theorem order_lifted (os : Os) (started : os.Started) (H : Type) (enc : TypeId × Value → H) :
    ReturnsInHanded {} Try.checked os 11 .any (Rows.epochOrderSpec.pre6 enc Try.prog Try.f11 Rows.epochOrderRow.domain false) (Rows.epochOrderSpec.post enc Try.prog Try.f11 false true false false) := by
  refine returnsInHanded_of_change (C := Try.checked) own started (by kernel_rfl) Try.func11
    (ChangeSpec.witness6 (enc := enc) (C := Try.checked) false ⟨#[], #[.agg #[.int .i64 0, .int .i64 0, .int .i64 0], .slice none 0 0], []⟩ 8 (by kernel_rfl) (by kernel_rfl) (by kernel_rfl) (by kernel_rfl)) ?_
  intro W base args ds gs before hval0 hW _ _
  have hval : ∀ (j : Nat) t v, Try.f11.params[j]? = some t → args[j]? = some v → Value.okWide Try.prog W .any base t v := hval0
  have hW' := hW
  obtain ⟨p, q, hA0, hV, rfl, _, _⟩ := hW
  have hA : DataW.TrodAll enc Try.prog W 0 (fun _ => true) true Try.f11.params.toList args.toList ds p := hA0
  rw [Try.params11] at hA hval
  obtain ⟨v0, vs0, d0, ds0, p0, q0, hargs, rfl, rfl, h0, r0⟩ := trodAll_cons hA
  obtain ⟨v1, vs1, d1, ds1, p1, q1, rfl, rfl, rfl, h1, r1⟩ := trodAll_cons r0
  obtain ⟨rfl, rfl, rfl⟩ := trodAll_nil r1
  obtain rfl : args = #[v0, v1] := by cases args; simp_all
  obtain ⟨rfl, rfl⟩ := trodVars_none hV
  obtain ⟨s0, rfl, hs0⟩ := open_ep (hval 0 23 v0 rfl rfl) h0
  obtain ⟨A1, n1, c1, l1, rfl, hl1, hc1, hm1, hr1, hz1⟩ := open_zints Try.underlying34 Try.underlying3 cells_int (hval 1 34 v1 rfl rfl) h1
  clear hA0
  have hk := orderlaw_any s0 A1 n1 c1 l1 W hc1 hm1 hr1
  exact hk.mono fun e W' ⟨he, hb⟩ => ⟨_, he, law_post laid_ok (by kernel_rfl) rfl Try.underlying4 rfl hW' rfl hb⟩

theorem order_holds : Rows.EpochOrderSaid :=
  OpenClaim.holds_of_wide 11 Try.f11 rfl rfl rfl rfl rfl rfl rfl ⟨rfl, rfl, rfl, rfl, rfl⟩ rfl rfl rfl rfl rfl (by kernel_rfl) Try.func11 (by kernel_rfl)
    (of_decide_eq_true (by kernel_rfl)) (by unfold Func.isWrapper; first | (rw [if_pos (by decide +kernel)]; kernel_rfl) | (rw [if_neg (by decide +kernel)]; exact ⟨rfl, rfl⟩))
    (fun os started H enc _ => order_lifted os started H enc)
end Go.Proofs.Ytckdibnadokipaa
