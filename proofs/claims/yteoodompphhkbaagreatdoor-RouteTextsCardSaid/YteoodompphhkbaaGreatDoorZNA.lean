/-
  WHAT IS PROVED: contracts of a node's functions that take somebody up, and that claim slots anew. Condition: the object is a node.
-/
import Derived.Test.YteoodompphhkbaaGreatDoorZNU
namespace Go.Proofs.YteoodompphhkbaaGreatDoor.Nod
set_option maxRecDepth 100000
open Go.RowKit Go.Lib Go.Maps
open Go.Proofs.YteoodompphhkbaaGreatDoor.Ros (Turn Sub Rd Blk no zints)

section
variable (C g d : Nat) (F : Nat → Prop) (n : Nd) (w : World) (h : NdAt w C g F d n)
include h
theorem admit_any (x : Int) : Calls Tryz.prog 46 #[.pointer (some ⟨g, 0, none⟩), .int .i64 x] w fun e w' => e = .returned (.int .i64 (n.admitE x)) ∧ Then w w' C g F d (n.admit x) := by
  have HN := Lib.hid h
  obtain ⟨r, FR, c8, hR, hT⟩ := h.ros
  obtain ⟨_, _, _, _, c4, _⟩ := h.cells
  have HR := Lib.hid hR
  have HT := Lib.hid hT
  have HO := Lib.hid (h.ok.addM hR.good.up x)
  have C8 : ∀ q : Later w, q.now.cell? ⟨g, 138, none⟩ = some (.pointer (some ⟨r, 0, none⟩)) := fun q => q.cell c8
  have C4 : ∀ q : Later w, q.now.cell? ⟨g, 4, none⟩ = some (.int .i64 n.time) := fun q => q.cell c4
  obtain ⟨f, HF⟩ : ∃ f, Hid (Ros.addE n.R x n.time = f) := ⟨_, Lib.hid rfl⟩
  have HQ : Hid (n.admitE x = f) := HF
  clear h hR hT c8 c4
  go_enter Tryz.func46, Tryz.ntmps46
  go_wp2
  refine wp_region_head 9 (by kernel_rfl) (by kernel_rfl) ?_
  simp only [List.take_succ_cons, List.take_zero, List.drop_succ_cons, List.drop_zero]
  repeat (go_big_quiet_step (first | fail))
  refine wpQuiet_nil ?_
  intro _ hw'
  obtain ⟨pq, hw''⟩ := hw'
  subst hw''
  have HB0 := Lib.hid pq.below
  have HR0 := Lib.hid (HR.out.below pq.below)
  generalize pq.now = w0 at *
  clear C8 C4
  go_wp2_with (fail)
  refine (Ros.add_any C r FR n.R _ HR0.out x n.time).mono ?_
  rintro e w1 ⟨rfl, FR1, hR1, t1, s1⟩
  rw [HF.out]
  obtain ⟨F1, k1, tt1, ss1⟩ := HT.out w0 HB0.out w1 FR1 _ hR1 t1 s1 HO.out
  clear hR1 t1 s1 HT
  by_cases h0 : f = 0
  · subst h0
    obtain ⟨wg, wb, c9, hW, hT2⟩ := k1.wat
    obtain ⟨_, _, _, _, c4, _⟩ := k1.cells
    have HX : Hid (n.admit x = { n with R := Ros.addR n.R x n.time, P := Wat.addL n.P x n.time }) := Lib.hid (by unfold Nd.admit; rw [if_pos HQ.out])
    have HW := Lib.hid hW
    have HT2 := Lib.hid hT2
    have TT := Lib.hid tt1
    have SS := Lib.hid ss1
    have C9 : ∀ q : Later w1, q.now.cell? ⟨g, 139, none⟩ = some (.pointer (some ⟨wg, 0, none⟩)) := fun q => q.cell c9
    have C4 : ∀ q : Later w1, q.now.cell? ⟨g, 4, none⟩ = some (.int .i64 n.time) := fun q => q.cell c4
    clear k1 hW hT2 tt1 ss1 c9 c4
    go_wp2
    refine wp_region_head 9 (by kernel_rfl) (by kernel_rfl) ?_
    simp only [List.take_succ_cons, List.take_zero, List.drop_succ_cons, List.drop_zero]
    repeat (go_big_quiet_step (first | fail))
    refine wpQuiet_nil ?_
    intro _ hw'
    obtain ⟨pq, hw''⟩ := hw'
    subst hw''
    have HB2 := Lib.hid pq.below
    have HW2 := Lib.hid (HW.out.below pq.below)
    generalize pq.now = w2 at *
    clear C9 C4
    go_wp2_with (fail)
    refine (Wat.add_any wg wb n.T n.P x n.time _ HW2.out).mono ?_
    rintro e w3 ⟨rfl, hw3, hg3⟩
    obtain ⟨F3, k3, t3, s3⟩ := HT2.out w2 HB2.out w3 _ hw3 hg3
    clear hw3 hg3
    go_wp2
    go_ret
    refine ⟨by rw [HQ.out]; rfl, ?_⟩
    rw [HX.out]
    exact ⟨F3, k3, TT.out.trans t3 SS.out, SS.out.trans s3 TT.out.size⟩
  · have HX : Hid (n.admit x = n) := Lib.hid (by unfold Nd.admit; rw [if_neg (by rw [HQ.out]; exact h0)])
    have hq : (f == 0) = false := by simpa using h0
    rw [Ros.addR_no (by rw [HF.out]; exact h0)] at k1
    have K1 := Lib.hid k1
    have TT := Lib.hid tt1
    have SS := Lib.hid ss1
    clear k1 tt1 ss1 h0
    go_wp2
    go_ret
    refine ⟨by rw [HQ.out]; rfl, ?_⟩
    rw [HX.out]
    exact ⟨F1, K1.out, TT.out, SS.out⟩
end
end Go.Proofs.YteoodompphhkbaaGreatDoor.Nod
