/-
  WHAT IS PROVED: the contracts of the commands that add and that delete slots. Conditions: the object is a node amid a call.
-/
import Derived.Test.YteoodompphhkbaaGreatDoorZNC
namespace Go.Proofs.YteoodompphhkbaaGreatDoor.Nod
set_option maxRecDepth 100000
open Go.RowKit Go.Lib Go.Maps
open Go.Proofs.YteoodompphhkbaaGreatDoor.Ros (Turn Sub Rd Blk no zints)

set_option maxHeartbeats 2000000 in
theorem add_any (C t g d : Nat) (U : Nat → Prop) (x : Tn) (w : World) (h : TnAt w C t g U d x) (s : Nat) (hs : s < 18446744073709551616) :
    Calls Tryz.prog 73 #[.pointer (some ⟨t, 0, none⟩), .int .u64 (s : Int)] w fun e w' => e = .returned (.int .i64 (x.n.addE s)) ∧ ThenT w w' C t g U d (x.on fun n => n.add s) := by
  have H0 := Lib.hid h
  obtain ⟨N, hN, hth⟩ := h.nodes
  have HN := Lib.hid hN
  have HTH := Lib.hid hth
  have c0 := h.c0
  obtain ⟨_, _, _, _, _, c5, _⟩ := hN.cells
  by_cases hm : x.n.ma = 0
  · obtain ⟨m, HM⟩ : ∃ m, Hid (K.C.ofN x.n.tab 0 = m) := ⟨_, Lib.hid rfl⟩
    have hm64 : m < 18446744073709551616 := by rw [← HM.out]; exact K.C.ofN_lt _ _
    obtain ⟨l, HL⟩ : ∃ l, Hid (K.C.less s m = l) := ⟨_, Lib.hid rfl⟩
    have hbits : bits .andNot .u64 (s : Int) (m : Int) = ((l : Nat) : Int) := by rw [← HL.out]; exact K.C.less_int hs hm64
    have HMA := Lib.hid hm
    rw [hm] at c5
    have HLL : Hid (K.C.less s (x.n.of 0) = l) := Lib.hid (by have : x.n.of 0 = m := HM.out; rw [this]; exact HL.out)
    have HS64 := Lib.hid hs
    clear h hN hth hm hm64 hs
    by_cases h0 : l = 0
    · subst h0
      have HX : Hid (x.n.addE s = 0) := Lib.hid (by unfold Nd.addE; rw [if_neg (by rw [HMA.out]; decide), if_neg (by rw [HLL.out]; decide)])
      have HY : Hid (x.n.add s = x.n.claim x.n.id x.n.ep.conf s) := Lib.hid (by unfold Nd.add; rw [if_pos HX.out])
      go_enter Tryz.func73, Tryz.ntmps73
      go_wp2_with (refine nd_load rfl HN.out rfl ?_)
      refine (K.C.of_any x.n.tab 0 _).mono ?_
      rintro e w1 ⟨rfl, hb⟩
      rw [HM.out]
      have HB1 := Lib.hid hb
      have c1 := (H0.out.below hb).c0
      have HN1 := Lib.hid (HN.out.below hb)
      clear hb c0 c5
      obtain ⟨_, _, _, _, _, _, _, _, c8, _⟩ := HN1.out.cells
      have C0 : ∀ q : Later w1, q.now.cell? ⟨t, 0, none⟩ = some (.pointer (some ⟨g, 0, none⟩)) := fun q => q.cell c1
      have C8 : ∀ q : Later w1, q.now.cell? ⟨g, 8, none⟩ = some (.int .i64 x.n.ep.conf) := fun q => q.cell c8
      have HS : Hid (∀ p : Later w1, Calls Tryz.prog 79 #[.pointer (some ⟨g, 0, none⟩)] p.now fun e w' => e = .returned (.int .i64 x.n.id) ∧ p.now = w') := Lib.hid fun p => self_any C g d N x.n _ (HN1.out.below p.below)
      clear c1 c8
      go_wp2
      refine wp_region_head 18 (by kernel_rfl) (by kernel_rfl) ?_
      simp only [List.take_succ_cons, List.take_zero, List.drop_succ_cons, List.drop_zero]
      repeat (go_big_quiet_step (first | (go_at_call 79; with_reducible exact Later.calls_same (HS.out _))))
      refine wpQuiet_nil ?_
      intro _ hw'
      obtain ⟨pq, hw''⟩ := hw'
      subst hw''
      have HB2 := Lib.hid (HB1.out.trans (pq.below.mono HB1.out.size))
      have HN2 := Lib.hid (HN1.out.below pq.below)
      generalize pq.now = w2 at *
      clear C0 C8 HS
      go_wp2_with (fail)
      refine (nclaim_any C g d N x.n _ HN2.out x.n.id x.n.ep.conf s HS64.out).mono ?_
      rintro e w3 ⟨rfl, ht⟩
      have HT := Lib.hid ht
      clear ht
      go_wp2
      go_ret
      refine ⟨by rw [HX.out]; rfl, ?_⟩
      show ThenT w w3 C t g U d ⟨x.n.add s, x.out, x.ev⟩
      rw [HY.out]
      exact HTH.out w3 _ (HT.out.after HB2.out)
    · have hq : ((l : Int) != 0) = true := by simpa using h0
      have HX : Hid (x.n.addE s = 21) := Lib.hid (by unfold Nd.addE; rw [if_neg (by rw [HMA.out]; decide), if_pos (by rw [HLL.out]; exact h0)])
      have HY : Hid (x.n.add s = x.n) := Lib.hid (by unfold Nd.add; rw [if_neg (by rw [HX.out]; decide)])
      clear h0
      go_enter Tryz.func73, Tryz.ntmps73
      go_wp2_with (refine nd_load rfl HN.out rfl ?_)
      refine (K.C.of_any x.n.tab 0 _).mono ?_
      rintro e w1 ⟨rfl, hb⟩
      rw [HM.out]
      have HB1 := Lib.hid hb
      clear hb c0 c5
      go_wp2
      go_ret
      refine ⟨by rw [HX.out]; rfl, ?_⟩
      show ThenT w w1 C t g U d ⟨x.n.add s, x.out, x.ev⟩
      rw [HY.out]
      exact ThenT.same H0.out HB1.out
  · have hq : (x.n.ma != 0) = true := by simpa using hm
    have HX : Hid (x.n.addE s = 35) := Lib.hid (if_pos hm)
    have HY : Hid (x.n.add s = x.n) := Lib.hid (by unfold Nd.add; rw [if_neg (by rw [HX.out]; decide)])
    clear h hN hth hm
    go_enter Tryz.func73, Tryz.ntmps73
    go_wp2
    go_ret
    refine ⟨by rw [HX.out]; rfl, ?_⟩
    show ThenT w w C t g U d ⟨x.n.add s, x.out, x.ev⟩
    rw [HY.out]
    exact ThenT.same H0.out (Below.refl _ _)

end Go.Proofs.YteoodompphhkbaaGreatDoor.Nod
