/-
  WHAT IS PROVED: the contract of the command that adds slots, as a command; what a first node is, and comes to. Conditions: the object is a node amid a call.
-/
import Derived.Test.YteoodompphhkbaaGreatDoorZOK
namespace Go.Proofs.YteoodompphhkbaaGreatDoor.Nod
set_option maxRecDepth 100000
open Go.RowKit Go.Lib Go.Maps
open Go.Proofs.YteoodompphhkbaaGreatDoor.Ros (Turn Sub Rd Blk no zints)
open Go.Proofs.YteoodompphhkbaaGreatDoor.K (str dg digL Sv stv StAt mkS)

theorem obey3_any (C t g d : Nat) (U : Nat → Prop) (x : Tn) (y : Int) (s : Nat) (w : World) (h : TnAt w C t g U d x) (hs : s < 18446744073709551616) :
    Calls Tryz.prog 34 #[.pointer (some ⟨t, 0, none⟩), .agg #[.int .i64 3, .int .i64 y, .int .u64 (s : Int)]] w fun o w' => o = .returned (.int .i64 (x.obeyE ⟨3, y, s⟩)) ∧ ThenT w w' C t g U d (x.obey ⟨3, y, s⟩) := by
  have hbA : Below w.heap.size w (w.alloc (.cells #[.int .i64 3, .int .i64 y, .int .u64 (s : Int)] 33)) := (Below.refl _ w).alloc (Nat.le_refl _) _
  have HA := Lib.hid (add_any C t g d U x _ (h.below hbA) s hs)
  have HB := Lib.hid hbA
  have HE : Hid (x.obeyE ⟨3, y, s⟩ = x.n.addE s) := Lib.hid (by unfold Tn.obeyE; simp)
  have HO : Hid (x.obey ⟨3, y, s⟩ = x.on fun n => n.add s) := Lib.hid (by unfold Tn.obey; simp)
  rw [HE.out, HO.out]
  clear h hbA
  go_enter Tryz.func34, Tryz.ntmps34
  go_wp2_with (fail)
  refine HA.out.mono ?_
  rintro o w2 ⟨rfl, ht⟩
  have HT := Lib.hid (ht.after HB.out)
  clear ht
  go_wp2
  go_ret
  exact ⟨rfl, HT.out⟩

/-- the first disk, the first node, and what it comes to with all slots -/
def D0 : K.Dsk.Ds := ⟨[], 60000, -1, false⟩
def D1 : K.Dsk.Ds := (loadS 1 D0).2.2
def allS : Nat := 18446744073709551615
def N1 : Nd := (doW (Nd.zero 1 20 0) D1 ⟨3, 0, allS⟩ 0).2.1
theorem load0 : (loadS 1 D0).1 = 0 ∧ (loadS 1 D0).2.1 = ⟨1, 0, 0, 0, 0, [], K.C.Tab.zero⟩ := by
  have h0 : K.Dsk.readE D0 K.Dsk.nSt = 52 := by decide +kernel
  have h : K.Dsk.loadD D0 = (52, none) := by unfold K.Dsk.loadD; rw [h0, if_pos (by decide)]
  unfold loadS
  rw [h]
  refine ⟨?_, rfl⟩
  show (K.Dsk.saveD D0 ⟨1, 0, 0, 0, 0, [], K.C.Tab.zero⟩).1 = 0
  decide +kernel
theorem start1 : startW 1 20 D0 0 = (0, some (Nd.zero 1 20 0), D1) := by
  unfold startW
  rw [if_neg (by decide)]
  simp only
  rw [if_neg (by rw [load0.1]; decide), load0.2]
  rfl
theorem len1 : D1.fs.length < 1000 := by decide +kernel
theorem saved_keep (n : Nd) (was : K.Dt) (D : K.Dsk.Ds) : (n.saved was D).tab = n.tab ∧ (n.saved was D).ma = n.ma ∧ (n.saved was D).id = n.id := by
  unfold Nd.saved
  split <;> exact ⟨rfl, rfl, rfl⟩
theorem call_keep {n : Nd} {D : K.Dsk.Ds} {now : Int} {fe : Tn → Int} {f : Tn → Tn} (h1 : n.stop = false) (h2 : isNow now = true) :
    (callW n D now fe f).2.1.tab = (f ⟨n.at_ now, [], []⟩).n.tab ∧ (callW n D now fe f).2.1.ma = (f ⟨n.at_ now, [], []⟩).n.ma ∧ (callW n D now fe f).2.1.id = (f ⟨n.at_ now, [], []⟩).n.id := by
  unfold callW
  rw [if_neg (by rw [h1]; decide), if_neg (by rw [h2]; decide)]
  simp only
  split
  · exact ⟨rfl, rfl, rfl⟩
  · split <;> exact saved_keep _ _ _
theorem n1_tab : N1.tab.o 22 = N1.id := by
  obtain ⟨h1, _, h3⟩ := call_keep (n := Nd.zero 1 20 0) (D := D1) (now := 0) (fe := fun t => t.obeyE ⟨3, 0, allS⟩) (f := fun t => t.obey ⟨3, 0, allS⟩) rfl (by decide)
  have e1 : N1.tab = _ := h1
  have e3 : N1.id = _ := h3
  rw [e1, e3]
  decide +kernel
theorem n1_ma : N1.ma = 0 := by
  obtain ⟨_, h2, _⟩ := call_keep (n := Nd.zero 1 20 0) (D := D1) (now := 0) (fe := fun t => t.obeyE ⟨3, 0, allS⟩) (f := fun t => t.obey ⟨3, 0, allS⟩) rfl (by decide)
  have e2 : N1.ma = _ := h2
  rw [e2]
  decide +kernel
end Go.Proofs.YteoodompphhkbaaGreatDoor.Nod
