/-
  WHAT IS PROVED: the contracts of commands that change a node alone, and what chains calls. Conditions: the object is a node amid a call.
-/
import Derived.Test.YteoodompphhkbaaGreatDoorZNTo
namespace Go.Proofs.YteoodompphhkbaaGreatDoor.Nod
set_option maxRecDepth 100000
open Go.RowKit Go.Lib Go.Maps
open Go.Proofs.YteoodompphhkbaaGreatDoor.Ros (Turn Sub Rd Blk no zints)

section
variable {w w1 w2 : World} {C t g d : Nat} {F U U1 : Nat → Prop} {n : Nd} {x : Tn}
theorem Then.after (hb : Below w.heap.size w w1) (h : Then w1 w2 C g F d n) : Then w w2 C g F d n := by
  obtain ⟨N2, k2, t2, s2⟩ := h
  exact ⟨N2, k2, (Turn.of_below hb F).trans t2 (Sub.refl _ _), fun i hi f => s2 i (Nat.lt_of_lt_of_le hi hb.size) f⟩
theorem ThenT.after (hb : Below w.heap.size w w1) (h : ThenT w1 w2 C t g U d x) : ThenT w w2 C t g U d x := by
  obtain ⟨N2, k2, t2, s2⟩ := h
  exact ⟨N2, k2, (Turn.of_below hb U).trans t2 (Sub.refl _ _), fun i hi f => s2 i (Nat.lt_of_lt_of_le hi hb.size) f⟩
theorem ThenT.before (h : ThenT w w1 C t g U d x) (hb : Below w1.heap.size w1 w2) : ThenT w w2 C t g U d x := by
  obtain ⟨N2, k2, t2, s2⟩ := h
  exact ⟨N2, k2.below hb, t2.then_ hb, s2⟩
theorem ThenT.next (t1 : Turn w w1 U) (s1 : Sub w U U1) (h : ThenT w1 w2 C t g U1 d x) : ThenT w w2 C t g U d x := by
  obtain ⟨U2, h2, t2, s2⟩ := h
  exact ⟨U2, h2, t1.trans t2 s1, s1.trans s2 t1.size⟩
end

end Go.Proofs.YteoodompphhkbaaGreatDoor.Nod
