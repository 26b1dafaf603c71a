/-
  WHAT IS PROVED: the contract of a packet's section. Conditions: the object is a node; its cursor is far from the greatest int.
-/
import Derived.Test.YteoodompphhkbaaGreatDoorZNU
import Derived.Laws.MakeOwn
namespace Go.Proofs.YteoodompphhkbaaGreatDoor.Nod
set_option maxRecDepth 100000
open Go.RowKit Go.Lib Go.Maps
open Go.Proofs.YteoodompphhkbaaGreatDoor.Ros (Turn Sub Rd Blk no zints)

end Go.Proofs.YteoodompphhkbaaGreatDoor.Nod
