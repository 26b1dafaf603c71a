/-
  WHAT IS PROVED: layer 8's contracts: a book of reports: By. Conditions: each states its own.
-/
import Derived.Test.YteoodompphhkbaaGreatDoorZBokP
import Derived.Test.YteoodompphhkbaaGreatDoorZShelf
import Derived.Maps.AppendAt
import Derived.OwnWalk
import Derived.Sort.OwnSortedInts
/- Append -/
namespace Go.Proofs.YteoodompphhkbaaGreatDoor.Bok
set_option maxRecDepth 100000
open Go.RowKit

section
variable {P : Program} (w : World)
end

end Go.Proofs.YteoodompphhkbaaGreatDoor.Bok

/- By -/
namespace Go.Proofs.YteoodompphhkbaaGreatDoor.Bok
set_option maxRecDepth 100000
open Go.RowKit Go.Lib Go.Maps

/-! ### those who have come -/
end Go.Proofs.YteoodompphhkbaaGreatDoor.Bok
