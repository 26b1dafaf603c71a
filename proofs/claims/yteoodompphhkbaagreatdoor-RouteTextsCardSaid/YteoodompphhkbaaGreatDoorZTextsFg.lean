/-
  WHAT IS PROVED: closed facts of the law RouteTexts' card, that no function of the program goes, each by the kernel. Conditions: none.
-/
import Derived.Test.YteoodompphhkbaaGreatDoorTie
import Derived.Test.YteoodompphhkbaaGreatDoorCards
import Derived.JoinedOf
namespace Go.Proofs.YteoodompphhkbaaGreatDoor
open Go

set_option maxRecDepth 100000

theorem card_goes : false = Rows.routeTextsRow.goesBy Tryz.prog := by kernel_rfl
end Go.Proofs.YteoodompphhkbaaGreatDoor
