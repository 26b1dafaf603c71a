/-
  DERIVED. GIVEN WITH THE SEED: THE CARDS: each row of YteoodompphhkbaaGreatDoorRows.lean that lists a variable, with what it lists TIED to the program's text (the seventh form; the later family's looks); each row that meets fmt, with fmt's text TOLD by the authors' own Lean function (tested against real Go, not proved from fmt's source: count such statements apart). THE CARD IS WHAT COUNTS. Prove the row's statement (the work); the ties are given (YteoodompphhkbaaGreatDoorTie.lean); close each card by the builder's one call (the guide's Derived/Test/ToyasCard.lean, 'card_holds'). Laid BY PROGRAM, IN A SANDBOX (cutbox-door.mjs). By AI agents, Wed Nov 11 2026. No macro, syntax, notation, axiom, sorry.
-/
import Derived.Test.YteoodompphhkbaaGreatDoorRows
import GoSem.ClaimSeven
namespace Go.Proofs.YteoodompphhkbaaGreatDoor
namespace Rows

/-- THE TIED CARD OF 'grapevinelaw18.RouteTexts'. -/
def routeTextsCard : Claim7 := { stood := { row := routeTextsRow, standIns := [], harness := (true, "4298001d73a441c17e1dad07b9f83687f486cb7e357c7fe68ee2021238b5a94c"), looks := true }, kinds := [], alts := [], laidByText := true, laidKinds := [.data, .data, .data, .sentinel, .sentinel], laidTests := true, laidLooks := .later }
def RouteTextsCardSaid : Prop := Claim7.holds Tryz.pinned (.plain (OpenSpec.ofChange routeTextsSpec)) routeTextsCard

/-- THE SECOND FORM's CARD OF 'grapevinelaw18.RouteTexts'. -/
def routeTextsUptoCard : Claim7 := { stood := { row := routeTextsUptoRow, standIns := [], harness := (true, "4298001d73a441c17e1dad07b9f83687f486cb7e357c7fe68ee2021238b5a94c"), looks := true }, kinds := [], alts := [], laidByText := true, laidKinds := [.data, .data, .data, .sentinel, .sentinel], laidTests := true, laidLooks := .later }
def RouteTextsUptoCardSaid : Prop := Claim7.holds Tryz.pinned (.plain (OpenSpec.upto routeTextsSpec)) routeTextsUptoCard
end Rows
end Go.Proofs.YteoodompphhkbaaGreatDoor
