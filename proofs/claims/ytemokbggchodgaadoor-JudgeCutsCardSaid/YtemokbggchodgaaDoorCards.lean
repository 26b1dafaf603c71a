/-
  DERIVED. GIVEN WITH THE SEED: THE CARDS: each row of YtemokbggchodgaaDoorRows.lean that lists a variable, with what it lists TIED to the program's text (the seventh form; the later family's looks); each row that meets fmt, with fmt's text TOLD by the authors' own Lean function (tested against real Go, not proved from fmt's source: count such statements apart). THE CARD IS WHAT COUNTS. Prove the row's statement (the work); the ties are given (YtemokbggchodgaaDoorTie.lean); close each card by the builder's one call (the guide's Derived/Test/ToyasCard.lean, 'card_holds'). Laid BY PROGRAM, IN A SANDBOX (cutbox-door.mjs). By AI agents, Wed Nov 11 2026. No macro, syntax, notation, axiom, sorry.
-/
import Derived.Test.YtemokbggchodgaaDoorRows
import GoSem.ClaimSeven
namespace Go.Proofs.YtemokbggchodgaaDoor
namespace Rows

/-- THE TIED CARD OF 'grapevinelaw21.JudgeClashes'. -/
def judgeClashesCard : Claim7 := { stood := { row := judgeClashesRow, standIns := [], harness := (true, "16a2a8ab4049fea8964db6fc0165abcaebdb3ac4d2d3c8a2475a8655ae1802f0"), looks := false }, kinds := [], alts := [], laidByText := true, laidKinds := [.data, .data, .data], laidTests := true, laidLooks := .later }
def JudgeClashesCardSaid : Prop := Claim7.holds Tryd.pinned (.plain (OpenSpec.ofChange judgeClashesSpec)) judgeClashesCard

/-- THE TIED CARD OF 'grapevinelaw21.JudgeCuts'. -/
def judgeCutsCard : Claim7 := { stood := { row := judgeCutsRow, standIns := [], harness := (true, "16a2a8ab4049fea8964db6fc0165abcaebdb3ac4d2d3c8a2475a8655ae1802f0"), looks := false }, kinds := [], alts := [], laidByText := true, laidKinds := [.data, .data, .data], laidTests := true, laidLooks := .later }
def JudgeCutsCardSaid : Prop := Claim7.holds Tryd.pinned (.plain (OpenSpec.ofChange judgeCutsSpec)) judgeCutsCard

/-- THE SECOND FORM's CARD OF 'grapevinelaw21.JudgeClashes'. -/
def judgeClashesUptoCard : Claim7 := { stood := { row := judgeClashesUptoRow, standIns := [], harness := (true, "16a2a8ab4049fea8964db6fc0165abcaebdb3ac4d2d3c8a2475a8655ae1802f0"), looks := false }, kinds := [], alts := [], laidByText := true, laidKinds := [.data, .data, .data], laidTests := true, laidLooks := .later }
def JudgeClashesUptoCardSaid : Prop := Claim7.holds Tryd.pinned (.plain (OpenSpec.upto judgeClashesSpec)) judgeClashesUptoCard

/-- THE SECOND FORM's CARD OF 'grapevinelaw21.JudgeCuts'. -/
def judgeCutsUptoCard : Claim7 := { stood := { row := judgeCutsUptoRow, standIns := [], harness := (true, "16a2a8ab4049fea8964db6fc0165abcaebdb3ac4d2d3c8a2475a8655ae1802f0"), looks := false }, kinds := [], alts := [], laidByText := true, laidKinds := [.data, .data, .data], laidTests := true, laidLooks := .later }
def JudgeCutsUptoCardSaid : Prop := Claim7.holds Tryd.pinned (.plain (OpenSpec.upto judgeCutsSpec)) judgeCutsUptoCard
end Rows
end Go.Proofs.YtemokbggchodgaaDoor
