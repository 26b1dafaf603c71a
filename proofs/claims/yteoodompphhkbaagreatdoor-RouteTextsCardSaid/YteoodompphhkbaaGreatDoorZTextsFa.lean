/-
  WHAT IS PROVED: closed facts of the law RouteTexts' card, all but that no function of the program goes, each by the kernel. Conditions: none.
-/
import Derived.Test.YteoodompphhkbaaGreatDoorTie
import Derived.Test.YteoodompphhkbaaGreatDoorCards
import Derived.JoinedOf
namespace Go.Proofs.YteoodompphhkbaaGreatDoor
open Go

set_option maxRecDepth 100000

theorem and_true' {a b : Bool} (ha : a = true) (hb : b = true) : (a && b) = true := by rw [ha, hb]; rfl

theorem card_k1 : Rows.routeTextsRow.wf (OpenSpec.ofChange Rows.routeTextsSpec) = true := by kernel_rfl

theorem card_k2 : laidOutB Tryz.prog = true := by kernel_rfl

theorem card_k3 : mapsRowed Tryz.prog = true := by kernel_rfl

theorem card_k4 : Tryz.f3.params.all (Tryz.prog.readableRec ·) = true := by kernel_rfl

theorem card_k5 : namedTie Tryz.prog Rows.routeTextsRow.named Rows.routeTextsSpec.vars = true := by kernel_rfl

theorem card_k6 : (Rows.routeTextsRow.stops == []) = true := by kernel_rfl

theorem card_k7 : (Tryz.prog.stops == []) = true := by kernel_rfl

theorem card_k8 : (Rows.routeTextsRow.knobs == []) = true := by kernel_rfl

theorem card_k9 : (Tryz.prog.stopKnobs == []) = true := by kernel_rfl

theorem card_k10 : (Rows.routeTextsRow.inPlace == Tryz.prog.inPlace 3) = true := by kernel_rfl

theorem card_k11 : (Rows.routeTextsRow.unfollowed == Tryz.prog.unfollowed 3) = true := by kernel_rfl

theorem card_k12 : (Rows.routeTextsRow.recurses == Tryz.prog.recurses 3) = true := by kernel_rfl

theorem card_k13 : (Rows.routeTextsRow.named == Tryz.prog.varsNamed 3) = true := by kernel_rfl

theorem card_k14 : (Rows.routeTextsRow.maps == (Tryz.f3.params.toList ++ Rows.routeTextsSpec.plain.varTypes Tryz.prog).any (Tryz.prog.mapsRec ·)) = true := by kernel_rfl

theorem card_k15 : (Rows.routeTextsRow.ifaces == (Tryz.f3.params.toList ++ Rows.routeTextsSpec.plain.varTypes Tryz.prog).any (Tryz.prog.ifacesRec ·)) = true := by kernel_rfl

theorem card_k16 : (Rows.routeTextsRow.mapsOut == Tryz.prog.mapsAmong Tryz.f3.resultTypes.toList) = true := by kernel_rfl

theorem card_k17 : (Rows.routeTextsRow.loops == (Tryz.f3.params.toList ++ Rows.routeTextsSpec.plain.varTypes Tryz.prog).any (Tryz.prog.loopsFrom ·)) = true := by kernel_rfl

theorem card_k17b : (Rows.routeTextsRow.wideKeys == (Tryz.f3.params.toList ++ Rows.routeTextsSpec.plain.varTypes Tryz.prog ++ Tryz.f3.resultTypes.toList).any (Tryz.prog.wideKeysFrom ·)) = true := by kernel_rfl

theorem card_k18 : Rows.routeTextsSpec.vars.all (Tryz.prog.varReadable ·) = true := by kernel_rfl

theorem card_k19 : Tryz.f3.resultTypes.all (fun t => Tryz.prog.readableRec t && decide (t < Tryz.prog.types.size)) = true := by kernel_rfl

theorem card_k20 : (Rows.routeTextsRow.ifacesOut == Tryz.f3.resultTypes.toList.any (Tryz.prog.ifacesRec ·)) = true := by kernel_rfl

theorem card_k21 : (Rows.routeTextsRow.loopsOut == Tryz.f3.resultTypes.toList.any (Tryz.prog.loopsFrom ·)) = true := by kernel_rfl

theorem card_k22 : (Rows.routeTextsRow.plainKeys == Tryz.prog.plainKeys) = true := by kernel_rfl

theorem card_k23 : Rows.routeTextsRow.shortTexts.isNone = true := by kernel_rfl

theorem card_k23b : Tryz.prog.stopsHeard = true := by kernel_rfl

theorem card_k24 : Tryz.prog.mayEnter = true := by kernel_rfl

theorem card_k24b : (Rows.routeTextsRow.lifted == Tryz.prog.liftsFinal) = true := by kernel_rfl

theorem card_k24c : (Tryz.prog.make == some Rows.routeTextsRow.make) = true := by kernel_rfl

theorem card_k25 : (Rows.routeTextsRow.kinds == (if Rows.routeTextsRow.domain.isEmpty then [] else Tryz.f3.params.toList.map fun t => match Tryz.prog.underlying t with | some (.int k) => some k | _ => none)) = true := by kernel_rfl

theorem card_k26 : (Rows.routeTextsRow.pinned == Rows.routeTextsRow.pinnedBy) = true := by kernel_rfl

theorem card_k27 : (Rows.routeTextsRow.veiled == (Tryz.f3.params.toList ++ Rows.routeTextsSpec.plain.varTypes Tryz.prog ++ Tryz.f3.resultTypes.toList).any (Tryz.prog.veiledRec ·)) = true := by kernel_rfl

theorem card_k28 : Rows.routeTextsRow.veiledFits Tryz.prog Tryz.f3.params.toList (Tryz.f3.params.toList ++ Rows.routeTextsSpec.plain.varTypes Tryz.prog ++ Tryz.f3.resultTypes.toList) = true := by kernel_rfl

theorem card_named : Tryz.prog.funcNamed Rows.routeTextsRow.func = some 3 := by kernel_rfl

theorem card_inst : decide (Tryz.f3.isInstance Tryz.prog Rows.routeTextsRow.origin Rows.routeTextsRow.targs) = true := by kernel_rfl

theorem card_main : Tryz.prog.mainIs = some (true, "4298001d73a441c17e1dad07b9f83687f486cb7e357c7fe68ee2021238b5a94c".toList) := by kernel_rfl

theorem card_looks : true = Tryz.prog.looks [] := by kernel_rfl

theorem card_wfText : Rows.routeTextsRow.wfByText (OpenSpec.ofChange Rows.routeTextsSpec) = true := by kernel_rfl

theorem card_closed : joinedFacts Tryz.prog 3 Tryz.f3 Rows.routeTextsSpec Rows.routeTextsRow = true :=
  (and_true' (and_true' (and_true' (and_true' (and_true' (and_true' (and_true' (and_true' (and_true' (and_true' (and_true' (and_true' (and_true' (and_true' (and_true' (and_true' (and_true' (and_true' (and_true' (and_true' (and_true' (and_true' (and_true' (and_true' (and_true' (and_true' (and_true' (and_true' (and_true' (and_true' (and_true' card_k1 card_k2) card_k3) card_k4) card_k5) card_k6) card_k7) card_k8) card_k9) card_k10) card_k11) card_k12) card_k13) card_k14) card_k15) card_k16) card_k17) card_k17b) card_k18) card_k19) card_k20) card_k21) card_k22) card_k23) card_k23b) card_k24) card_k24b) card_k24c) card_k25) card_k26) card_k27) card_k28)
end Go.Proofs.YteoodompphhkbaaGreatDoor
