/-
  No cell of these rows narrows 'for every input' (looked for: loops, veiled, ifaces, maps, wideKeys, modest, calm, conditions, laid).
  DERIVED. THE GIVEN ROWS OF THIS SEAT. 6 by the template 'for every input the law returns true; each argument reads behind the call as it read before'; 0 by the template 'total and deterministic' (their statements: YtcacjppdcmghjaaTotals.lean).
  GIVEN WITH THE SEED: the statements are not yours to turn. If you find one false, say at which input.
  Laid BY PROGRAM, IN A SANDBOX (cutbox-rows.mjs): the forced cells as the released guide's own fill.sh prints them over the translation 82ba57a62ba9027c… (all of the seat's roots in one cut). By AI agents, Wed Nov 11 2026. No macro, syntax, notation, axiom, sorry.
-/
import Derived.Test.YtcacjppdcmghjaaChecked
import GoSem.Claim
import GoSem.ClaimJoined
import GoSem.ClaimMapViews
import Derived.JoinedTies
import Derived.KernelRfl
namespace Go.Proofs.Ytcacjppdcmghjaa
/- THE CELL 'sum', in the pinned program and in every row, IS THE sha256 OF THE DUMP (.gsa) THAT YtcacjppdcmghjaaProg.lean LOADS. Nothing in Lean hashes anything: it is a label: what it is worth is what the hold of that sum in a sandbox is worth. -/
noncomputable def Try.pinned : Pinned := { name := "ytcacjppdcmghjaa", sum := "82ba57a62ba9027c065aa9bf01409380fbe5f1036920d4f03514b74f6e4ece40", checked := Try.checked }
namespace Rows
def none {H : Type} : Left H := { results := [], args := [] }

/-- 'grapevinelaw08.ReportPlays': WHATEVER THE INPUT: true; the input reads as it did. -/
def reportPlaysSpec : ChangeSpec := { name := "reportPlays", fn := fun _ => fun
  | [d1, d2, d3, d4] => { results := [.lit (.bool true)], args := [d1, d2, d3, d4] }
  | _ => none }
def reportPlaysRow : OpenClaim := { program := "ytcacjppdcmghjaa", sum := "82ba57a62ba9027c065aa9bf01409380fbe5f1036920d4f03514b74f6e4ece40", func := "grapevine/grapevinelaw08.ReportPlays", spec := "reportPlays", unfollowed := true, recurses := true, plainKeys := false, apart := false }
def ReportPlaysSaid : Prop := reportPlaysRow.holds Try.pinned (OpenSpec.ofChange reportPlaysSpec)

/-- ITS FALSE NEIGHBOUR: 'it returns false'. Refute it at one input. -/
def reportPlaysWrong : ChangeSpec := { name := "reportPlays", fn := fun _ => fun
  | [d1, d2, d3, d4] => { results := [.lit (.bool false)], args := [d1, d2, d3, d4] }
  | _ => none }
def ReportPlaysWrongFalsely : Prop := reportPlaysRow.holds Try.pinned (OpenSpec.ofChange reportPlaysWrong)

/-- 'grapevinelaw08.ReportFails': WHATEVER THE INPUT: true; the input reads as it did. -/
def reportFailsSpec : ChangeSpec := { name := "reportFails", fn := fun _ => fun
  | [d1, d2, d3, d4] => { results := [.lit (.bool true)], args := [d1, d2, d3, d4] }
  | _ => none }
def reportFailsRow : OpenClaim := { program := "ytcacjppdcmghjaa", sum := "82ba57a62ba9027c065aa9bf01409380fbe5f1036920d4f03514b74f6e4ece40", func := "grapevine/grapevinelaw08.ReportFails", spec := "reportFails", recurses := true, plainKeys := false, apart := false }
def ReportFailsSaid : Prop := reportFailsRow.holds Try.pinned (OpenSpec.ofChange reportFailsSpec)

/-- ITS FALSE NEIGHBOUR: 'it returns false'. Refute it at one input. -/
def reportFailsWrong : ChangeSpec := { name := "reportFails", fn := fun _ => fun
  | [d1, d2, d3, d4] => { results := [.lit (.bool false)], args := [d1, d2, d3, d4] }
  | _ => none }
def ReportFailsWrongFalsely : Prop := reportFailsRow.holds Try.pinned (OpenSpec.ofChange reportFailsWrong)

/-- 'grapevinelaw08.ReportWindows': WHATEVER THE INPUT: true; the input reads as it did. -/
def reportWindowsSpec : ChangeSpec := { name := "reportWindows", fn := fun _ => fun
  | [d1, d2, d3] => { results := [.lit (.bool true)], args := [d1, d2, d3] }
  | _ => none }
def reportWindowsRow : OpenClaim := { program := "ytcacjppdcmghjaa", sum := "82ba57a62ba9027c065aa9bf01409380fbe5f1036920d4f03514b74f6e4ece40", func := "grapevine/grapevinelaw08.ReportWindows", spec := "reportWindows", unfollowed := true, recurses := true, plainKeys := false, apart := false }
def ReportWindowsSaid : Prop := reportWindowsRow.holds Try.pinned (OpenSpec.ofChange reportWindowsSpec)

/-- ITS FALSE NEIGHBOUR: 'it returns false'. Refute it at one input. -/
def reportWindowsWrong : ChangeSpec := { name := "reportWindows", fn := fun _ => fun
  | [d1, d2, d3] => { results := [.lit (.bool false)], args := [d1, d2, d3] }
  | _ => none }
def ReportWindowsWrongFalsely : Prop := reportWindowsRow.holds Try.pinned (OpenSpec.ofChange reportWindowsWrong)

/-- 'grapevinelaw08.ReportForgets': WHATEVER THE INPUT: true; the input reads as it did. -/
def reportForgetsSpec : ChangeSpec := { name := "reportForgets", fn := fun _ => fun
  | [d1, d2] => { results := [.lit (.bool true)], args := [d1, d2] }
  | _ => none }
def reportForgetsRow : OpenClaim := { program := "ytcacjppdcmghjaa", sum := "82ba57a62ba9027c065aa9bf01409380fbe5f1036920d4f03514b74f6e4ece40", func := "grapevine/grapevinelaw08.ReportForgets", spec := "reportForgets", unfollowed := true, recurses := true, plainKeys := false, apart := false }
def ReportForgetsSaid : Prop := reportForgetsRow.holds Try.pinned (OpenSpec.ofChange reportForgetsSpec)

/-- ITS FALSE NEIGHBOUR: 'it returns false'. Refute it at one input. -/
def reportForgetsWrong : ChangeSpec := { name := "reportForgets", fn := fun _ => fun
  | [d1, d2] => { results := [.lit (.bool false)], args := [d1, d2] }
  | _ => none }
def ReportForgetsWrongFalsely : Prop := reportForgetsRow.holds Try.pinned (OpenSpec.ofChange reportForgetsWrong)

/-- 'grapevinelaw08.ReportOrder': WHATEVER THE INPUT: true; the input reads as it did. -/
def reportOrderSpec : ChangeSpec := { name := "reportOrder", fn := fun _ => fun
  | [d1, d2, d3] => { results := [.lit (.bool true)], args := [d1, d2, d3] }
  | _ => none }
def reportOrderRow : OpenClaim := { program := "ytcacjppdcmghjaa", sum := "82ba57a62ba9027c065aa9bf01409380fbe5f1036920d4f03514b74f6e4ece40", func := "grapevine/grapevinelaw08.ReportOrder", spec := "reportOrder", unfollowed := true, recurses := true, plainKeys := false, apart := false }
def ReportOrderSaid : Prop := reportOrderRow.holds Try.pinned (OpenSpec.ofChange reportOrderSpec)

/-- ITS FALSE NEIGHBOUR: 'it returns false'. Refute it at one input. -/
def reportOrderWrong : ChangeSpec := { name := "reportOrder", fn := fun _ => fun
  | [d1, d2, d3] => { results := [.lit (.bool false)], args := [d1, d2, d3] }
  | _ => none }
def ReportOrderWrongFalsely : Prop := reportOrderRow.holds Try.pinned (OpenSpec.ofChange reportOrderWrong)

/-- 'grapevinelaw08.ReportApart': WHATEVER THE INPUT: true; the input reads as it did. -/
def reportApartSpec : ChangeSpec := { name := "reportApart", fn := fun _ => fun
  | [d1, d2, d3, d4] => { results := [.lit (.bool true)], args := [d1, d2, d3, d4] }
  | _ => none }
def reportApartRow : OpenClaim := { program := "ytcacjppdcmghjaa", sum := "82ba57a62ba9027c065aa9bf01409380fbe5f1036920d4f03514b74f6e4ece40", func := "grapevine/grapevinelaw08.ReportApart", spec := "reportApart", recurses := true, plainKeys := false, apart := false }
def ReportApartSaid : Prop := reportApartRow.holds Try.pinned (OpenSpec.ofChange reportApartSpec)

/-- ITS FALSE NEIGHBOUR: 'it returns false'. Refute it at one input. -/
def reportApartWrong : ChangeSpec := { name := "reportApart", fn := fun _ => fun
  | [d1, d2, d3, d4] => { results := [.lit (.bool false)], args := [d1, d2, d3, d4] }
  | _ => none }
def ReportApartWrongFalsely : Prop := reportApartRow.holds Try.pinned (OpenSpec.ofChange reportApartWrong)

/- THE SECOND FORM. 'bulk': how many values and letters a reading holds, each counted each time it is reached (what is shared counts as often as it is met; a slice's spare places count too). A statement '..UptoSaid' is the law's where the arguments, and the package variables that the reading takes, are together of bulk at most 1048576: NARROWER than '..Said'. Prove '..Said' where nothing that the law and all that it calls make is longer than what came in: it says more and counts as full. Else prove '..UptoSaid'. A law counts once. -/
mutual
def uptoBulk {H : Type} : DataW H → Nat
  | .lit (.string bytes) => bytes.length + 1
  | .lit _ => 1
  | .nil => 1
  | .ptr d => uptoBulk d + 1
  | .slice elems spare => uptoBulkAll elems + uptoBulkAll spare + 1
  | .agg parts => uptoBulkAll parts + 1
  | .iface _ d => uptoBulk d + 1
  | .map entries => uptoBulkEntries entries + 1
  | .held _ => 1
def uptoBulkAll {H : Type} : List (DataW H) → Nat
  | [] => 0
  | d :: r => uptoBulk d + uptoBulkAll r
def uptoBulkEntries {H : Type} : List (Lit × DataW H) → Nat
  | [] => 0
  | x :: r => uptoBulkEntry x + uptoBulkEntries r
def uptoBulkEntry {H : Type} : Lit × DataW H → Nat
  | (.string bytes, d) => bytes.length + uptoBulk d + 1
  | (_, d) => uptoBulk d + 1
 end
def uptoSmall : (H : Type) → List (DataW H) → Bool := fun _ ds => decide (uptoBulkAll ds ≤ 1048576)
def OpenSpec.upto (s : _root_.Go.ChangeSpec) : _root_.Go.OpenSpec := { _root_.Go.OpenSpec.ofChange s with cond := some uptoSmall }

/-- 'grapevinelaw08.ReportPlays', WHERE WHAT IT READS IS OF BULK AT MOST 1048576: true; the input reads as it did. -/
def reportPlaysUptoRow : OpenClaim := { program := "ytcacjppdcmghjaa", sum := "82ba57a62ba9027c065aa9bf01409380fbe5f1036920d4f03514b74f6e4ece40", func := "grapevine/grapevinelaw08.ReportPlays", spec := "reportPlays", unfollowed := true, recurses := true, plainKeys := false, apart := false, narrowed := true }
def ReportPlaysUptoSaid : Prop := reportPlaysUptoRow.holds Try.pinned (OpenSpec.upto reportPlaysSpec)

/-- 'grapevinelaw08.ReportFails', WHERE WHAT IT READS IS OF BULK AT MOST 1048576: true; the input reads as it did. -/
def reportFailsUptoRow : OpenClaim := { program := "ytcacjppdcmghjaa", sum := "82ba57a62ba9027c065aa9bf01409380fbe5f1036920d4f03514b74f6e4ece40", func := "grapevine/grapevinelaw08.ReportFails", spec := "reportFails", recurses := true, plainKeys := false, apart := false, narrowed := true }
def ReportFailsUptoSaid : Prop := reportFailsUptoRow.holds Try.pinned (OpenSpec.upto reportFailsSpec)

/-- 'grapevinelaw08.ReportWindows', WHERE WHAT IT READS IS OF BULK AT MOST 1048576: true; the input reads as it did. -/
def reportWindowsUptoRow : OpenClaim := { program := "ytcacjppdcmghjaa", sum := "82ba57a62ba9027c065aa9bf01409380fbe5f1036920d4f03514b74f6e4ece40", func := "grapevine/grapevinelaw08.ReportWindows", spec := "reportWindows", unfollowed := true, recurses := true, plainKeys := false, apart := false, narrowed := true }
def ReportWindowsUptoSaid : Prop := reportWindowsUptoRow.holds Try.pinned (OpenSpec.upto reportWindowsSpec)

/-- 'grapevinelaw08.ReportForgets', WHERE WHAT IT READS IS OF BULK AT MOST 1048576: true; the input reads as it did. -/
def reportForgetsUptoRow : OpenClaim := { program := "ytcacjppdcmghjaa", sum := "82ba57a62ba9027c065aa9bf01409380fbe5f1036920d4f03514b74f6e4ece40", func := "grapevine/grapevinelaw08.ReportForgets", spec := "reportForgets", unfollowed := true, recurses := true, plainKeys := false, apart := false, narrowed := true }
def ReportForgetsUptoSaid : Prop := reportForgetsUptoRow.holds Try.pinned (OpenSpec.upto reportForgetsSpec)

/-- 'grapevinelaw08.ReportOrder', WHERE WHAT IT READS IS OF BULK AT MOST 1048576: true; the input reads as it did. -/
def reportOrderUptoRow : OpenClaim := { program := "ytcacjppdcmghjaa", sum := "82ba57a62ba9027c065aa9bf01409380fbe5f1036920d4f03514b74f6e4ece40", func := "grapevine/grapevinelaw08.ReportOrder", spec := "reportOrder", unfollowed := true, recurses := true, plainKeys := false, apart := false, narrowed := true }
def ReportOrderUptoSaid : Prop := reportOrderUptoRow.holds Try.pinned (OpenSpec.upto reportOrderSpec)

/-- 'grapevinelaw08.ReportApart', WHERE WHAT IT READS IS OF BULK AT MOST 1048576: true; the input reads as it did. -/
def reportApartUptoRow : OpenClaim := { program := "ytcacjppdcmghjaa", sum := "82ba57a62ba9027c065aa9bf01409380fbe5f1036920d4f03514b74f6e4ece40", func := "grapevine/grapevinelaw08.ReportApart", spec := "reportApart", recurses := true, plainKeys := false, apart := false, narrowed := true }
def ReportApartUptoSaid : Prop := reportApartUptoRow.holds Try.pinned (OpenSpec.upto reportApartSpec)

end Rows
end Go.Proofs.Ytcacjppdcmghjaa
