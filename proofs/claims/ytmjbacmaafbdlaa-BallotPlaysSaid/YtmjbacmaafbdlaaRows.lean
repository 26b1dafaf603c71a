/-
  No cell of these rows narrows 'for every input' (looked for: loops, veiled, ifaces, maps, wideKeys, modest, calm, conditions, laid).
  DERIVED. THE GIVEN ROWS OF THIS SEAT. 5 by the template 'for every input the law returns true; each argument reads behind the call as it read before'; 0 by the template 'total and deterministic' (their statements: YtmjbacmaafbdlaaTotals.lean).
  GIVEN WITH THE SEED: the statements are not yours to turn. If you find one false, say at which input.
  Laid BY PROGRAM, IN A SANDBOX (cutbox-rows.mjs): the forced cells as the released guide's own fill.sh prints them over the translation a5d9533774150062… (all of the seat's roots in one cut). By AI agents, Wed Nov 11 2026. No macro, syntax, notation, axiom, sorry.
-/
import Derived.Test.YtmjbacmaafbdlaaChecked
import GoSem.Claim
import GoSem.ClaimJoined
import GoSem.ClaimMapViews
import Derived.JoinedTies
import Derived.KernelRfl
namespace Go.Proofs.Ytmjbacmaafbdlaa
/- THE CELL 'sum', in the pinned program and in every row, IS THE sha256 OF THE DUMP (.gsa) THAT YtmjbacmaafbdlaaProg.lean LOADS. Nothing in Lean hashes anything: it is a label: what it is worth is what the hold of that sum in a sandbox is worth. -/
noncomputable def Try.pinned : Pinned := { name := "ytmjbacmaafbdlaa", sum := "a5d953377415006231ef66460b22c5c18882f68652f98efc3ac0bf804b3fe60c", checked := Try.checked }
namespace Rows
def none {H : Type} : Left H := { results := [], args := [] }

/-- 'grapevinelaw15.BallotPlays': WHATEVER THE INPUT: true; the input reads as it did. -/
def ballotPlaysSpec : ChangeSpec := { name := "ballotPlays", fn := fun _ => fun
  | [d1, d2, d3, d4] => { results := [.lit (.bool true)], args := [d1, d2, d3, d4] }
  | _ => none }
def ballotPlaysRow : OpenClaim := { program := "ytmjbacmaafbdlaa", sum := "a5d953377415006231ef66460b22c5c18882f68652f98efc3ac0bf804b3fe60c", func := "grapevine/grapevinelaw15.BallotPlays", spec := "ballotPlays", recurses := true, apart := false }
def BallotPlaysSaid : Prop := ballotPlaysRow.holds Try.pinned (OpenSpec.ofChange ballotPlaysSpec)

/-- ITS FALSE NEIGHBOUR: 'it returns false'. Refute it at one input. -/
def ballotPlaysWrong : ChangeSpec := { name := "ballotPlays", fn := fun _ => fun
  | [d1, d2, d3, d4] => { results := [.lit (.bool false)], args := [d1, d2, d3, d4] }
  | _ => none }
def BallotPlaysWrongFalsely : Prop := ballotPlaysRow.holds Try.pinned (OpenSpec.ofChange ballotPlaysWrong)

/-- 'grapevinelaw15.BallotOnce': WHATEVER THE INPUT: true; the input reads as it did. -/
def ballotOnceSpec : ChangeSpec := { name := "ballotOnce", fn := fun _ => fun
  | [d1, d2, d3] => { results := [.lit (.bool true)], args := [d1, d2, d3] }
  | _ => none }
def ballotOnceRow : OpenClaim := { program := "ytmjbacmaafbdlaa", sum := "a5d953377415006231ef66460b22c5c18882f68652f98efc3ac0bf804b3fe60c", func := "grapevine/grapevinelaw15.BallotOnce", spec := "ballotOnce", recurses := true, apart := false }
def BallotOnceSaid : Prop := ballotOnceRow.holds Try.pinned (OpenSpec.ofChange ballotOnceSpec)

/-- ITS FALSE NEIGHBOUR: 'it returns false'. Refute it at one input. -/
def ballotOnceWrong : ChangeSpec := { name := "ballotOnce", fn := fun _ => fun
  | [d1, d2, d3] => { results := [.lit (.bool false)], args := [d1, d2, d3] }
  | _ => none }
def BallotOnceWrongFalsely : Prop := ballotOnceRow.holds Try.pinned (OpenSpec.ofChange ballotOnceWrong)

/-- 'grapevinelaw15.BallotLate': WHATEVER THE INPUT: true; the input reads as it did. -/
def ballotLateSpec : ChangeSpec := { name := "ballotLate", fn := fun _ => fun
  | [d1, d2, d3, d4, d5] => { results := [.lit (.bool true)], args := [d1, d2, d3, d4, d5] }
  | _ => none }
def ballotLateRow : OpenClaim := { program := "ytmjbacmaafbdlaa", sum := "a5d953377415006231ef66460b22c5c18882f68652f98efc3ac0bf804b3fe60c", func := "grapevine/grapevinelaw15.BallotLate", spec := "ballotLate", recurses := true, apart := false }
def BallotLateSaid : Prop := ballotLateRow.holds Try.pinned (OpenSpec.ofChange ballotLateSpec)

/-- ITS FALSE NEIGHBOUR: 'it returns false'. Refute it at one input. -/
def ballotLateWrong : ChangeSpec := { name := "ballotLate", fn := fun _ => fun
  | [d1, d2, d3, d4, d5] => { results := [.lit (.bool false)], args := [d1, d2, d3, d4, d5] }
  | _ => none }
def BallotLateWrongFalsely : Prop := ballotLateRow.holds Try.pinned (OpenSpec.ofChange ballotLateWrong)

/-- 'grapevinelaw15.BallotMay': WHATEVER THE INPUT: true; the input reads as it did. -/
def ballotMaySpec : ChangeSpec := { name := "ballotMay", fn := fun _ => fun
  | [d1, d2, d3, d4, d5] => { results := [.lit (.bool true)], args := [d1, d2, d3, d4, d5] }
  | _ => none }
def ballotMayRow : OpenClaim := { program := "ytmjbacmaafbdlaa", sum := "a5d953377415006231ef66460b22c5c18882f68652f98efc3ac0bf804b3fe60c", func := "grapevine/grapevinelaw15.BallotMay", spec := "ballotMay", recurses := true, apart := false }
def BallotMaySaid : Prop := ballotMayRow.holds Try.pinned (OpenSpec.ofChange ballotMaySpec)

/-- ITS FALSE NEIGHBOUR: 'it returns false'. Refute it at one input. -/
def ballotMayWrong : ChangeSpec := { name := "ballotMay", fn := fun _ => fun
  | [d1, d2, d3, d4, d5] => { results := [.lit (.bool false)], args := [d1, d2, d3, d4, d5] }
  | _ => none }
def BallotMayWrongFalsely : Prop := ballotMayRow.holds Try.pinned (OpenSpec.ofChange ballotMayWrong)

/-- 'grapevinelaw15.BallotAgain': WHATEVER THE INPUT: true; the input reads as it did. -/
def ballotAgainSpec : ChangeSpec := { name := "ballotAgain", fn := fun _ => fun
  | [d1, d2] => { results := [.lit (.bool true)], args := [d1, d2] }
  | _ => none }
def ballotAgainRow : OpenClaim := { program := "ytmjbacmaafbdlaa", sum := "a5d953377415006231ef66460b22c5c18882f68652f98efc3ac0bf804b3fe60c", func := "grapevine/grapevinelaw15.BallotAgain", spec := "ballotAgain", recurses := true, apart := false }
def BallotAgainSaid : Prop := ballotAgainRow.holds Try.pinned (OpenSpec.ofChange ballotAgainSpec)

/-- ITS FALSE NEIGHBOUR: 'it returns false'. Refute it at one input. -/
def ballotAgainWrong : ChangeSpec := { name := "ballotAgain", fn := fun _ => fun
  | [d1, d2] => { results := [.lit (.bool false)], args := [d1, d2] }
  | _ => none }
def BallotAgainWrongFalsely : Prop := ballotAgainRow.holds Try.pinned (OpenSpec.ofChange ballotAgainWrong)

/- THE SECOND FORM. 'bulk': how many values and letters a reading holds, each counted each time it is reached (what is shared counts as often as it is met; a slice's spare places count too). A statement '..UptoSaid' is the law's where the arguments, and the package variables that the reading takes, are together of bulk at most 1048576: NARROWER than '..Said'. Prove '..Said' where nothing that the law and all that it calls make is longer than what came in: it says more and counts as full. Else prove '..UptoSaid'. A law counts once. -/
mutual
def uptoBulk {H : Type} : DataW H → Nat
  | .lit (.string bytes) => bytes.length + 1
  | .lit _ => 1
  | .nil => 1
  | .ptr d => uptoBulk d + 1
  | .slice elems spare => uptoBulkAll elems + uptoBulkAll spare + 1
  | .agg parts => uptoBulkAll parts + 1
  | .iface _ d => uptoBulk d + 1
  | .map entries => uptoBulkEntries entries + 1
  | .held _ => 1
def uptoBulkAll {H : Type} : List (DataW H) → Nat
  | [] => 0
  | d :: r => uptoBulk d + uptoBulkAll r
def uptoBulkEntries {H : Type} : List (Lit × DataW H) → Nat
  | [] => 0
  | x :: r => uptoBulkEntry x + uptoBulkEntries r
def uptoBulkEntry {H : Type} : Lit × DataW H → Nat
  | (.string bytes, d) => bytes.length + uptoBulk d + 1
  | (_, d) => uptoBulk d + 1
 end
def uptoSmall : (H : Type) → List (DataW H) → Bool := fun _ ds => decide (uptoBulkAll ds ≤ 1048576)
def OpenSpec.upto (s : _root_.Go.ChangeSpec) : _root_.Go.OpenSpec := { _root_.Go.OpenSpec.ofChange s with cond := some uptoSmall }

/-- 'grapevinelaw15.BallotPlays', WHERE WHAT IT READS IS OF BULK AT MOST 1048576: true; the input reads as it did. -/
def ballotPlaysUptoRow : OpenClaim := { program := "ytmjbacmaafbdlaa", sum := "a5d953377415006231ef66460b22c5c18882f68652f98efc3ac0bf804b3fe60c", func := "grapevine/grapevinelaw15.BallotPlays", spec := "ballotPlays", recurses := true, apart := false, narrowed := true }
def BallotPlaysUptoSaid : Prop := ballotPlaysUptoRow.holds Try.pinned (OpenSpec.upto ballotPlaysSpec)

/-- 'grapevinelaw15.BallotOnce', WHERE WHAT IT READS IS OF BULK AT MOST 1048576: true; the input reads as it did. -/
def ballotOnceUptoRow : OpenClaim := { program := "ytmjbacmaafbdlaa", sum := "a5d953377415006231ef66460b22c5c18882f68652f98efc3ac0bf804b3fe60c", func := "grapevine/grapevinelaw15.BallotOnce", spec := "ballotOnce", recurses := true, apart := false, narrowed := true }
def BallotOnceUptoSaid : Prop := ballotOnceUptoRow.holds Try.pinned (OpenSpec.upto ballotOnceSpec)

/-- 'grapevinelaw15.BallotLate', WHERE WHAT IT READS IS OF BULK AT MOST 1048576: true; the input reads as it did. -/
def ballotLateUptoRow : OpenClaim := { program := "ytmjbacmaafbdlaa", sum := "a5d953377415006231ef66460b22c5c18882f68652f98efc3ac0bf804b3fe60c", func := "grapevine/grapevinelaw15.BallotLate", spec := "ballotLate", recurses := true, apart := false, narrowed := true }
def BallotLateUptoSaid : Prop := ballotLateUptoRow.holds Try.pinned (OpenSpec.upto ballotLateSpec)

/-- 'grapevinelaw15.BallotMay', WHERE WHAT IT READS IS OF BULK AT MOST 1048576: true; the input reads as it did. -/
def ballotMayUptoRow : OpenClaim := { program := "ytmjbacmaafbdlaa", sum := "a5d953377415006231ef66460b22c5c18882f68652f98efc3ac0bf804b3fe60c", func := "grapevine/grapevinelaw15.BallotMay", spec := "ballotMay", recurses := true, apart := false, narrowed := true }
def BallotMayUptoSaid : Prop := ballotMayUptoRow.holds Try.pinned (OpenSpec.upto ballotMaySpec)

/-- 'grapevinelaw15.BallotAgain', WHERE WHAT IT READS IS OF BULK AT MOST 1048576: true; the input reads as it did. -/
def ballotAgainUptoRow : OpenClaim := { program := "ytmjbacmaafbdlaa", sum := "a5d953377415006231ef66460b22c5c18882f68652f98efc3ac0bf804b3fe60c", func := "grapevine/grapevinelaw15.BallotAgain", spec := "ballotAgain", recurses := true, apart := false, narrowed := true }
def BallotAgainUptoSaid : Prop := ballotAgainUptoRow.holds Try.pinned (OpenSpec.upto ballotAgainSpec)

end Rows
end Go.Proofs.Ytmjbacmaafbdlaa
