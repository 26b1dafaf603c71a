/-
  No cell of these rows narrows 'for every input' (looked for: loops, veiled, ifaces, maps, wideKeys, modest, calm, conditions, laid).
  DERIVED. THE GIVEN ROWS OF THIS SEAT. 5 by the template 'for every input the law returns true; each argument reads behind the call as it read before'; 0 by the template 'total and deterministic' (their statements: YtcphodnenhnalaaTotals.lean).
  GIVEN WITH THE SEED: the statements are not yours to turn. If you find one false, say at which input.
  Laid BY PROGRAM, IN A SANDBOX (cutbox-rows.mjs): the forced cells as the released guide's own fill.sh prints them over the translation 12450744bda27f68… (all of the seat's roots in one cut). By AI agents, Wed Nov 11 2026. No macro, syntax, notation, axiom, sorry.
-/
import Derived.Test.YtcphodnenhnalaaChecked
import GoSem.Claim
import GoSem.ClaimJoined
import GoSem.ClaimMapViews
import Derived.JoinedTies
import Derived.KernelRfl
namespace Go.Proofs.Ytcphodnenhnalaa
/- THE CELL 'sum', in the pinned program and in every row, IS THE sha256 OF THE DUMP (.gsa) THAT YtcphodnenhnalaaProg.lean LOADS. Nothing in Lean hashes anything: it is a label: what it is worth is what the hold of that sum in a sandbox is worth. -/
noncomputable def Try.pinned : Pinned := { name := "ytcphodnenhnalaa", sum := "12450744bda27f68e00b4fc27475a3337891861620e45b10ed4d4b4c661678bf", checked := Try.checked }
namespace Rows
def none {H : Type} : Left H := { results := [], args := [] }

/-- 'grapevinelaw09.WatchPlays': WHATEVER THE INPUT: true; the input reads as it did. -/
def watchPlaysSpec : ChangeSpec := { name := "watchPlays", fn := fun _ => fun
  | [d1, d2, d3] => { results := [.lit (.bool true)], args := [d1, d2, d3] }
  | _ => none }
def watchPlaysRow : OpenClaim := { program := "ytcphodnenhnalaa", sum := "12450744bda27f68e00b4fc27475a3337891861620e45b10ed4d4b4c661678bf", func := "grapevine/grapevinelaw09.WatchPlays", spec := "watchPlays", unfollowed := true, recurses := true, apart := false }
def WatchPlaysSaid : Prop := watchPlaysRow.holds Try.pinned (OpenSpec.ofChange watchPlaysSpec)

/-- ITS FALSE NEIGHBOUR: 'it returns false'. Refute it at one input. -/
def watchPlaysWrong : ChangeSpec := { name := "watchPlays", fn := fun _ => fun
  | [d1, d2, d3] => { results := [.lit (.bool false)], args := [d1, d2, d3] }
  | _ => none }
def WatchPlaysWrongFalsely : Prop := watchPlaysRow.holds Try.pinned (OpenSpec.ofChange watchPlaysWrong)

/-- 'grapevinelaw09.WatchBounds': WHATEVER THE INPUT: true; the input reads as it did. -/
def watchBoundsSpec : ChangeSpec := { name := "watchBounds", fn := fun _ => fun
  | [d1, d2, d3] => { results := [.lit (.bool true)], args := [d1, d2, d3] }
  | _ => none }
def watchBoundsRow : OpenClaim := { program := "ytcphodnenhnalaa", sum := "12450744bda27f68e00b4fc27475a3337891861620e45b10ed4d4b4c661678bf", func := "grapevine/grapevinelaw09.WatchBounds", spec := "watchBounds", unfollowed := true, recurses := true, apart := false }
def WatchBoundsSaid : Prop := watchBoundsRow.holds Try.pinned (OpenSpec.ofChange watchBoundsSpec)

/-- ITS FALSE NEIGHBOUR: 'it returns false'. Refute it at one input. -/
def watchBoundsWrong : ChangeSpec := { name := "watchBounds", fn := fun _ => fun
  | [d1, d2, d3] => { results := [.lit (.bool false)], args := [d1, d2, d3] }
  | _ => none }
def WatchBoundsWrongFalsely : Prop := watchBoundsRow.holds Try.pinned (OpenSpec.ofChange watchBoundsWrong)

/-- 'grapevinelaw09.WatchLate': WHATEVER THE INPUT: true; the input reads as it did. -/
def watchLateSpec : ChangeSpec := { name := "watchLate", fn := fun _ => fun
  | [d1, d2, d3, d4] => { results := [.lit (.bool true)], args := [d1, d2, d3, d4] }
  | _ => none }
def watchLateRow : OpenClaim := { program := "ytcphodnenhnalaa", sum := "12450744bda27f68e00b4fc27475a3337891861620e45b10ed4d4b4c661678bf", func := "grapevine/grapevinelaw09.WatchLate", spec := "watchLate", unfollowed := true, recurses := true, apart := false }
def WatchLateSaid : Prop := watchLateRow.holds Try.pinned (OpenSpec.ofChange watchLateSpec)

/-- ITS FALSE NEIGHBOUR: 'it returns false'. Refute it at one input. -/
def watchLateWrong : ChangeSpec := { name := "watchLate", fn := fun _ => fun
  | [d1, d2, d3, d4] => { results := [.lit (.bool false)], args := [d1, d2, d3, d4] }
  | _ => none }
def WatchLateWrongFalsely : Prop := watchLateRow.holds Try.pinned (OpenSpec.ofChange watchLateWrong)

/-- 'grapevinelaw09.WatchShifts': WHATEVER THE INPUT: true; the input reads as it did. -/
def watchShiftsSpec : ChangeSpec := { name := "watchShifts", fn := fun _ => fun
  | [d1, d2, d3, d4] => { results := [.lit (.bool true)], args := [d1, d2, d3, d4] }
  | _ => none }
def watchShiftsRow : OpenClaim := { program := "ytcphodnenhnalaa", sum := "12450744bda27f68e00b4fc27475a3337891861620e45b10ed4d4b4c661678bf", func := "grapevine/grapevinelaw09.WatchShifts", spec := "watchShifts", unfollowed := true, recurses := true, apart := false }
def WatchShiftsSaid : Prop := watchShiftsRow.holds Try.pinned (OpenSpec.ofChange watchShiftsSpec)

/-- ITS FALSE NEIGHBOUR: 'it returns false'. Refute it at one input. -/
def watchShiftsWrong : ChangeSpec := { name := "watchShifts", fn := fun _ => fun
  | [d1, d2, d3, d4] => { results := [.lit (.bool false)], args := [d1, d2, d3, d4] }
  | _ => none }
def WatchShiftsWrongFalsely : Prop := watchShiftsRow.holds Try.pinned (OpenSpec.ofChange watchShiftsWrong)

/-- 'grapevinelaw09.WatchGrows': WHATEVER THE INPUT: true; the input reads as it did. -/
def watchGrowsSpec : ChangeSpec := { name := "watchGrows", fn := fun _ => fun
  | [d1, d2, d3, d4] => { results := [.lit (.bool true)], args := [d1, d2, d3, d4] }
  | _ => none }
def watchGrowsRow : OpenClaim := { program := "ytcphodnenhnalaa", sum := "12450744bda27f68e00b4fc27475a3337891861620e45b10ed4d4b4c661678bf", func := "grapevine/grapevinelaw09.WatchGrows", spec := "watchGrows", unfollowed := true, recurses := true, apart := false }
def WatchGrowsSaid : Prop := watchGrowsRow.holds Try.pinned (OpenSpec.ofChange watchGrowsSpec)

/-- ITS FALSE NEIGHBOUR: 'it returns false'. Refute it at one input. -/
def watchGrowsWrong : ChangeSpec := { name := "watchGrows", fn := fun _ => fun
  | [d1, d2, d3, d4] => { results := [.lit (.bool false)], args := [d1, d2, d3, d4] }
  | _ => none }
def WatchGrowsWrongFalsely : Prop := watchGrowsRow.holds Try.pinned (OpenSpec.ofChange watchGrowsWrong)

/- THE SECOND FORM. 'bulk': how many values and letters a reading holds, each counted each time it is reached (what is shared counts as often as it is met; a slice's spare places count too). A statement '..UptoSaid' is the law's where the arguments, and the package variables that the reading takes, are together of bulk at most 1048576: NARROWER than '..Said'. Prove '..Said' where nothing that the law and all that it calls make is longer than what came in: it says more and counts as full. Else prove '..UptoSaid'. A law counts once. -/
mutual
def uptoBulk {H : Type} : DataW H → Nat
  | .lit (.string bytes) => bytes.length + 1
  | .lit _ => 1
  | .nil => 1
  | .ptr d => uptoBulk d + 1
  | .slice elems spare => uptoBulkAll elems + uptoBulkAll spare + 1
  | .agg parts => uptoBulkAll parts + 1
  | .iface _ d => uptoBulk d + 1
  | .map entries => uptoBulkEntries entries + 1
  | .held _ => 1
def uptoBulkAll {H : Type} : List (DataW H) → Nat
  | [] => 0
  | d :: r => uptoBulk d + uptoBulkAll r
def uptoBulkEntries {H : Type} : List (Lit × DataW H) → Nat
  | [] => 0
  | x :: r => uptoBulkEntry x + uptoBulkEntries r
def uptoBulkEntry {H : Type} : Lit × DataW H → Nat
  | (.string bytes, d) => bytes.length + uptoBulk d + 1
  | (_, d) => uptoBulk d + 1
 end
def uptoSmall : (H : Type) → List (DataW H) → Bool := fun _ ds => decide (uptoBulkAll ds ≤ 1048576)
def OpenSpec.upto (s : _root_.Go.ChangeSpec) : _root_.Go.OpenSpec := { _root_.Go.OpenSpec.ofChange s with cond := some uptoSmall }

/-- 'grapevinelaw09.WatchPlays', WHERE WHAT IT READS IS OF BULK AT MOST 1048576: true; the input reads as it did. -/
def watchPlaysUptoRow : OpenClaim := { program := "ytcphodnenhnalaa", sum := "12450744bda27f68e00b4fc27475a3337891861620e45b10ed4d4b4c661678bf", func := "grapevine/grapevinelaw09.WatchPlays", spec := "watchPlays", unfollowed := true, recurses := true, apart := false, narrowed := true }
def WatchPlaysUptoSaid : Prop := watchPlaysUptoRow.holds Try.pinned (OpenSpec.upto watchPlaysSpec)

/-- 'grapevinelaw09.WatchBounds', WHERE WHAT IT READS IS OF BULK AT MOST 1048576: true; the input reads as it did. -/
def watchBoundsUptoRow : OpenClaim := { program := "ytcphodnenhnalaa", sum := "12450744bda27f68e00b4fc27475a3337891861620e45b10ed4d4b4c661678bf", func := "grapevine/grapevinelaw09.WatchBounds", spec := "watchBounds", unfollowed := true, recurses := true, apart := false, narrowed := true }
def WatchBoundsUptoSaid : Prop := watchBoundsUptoRow.holds Try.pinned (OpenSpec.upto watchBoundsSpec)

/-- 'grapevinelaw09.WatchLate', WHERE WHAT IT READS IS OF BULK AT MOST 1048576: true; the input reads as it did. -/
def watchLateUptoRow : OpenClaim := { program := "ytcphodnenhnalaa", sum := "12450744bda27f68e00b4fc27475a3337891861620e45b10ed4d4b4c661678bf", func := "grapevine/grapevinelaw09.WatchLate", spec := "watchLate", unfollowed := true, recurses := true, apart := false, narrowed := true }
def WatchLateUptoSaid : Prop := watchLateUptoRow.holds Try.pinned (OpenSpec.upto watchLateSpec)

/-- 'grapevinelaw09.WatchShifts', WHERE WHAT IT READS IS OF BULK AT MOST 1048576: true; the input reads as it did. -/
def watchShiftsUptoRow : OpenClaim := { program := "ytcphodnenhnalaa", sum := "12450744bda27f68e00b4fc27475a3337891861620e45b10ed4d4b4c661678bf", func := "grapevine/grapevinelaw09.WatchShifts", spec := "watchShifts", unfollowed := true, recurses := true, apart := false, narrowed := true }
def WatchShiftsUptoSaid : Prop := watchShiftsUptoRow.holds Try.pinned (OpenSpec.upto watchShiftsSpec)

/-- 'grapevinelaw09.WatchGrows', WHERE WHAT IT READS IS OF BULK AT MOST 1048576: true; the input reads as it did. -/
def watchGrowsUptoRow : OpenClaim := { program := "ytcphodnenhnalaa", sum := "12450744bda27f68e00b4fc27475a3337891861620e45b10ed4d4b4c661678bf", func := "grapevine/grapevinelaw09.WatchGrows", spec := "watchGrows", unfollowed := true, recurses := true, apart := false, narrowed := true }
def WatchGrowsUptoSaid : Prop := watchGrowsUptoRow.holds Try.pinned (OpenSpec.upto watchGrowsSpec)

end Rows
end Go.Proofs.Ytcphodnenhnalaa
