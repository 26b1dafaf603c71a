/-
  No cell of these rows narrows 'for every input' (looked for: loops, veiled, ifaces, maps, wideKeys, modest, calm, conditions, laid).
  DERIVED. THE GIVEN ROWS OF THIS SEAT. 8 by the template 'for every input the law returns true; each argument reads behind the call as it read before'; 0 by the template 'total and deterministic' (their statements: YtacljdpmcndhdaaTotals.lean).
  GIVEN WITH THE SEED: the statements are not yours to turn. If you find one false, say at which input.
  Laid BY PROGRAM, IN A SANDBOX (cutbox-rows.mjs): the forced cells as the released guide's own fill.sh prints them over the translation 0714de2b4f606a97… (all of the seat's roots in one cut). By AI agents, Wed Nov 11 2026. No macro, syntax, notation, axiom, sorry.
-/
import Derived.Test.YtacljdpmcndhdaaChecked
import GoSem.Claim
import GoSem.ClaimJoined
import GoSem.ClaimMapViews
import Derived.JoinedTies
import Derived.KernelRfl
namespace Go.Proofs.Ytacljdpmcndhdaa
/- THE CELL 'sum', in the pinned program and in every row, IS THE sha256 OF THE DUMP (.gsa) THAT YtacljdpmcndhdaaProg.lean LOADS. Nothing in Lean hashes anything: it is a label: what it is worth is what the hold of that sum in a sandbox is worth. -/
noncomputable def Try.pinned : Pinned := { name := "ytacljdpmcndhdaa", sum := "0714de2b4f606a9761046a065cb8c220f44e5a0dde68316968d90b2bf85bb67f", checked := Try.checked }
namespace Rows
def none {H : Type} : Left H := { results := [], args := [] }

/-- 'grapevinelaw04.QuorumNeeds': WHATEVER THE INPUT: true; the input reads as it did. -/
def quorumNeedsSpec : ChangeSpec := { name := "quorumNeeds", fn := fun _ => fun
  | [d] => { results := [.lit (.bool true)], args := [d] }
  | _ => none }
def quorumNeedsRow : OpenClaim := { program := "ytacljdpmcndhdaa", sum := "0714de2b4f606a9761046a065cb8c220f44e5a0dde68316968d90b2bf85bb67f", func := "grapevine/grapevinelaw04.QuorumNeeds", spec := "quorumNeeds", recurses := true, apart := false }
def QuorumNeedsSaid : Prop := quorumNeedsRow.holds Try.pinned (OpenSpec.ofChange quorumNeedsSpec)

/-- ITS FALSE NEIGHBOUR: 'it returns false'. Refute it at one input. -/
def quorumNeedsWrong : ChangeSpec := { name := "quorumNeeds", fn := fun _ => fun
  | [d] => { results := [.lit (.bool false)], args := [d] }
  | _ => none }
def QuorumNeedsWrongFalsely : Prop := quorumNeedsRow.holds Try.pinned (OpenSpec.ofChange quorumNeedsWrong)

/-- 'grapevinelaw04.QuorumTallies': WHATEVER THE INPUT: true; the input reads as it did. -/
def quorumTalliesSpec : ChangeSpec := { name := "quorumTallies", fn := fun _ => fun
  | [d1, d2] => { results := [.lit (.bool true)], args := [d1, d2] }
  | _ => none }
def quorumTalliesRow : OpenClaim := { program := "ytacljdpmcndhdaa", sum := "0714de2b4f606a9761046a065cb8c220f44e5a0dde68316968d90b2bf85bb67f", func := "grapevine/grapevinelaw04.QuorumTallies", spec := "quorumTallies", recurses := true, apart := false }
def QuorumTalliesSaid : Prop := quorumTalliesRow.holds Try.pinned (OpenSpec.ofChange quorumTalliesSpec)

/-- ITS FALSE NEIGHBOUR: 'it returns false'. Refute it at one input. -/
def quorumTalliesWrong : ChangeSpec := { name := "quorumTallies", fn := fun _ => fun
  | [d1, d2] => { results := [.lit (.bool false)], args := [d1, d2] }
  | _ => none }
def QuorumTalliesWrongFalsely : Prop := quorumTalliesRow.holds Try.pinned (OpenSpec.ofChange quorumTalliesWrong)

/-- 'grapevinelaw04.QuorumMeets': WHATEVER THE INPUT: true; the input reads as it did. -/
def quorumMeetsSpec : ChangeSpec := { name := "quorumMeets", fn := fun _ => fun
  | [d1, d2, d3] => { results := [.lit (.bool true)], args := [d1, d2, d3] }
  | _ => none }
def quorumMeetsRow : OpenClaim := { program := "ytacljdpmcndhdaa", sum := "0714de2b4f606a9761046a065cb8c220f44e5a0dde68316968d90b2bf85bb67f", func := "grapevine/grapevinelaw04.QuorumMeets", spec := "quorumMeets", recurses := true, apart := false }
def QuorumMeetsSaid : Prop := quorumMeetsRow.holds Try.pinned (OpenSpec.ofChange quorumMeetsSpec)

/-- ITS FALSE NEIGHBOUR: 'it returns false'. Refute it at one input. -/
def quorumMeetsWrong : ChangeSpec := { name := "quorumMeets", fn := fun _ => fun
  | [d1, d2, d3] => { results := [.lit (.bool false)], args := [d1, d2, d3] }
  | _ => none }
def QuorumMeetsWrongFalsely : Prop := quorumMeetsRow.holds Try.pinned (OpenSpec.ofChange quorumMeetsWrong)

/-- 'grapevinelaw04.QuorumApart': WHATEVER THE INPUT: true; the input reads as it did. -/
def quorumApartSpec : ChangeSpec := { name := "quorumApart", fn := fun _ => fun
  | [d1, d2] => { results := [.lit (.bool true)], args := [d1, d2] }
  | _ => none }
def quorumApartRow : OpenClaim := { program := "ytacljdpmcndhdaa", sum := "0714de2b4f606a9761046a065cb8c220f44e5a0dde68316968d90b2bf85bb67f", func := "grapevine/grapevinelaw04.QuorumApart", spec := "quorumApart", recurses := true, apart := false }
def QuorumApartSaid : Prop := quorumApartRow.holds Try.pinned (OpenSpec.ofChange quorumApartSpec)

/-- ITS FALSE NEIGHBOUR: 'it returns false'. Refute it at one input. -/
def quorumApartWrong : ChangeSpec := { name := "quorumApart", fn := fun _ => fun
  | [d1, d2] => { results := [.lit (.bool false)], args := [d1, d2] }
  | _ => none }
def QuorumApartWrongFalsely : Prop := quorumApartRow.holds Try.pinned (OpenSpec.ofChange quorumApartWrong)

/-- 'grapevinelaw04.QuorumGrows': WHATEVER THE INPUT: true; the input reads as it did. -/
def quorumGrowsSpec : ChangeSpec := { name := "quorumGrows", fn := fun _ => fun
  | [d1, d2, d3] => { results := [.lit (.bool true)], args := [d1, d2, d3] }
  | _ => none }
def quorumGrowsRow : OpenClaim := { program := "ytacljdpmcndhdaa", sum := "0714de2b4f606a9761046a065cb8c220f44e5a0dde68316968d90b2bf85bb67f", func := "grapevine/grapevinelaw04.QuorumGrows", spec := "quorumGrows", recurses := true, apart := false }
def QuorumGrowsSaid : Prop := quorumGrowsRow.holds Try.pinned (OpenSpec.ofChange quorumGrowsSpec)

/-- ITS FALSE NEIGHBOUR: 'it returns false'. Refute it at one input. -/
def quorumGrowsWrong : ChangeSpec := { name := "quorumGrows", fn := fun _ => fun
  | [d1, d2, d3] => { results := [.lit (.bool false)], args := [d1, d2, d3] }
  | _ => none }
def QuorumGrowsWrongFalsely : Prop := quorumGrowsRow.holds Try.pinned (OpenSpec.ofChange quorumGrowsWrong)

/-- 'grapevinelaw04.QuorumSplit': WHATEVER THE INPUT: true; the input reads as it did. -/
def quorumSplitSpec : ChangeSpec := { name := "quorumSplit", fn := fun _ => fun
  | [d1, d2] => { results := [.lit (.bool true)], args := [d1, d2] }
  | _ => none }
def quorumSplitRow : OpenClaim := { program := "ytacljdpmcndhdaa", sum := "0714de2b4f606a9761046a065cb8c220f44e5a0dde68316968d90b2bf85bb67f", func := "grapevine/grapevinelaw04.QuorumSplit", spec := "quorumSplit", recurses := true, apart := false }
def QuorumSplitSaid : Prop := quorumSplitRow.holds Try.pinned (OpenSpec.ofChange quorumSplitSpec)

/-- ITS FALSE NEIGHBOUR: 'it returns false'. Refute it at one input. -/
def quorumSplitWrong : ChangeSpec := { name := "quorumSplit", fn := fun _ => fun
  | [d1, d2] => { results := [.lit (.bool false)], args := [d1, d2] }
  | _ => none }
def QuorumSplitWrongFalsely : Prop := quorumSplitRow.holds Try.pinned (OpenSpec.ofChange quorumSplitWrong)

/-- 'grapevinelaw04.QuorumOrder': WHATEVER THE INPUT: true; the input reads as it did. -/
def quorumOrderSpec : ChangeSpec := { name := "quorumOrder", fn := fun _ => fun
  | [d1, d2, d3] => { results := [.lit (.bool true)], args := [d1, d2, d3] }
  | _ => none }
def quorumOrderRow : OpenClaim := { program := "ytacljdpmcndhdaa", sum := "0714de2b4f606a9761046a065cb8c220f44e5a0dde68316968d90b2bf85bb67f", func := "grapevine/grapevinelaw04.QuorumOrder", spec := "quorumOrder", unfollowed := true, recurses := true, apart := false }
def QuorumOrderSaid : Prop := quorumOrderRow.holds Try.pinned (OpenSpec.ofChange quorumOrderSpec)

/-- ITS FALSE NEIGHBOUR: 'it returns false'. Refute it at one input. -/
def quorumOrderWrong : ChangeSpec := { name := "quorumOrder", fn := fun _ => fun
  | [d1, d2, d3] => { results := [.lit (.bool false)], args := [d1, d2, d3] }
  | _ => none }
def QuorumOrderWrongFalsely : Prop := quorumOrderRow.holds Try.pinned (OpenSpec.ofChange quorumOrderWrong)

/-- 'grapevinelaw04.QuorumMissing': WHATEVER THE INPUT: true; the input reads as it did. -/
def quorumMissingSpec : ChangeSpec := { name := "quorumMissing", fn := fun _ => fun
  | [d1, d2] => { results := [.lit (.bool true)], args := [d1, d2] }
  | _ => none }
def quorumMissingRow : OpenClaim := { program := "ytacljdpmcndhdaa", sum := "0714de2b4f606a9761046a065cb8c220f44e5a0dde68316968d90b2bf85bb67f", func := "grapevine/grapevinelaw04.QuorumMissing", spec := "quorumMissing", recurses := true, apart := false }
def QuorumMissingSaid : Prop := quorumMissingRow.holds Try.pinned (OpenSpec.ofChange quorumMissingSpec)

/-- ITS FALSE NEIGHBOUR: 'it returns false'. Refute it at one input. -/
def quorumMissingWrong : ChangeSpec := { name := "quorumMissing", fn := fun _ => fun
  | [d1, d2] => { results := [.lit (.bool false)], args := [d1, d2] }
  | _ => none }
def QuorumMissingWrongFalsely : Prop := quorumMissingRow.holds Try.pinned (OpenSpec.ofChange quorumMissingWrong)

/- THE SECOND FORM. 'bulk': how many values and letters a reading holds, each counted each time it is reached (what is shared counts as often as it is met; a slice's spare places count too). A statement '..UptoSaid' is the law's where the arguments, and the package variables that the reading takes, are together of bulk at most 1048576: NARROWER than '..Said'. Prove '..Said' where nothing that the law and all that it calls make is longer than what came in: it says more and counts as full. Else prove '..UptoSaid'. A law counts once. -/
mutual
def uptoBulk {H : Type} : DataW H → Nat
  | .lit (.string bytes) => bytes.length + 1
  | .lit _ => 1
  | .nil => 1
  | .ptr d => uptoBulk d + 1
  | .slice elems spare => uptoBulkAll elems + uptoBulkAll spare + 1
  | .agg parts => uptoBulkAll parts + 1
  | .iface _ d => uptoBulk d + 1
  | .map entries => uptoBulkEntries entries + 1
  | .held _ => 1
def uptoBulkAll {H : Type} : List (DataW H) → Nat
  | [] => 0
  | d :: r => uptoBulk d + uptoBulkAll r
def uptoBulkEntries {H : Type} : List (Lit × DataW H) → Nat
  | [] => 0
  | x :: r => uptoBulkEntry x + uptoBulkEntries r
def uptoBulkEntry {H : Type} : Lit × DataW H → Nat
  | (.string bytes, d) => bytes.length + uptoBulk d + 1
  | (_, d) => uptoBulk d + 1
 end
def uptoSmall : (H : Type) → List (DataW H) → Bool := fun _ ds => decide (uptoBulkAll ds ≤ 1048576)
def OpenSpec.upto (s : _root_.Go.ChangeSpec) : _root_.Go.OpenSpec := { _root_.Go.OpenSpec.ofChange s with cond := some uptoSmall }

/-- 'grapevinelaw04.QuorumNeeds', WHERE WHAT IT READS IS OF BULK AT MOST 1048576: true; the input reads as it did. -/
def quorumNeedsUptoRow : OpenClaim := { program := "ytacljdpmcndhdaa", sum := "0714de2b4f606a9761046a065cb8c220f44e5a0dde68316968d90b2bf85bb67f", func := "grapevine/grapevinelaw04.QuorumNeeds", spec := "quorumNeeds", recurses := true, apart := false, narrowed := true }
def QuorumNeedsUptoSaid : Prop := quorumNeedsUptoRow.holds Try.pinned (OpenSpec.upto quorumNeedsSpec)

/-- 'grapevinelaw04.QuorumTallies', WHERE WHAT IT READS IS OF BULK AT MOST 1048576: true; the input reads as it did. -/
def quorumTalliesUptoRow : OpenClaim := { program := "ytacljdpmcndhdaa", sum := "0714de2b4f606a9761046a065cb8c220f44e5a0dde68316968d90b2bf85bb67f", func := "grapevine/grapevinelaw04.QuorumTallies", spec := "quorumTallies", recurses := true, apart := false, narrowed := true }
def QuorumTalliesUptoSaid : Prop := quorumTalliesUptoRow.holds Try.pinned (OpenSpec.upto quorumTalliesSpec)

/-- 'grapevinelaw04.QuorumMeets', WHERE WHAT IT READS IS OF BULK AT MOST 1048576: true; the input reads as it did. -/
def quorumMeetsUptoRow : OpenClaim := { program := "ytacljdpmcndhdaa", sum := "0714de2b4f606a9761046a065cb8c220f44e5a0dde68316968d90b2bf85bb67f", func := "grapevine/grapevinelaw04.QuorumMeets", spec := "quorumMeets", recurses := true, apart := false, narrowed := true }
def QuorumMeetsUptoSaid : Prop := quorumMeetsUptoRow.holds Try.pinned (OpenSpec.upto quorumMeetsSpec)

/-- 'grapevinelaw04.QuorumApart', WHERE WHAT IT READS IS OF BULK AT MOST 1048576: true; the input reads as it did. -/
def quorumApartUptoRow : OpenClaim := { program := "ytacljdpmcndhdaa", sum := "0714de2b4f606a9761046a065cb8c220f44e5a0dde68316968d90b2bf85bb67f", func := "grapevine/grapevinelaw04.QuorumApart", spec := "quorumApart", recurses := true, apart := false, narrowed := true }
def QuorumApartUptoSaid : Prop := quorumApartUptoRow.holds Try.pinned (OpenSpec.upto quorumApartSpec)

/-- 'grapevinelaw04.QuorumGrows', WHERE WHAT IT READS IS OF BULK AT MOST 1048576: true; the input reads as it did. -/
def quorumGrowsUptoRow : OpenClaim := { program := "ytacljdpmcndhdaa", sum := "0714de2b4f606a9761046a065cb8c220f44e5a0dde68316968d90b2bf85bb67f", func := "grapevine/grapevinelaw04.QuorumGrows", spec := "quorumGrows", recurses := true, apart := false, narrowed := true }
def QuorumGrowsUptoSaid : Prop := quorumGrowsUptoRow.holds Try.pinned (OpenSpec.upto quorumGrowsSpec)

/-- 'grapevinelaw04.QuorumSplit', WHERE WHAT IT READS IS OF BULK AT MOST 1048576: true; the input reads as it did. -/
def quorumSplitUptoRow : OpenClaim := { program := "ytacljdpmcndhdaa", sum := "0714de2b4f606a9761046a065cb8c220f44e5a0dde68316968d90b2bf85bb67f", func := "grapevine/grapevinelaw04.QuorumSplit", spec := "quorumSplit", recurses := true, apart := false, narrowed := true }
def QuorumSplitUptoSaid : Prop := quorumSplitUptoRow.holds Try.pinned (OpenSpec.upto quorumSplitSpec)

/-- 'grapevinelaw04.QuorumOrder', WHERE WHAT IT READS IS OF BULK AT MOST 1048576: true; the input reads as it did. -/
def quorumOrderUptoRow : OpenClaim := { program := "ytacljdpmcndhdaa", sum := "0714de2b4f606a9761046a065cb8c220f44e5a0dde68316968d90b2bf85bb67f", func := "grapevine/grapevinelaw04.QuorumOrder", spec := "quorumOrder", unfollowed := true, recurses := true, apart := false, narrowed := true }
def QuorumOrderUptoSaid : Prop := quorumOrderUptoRow.holds Try.pinned (OpenSpec.upto quorumOrderSpec)

/-- 'grapevinelaw04.QuorumMissing', WHERE WHAT IT READS IS OF BULK AT MOST 1048576: true; the input reads as it did. -/
def quorumMissingUptoRow : OpenClaim := { program := "ytacljdpmcndhdaa", sum := "0714de2b4f606a9761046a065cb8c220f44e5a0dde68316968d90b2bf85bb67f", func := "grapevine/grapevinelaw04.QuorumMissing", spec := "quorumMissing", recurses := true, apart := false, narrowed := true }
def QuorumMissingUptoSaid : Prop := quorumMissingUptoRow.holds Try.pinned (OpenSpec.upto quorumMissingSpec)

end Rows
end Go.Proofs.Ytacljdpmcndhdaa
