/-
  No cell of these rows narrows 'for every input' (looked for: loops, veiled, ifaces, maps, wideKeys, modest, calm, conditions, laid).
  DERIVED. THE GIVEN ROWS OF THIS SEAT. 9 by the template 'for every input the law returns true; each argument reads behind the call as it read before'; 0 by the template 'total and deterministic' (their statements: YtkkjciomgcgdiaaTotals.lean).
  GIVEN WITH THE SEED: the statements are not yours to turn. If you find one false, say at which input.
  Laid BY PROGRAM, IN A SANDBOX (cutbox-rows.mjs): the forced cells as the released guide's own fill.sh prints them over the translation 79d034329eee4b99… (all of the seat's roots in one cut). By AI agents, Wed Nov 11 2026. No macro, syntax, notation, axiom, sorry.
-/
import Derived.Test.YtkkjciomgcgdiaaChecked
import GoSem.Claim
import GoSem.ClaimJoined
import GoSem.ClaimMapViews
import Derived.JoinedTies
import Derived.KernelRfl
namespace Go.Proofs.Ytkkjciomgcgdiaa
/- THE CELL 'sum', in the pinned program and in every row, IS THE sha256 OF THE DUMP (.gsa) THAT YtkkjciomgcgdiaaProg.lean LOADS. Nothing in Lean hashes anything: it is a label: what it is worth is what the hold of that sum in a sandbox is worth. -/
noncomputable def Try.pinned : Pinned := { name := "ytkkjciomgcgdiaa", sum := "79d034329eee4b999c20881111c127bf0e8037b3c916b69172780cfafcb96673", checked := Try.checked }
namespace Rows
def none {H : Type} : Left H := { results := [], args := [] }

/-- 'grapevinelaw07.ClaimsClaims': WHATEVER THE INPUT: true; the input reads as it did. -/
def claimsClaimsSpec : ChangeSpec := { name := "claimsClaims", fn := fun _ => fun
  | [d1, d2] => { results := [.lit (.bool true)], args := [d1, d2] }
  | _ => none }
def claimsClaimsRow : OpenClaim := { program := "ytkkjciomgcgdiaa", sum := "79d034329eee4b999c20881111c127bf0e8037b3c916b69172780cfafcb96673", func := "grapevine/grapevinelaw07.ClaimsClaims", spec := "claimsClaims", apart := false }
def ClaimsClaimsSaid : Prop := claimsClaimsRow.holds Try.pinned (OpenSpec.ofChange claimsClaimsSpec)

/-- ITS FALSE NEIGHBOUR: 'it returns false'. Refute it at one input. -/
def claimsClaimsWrong : ChangeSpec := { name := "claimsClaims", fn := fun _ => fun
  | [d1, d2] => { results := [.lit (.bool false)], args := [d1, d2] }
  | _ => none }
def ClaimsClaimsWrongFalsely : Prop := claimsClaimsRow.holds Try.pinned (OpenSpec.ofChange claimsClaimsWrong)

/-- 'grapevinelaw07.ClaimsDrops': WHATEVER THE INPUT: true; the input reads as it did. -/
def claimsDropsSpec : ChangeSpec := { name := "claimsDrops", fn := fun _ => fun
  | [d1, d2, d3] => { results := [.lit (.bool true)], args := [d1, d2, d3] }
  | _ => none }
def claimsDropsRow : OpenClaim := { program := "ytkkjciomgcgdiaa", sum := "79d034329eee4b999c20881111c127bf0e8037b3c916b69172780cfafcb96673", func := "grapevine/grapevinelaw07.ClaimsDrops", spec := "claimsDrops", apart := false }
def ClaimsDropsSaid : Prop := claimsDropsRow.holds Try.pinned (OpenSpec.ofChange claimsDropsSpec)

/-- ITS FALSE NEIGHBOUR: 'it returns false'. Refute it at one input. -/
def claimsDropsWrong : ChangeSpec := { name := "claimsDrops", fn := fun _ => fun
  | [d1, d2, d3] => { results := [.lit (.bool false)], args := [d1, d2, d3] }
  | _ => none }
def ClaimsDropsWrongFalsely : Prop := claimsDropsRow.holds Try.pinned (OpenSpec.ofChange claimsDropsWrong)

/-- 'grapevinelaw07.ClaimsOwners': WHATEVER THE INPUT: true; the input reads as it did. -/
def claimsOwnersSpec : ChangeSpec := { name := "claimsOwners", fn := fun _ => fun
  | [d] => { results := [.lit (.bool true)], args := [d] }
  | _ => none }
def claimsOwnersRow : OpenClaim := { program := "ytkkjciomgcgdiaa", sum := "79d034329eee4b999c20881111c127bf0e8037b3c916b69172780cfafcb96673", func := "grapevine/grapevinelaw07.ClaimsOwners", spec := "claimsOwners", recurses := true, apart := false }
def ClaimsOwnersSaid : Prop := claimsOwnersRow.holds Try.pinned (OpenSpec.ofChange claimsOwnersSpec)

/-- ITS FALSE NEIGHBOUR: 'it returns false'. Refute it at one input. -/
def claimsOwnersWrong : ChangeSpec := { name := "claimsOwners", fn := fun _ => fun
  | [d] => { results := [.lit (.bool false)], args := [d] }
  | _ => none }
def ClaimsOwnersWrongFalsely : Prop := claimsOwnersRow.holds Try.pinned (OpenSpec.ofChange claimsOwnersWrong)

/-- 'grapevinelaw07.ClaimsNewer': WHATEVER THE INPUT: true; the input reads as it did. -/
def claimsNewerSpec : ChangeSpec := { name := "claimsNewer", fn := fun _ => fun
  | [d1, d2] => { results := [.lit (.bool true)], args := [d1, d2] }
  | _ => none }
def claimsNewerRow : OpenClaim := { program := "ytkkjciomgcgdiaa", sum := "79d034329eee4b999c20881111c127bf0e8037b3c916b69172780cfafcb96673", func := "grapevine/grapevinelaw07.ClaimsNewer", spec := "claimsNewer", apart := false }
def ClaimsNewerSaid : Prop := claimsNewerRow.holds Try.pinned (OpenSpec.ofChange claimsNewerSpec)

/-- ITS FALSE NEIGHBOUR: 'it returns false'. Refute it at one input. -/
def claimsNewerWrong : ChangeSpec := { name := "claimsNewer", fn := fun _ => fun
  | [d1, d2] => { results := [.lit (.bool false)], args := [d1, d2] }
  | _ => none }
def ClaimsNewerWrongFalsely : Prop := claimsNewerRow.holds Try.pinned (OpenSpec.ofChange claimsNewerWrong)

/-- 'grapevinelaw07.ClaimsOrder': WHATEVER THE INPUT: true; the input reads as it did. -/
def claimsOrderSpec : ChangeSpec := { name := "claimsOrder", fn := fun _ => fun
  | [d1, d2] => { results := [.lit (.bool true)], args := [d1, d2] }
  | _ => none }
def claimsOrderRow : OpenClaim := { program := "ytkkjciomgcgdiaa", sum := "79d034329eee4b999c20881111c127bf0e8037b3c916b69172780cfafcb96673", func := "grapevine/grapevinelaw07.ClaimsOrder", spec := "claimsOrder", apart := false }
def ClaimsOrderSaid : Prop := claimsOrderRow.holds Try.pinned (OpenSpec.ofChange claimsOrderSpec)

/-- ITS FALSE NEIGHBOUR: 'it returns false'. Refute it at one input. -/
def claimsOrderWrong : ChangeSpec := { name := "claimsOrder", fn := fun _ => fun
  | [d1, d2] => { results := [.lit (.bool false)], args := [d1, d2] }
  | _ => none }
def ClaimsOrderWrongFalsely : Prop := claimsOrderRow.holds Try.pinned (OpenSpec.ofChange claimsOrderWrong)

/-- 'grapevinelaw07.ClaimsAgain': WHATEVER THE INPUT: true; the input reads as it did. -/
def claimsAgainSpec : ChangeSpec := { name := "claimsAgain", fn := fun _ => fun
  | [d1, d2] => { results := [.lit (.bool true)], args := [d1, d2] }
  | _ => none }
def claimsAgainRow : OpenClaim := { program := "ytkkjciomgcgdiaa", sum := "79d034329eee4b999c20881111c127bf0e8037b3c916b69172780cfafcb96673", func := "grapevine/grapevinelaw07.ClaimsAgain", spec := "claimsAgain", apart := false }
def ClaimsAgainSaid : Prop := claimsAgainRow.holds Try.pinned (OpenSpec.ofChange claimsAgainSpec)

/-- ITS FALSE NEIGHBOUR: 'it returns false'. Refute it at one input. -/
def claimsAgainWrong : ChangeSpec := { name := "claimsAgain", fn := fun _ => fun
  | [d1, d2] => { results := [.lit (.bool false)], args := [d1, d2] }
  | _ => none }
def ClaimsAgainWrongFalsely : Prop := claimsAgainRow.holds Try.pinned (OpenSpec.ofChange claimsAgainWrong)

/-- 'grapevinelaw07.ClaimsSplit': WHATEVER THE INPUT: true; the input reads as it did. -/
def claimsSplitSpec : ChangeSpec := { name := "claimsSplit", fn := fun _ => fun
  | [d1, d2, d3] => { results := [.lit (.bool true)], args := [d1, d2, d3] }
  | _ => none }
def claimsSplitRow : OpenClaim := { program := "ytkkjciomgcgdiaa", sum := "79d034329eee4b999c20881111c127bf0e8037b3c916b69172780cfafcb96673", func := "grapevine/grapevinelaw07.ClaimsSplit", spec := "claimsSplit", apart := false }
def ClaimsSplitSaid : Prop := claimsSplitRow.holds Try.pinned (OpenSpec.ofChange claimsSplitSpec)

/-- ITS FALSE NEIGHBOUR: 'it returns false'. Refute it at one input. -/
def claimsSplitWrong : ChangeSpec := { name := "claimsSplit", fn := fun _ => fun
  | [d1, d2, d3] => { results := [.lit (.bool false)], args := [d1, d2, d3] }
  | _ => none }
def ClaimsSplitWrongFalsely : Prop := claimsSplitRow.holds Try.pinned (OpenSpec.ofChange claimsSplitWrong)

/-- 'grapevinelaw07.ClaimsDropped': WHATEVER THE INPUT: true; the input reads as it did. -/
def claimsDroppedSpec : ChangeSpec := { name := "claimsDropped", fn := fun _ => fun
  | [d1, d2, d3, d4] => { results := [.lit (.bool true)], args := [d1, d2, d3, d4] }
  | _ => none }
def claimsDroppedRow : OpenClaim := { program := "ytkkjciomgcgdiaa", sum := "79d034329eee4b999c20881111c127bf0e8037b3c916b69172780cfafcb96673", func := "grapevine/grapevinelaw07.ClaimsDropped", spec := "claimsDropped", apart := false }
def ClaimsDroppedSaid : Prop := claimsDroppedRow.holds Try.pinned (OpenSpec.ofChange claimsDroppedSpec)

/-- ITS FALSE NEIGHBOUR: 'it returns false'. Refute it at one input. -/
def claimsDroppedWrong : ChangeSpec := { name := "claimsDropped", fn := fun _ => fun
  | [d1, d2, d3, d4] => { results := [.lit (.bool false)], args := [d1, d2, d3, d4] }
  | _ => none }
def ClaimsDroppedWrongFalsely : Prop := claimsDroppedRow.holds Try.pinned (OpenSpec.ofChange claimsDroppedWrong)

/-- 'grapevinelaw07.ClaimsWins': WHATEVER THE INPUT: true; the input reads as it did. -/
def claimsWinsSpec : ChangeSpec := { name := "claimsWins", fn := fun _ => fun
  | [d1, d2, d3] => { results := [.lit (.bool true)], args := [d1, d2, d3] }
  | _ => none }
def claimsWinsRow : OpenClaim := { program := "ytkkjciomgcgdiaa", sum := "79d034329eee4b999c20881111c127bf0e8037b3c916b69172780cfafcb96673", func := "grapevine/grapevinelaw07.ClaimsWins", spec := "claimsWins", apart := false }
def ClaimsWinsSaid : Prop := claimsWinsRow.holds Try.pinned (OpenSpec.ofChange claimsWinsSpec)

/-- ITS FALSE NEIGHBOUR: 'it returns false'. Refute it at one input. -/
def claimsWinsWrong : ChangeSpec := { name := "claimsWins", fn := fun _ => fun
  | [d1, d2, d3] => { results := [.lit (.bool false)], args := [d1, d2, d3] }
  | _ => none }
def ClaimsWinsWrongFalsely : Prop := claimsWinsRow.holds Try.pinned (OpenSpec.ofChange claimsWinsWrong)

/- THE SECOND FORM. 'bulk': how many values and letters a reading holds, each counted each time it is reached (what is shared counts as often as it is met; a slice's spare places count too). A statement '..UptoSaid' is the law's where the arguments, and the package variables that the reading takes, are together of bulk at most 1048576: NARROWER than '..Said'. Prove '..Said' where nothing that the law and all that it calls make is longer than what came in: it says more and counts as full. Else prove '..UptoSaid'. A law counts once. -/
mutual
def uptoBulk {H : Type} : DataW H → Nat
  | .lit (.string bytes) => bytes.length + 1
  | .lit _ => 1
  | .nil => 1
  | .ptr d => uptoBulk d + 1
  | .slice elems spare => uptoBulkAll elems + uptoBulkAll spare + 1
  | .agg parts => uptoBulkAll parts + 1
  | .iface _ d => uptoBulk d + 1
  | .map entries => uptoBulkEntries entries + 1
  | .held _ => 1
def uptoBulkAll {H : Type} : List (DataW H) → Nat
  | [] => 0
  | d :: r => uptoBulk d + uptoBulkAll r
def uptoBulkEntries {H : Type} : List (Lit × DataW H) → Nat
  | [] => 0
  | x :: r => uptoBulkEntry x + uptoBulkEntries r
def uptoBulkEntry {H : Type} : Lit × DataW H → Nat
  | (.string bytes, d) => bytes.length + uptoBulk d + 1
  | (_, d) => uptoBulk d + 1
 end
def uptoSmall : (H : Type) → List (DataW H) → Bool := fun _ ds => decide (uptoBulkAll ds ≤ 1048576)
def OpenSpec.upto (s : _root_.Go.ChangeSpec) : _root_.Go.OpenSpec := { _root_.Go.OpenSpec.ofChange s with cond := some uptoSmall }

/-- 'grapevinelaw07.ClaimsClaims', WHERE WHAT IT READS IS OF BULK AT MOST 1048576: true; the input reads as it did. -/
def claimsClaimsUptoRow : OpenClaim := { program := "ytkkjciomgcgdiaa", sum := "79d034329eee4b999c20881111c127bf0e8037b3c916b69172780cfafcb96673", func := "grapevine/grapevinelaw07.ClaimsClaims", spec := "claimsClaims", apart := false, narrowed := true }
def ClaimsClaimsUptoSaid : Prop := claimsClaimsUptoRow.holds Try.pinned (OpenSpec.upto claimsClaimsSpec)

/-- 'grapevinelaw07.ClaimsDrops', WHERE WHAT IT READS IS OF BULK AT MOST 1048576: true; the input reads as it did. -/
def claimsDropsUptoRow : OpenClaim := { program := "ytkkjciomgcgdiaa", sum := "79d034329eee4b999c20881111c127bf0e8037b3c916b69172780cfafcb96673", func := "grapevine/grapevinelaw07.ClaimsDrops", spec := "claimsDrops", apart := false, narrowed := true }
def ClaimsDropsUptoSaid : Prop := claimsDropsUptoRow.holds Try.pinned (OpenSpec.upto claimsDropsSpec)

/-- 'grapevinelaw07.ClaimsOwners', WHERE WHAT IT READS IS OF BULK AT MOST 1048576: true; the input reads as it did. -/
def claimsOwnersUptoRow : OpenClaim := { program := "ytkkjciomgcgdiaa", sum := "79d034329eee4b999c20881111c127bf0e8037b3c916b69172780cfafcb96673", func := "grapevine/grapevinelaw07.ClaimsOwners", spec := "claimsOwners", recurses := true, apart := false, narrowed := true }
def ClaimsOwnersUptoSaid : Prop := claimsOwnersUptoRow.holds Try.pinned (OpenSpec.upto claimsOwnersSpec)

/-- 'grapevinelaw07.ClaimsNewer', WHERE WHAT IT READS IS OF BULK AT MOST 1048576: true; the input reads as it did. -/
def claimsNewerUptoRow : OpenClaim := { program := "ytkkjciomgcgdiaa", sum := "79d034329eee4b999c20881111c127bf0e8037b3c916b69172780cfafcb96673", func := "grapevine/grapevinelaw07.ClaimsNewer", spec := "claimsNewer", apart := false, narrowed := true }
def ClaimsNewerUptoSaid : Prop := claimsNewerUptoRow.holds Try.pinned (OpenSpec.upto claimsNewerSpec)

/-- 'grapevinelaw07.ClaimsOrder', WHERE WHAT IT READS IS OF BULK AT MOST 1048576: true; the input reads as it did. -/
def claimsOrderUptoRow : OpenClaim := { program := "ytkkjciomgcgdiaa", sum := "79d034329eee4b999c20881111c127bf0e8037b3c916b69172780cfafcb96673", func := "grapevine/grapevinelaw07.ClaimsOrder", spec := "claimsOrder", apart := false, narrowed := true }
def ClaimsOrderUptoSaid : Prop := claimsOrderUptoRow.holds Try.pinned (OpenSpec.upto claimsOrderSpec)

/-- 'grapevinelaw07.ClaimsAgain', WHERE WHAT IT READS IS OF BULK AT MOST 1048576: true; the input reads as it did. -/
def claimsAgainUptoRow : OpenClaim := { program := "ytkkjciomgcgdiaa", sum := "79d034329eee4b999c20881111c127bf0e8037b3c916b69172780cfafcb96673", func := "grapevine/grapevinelaw07.ClaimsAgain", spec := "claimsAgain", apart := false, narrowed := true }
def ClaimsAgainUptoSaid : Prop := claimsAgainUptoRow.holds Try.pinned (OpenSpec.upto claimsAgainSpec)

/-- 'grapevinelaw07.ClaimsSplit', WHERE WHAT IT READS IS OF BULK AT MOST 1048576: true; the input reads as it did. -/
def claimsSplitUptoRow : OpenClaim := { program := "ytkkjciomgcgdiaa", sum := "79d034329eee4b999c20881111c127bf0e8037b3c916b69172780cfafcb96673", func := "grapevine/grapevinelaw07.ClaimsSplit", spec := "claimsSplit", apart := false, narrowed := true }
def ClaimsSplitUptoSaid : Prop := claimsSplitUptoRow.holds Try.pinned (OpenSpec.upto claimsSplitSpec)

/-- 'grapevinelaw07.ClaimsDropped', WHERE WHAT IT READS IS OF BULK AT MOST 1048576: true; the input reads as it did. -/
def claimsDroppedUptoRow : OpenClaim := { program := "ytkkjciomgcgdiaa", sum := "79d034329eee4b999c20881111c127bf0e8037b3c916b69172780cfafcb96673", func := "grapevine/grapevinelaw07.ClaimsDropped", spec := "claimsDropped", apart := false, narrowed := true }
def ClaimsDroppedUptoSaid : Prop := claimsDroppedUptoRow.holds Try.pinned (OpenSpec.upto claimsDroppedSpec)

/-- 'grapevinelaw07.ClaimsWins', WHERE WHAT IT READS IS OF BULK AT MOST 1048576: true; the input reads as it did. -/
def claimsWinsUptoRow : OpenClaim := { program := "ytkkjciomgcgdiaa", sum := "79d034329eee4b999c20881111c127bf0e8037b3c916b69172780cfafcb96673", func := "grapevine/grapevinelaw07.ClaimsWins", spec := "claimsWins", apart := false, narrowed := true }
def ClaimsWinsUptoSaid : Prop := claimsWinsUptoRow.holds Try.pinned (OpenSpec.upto claimsWinsSpec)

end Rows
end Go.Proofs.Ytkkjciomgcgdiaa
