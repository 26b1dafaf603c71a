/-
  WHAT IS PROVED: layer 7's contracts: what is dropped, who is newer. Conditions: each states its own.
-/
import Derived.Test.YteoodompphhkbaaGreatDoorZKA1
import Derived.Deep.RegionHeld3
/- Drop -/
namespace Go.Proofs.YteoodompphhkbaaGreatDoor.K.C
set_option maxRecDepth 100000
open Go.RowKit

end Go.Proofs.YteoodompphhkbaaGreatDoor.K.C

/- Newer -/
namespace Go.Proofs.YteoodompphhkbaaGreatDoor.K.C
set_option maxRecDepth 100000
open Go.RowKit

/-- is a slot another one's with a greater epoch -/
def candB (t : Tab) (id ep : Int) (i : Nat) : Bool := decide (t.o i ≠ id) && (decide (t.o i ≠ 0) && decide (ep < t.e i))
def lowStep (t : Tab) (id ep : Int) (a : Int) (i : Nat) : Int := if candB t id ep i = true ∧ (a = 0 ∨ t.o i < a) then t.o i else a
def lowL (t : Tab) (id ep : Int) (l : List Nat) : Int := l.foldl (lowStep t id ep) 0
def newerZ (t : Tab) (id ep : Int) (s : Nat) : Int := if okB t = true then lowL t id ep (slotsTo s 64) else 0

end Go.Proofs.YteoodompphhkbaaGreatDoor.K.C
