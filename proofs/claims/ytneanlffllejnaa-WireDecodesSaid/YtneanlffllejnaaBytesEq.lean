/-
  WHAT IS PROVED: contracts of both functions that compare byte slices (bytes.Equal and the law's own). Condition: the bytes are there.
-/
import Derived.Test.YtneanlffllejnaaWrite
import Derived.Test.YtneanlffllejnaaFns
import Derived.Test.YtneanlffllejnaaBack
namespace Go.Proofs.Ytneanlffllejnaa
open Go.RowKit Go.Lib

/-- are they the same bytes? -/
def eqB (a b : List UInt8) : Bool := a == b
theorem eqB_iff {a b : List UInt8} : eqB a b = true ↔ a = b := by unfold eqB; exact beq_iff_eq
set_option maxRecDepth 100000 in
theorem equal_any (A B : Option Addr) (n c m d g1 g2 : Nat) (a b : List UInt8) (w : World) (ha : Reads w g1 A n (bs a)) (hb : Reads w g2 B m (bs b)) :
    Calls Try.prog 44 #[.slice A n c, .slice B m d] w (Ans (eqB a b) w) := by
  have h1 := bytes_back (c := c) ha
  have h2 := bytes_back (c := d) hb
  go_enter Try.func44, Try.ntmps44
  go_wp2
  go_ret
  exact ⟨by show Ending.returned (.bool ((str a).toList == (str b).toList)) = _; rw [str_toList, str_toList]; rfl, rfl⟩
set_option maxRecDepth 100000 in
theorem same_any (A B : Option Addr) (n c m d g1 g2 : Nat) (a b : List UInt8) (w : World) (ha : Reads w g1 A n (bs a)) (hb : Reads w g2 B m (bs b)) :
    Calls Try.prog 16 #[.slice A n c, .slice B m d] w (Ans (eqB a b) w) := by
  have h1 := bytes_back (c := c) ha
  have h2 := bytes_back (c := d) hb
  go_enter Try.func16, Try.ntmps16
  go_wp2
  go_ret
  exact ⟨by show Ending.returned (.bool ((str a).toList == (str b).toList)) = _; rw [str_toList, str_toList]; rfl, rfl⟩
end Go.Proofs.Ytneanlffllejnaa
