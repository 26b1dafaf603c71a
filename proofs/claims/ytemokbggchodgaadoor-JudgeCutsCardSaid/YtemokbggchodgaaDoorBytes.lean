/-
  WHAT IS PROVED: how lists of bytes lie as cells and as strings, plain facts, for any world. No condition.
-/
import Derived.Test.YtemokbggchodgaaDoorBase
import Derived.Lib.Strings
namespace Go.Proofs.YtemokbggchodgaaDoor
open Go.RowKit

/-- bytes as cells -/
def bs (l : List UInt8) : List Value := l.map fun c => .int .u8 (c.toNat : Int)
theorem bs_at {l : List UInt8} {k : Nat} {u : Value} (h : (bs l)[k]? = some u) : ∃ c, l[k]? = some c ∧ u = .int .u8 (c.toNat : Int) := by
  unfold bs at h
  rw [List.getElem?_map] at h
  cases e : l[k]? with
  | none => rw [e] at h; cases h
  | some c => rw [e] at h; injection h with h; exact ⟨c, rfl, h.symm⟩
theorem take_snoc {l : List UInt8} {k : Nat} {c : UInt8} (h : l[k]? = some c) : l.take (k + 1) = l.take k ++ [c] := by
  rw [List.take_add_one, h]; rfl

/-- a string of these bytes -/
def str (l : List UInt8) : ByteArray := ⟨l.toArray⟩

theorem str_toList (l : List UInt8) : (str l).toList = l := by rw [Lib.toList_data]; rfl
theorem str_size (l : List UInt8) : (str l).size = l.length := rfl
theorem str_ext0 (l : List UInt8) (i : Nat) : (str l).extract 0 i = str (l.take i) := by rw [Lib.extract_eq]; simp [str]
theorem str_ext (l : List UInt8) (i : Nat) : (str l).extract i l.length = str (l.drop i) := by
  rw [Lib.extract_eq]
  simp only [str]
  rw [List.take_of_length_le (by simp)]
theorem str_ext2 (l : List UInt8) (i j : Nat) : (str l).extract i j = str ((l.drop i).take (j - i)) := by rw [Lib.extract_eq]; simp [str]
theorem str_data (s : ByteArray) : s = str s.data.toList := (Lib.mk_data s).symm

end Go.Proofs.YtemokbggchodgaaDoor
