/-
  WHAT IS PROVED: a contract of strings.Cut at a separator of one byte. Condition: the string is shorter than 2^62 bytes.
-/
import Derived.Test.YtogaaomedfpdnaaDoorBytes
import Derived.Lib.Bytealg
import Derived.Lib.IndexLaws
import Derived.Lib.Strings
import Derived.Deep.QuietTactic
import Derived.BigQuiet
namespace Go.Proofs.YtogaaomedfpdnaaDoor
open Go.RowKit

theorem ixb (l : List UInt8) (c : UInt8) (w : World) :
    (callFunc 53 #[.string (str l), .int .u8 (c.toNat : Int)]).run Tryd.prog w = .ok (.value (.int .i64 (Lib.indexByte l c))) w := by
  rw [run_callFunc_extern Tryd.func53 (by kernel_rfl) (by kernel_rfl) (by kernel_rfl) (e := Extern.BytealgIndexByte.indexByte) (by kernel_rfl), Lib.run_indexByteString]
  have e : (str l).data.toList = l := rfl
  rw [e]
  simp [Result.andThen]

set_option maxRecDepth 100000 in
theorem indexbyte_any (l : List UInt8) (c : UInt8) (w : World) :
    Calls Tryd.prog 40 #[.string (str l), .int .u8 (c.toNat : Int)] w fun e w' => e = .returned (.int .i64 (Lib.indexByte l c)) ∧ w = w' := by
  have hx := ixb l c
  go_enter Tryd.func40, Tryd.ntmps40
  go_wp2
  go_ret
  exact ⟨rfl, rfl⟩

set_option maxRecDepth 100000 in
theorem index_any (l : List UInt8) (c : UInt8) (w : World) :
    Calls Tryd.prog 33 #[.string (str l), .string (str [c])] w fun e w' => e = .returned (.int .i64 (Lib.indexByte l c)) ∧ w = w' := by
  have hsz1 : (str [c]).size = 1 := rfl
  have hc0 : (str [c])[0]'(by rw [hsz1]; omega) = c := rfl
  by_cases hl : [c] = l
  · have hq : ((str [c]).toList == (str l).toList) = true := by rw [str_toList, str_toList]; simpa using hl
    have HF : Hid (Lib.indexByte l c = 0) := by subst hl; show _ = _; simp [Lib.indexByte]
    clear hl
    go_enter Tryd.func33, Tryd.ntmps33
    go_wp2
    go_ret
    exact ⟨by rw [HF.out]; rfl, rfl⟩
  · have hq : ((str [c]).toList == (str l).toList) = false := by rw [str_toList, str_toList]; simpa using hl
    clear hl
    go_enter Tryd.func33, Tryd.ntmps33
    go_wp2_with (go_at_call 40; refine (indexbyte_any l c _).mono ?_; rintro e w' ⟨rfl, rfl⟩)
    go_ret
    exact ⟨rfl, rfl⟩

/-- what a cut at one byte comes to -/
def cutL (l : List UInt8) (c : UInt8) : List UInt8 × List UInt8 × Bool :=
  if 0 ≤ Lib.indexByte l c then (l.take (Lib.indexByte l c).toNat, l.drop ((Lib.indexByte l c).toNat + 1), true) else (l, [], false)

set_option maxRecDepth 100000 in
set_option maxHeartbeats 1000000 in
theorem slcut_any (l : List UInt8) (c : UInt8) (w : World) (hs : l.length ≤ 4611686018427387904) :
    Calls Tryd.prog 25 #[.string (str l), .string (str [c])] w fun e w' => e = .returned (.tuple #[.string (str (cutL l c).1), .string (str (cutL l c).2.1), .bool (cutL l c).2.2]) ∧ ∃ n, w' = w.drewN n := by
  have hsz1 : (str [c]).size = 1 := rfl
  have hsz : (str l).size = l.length := rfl
  by_cases hi : 0 ≤ Lib.indexByte l c
  · obtain ⟨i, hie⟩ := Int.eq_ofNat_of_zero_le hi
    have hlt : i < l.length := by
      have := (Lib.indexByte_some hie).1
      rcases Nat.lt_or_ge i l.length with h | h
      · exact h
      · rw [List.getElem?_eq_none h] at this; cases this
    have HC : Hid (cutL l c = (l.take i, l.drop (i + 1), true)) := by
      show _ = _
      unfold cutL
      rw [if_pos hi, hie]
      simp
    have hx := str_ext0 l i
    have hy := str_ext l (i + 1)
    have HI := Lib.hid hie
    clear hi hie
    go_enter Tryd.func25, Tryd.ntmps25
    go_wp2_with (go_at_call 33; refine (index_any l c _).mono ?_; rintro e w' ⟨rfl, rfl⟩; rw [HI.out])
    go_region
    go_wp2
    go_ret3
    exact ⟨by rw [HC.out]; rfl, 1, rfl⟩
  · have HC : Hid (cutL l c = (l, [], false)) := by
      show _ = _
      unfold cutL
      rw [if_neg hi]
    have hneg : (Lib.indexByte l c) < 0 := by omega
    go_enter Tryd.func25, Tryd.ntmps25
    go_wp2_with (go_at_call 33; refine (index_any l c _).mono ?_; rintro e w' ⟨rfl, rfl⟩)
    go_ret3
    exact ⟨by rw [HC.out]; rfl, 0, rfl⟩

theorem cut_any (l : List UInt8) (c : UInt8) (w : World) (hs : l.length ≤ 4611686018427387904) :
    Calls Tryd.prog 13 #[.string (str l), .string (str [c])] w fun e w' => e = .returned (.tuple #[.string (str (cutL l c).1), .string (str (cutL l c).2.1), .bool (cutL l c).2.2]) ∧ ∃ n, w' = w.drewN n := by
  go_enter Tryd.func13, Tryd.ntmps13
  go_wp2_with (go_at_call 25; refine (slcut_any l c _ hs).mono ?_; rintro e w' ⟨rfl, n, rfl⟩)
  go_ret3
  exact ⟨rfl, n, rfl⟩

end Go.Proofs.YtogaaomedfpdnaaDoor
