/-
  WHAT IS PROVED: contracts of strings.Cut at a separator of one byte, and of slot.Tag. Condition: the string is shorter than 2^62 bytes.
-/
import Derived.Test.YtaaibjibnonlaaaShift
import Derived.Lib.Bytealg
import Derived.Lib.IndexLaws
import Derived.Lib.Strings
import Derived.Deep.QuietTactic
import Derived.BigQuiet
namespace Go.Proofs.Ytaaibjibnonlaaa
open Go.RowKit

/-- a string of these bytes -/
def str (l : List UInt8) : ByteArray := ⟨l.toArray⟩

theorem ixb (l : List UInt8) (c : UInt8) (w : World) :
    (callFunc 49 #[.string (str l), .int .u8 (c.toNat : Int)]).run Try.prog w = .ok (.value (.int .i64 (Lib.indexByte l c))) w := by
  rw [run_callFunc_extern Try.func49 (by kernel_rfl) (by kernel_rfl) (by kernel_rfl) (e := Extern.BytealgIndexByte.indexByte) (by kernel_rfl), Lib.run_indexByteString]
  have e : (str l).data.toList = l := rfl
  rw [e]
  simp [Result.andThen]

theorem str_toList (l : List UInt8) : (str l).toList = l := by rw [Lib.toList_data]; rfl
theorem str_size (l : List UInt8) : (str l).size = l.length := rfl
theorem str_ext0 (l : List UInt8) (i : Nat) : (str l).extract 0 i = str (l.take i) := by rw [Lib.extract_eq]; simp [str]
theorem str_ext (l : List UInt8) (i : Nat) : (str l).extract i l.length = str (l.drop i) := by
  rw [Lib.extract_eq]
  simp only [str]
  rw [List.take_of_length_le (by simp)]
theorem str_ext2 (l : List UInt8) (i j : Nat) : (str l).extract i j = str ((l.drop i).take (j - i)) := by rw [Lib.extract_eq]; simp [str]
theorem str_data (s : ByteArray) : s = str s.data.toList := (Lib.mk_data s).symm

set_option maxRecDepth 100000 in
theorem indexbyte_any (l : List UInt8) (c : UInt8) (w : World) :
    Calls Try.prog 37 #[.string (str l), .int .u8 (c.toNat : Int)] w fun e w' => e = .returned (.int .i64 (Lib.indexByte l c)) ∧ w = w' := by
  have hx := ixb l c
  go_enter Try.func37, Try.ntmps37
  go_wp2
  go_ret
  exact ⟨rfl, rfl⟩

set_option maxRecDepth 100000 in
theorem index_any (l : List UInt8) (c : UInt8) (w : World) :
    Calls Try.prog 32 #[.string (str l), .string (str [c])] w fun e w' => e = .returned (.int .i64 (Lib.indexByte l c)) ∧ w = w' := by
  have hsz1 : (str [c]).size = 1 := rfl
  have hc0 : (str [c])[0]'(by rw [hsz1]; omega) = c := rfl
  by_cases hl : [c] = l
  · have hq : ((str [c]).toList == (str l).toList) = true := by rw [str_toList, str_toList]; simpa using hl
    have HF : Hid (Lib.indexByte l c = 0) := by subst hl; show _ = _; simp [Lib.indexByte]
    clear hl
    go_enter Try.func32, Try.ntmps32
    go_wp2
    go_ret
    exact ⟨by rw [HF.out]; rfl, rfl⟩
  · have hq : ((str [c]).toList == (str l).toList) = false := by rw [str_toList, str_toList]; simpa using hl
    clear hl
    go_enter Try.func32, Try.ntmps32
    go_wp2_with (go_at_call 37; refine (indexbyte_any l c _).mono ?_; rintro e w' ⟨rfl, rfl⟩)
    go_ret
    exact ⟨rfl, rfl⟩

/-- what a cut at one byte comes to -/
def cutL (l : List UInt8) (c : UInt8) : List UInt8 × List UInt8 × Bool :=
  if 0 ≤ Lib.indexByte l c then (l.take (Lib.indexByte l c).toNat, l.drop ((Lib.indexByte l c).toNat + 1), true) else (l, [], false)

set_option maxRecDepth 100000 in
set_option maxHeartbeats 1000000 in
theorem slcut_any (l : List UInt8) (c : UInt8) (w : World) (hs : l.length ≤ 4611686018427387904) :
    Calls Try.prog 27 #[.string (str l), .string (str [c])] w fun e w' => e = .returned (.tuple #[.string (str (cutL l c).1), .string (str (cutL l c).2.1), .bool (cutL l c).2.2]) ∧ ∃ n, w' = w.drewN n := by
  have hsz1 : (str [c]).size = 1 := rfl
  have hsz : (str l).size = l.length := rfl
  by_cases hi : 0 ≤ Lib.indexByte l c
  · obtain ⟨i, hie⟩ := Int.eq_ofNat_of_zero_le hi
    have hlt : i < l.length := by
      have := (Lib.indexByte_some hie).1
      rcases Nat.lt_or_ge i l.length with h | h
      · exact h
      · rw [List.getElem?_eq_none h] at this; cases this
    have HC : Hid (cutL l c = (l.take i, l.drop (i + 1), true)) := by
      show _ = _
      unfold cutL
      rw [if_pos hi, hie]
      simp
    have hx := str_ext0 l i
    have hy := str_ext l (i + 1)
    have HI := Lib.hid hie
    clear hi hie
    go_enter Try.func27, Try.ntmps27
    go_wp2_with (go_at_call 32; refine (index_any l c _).mono ?_; rintro e w' ⟨rfl, rfl⟩; rw [HI.out])
    go_region
    go_wp2
    go_ret3
    exact ⟨by rw [HC.out]; rfl, 1, rfl⟩
  · have HC : Hid (cutL l c = (l, [], false)) := by
      show _ = _
      unfold cutL
      rw [if_neg hi]
    have hneg : (Lib.indexByte l c) < 0 := by omega
    go_enter Try.func27, Try.ntmps27
    go_wp2_with (go_at_call 32; refine (index_any l c _).mono ?_; rintro e w' ⟨rfl, rfl⟩)
    go_ret3
    exact ⟨by rw [HC.out]; rfl, 0, rfl⟩

theorem cut_any (l : List UInt8) (c : UInt8) (w : World) (hs : l.length ≤ 4611686018427387904) :
    Calls Try.prog 22 #[.string (str l), .string (str [c])] w fun e w' => e = .returned (.tuple #[.string (str (cutL l c).1), .string (str (cutL l c).2.1), .bool (cutL l c).2.2]) ∧ ∃ n, w' = w.drewN n := by
  go_enter Try.func22, Try.ntmps22
  go_wp2_with (go_at_call 27; refine (slcut_any l c _ hs).mono ?_; rintro e w' ⟨rfl, n, rfl⟩)
  go_ret3
  exact ⟨rfl, n, rfl⟩

/-- what counts of a key -/
def tagL (l : List UInt8) : List UInt8 := if (cutL (cutL l 123).2.1 125).2.2 && !(cutL (cutL l 123).2.1 125).1.isEmpty then (cutL (cutL l 123).2.1 125).1 else l
theorem cut_behind_le (l : List UInt8) (c : UInt8) : (cutL l c).2.1.length ≤ l.length := by
  unfold cutL
  split
  · simp
  · simp

set_option maxRecDepth 100000 in
set_option maxHeartbeats 1000000 in
theorem tag_any (l : List UInt8) (w : World) (hs : l.length ≤ 4611686018427387904) :
    Calls Try.prog 16 #[.string (str l)] w fun e w' => e = .returned (.string (str (tagL l))) ∧ ∃ n, w' = w.drewN n := by
  have hle := cut_behind_le l 123
  obtain ⟨b, hb⟩ : ∃ b, b = (cutL l 123).2.1 := ⟨_, rfl⟩
  obtain ⟨t, ht⟩ : ∃ t, t = cutL b 125 := ⟨_, rfl⟩
  have HB := Lib.hid hb
  have hbl : b.length ≤ 4611686018427387904 := by rw [hb]; omega
  have HT := Lib.hid ht
  have HX : Hid (tagL l = if t.2.2 && !t.1.isEmpty then t.1 else l) := by
    show _ = _
    unfold tagL
    rw [← hb, ← ht]
  clear hb ht
  obtain ⟨t1, t2, t3⟩ := t
  cases t3 with
  | false =>
    have HY : Hid (tagL l = l) := by show _ = _; rw [HX.out]; rfl
    clear HX
    go_enter Try.func16, Try.ntmps16
    go_wp2_with (fail)
    refine (cut_any l 123 _ hs).mono ?_
    rintro e w' ⟨rfl, n, rfl⟩
    rw [← HB.out]
    go_wp2_with (fail)
    refine (cut_any b 125 _ hbl).mono ?_
    rintro e w' ⟨rfl, m, rfl⟩
    rw [← HT.out]
    go_wp2
    go_ret
    exact ⟨by rw [HY.out]; rfl, _, rfl⟩
  | true =>
    cases t1 with
    | nil =>
      have HY : Hid (tagL l = l) := by show _ = _; rw [HX.out]; rfl
      have he : (str []).toList.isEmpty = true := by rw [str_toList]; rfl
      clear HX
      go_enter Try.func16, Try.ntmps16
      go_wp2_with (fail)
      refine (cut_any l 123 _ hs).mono ?_
      rintro e w' ⟨rfl, n, rfl⟩
      rw [← HB.out]
      go_wp2_with (fail)
      refine (cut_any b 125 _ hbl).mono ?_
      rintro e w' ⟨rfl, m, rfl⟩
      rw [← HT.out]
      go_wp2
      go_ret
      exact ⟨by rw [HY.out]; rfl, _, rfl⟩
    | cons c0 r =>
      have HY : Hid (tagL l = c0 :: r) := by show _ = _; rw [HX.out]; rfl
      generalize hg : c0 :: r = t1 at *
      have he : (str t1).toList.isEmpty = false := by rw [str_toList, ← hg]; rfl
      clear HX hg
      go_enter Try.func16, Try.ntmps16
      go_wp2_with (fail)
      refine (cut_any l 123 _ hs).mono ?_
      rintro e w' ⟨rfl, n, rfl⟩
      rw [← HB.out]
      go_wp2_with (fail)
      refine (cut_any b 125 _ hbl).mono ?_
      rintro e w' ⟨rfl, m, rfl⟩
      rw [← HT.out]
      go_wp2
      go_ret
      exact ⟨by rw [HY.out]; rfl, _, rfl⟩
end Go.Proofs.Ytaaibjibnonlaaa
