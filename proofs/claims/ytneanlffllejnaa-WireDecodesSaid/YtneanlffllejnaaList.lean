/-
  WHAT IS PROVED: contracts of the library's functions that look for a number in a list. Condition: none beyond the arguments' reading.
-/
import Derived.Test.YtneanlffllejnaaInts
import Derived.Test.YtneanlffllejnaaPlain
namespace Go.Proofs.Ytneanlffllejnaa
open Go.RowKit Go.Lib

def hasB (l : List Int) (x : Int) : Bool := decide (x ∈ l)
theorem has_yes {l : List Int} {x : Int} (h : x ∈ l) : hasB l x = true := by unfold hasB; simp [h]
theorem has_no {l : List Int} {x : Int} (h : x ∉ l) : hasB l x = false := by unfold hasB; simp [h]
theorem has_iff {l : List Int} {x : Int} : hasB l x = true ↔ x ∈ l := by unfold hasB; simp
theorem takeZ_snoc {l : List Int} {k : Nat} {z : Int} (h : l[k]? = some z) : l.take (k + 1) = l.take k ++ [z] := by
  rw [List.take_add_one, h]; rfl
theorem zints_take (l : List Int) (k : Nat) : zints (l.take k) = (zints l).take k := by unfold zints; rw [List.map_take]
theorem zints_drop (l : List Int) (k : Nat) : zints (l.drop k) = (zints l).drop k := by unfold zints; rw [List.map_drop]
theorem zints_len (l : List Int) : (zints l).length = l.length := by unfold zints; simp
theorem zints_append (l m : List Int) : zints (l ++ m) = zints l ++ zints m := by unfold zints; rw [List.map_append]
theorem zints_oneCell (l : List Int) : ∀ u ∈ zints l, u.oneCell' = true := by
  intro u hu
  unfold zints at hu
  obtain ⟨z, _, rfl⟩ := List.mem_map.1 hu
  rfl
theorem zlen {w : World} {g n : Nat} {A : Option Addr} {l : List Int} (h : Reads w g A n (zints l)) : l.length = n := by rw [← zints_len]; exact h.1

/-- where it is, or -1 -/
def Found (zs : List Int) (x : Int) (w : World) (e : Ending) (w' : World) : Prop := ∃ i : Int, e = .returned (.int .i64 i) ∧ w = w' ∧ ((0 ≤ i ∧ x ∈ zs) ∨ (i = -1 ∧ x ∉ zs))

set_option maxHeartbeats 1000000 in
theorem index_any (A : Option Addr) (n c : Nat) (zs : List Int) (x : Int) (g : Nat) (w : World) (hn : n ≤ 9223372036854775807) (hr : Reads w g A n (zints zs)) :
    Calls Try.prog 47 #[.slice A n c, .int .i64 x] w (Found zs x w) := by
  have HL := Lib.hid (zlen hr)
  go_enter Try.func47, Try.ntmps47
  go_wp2
  go_loop [5, 8] (fun _ i => ∃ k : Nat, k ≤ n ∧ i = .int .i64 k ∧ x ∉ zs.take k) (fun _ i => n - (intOf i).toNat)
  case atStart => exact ⟨0, by omega, rfl, by simp⟩
  case round =>
    obtain ⟨k, hk, rfl, hx⟩ := hrel
    by_cases hlt : k < n
    · obtain ⟨ad, u, rfl, hu, hc⟩ := hr.at_ hlt
      obtain ⟨z, hz, rfl⟩ := zints_at hu
      clear hu
      by_cases hxz : x = z
      · subst hxz
        have HX := Lib.hid (List.mem_of_getElem? hz)
        clear hz hx
        go_wp2
        go_ret
        exact ⟨k, rfl, rfl, .inl ⟨by omega, HX.out⟩⟩
      · have ht : (x == z) = false := by simpa using hxz
        have HX : Hid (x ∉ zs.take (k + 1)) := by show ¬ _; rw [takeZ_snoc hz]; simp [hx, hxz]
        clear hz hx hxz
        go_wp2
        go_round
        case rel => exact ⟨k + 1, by omega, by go_num, HX.out⟩
        case measure => simp [intOf]; omega
    · obtain rfl : k = n := by omega
      have HX : Hid (x ∉ zs) := by show ¬ _; rwa [List.take_of_length_le (by rw [HL.out]; exact Nat.le_refl _)] at hx
      clear hx
      go_wp2
      go_ret
      exact ⟨-1, rfl, rfl, .inr ⟨rfl, HX.out⟩⟩

theorem contains_any (A : Option Addr) (n c : Nat) (zs : List Int) (x : Int) (g : Nat) (w : World) (hn : n ≤ 9223372036854775807) (hr : Reads w g A n (zints zs)) :
    Calls Try.prog 43 #[.slice A n c, .int .i64 x] w fun e w' => e = .returned (.bool (hasB zs x)) ∧ w = w' := by
  go_enter Try.func43, Try.ntmps43
  go_wp2_with (fail)
  refine (index_any A n c zs x g _ hn hr).mono ?_
  rintro e w' ⟨i, rfl, rfl, h⟩
  rcases h with ⟨h0, h⟩ | ⟨rfl, h⟩
  · have HX := Lib.hid (has_yes h)
    clear h
    go_wp2
    go_ret
    exact ⟨by rw [HX.out]; rfl, rfl⟩
  · have HX := Lib.hid (has_no h)
    clear h
    go_wp2
    go_ret
    exact ⟨by rw [HX.out]; rfl, rfl⟩

end Go.Proofs.Ytneanlffllejnaa
