/-
  WHAT IS PROVED: contracts of the functions that look for a number in a list, and of Right. Condition: none beyond the arguments' reading.
-/
import Derived.Test.YtmjbacmaafbdlaaInts
import Derived.Test.YtmjbacmaafbdlaaPlain
namespace Go.Proofs.Ytmjbacmaafbdlaa
open Go.RowKit Go.Lib

def hasB (l : List Int) (x : Int) : Bool := decide (x ∈ l)
theorem has_yes {l : List Int} {x : Int} (h : x ∈ l) : hasB l x = true := by unfold hasB; simp [h]
theorem has_no {l : List Int} {x : Int} (h : x ∉ l) : hasB l x = false := by unfold hasB; simp [h]
theorem has_iff {l : List Int} {x : Int} : hasB l x = true ↔ x ∈ l := by unfold hasB; simp
theorem takeZ_snoc {l : List Int} {k : Nat} {z : Int} (h : l[k]? = some z) : l.take (k + 1) = l.take k ++ [z] := by
  rw [List.take_add_one, h]; rfl
theorem zints_take (l : List Int) (k : Nat) : zints (l.take k) = (zints l).take k := by unfold zints; rw [List.map_take]
theorem zints_drop (l : List Int) (k : Nat) : zints (l.drop k) = (zints l).drop k := by unfold zints; rw [List.map_drop]
theorem zints_len (l : List Int) : (zints l).length = l.length := by unfold zints; simp
theorem zints_append (l m : List Int) : zints (l ++ m) = zints l ++ zints m := by unfold zints; rw [List.map_append]
theorem zints_oneCell (l : List Int) : ∀ u ∈ zints l, u.oneCell' = true := by
  intro u hu
  unfold zints at hu
  obtain ⟨z, _, rfl⟩ := List.mem_map.1 hu
  rfl
theorem zlen {w : World} {g n : Nat} {A : Option Addr} {l : List Int} (h : Reads w g A n (zints l)) : l.length = n := by rw [← zints_len]; exact h.1

set_option maxHeartbeats 1000000 in
theorem has_any (A : Option Addr) (n c : Nat) (zs : List Int) (x : Int) (g : Nat) (w : World) (hn : n ≤ 9223372036854775807) (hr : Reads w g A n (zints zs)) :
    Calls Try.prog 21 #[.slice A n c, .int .i64 x] w fun e w' => e = .returned (.bool (hasB zs x)) ∧ w = w' := by
  have HL := Lib.hid (zlen hr)
  go_enter Try.func21, Try.ntmps21
  go_wp2
  go_loop [9] (fun i => ∃ k : Nat, k ≤ n ∧ i = .int .i64 k ∧ x ∉ zs.take k) (fun i => n - (intOf i).toNat)
  case atStart => exact ⟨0, by omega, rfl, by simp⟩
  case round =>
    obtain ⟨k, hk, rfl, hx⟩ := hrel
    by_cases hlt : k < n
    · obtain ⟨ad, u, rfl, hu, hc⟩ := hr.at_ hlt
      obtain ⟨z, hz, rfl⟩ := zints_at hu
      clear hu
      by_cases hxz : x = z
      · subst hxz
        have HX := Lib.hid (has_yes (List.mem_of_getElem? hz))
        clear hz hx
        go_wp2
        go_ret
        exact ⟨by rw [HX.out]; rfl, rfl⟩
      · have ht : (x == z) = false := by simpa using hxz
        have HX : Hid (x ∉ zs.take (k + 1)) := by show ¬ _; rw [takeZ_snoc hz]; simp [hx, hxz]
        clear hz hx hxz
        go_wp2
        go_round
        case rel => exact ⟨k + 1, by omega, by go_num, HX.out⟩
        case measure => simp [intOf]; omega
    · obtain rfl : k = n := by omega
      have HX : Hid (hasB zs x = false) := has_no (by rwa [List.take_of_length_le (by rw [HL.out]; exact Nat.le_refl _)] at hx)
      clear hx
      go_wp2
      go_ret
      exact ⟨by rw [HX.out]; rfl, rfl⟩

/-- where it is, or -1 -/
def Found (zs : List Int) (x : Int) (w : World) (e : Ending) (w' : World) : Prop := ∃ i : Int, e = .returned (.int .i64 i) ∧ w = w' ∧ ((0 ≤ i ∧ x ∈ zs) ∨ (i = -1 ∧ x ∉ zs))

set_option maxHeartbeats 1000000 in
theorem index_any (A : Option Addr) (n c : Nat) (zs : List Int) (x : Int) (g : Nat) (w : World) (hn : n ≤ 9223372036854775807) (hr : Reads w g A n (zints zs)) :
    Calls Try.prog 39 #[.slice A n c, .int .i64 x] w (Found zs x w) := by
  have HL := Lib.hid (zlen hr)
  go_enter Try.func39, Try.ntmps39
  go_wp2
  go_loop [5, 8] (fun _ i => ∃ k : Nat, k ≤ n ∧ i = .int .i64 k ∧ x ∉ zs.take k) (fun _ i => n - (intOf i).toNat)
  case atStart => exact ⟨0, by omega, rfl, by simp⟩
  case round =>
    obtain ⟨k, hk, rfl, hx⟩ := hrel
    by_cases hlt : k < n
    · obtain ⟨ad, u, rfl, hu, hc⟩ := hr.at_ hlt
      obtain ⟨z, hz, rfl⟩ := zints_at hu
      clear hu
      by_cases hxz : x = z
      · subst hxz
        have HX := Lib.hid (List.mem_of_getElem? hz)
        clear hz hx
        go_wp2
        go_ret
        exact ⟨k, rfl, rfl, .inl ⟨by omega, HX.out⟩⟩
      · have ht : (x == z) = false := by simpa using hxz
        have HX : Hid (x ∉ zs.take (k + 1)) := by show ¬ _; rw [takeZ_snoc hz]; simp [hx, hxz]
        clear hz hx hxz
        go_wp2
        go_round
        case rel => exact ⟨k + 1, by omega, by go_num, HX.out⟩
        case measure => simp [intOf]; omega
    · obtain rfl : k = n := by omega
      have HX : Hid (x ∉ zs) := by show ¬ _; rwa [List.take_of_length_le (by rw [HL.out]; exact Nat.le_refl _)] at hx
      clear hx
      go_wp2
      go_ret
      exact ⟨-1, rfl, rfl, .inr ⟨rfl, HX.out⟩⟩

theorem contains_any (A : Option Addr) (n c : Nat) (zs : List Int) (x : Int) (g : Nat) (w : World) (hn : n ≤ 9223372036854775807) (hr : Reads w g A n (zints zs)) :
    Calls Try.prog 33 #[.slice A n c, .int .i64 x] w fun e w' => e = .returned (.bool (hasB zs x)) ∧ w = w' := by
  go_enter Try.func33, Try.ntmps33
  go_wp2_with (fail)
  refine (index_any A n c zs x g _ hn hr).mono ?_
  rintro e w' ⟨i, rfl, rfl, h⟩
  rcases h with ⟨h0, h⟩ | ⟨rfl, h⟩
  · have HX := Lib.hid (has_yes h)
    clear h
    go_wp2
    go_ret
    exact ⟨by rw [HX.out]; rfl, rfl⟩
  · have HX := Lib.hid (has_no h)
    clear h
    go_wp2
    go_ret
    exact ⟨by rw [HX.out]; rfl, rfl⟩

theorem isid_any (x : Int) (w : World) :
    Calls Try.prog 32 #[.int .i64 x] w fun e w' => e = .returned (.bool (isIdB x)) ∧ w = w' := by
  by_cases h1 : 1 ≤ x
  · by_cases h2 : x ≤ 4294967296
    · have HX : Hid (isIdB x = true) := by show _ = _; unfold isIdB; simp [h1, h2]
      go_enter Try.func32, Try.ntmps32
      go_wp2
      go_ret
      exact ⟨by rw [HX.out]; rfl, rfl⟩
    · have HX : Hid (isIdB x = false) := by show _ = _; unfold isIdB; simp [h2]
      have h3 : decide (x ≤ 4294967296) = false := by simp; omega
      clear h2
      go_enter Try.func32, Try.ntmps32
      go_wp2
      go_ret
      exact ⟨by rw [HX.out]; rfl, rfl⟩
  · have HX : Hid (isIdB x = false) := by show _ = _; unfold isIdB; simp [h1]
    have h3 : x < 1 := by omega
    clear h1
    go_enter Try.func32, Try.ntmps32
    go_wp2
    go_ret
    exact ⟨by rw [HX.out]; rfl, rfl⟩

theorem isid_yes {x : Int} (h : 1 ≤ x ∧ x ≤ 4294967296) : isIdB x = true := by unfold isIdB; simp [h.1, h.2]
theorem isid_no {x : Int} (h : ¬ (1 ≤ x ∧ x ≤ 4294967296)) : isIdB x = false := by unfold isIdB; simp; omega

set_option maxRecDepth 100000 in
set_option maxHeartbeats 1000000 in
theorem Right_any (A : Option Addr) (n c : Nat) (zs : List Int) (g : Nat) (w : World) (hnc : n ≤ c) (hc : c ≤ 9223372036854775807) (hr : Reads w g A n (zints zs)) :
    Calls Try.prog 23 #[.slice A n c] w fun e w' => e = .returned (.bool (rightB zs)) ∧ w = w' := by
  have hlen := zlen hr
  by_cases h16 : n ≤ 16
  · have HG := Lib.hid (right_good (l := zs) (by omega))
    have HL := Lib.hid hlen
    clear hlen
    go_enter Try.func23, Try.ntmps23
    go_wp2
    go_loop [3, 4, 10] (fun _ _ i => ∃ k : Nat, k ≤ n ∧ i = .int .i64 k ∧ goodB (zs.take k) = true) (fun _ _ i => n - (intOf i).toNat)
    case atStart => exact ⟨0, by omega, rfl, by simpa using good_nil⟩
    case round =>
      obtain ⟨k, hk, rfl, hx⟩ := hrel
      have HK := Lib.hid hx
      clear hx
      by_cases hlt : k < n
      · obtain ⟨ad, u, rfl, hu, hc⟩ := hr.at_ hlt
        obtain ⟨z, hz, rfl⟩ := zints_at hu
        have hkc : k ≤ c := by omega
        have hrk := hr.take hk
        rw [← zints_take] at hrk
        have HZ := Lib.hid hz
        clear hu hz
        by_cases hid : 1 ≤ z ∧ z ≤ 4294967296
        · have HI := Lib.hid (isid_yes hid)
          by_cases hm : z ∈ zs.take k
          · have HM := Lib.hid (has_yes hm)
            have HX : Hid (rightB zs = false) := HG.out.trans (bad_twice HZ.out hm)
            clear hm hid
            go_wp2_with (fail)
            refine (isid_any z _).mono ?_
            rintro e w' ⟨rfl, rfl⟩
            rw [HI.out]
            go_wp2_with (fail)
            refine (contains_any _ k _ (zs.take k) z g _ (by omega) hrk).mono ?_
            rintro e w' ⟨rfl, rfl⟩
            rw [HM.out]
            go_wp2
            go_ret
            exact ⟨by rw [HX.out]; rfl, rfl⟩
          · have HM := Lib.hid (has_no hm)
            have HX : Hid (goodB (zs.take (k + 1)) = true) := good_step HZ.out HK.out hid.1 hid.2 hm
            clear hm hid
            go_wp2_with (fail)
            refine (isid_any z _).mono ?_
            rintro e w' ⟨rfl, rfl⟩
            rw [HI.out]
            go_wp2_with (fail)
            refine (contains_any _ k _ (zs.take k) z g _ (by omega) hrk).mono ?_
            rintro e w' ⟨rfl, rfl⟩
            rw [HM.out]
            go_wp2
            go_round
            case rel => exact ⟨k + 1, by omega, by go_num, HX.out⟩
            case measure => simp [intOf]; omega
        · have HI := Lib.hid (isid_no hid)
          have HX : Hid (rightB zs = false) := HG.out.trans (bad_id HZ.out (by omega))
          clear hid
          go_wp2_with (fail)
          refine (isid_any z _).mono ?_
          rintro e w' ⟨rfl, rfl⟩
          rw [HI.out]
          go_wp2
          go_ret
          exact ⟨by rw [HX.out]; rfl, rfl⟩
      · obtain rfl : k = n := by omega
        have HX : Hid (rightB zs = true) := by
          have h := HK.out
          rw [List.take_of_length_le (by rw [HL.out]; exact Nat.le_refl _)] at h
          exact HG.out.trans h
        go_wp2
        go_ret
        exact ⟨by rw [HX.out]; rfl, rfl⟩
  · have HX := Lib.hid (right_long (l := zs) (by omega))
    have h17 : 16 < n := by omega
    clear h16 hlen
    go_enter Try.func23, Try.ntmps23
    go_wp2
    go_ret
    exact ⟨by rw [HX.out]; rfl, rfl⟩

end Go.Proofs.Ytmjbacmaafbdlaa
