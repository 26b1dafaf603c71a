/-
  WHAT IS PROVED: contracts of the document's word, alike and number. Condition: the texts' sizes.
-/
import Derived.Test.YtogaaomedfpdnaaDoorPl
import Derived.Test.YtogaaomedfpdnaaDoorLaw
import Derived.LoopTactic
import Derived.WalkKit
import Derived.Lib.Hide
import Derived.Outline
namespace Go.Proofs.YtogaaomedfpdnaaDoor
set_option maxRecDepth 100000
open Go.RowKit

def WordPost (z : Int) (w : World) (e : Ending) (w' : World) : Prop := e = .returned (.tuple #[.string (str (ofK z).w), .int .i64 (ofK z).a]) ∧ w = w'
theorem ofK_other {z : Int} (h : z ≠ 1 ∧ z ≠ 2 ∧ z ≠ 3 ∧ z ≠ 4 ∧ z ≠ 5 ∧ z ≠ 6 ∧ z ≠ 7 ∧ z ≠ 8 ∧ z ≠ 9 ∧ z ≠ 11 ∧ z ≠ 12 ∧ z ≠ 13 ∧ z ≠ 14 ∧ z ≠ 15 ∧ z ≠ 16) : ofK z = noF := by
  have : ∀ f ∈ firstsL, f.k ≠ z := by
    intro f hf e
    subst e
    have : ∀ f ∈ firstsL, f.k = 1 ∨ f.k = 2 ∨ f.k = 3 ∨ f.k = 4 ∨ f.k = 5 ∨ f.k = 6 ∨ f.k = 7 ∨ f.k = 8 ∨ f.k = 9 ∨ f.k = 11 ∨ f.k = 12 ∨ f.k = 13 ∨ f.k = 14 ∨ f.k = 15 ∨ f.k = 16 := by decide +kernel
    have := this f hf
    omega
  unfold ofK
  rw [List.find?_eq_none.2 (fun f hf => by simpa using this f hf)]
  rfl
set_option maxHeartbeats 1000000 in
theorem word_any (z : Int) (w : World) : Calls Tryd.prog 16 #[.int .i64 z] w (WordPost z w) := by
  by_cases h1 : z = 1
  · subst h1
    go_enter Tryd.func16, Tryd.ntmps16
    go_wp2
    go_ret2
    exact ⟨by kernel_rfl, rfl⟩
  by_cases h2 : z = 2
  · subst h2
    go_enter Tryd.func16, Tryd.ntmps16
    go_wp2
    go_ret2
    exact ⟨by kernel_rfl, rfl⟩
  by_cases h3 : z = 3
  · subst h3
    go_enter Tryd.func16, Tryd.ntmps16
    go_wp2
    go_ret2
    exact ⟨by kernel_rfl, rfl⟩
  by_cases h4 : z = 4
  · subst h4
    go_enter Tryd.func16, Tryd.ntmps16
    go_wp2
    go_ret2
    exact ⟨by kernel_rfl, rfl⟩
  by_cases h5 : z = 5
  · subst h5
    go_enter Tryd.func16, Tryd.ntmps16
    go_wp2
    go_ret2
    exact ⟨by kernel_rfl, rfl⟩
  by_cases h6 : z = 6
  · subst h6
    go_enter Tryd.func16, Tryd.ntmps16
    go_wp2
    go_ret2
    exact ⟨by kernel_rfl, rfl⟩
  by_cases h7 : z = 7
  · subst h7
    go_enter Tryd.func16, Tryd.ntmps16
    go_wp2
    go_ret2
    exact ⟨by kernel_rfl, rfl⟩
  by_cases h8 : z = 8
  · subst h8
    go_enter Tryd.func16, Tryd.ntmps16
    go_wp2
    go_ret2
    exact ⟨by kernel_rfl, rfl⟩
  by_cases h9 : z = 9
  · subst h9
    go_enter Tryd.func16, Tryd.ntmps16
    go_wp2
    go_ret2
    exact ⟨by kernel_rfl, rfl⟩
  by_cases h11 : z = 11
  · subst h11
    go_enter Tryd.func16, Tryd.ntmps16
    go_wp2
    go_ret2
    exact ⟨by kernel_rfl, rfl⟩
  by_cases h12 : z = 12
  · subst h12
    go_enter Tryd.func16, Tryd.ntmps16
    go_wp2
    go_ret2
    exact ⟨by kernel_rfl, rfl⟩
  by_cases h13 : z = 13
  · subst h13
    go_enter Tryd.func16, Tryd.ntmps16
    go_wp2
    go_ret2
    exact ⟨by kernel_rfl, rfl⟩
  by_cases h14 : z = 14
  · subst h14
    go_enter Tryd.func16, Tryd.ntmps16
    go_wp2
    go_ret2
    exact ⟨by kernel_rfl, rfl⟩
  by_cases h15 : z = 15
  · subst h15
    go_enter Tryd.func16, Tryd.ntmps16
    go_wp2
    go_ret2
    exact ⟨by kernel_rfl, rfl⟩
  by_cases h16 : z = 16
  · subst h16
    go_enter Tryd.func16, Tryd.ntmps16
    go_wp2
    go_ret2
    exact ⟨by kernel_rfl, rfl⟩
  have HN := Lib.hid (ofK_other (z := z) ⟨h1, h2, h3, h4, h5, h6, h7, h8, h9, h11, h12, h13, h14, h15, h16⟩)
  have q1 : (z == 1) = false := by simpa using h1
  have q2 : (z == 2) = false := by simpa using h2
  have q3 : (z == 3) = false := by simpa using h3
  have q4 : (z == 4) = false := by simpa using h4
  have q5 : (z == 5) = false := by simpa using h5
  have q6 : (z == 6) = false := by simpa using h6
  have q7 : (z == 7) = false := by simpa using h7
  have q8 : (z == 8) = false := by simpa using h8
  have q9 : (z == 9) = false := by simpa using h9
  have q11 : (z == 11) = false := by simpa using h11
  have q12 : (z == 12) = false := by simpa using h12
  have q13 : (z == 13) = false := by simpa using h13
  have q14 : (z == 14) = false := by simpa using h14
  have q15 : (z == 15) = false := by simpa using h15
  have q16 : (z == 16) = false := by simpa using h16
  clear h1 h2 h3 h4 h5 h6 h7 h8 h9 h11 h12 h13 h14 h15 h16
  go_enter Tryd.func16, Tryd.ntmps16
  go_wp2
  go_ret2
  exact ⟨by rw [HN.out]; rfl, rfl⟩

theorem up_take {a : List UInt8} {k : Nat} {c : UInt8} (h : a[k]? = some c) : up (a.take (k + 1)) = up (a.take k) ++ [upB c] := by
  unfold up; rw [take_snoc h, List.map_append]; rfl
theorem str_get {t : List UInt8} {i : Nat} (h : i < (str t).size) : t[i]? = some (str t)[i] := by
  have h1 : i < t.length := h
  rw [List.getElem?_eq_getElem h1]
  rfl
theorem up_val {c : UInt8} (h : 97 ≤ c.toNat ∧ c.toNat ≤ 122) : ((upB c).toNat : Int) = (c.toNat : Int) - 32 := by
  have : ∀ n : Fin 256, 97 ≤ n.val → n.val ≤ 122 → (upB (UInt8.ofNat n.val)).toNat + 32 = n.val := by decide +kernel
  have h1 := this ⟨c.toNat, UInt8.toNat_lt c⟩ h.1 h.2
  simp at h1
  omega
theorem up_stays {c : UInt8} (h : ¬ (97 ≤ c.toNat ∧ c.toNat ≤ 122)) : upB c = c := by unfold upB; rw [if_neg h]
set_option maxHeartbeats 1000000 in
theorem alike_any (a b : List UInt8) (ha : a.length ≤ 4294967296) (w : World) : Calls Tryd.prog 17 #[.string (str a), .string (str b)] w (fun e w' => e = .returned (.bool (decide (up a = b))) ∧ w = w') := by
  have hz : (str a).size = a.length := rfl
  have hz2 : (str b).size = b.length := rfl
  by_cases hl : a.length = b.length
  · have hq : (((str a).size : Int) != ((str b).size : Int)) = false := by rw [hz, hz2, hl]; simp
    have hq2 : ((str a).size != (str b).size) = false := by rw [hz, hz2, hl]; simp
    have HL := Lib.hid hl
    clear hl
    go_enter Tryd.func17, Tryd.ntmps17
    go_wp2
    go_loopw [5, 6] (fun i _ wr => ∃ k : Nat, k ≤ a.length ∧ i = .int .i64 k ∧ Hid (up (a.take k) = b.take k) ∧ wr = w) (fun i _ _ => a.length - (intOf i).toNat)
    case atStart => exact ⟨0, by omega, rfl, Lib.hid (by simp [up]), rfl⟩
    case round =>
      obtain ⟨k, hk, rfl, hp, rfl⟩ := hrel
      by_cases hlt : k < a.length
      · have hk1 : k < (str a).size := hlt
        have hk2 : k < (str b).size := by rw [hz2, ← HL.out]; exact hlt
        have hd : decide (k < (str a).size) = true := decide_eq_true hk1
        have hkb : k < b.length := hk2
        have hkbI : (k : Int) < b.length := by omega
        have hkI : (k : Int) < (str a).size := by omega
        have hkJ : (k : Int) < (str b).size := by omega
        have hk0 : (0 : Int) ≤ k := by omega
        have ga := str_get hk1
        have gb := str_get hk2
        have HY : Hid (upB (str a)[k] = (str b)[k] → up (a.take (k + 1)) = b.take (k + 1)) := Lib.hid fun h => by
          rw [up_take ga, take_snoc gb, hp.out]; exact congrArg (fun x => b.take k ++ [x]) h
        have HN : Hid (upB (str a)[k] ≠ (str b)[k] → decide (up a = b) = false) := Lib.hid fun h => by
          refine decide_eq_false fun e => h ?_
          have h1 : (up a)[k]? = some (upB (str a)[k]) := by unfold up; rw [List.getElem?_map, ga]; rfl
          rw [e, gb] at h1
          injection h1 with h1
          exact h1.symm
        have h256 := UInt8.toNat_lt (str a)[k]
        have HV := Lib.hid (@up_val (str a)[k])
        have HW := Lib.hid (@up_stays (str a)[k])
        have hla : a.length ≤ 4294967296 := ha
        by_cases hu : 97 ≤ (str a)[k].toNat ∧ (str a)[k].toNat ≤ 122
        · have hv := HV.out hu
          have u1 : (97 : Int) ≤ (str a)[k].toNat := by omega
          have u2 : ((str a)[k].toNat : Int) ≤ 122 := by omega
          by_cases he : upB (str a)[k] = (str b)[k]
          · have HX := Lib.hid (HY.out he)
            have hc : (((str a)[k].toNat : Int) - 32 != ((str b)[k].toNat : Int)) = false := by rw [← hv, he]; simp
            clear he HY HN HV HW hv ga gb
            go_wp2
            go_roundw
            case rel => exact ⟨k + 1, by omega, by go_num, HX, by first | trivial | rfl⟩
            case measure => simp [intOf]; omega
          · have HX := Lib.hid (HN.out he)
            have hc : (((str a)[k].toNat : Int) - 32 != ((str b)[k].toNat : Int)) = true := by
              rw [← hv, bne_iff_ne]
              exact fun e => he (UInt8.toNat_inj.1 (by omega))
            clear he HY HN HV HW hv ga gb
            go_wp2
            go_ret
            exact ⟨by rw [HX.out]; rfl, rfl⟩
        · have hv := HW.out hu
          rw [hv] at HY HN
          have hu2 : decide ((97 : Int) ≤ (str a)[k].toNat) = false ∨ ((97 : Int) ≤ (str a)[k].toNat ∧ decide (((str a)[k].toNat : Int) ≤ 122) = false) := by
            rcases Nat.lt_or_ge (str a)[k].toNat 97 with h1 | h1
            · exact .inl (by simp; omega)
            · exact .inr ⟨by omega, by simp; omega⟩
          clear hu HV HW hv
          by_cases he : (str a)[k] = (str b)[k]
          · have HX := Lib.hid (HY.out he)
            have hc : (((str a)[k].toNat : Int) != ((str b)[k].toNat : Int)) = false := by rw [he]; simp
            clear he HY HN ga gb
            rcases hu2 with u1 | ⟨u1, u2⟩
            all_goals
              go_wp2
              go_roundw
              case rel => exact ⟨k + 1, by omega, by go_num, HX, by first | trivial | rfl⟩
              case measure => simp [intOf]; omega
          · have HX := Lib.hid (HN.out he)
            have hc : (((str a)[k].toNat : Int) != ((str b)[k].toNat : Int)) = true := by
              rw [bne_iff_ne]
              exact fun e => he (UInt8.toNat_inj.1 (by omega))
            clear he HY HN ga gb
            rcases hu2 with u1 | ⟨u1, u2⟩
            all_goals
              go_wp2
              go_ret
              exact ⟨by rw [HX.out]; rfl, rfl⟩
      · obtain rfl : k = a.length := by omega
        have HX : Hid (decide (up a = b) = true) := Lib.hid (decide_eq_true (by
          have := hp.out
          rw [List.take_length, HL.out, List.take_length] at this
          exact this))
        have hd : decide (a.length < (str a).size) = false := decide_eq_false (by rw [hz]; omega)
        go_wp2
        go_ret
        exact ⟨by rw [HX.out]; rfl, rfl⟩
  · have hq : (((str a).size : Int) != ((str b).size : Int)) = true := by rw [hz, hz2, bne_iff_ne]; omega
    have hq2 : ((str a).size != (str b).size) = true := by rw [hz, hz2, bne_iff_ne]; exact hl
    have HX : Hid (decide (up a = b) = false) := Lib.hid (decide_eq_false fun e => hl (by rw [← e, up_len]))
    clear hl
    go_enter Tryd.func17, Tryd.ntmps17
    go_wp2
    go_ret
    exact ⟨by rw [HX.out]; rfl, rfl⟩
end Go.Proofs.YtogaaomedfpdnaaDoor
