/-
  WHAT IS PROVED: the contract of Owners (all ids that have a slot, rising, in memory of its own). Condition: none.
-/
import Derived.Test.YtmjbacmaafbdlaaGreatDoorCA
import Derived.Test.YtmjbacmaafbdlaaGreatDoorShelfB
import Derived.Sort.OwnSortedInts
import Derived.Lib.OwnBridge
import Derived.OwnWalk
namespace Go.Proofs.YtmjbacmaafbdlaaGreatDoor.C
open Go.RowKit Go.Lib

def sorted (l : List Int) : List Int := l.mergeSort fun x y => decide (x ≤ y)
theorem sorted_perm (l : List Int) : (sorted l).Perm l := List.mergeSort_perm l _
theorem sorted_len (l : List Int) : (sorted l).length = l.length := (sorted_perm l).length_eq
theorem mem_sorted {l : List Int} {x : Int} : x ∈ sorted l ↔ x ∈ l := (sorted_perm l).mem_iff
theorem sorted_le (l : List Int) : (sorted l).Pairwise (· ≤ ·) := by
  have h := List.pairwise_mergeSort (le := fun x y : Int => decide (x ≤ y)) (fun a b c h1 h2 => by simp at *; omega) (fun a b => by simp; omega) l
  unfold sorted
  exact h.imp (fun h => by simpa using h)

theorem keeps_iff (zs : List Int) {j : Nat} (h : j < zs.length) (h0 : 0 < j) : keeps zs.toArray j = true ↔ zs[j] ≠ zs[j - 1] := by
  unfold keeps
  have e1 : zs.toArray[j]! = zs[j] := by simp [getElem!_pos, h]
  have e2 : zs.toArray[j - 1]! = zs[j - 1] := by simp [getElem!_pos, show j - 1 < zs.length by omega]
  simp [e1, e2, show ¬ j = 0 by omega]
theorem upto_mem (zs : List Int) : ∀ m, m ≤ zs.length → ∀ x, x ∈ compactUpTo zs.toArray m ↔ x ∈ zs.take m
  | 0, _, x => by simp [compactUpTo]
  | m + 1, h, x => by
    have ih := upto_mem zs m (by omega)
    have e1 : zs.toArray[m]! = zs[m] := by simp [getElem!_pos, show m < zs.length by omega]
    have e2 : zs.take (m + 1) = zs.take m ++ [zs[m]] := by rw [List.take_add_one, List.getElem?_eq_getElem (by omega)]; rfl
    rw [compactUpTo_succ, e1, e2, List.mem_append, List.mem_append, ih x]
    by_cases hk : keeps zs.toArray m = true
    · rw [if_pos hk]
    · rw [if_neg hk]
      have hm0 : 0 < m := by
        rcases Nat.eq_zero_or_pos m with h0 | h0
        · subst h0; exact absurd (keeps_lt_one _ 0 (by omega)) hk
        · exact h0
      have he : zs[m] = zs[m - 1] := by
        by_cases e : zs[m] = zs[m - 1]
        · exact e
        · exact absurd ((keeps_iff zs (by omega) hm0).2 e) hk
      constructor
      · rintro (h' | h')
        · exact .inl h'
        · cases h'
      · rintro (h' | h')
        · exact .inl h'
        · simp only [List.mem_singleton] at h'
          refine .inl ?_
          rw [h', he]
          exact List.mem_take_iff_getElem.2 ⟨m - 1, by omega, rfl⟩
theorem upto_lt (zs : List Int) (hs : zs.Pairwise (· ≤ ·)) : ∀ m, m ≤ zs.length → (compactUpTo zs.toArray m).Pairwise (· < ·)
  | 0, _ => by simp [compactUpTo]
  | m + 1, h => by
    have ih := upto_lt zs hs m (by omega)
    have e1 : zs.toArray[m]! = zs[m] := by simp [getElem!_pos, show m < zs.length by omega]
    rw [compactUpTo_succ, e1]
    by_cases hk : keeps zs.toArray m = true
    · rw [if_pos hk, List.pairwise_append]
      refine ⟨ih, by simp, fun a ha b hb => ?_⟩
      simp only [List.mem_singleton] at hb
      subst hb
      rw [upto_mem zs m (by omega)] at ha
      obtain ⟨j, hj, rfl⟩ := List.mem_take_iff_getElem.1 ha
      have hne := (keeps_iff zs (by omega) (by omega)).1 hk
      have h1 : zs[m - 1] ≤ zs[m] := List.pairwise_iff_getElem.1 hs (m - 1) m (by omega) (by omega) (by omega)
      have h2 : zs[j] ≤ zs[m - 1] := by
        rcases Nat.lt_or_ge j (m - 1) with h' | h'
        · exact List.pairwise_iff_getElem.1 hs j (m - 1) (by omega) (by omega) h'
        · have e : j = m - 1 := by omega
          subst e; omega
      omega
    · rw [if_neg hk, List.append_nil]; exact ih
theorem comp_mem (zs : List Int) (x : Int) : x ∈ Lib.compact zs ↔ x ∈ zs := by
  have h := upto_mem zs zs.length (Nat.le_refl _) x
  rwa [List.take_length] at h
theorem comp_lt {zs : List Int} (hs : zs.Pairwise (· ≤ ·)) : (Lib.compact zs).Pairwise (· < ·) := upto_lt zs hs zs.length (Nat.le_refl _)

/-- the owners of the slots ahead of k that are ids -/
def ownTo (t : Tab) (k : Nat) : List Int := ((List.range k).filter fun i => idB (t.o i)).map t.o
theorem ownTo_yes {t : Tab} {k : Nat} (h : idB (t.o k) = true) : ownTo t (k + 1) = ownTo t k ++ [t.o k] := by
  unfold ownTo; rw [List.range_succ, List.filter_append, List.filter_cons, if_pos h, List.filter_nil, List.map_append]; rfl
theorem ownTo_no {t : Tab} {k : Nat} (h : idB (t.o k) = false) : ownTo t (k + 1) = ownTo t k := by
  unfold ownTo; rw [List.range_succ, List.filter_append, List.filter_cons, if_neg (by rw [h]; simp), List.filter_nil, List.append_nil]
theorem ownTo_len (t : Tab) (k : Nat) : (ownTo t k).length ≤ k := by
  unfold ownTo
  have := List.length_filter_le (fun i => idB (t.o i)) (List.range k)
  simpa using this
theorem ownTo_mem {t : Tab} {k : Nat} {x : Int} : x ∈ ownTo t k ↔ ∃ i, i < k ∧ idB (t.o i) = true ∧ t.o i = x := by
  unfold ownTo
  simp only [List.mem_map, List.mem_filter, List.mem_range]
  exact ⟨fun ⟨i, ⟨h1, h2⟩, h3⟩ => ⟨i, h1, h2, h3⟩, fun ⟨i, h1, h2, h3⟩ => ⟨i, ⟨h1, h2⟩, h3⟩⟩
def ownersL (t : Tab) : List Int := Lib.compact (sorted (ownTo t 64))
theorem owners_mem {t : Tab} {x : Int} : x ∈ ownersL t ↔ ∃ i, i < 64 ∧ idB (t.o i) = true ∧ t.o i = x := by
  unfold ownersL; rw [comp_mem, mem_sorted, ownTo_mem]
theorem owners_lt (t : Tab) : (ownersL t).Pairwise (· < ·) := comp_lt (sorted_le _)

theorem zints_len (l : List Int) : (zints l).length = l.length := by simp [zints]
theorem zints_append (l m : List Int) : zints (l ++ m) = zints l ++ zints m := by simp [zints]
theorem own_z {w : World} {base n : Nat} {v : Value} {xs : List Value} (h : w.ownsRow base 3 1 v n xs) :
    ∃ A cap, v = .slice A n cap ∧ n ≤ cap ∧ cap ≤ 9223372036854775807 ∧ (∀ g, w.heap.size ≤ g ∨ g < base → Reads w g A n xs) := own_reads h

theorem sort_any (base n : Nat) (v : Value) (zs : List Int) (w : World) (hn : n ≤ 64) (hown : w.ownsRow base 3 1 v n (zints zs)) :
    Calls Tryz.prog 39 #[v] w fun e w' => e = .returned (.tuple #[]) ∧ w'.ownsRow base 3 1 v n (zints (sorted zs)) ∧ w.grownBy w' v.ownBlock := by
  have hl : zs.length = n := by have := hown.1; rw [zints_len] at this; omega
  rcases hown.2 with ⟨rfl, rfl⟩ | ⟨g, cap, cur, rfl, hb, hh, hnc, hcm, hcs, ht⟩
  · obtain rfl := List.eq_nil_of_length_eq_zero hl
    refine (Tryz.slices_Sort_int_none none 0 w).mono ?_
    rintro e w' ⟨rfl, rfl⟩
    exact ⟨rfl, by rw [show sorted [] = [] by simp [sorted]]; exact hown, World.grownBy.refl _ _⟩
  · subst hl
    rw [Nat.mul_one] at ht
    have hH := holds_of_blockI (ss := zs) hh ht
    refine (Tryz.slices_Sort_int g 0 cap zs w hH (Array.getElem?_eq_some_iff.1 hh).1 (by omega)).mono ?_
    rintro e w' ⟨rfl, k, os, rfl⟩
    exact ⟨rfl, ownsRow_sortedI (by simp) hb hh hnc hcm hcs, grownBy_sortedI _⟩

theorem compact_any (B base n : Nat) (v : Value) (zs : List Int) (w0 w : World) (hn : n ≤ 64) (hown : w.ownsRow base 3 1 v n (zints zs)) (hB : Below B w0 w) (hbase : B ≤ base) :
    Calls Tryz.prog 40 #[v] w fun e w' => ∃ v', e = .returned v' ∧ w'.ownsRow base 3 1 v' (Lib.compact zs).length (zints (Lib.compact zs)) ∧ Below B w0 w' := by
  have hl : zs.length = n := by have := hown.1; rw [zints_len] at this; omega
  by_cases hv : v = .slice none 0 0
  · subst hv
    have hz : zs = [] := by
      rcases hown.2 with ⟨_, h⟩ | ⟨g, cap, cur, h, _⟩
      · exact List.eq_nil_of_length_eq_zero (by omega)
      · cases h
    subst hz
    refine (Tryz.slices_Compact_int_empty none 0 w).mono ?_
    rintro e w' ⟨rfl, rfl⟩
    have h0 : n = 0 := hl.symm
    subst h0
    exact ⟨_, rfl, hown, hB⟩
  · obtain ⟨g, cap, rfl, hbg, _, hnc, hcm, _, hH⟩ := holds_of_ownsRow hown hv
    subst hl
    refine (Tryz.slices_Compact_int g 0 cap zs w hH (by omega) hnc).mono ?_
    rintro e w' ⟨rfl, q, rfl⟩
    have hle := Lib.compact_length_le zs
    have h := Lib.ownsRow_putRow (q := q) (k := (Lib.compact zs).length) (ys := Lib.compact zs ++ List.replicate (zs.length - (Lib.compact zs).length) 0) hown (by simp; omega) hle
    rw [List.take_left] at h
    exact ⟨_, rfl, h, Lib.below_putRow hB (by omega)⟩

/-- a list of numbers is handed back, in memory of its own -/
def ListsZ (l : List Int) (w : World) (e : Ending) (w' : World) : Prop :=
  Below w.heap.size w w' ∧ ∃ A c, e = .returned (.slice A l.length c) ∧ l.length ≤ c ∧ c ≤ 9223372036854775807 ∧ ∀ g, w'.heap.size ≤ g ∨ g < w.heap.size → Reads w' g A l.length (zints l)

set_option maxRecDepth 100000 in
set_option maxHeartbeats 2000000 in
theorem owners_any (t : Tab) (w : World) : Calls Tryz.prog 17 #[.agg (tb t)] w (ListsZ (ownersL t) w) := by
  obtain ⟨i0, hi0, hz0, hz1, hz2⟩ := info_parts int_info
  have HI : Hid (Tryz.prog.info? 3 = some i0) := hi0
  have HZ0 := Lib.hid hz0
  have HZ1 := Lib.hid hz1
  have HZ2 := Lib.hid hz2
  have hT := Lib.hid (TabAt.new w t)
  have hb0 := Lib.hid ((Below.refl w.heap.size w).alloc (Nat.le_refl _) (.cells (tb t) 28))
  have HOL : Hid (ownersL t = Lib.compact (sorted (ownTo t 64))) := Lib.hid rfl
  generalize ownersL t = OL at *
  clear hi0 hz0 hz1 hz2
  go_enter Tryz.func17, Tryz.ntmps17
  go_wp2_with (refine at_owners rfl hT.out rfl ?_)
  go_loopw [3, 8] (fun va i wr => ∃ k : Nat, k ≤ 64 ∧ i = .int .i64 k ∧ Hid (Below w.heap.size w wr) ∧ Hid (wr.ownsRow w.heap.size 3 1 va (ownTo t k).length (zints (ownTo t k)))) (fun _ i _ => 64 - (intOf i).toNat)
  case atStart => exact ⟨0, by omega, rfl, hb0, Lib.hid ⟨rfl, .inl ⟨rfl, rfl⟩⟩⟩
  case round =>
    obtain ⟨k, hk, rfl, hb, hown⟩ := hrel
    have hle := ownTo_len t k
    by_cases hlt : k < 64
    · have hidx := index_row t.o hlt
      obtain ⟨b, HB⟩ : ∃ b, Hid (betB 1 4294967296 (t.o k) = b) := ⟨_, Lib.hid rfl⟩
      cases b
      · have HS := Lib.hid (ownTo_no (t := t) (k := k) HB.out)
        generalize ownTo t k = F at *
        go_wp2_with (fail)
        refine (isid_any _ _).mono ?_
        rintro e w2 ⟨rfl, rfl⟩
        rw [HB.out]
        go_wp2
        go_roundw
        case rel => exact ⟨k + 1, by omega, by go_num, hb, by rw [HS.out]; exact hown⟩
        case measure => simp [intOf]; omega
      · have HS := Lib.hid (ownTo_yes (t := t) (k := k) HB.out)
        have hbs := hb.out.size
        generalize ownTo t k = F at *
        go_wp2_with (fail)
        refine (isid_any _ _).mono ?_
        rintro e w2 ⟨rfl, rfl⟩
        rw [HB.out]
        go_wp2_with (at_builtin; refine wpList_append_own _ rfl _ _ 53 rfl w.heap.size 3 i0 (.int .i64 0) 1 8 Tryz.underlying53 HI.out HZ0.out HZ1.out HZ2.out rfl (by decide) _ _ _ rfl (hown.out.alloc _) ⟨wr.heap.size, 0, none⟩ 1 1 [.int .i64 (t.o k)] rfl rfl (cell_one_new _ _ _) (by simp [Value.oneCell']) (by unfold maxLen; omega) (by omega) (by simp; omega) ?_; intro v' w3 hown' hg3 hv3; clear hv3)
        have hb3 := Lib.hid ((hb.out.alloc hbs _).grown hg3 (by simp; omega) (fun g e => (hown.out.lt g e).1))
        have HO3 := Lib.hid hown'
        clear hown' hg3
        go_wp2
        go_roundw
        case rel => exact ⟨k + 1, by omega, by go_num, hb3, Lib.hid (by rw [HS.out, zints_append]; simpa [zints] using HO3.out)⟩
        case measure => simp [intOf]; omega
    · obtain rfl : k = 64 := by omega
      generalize ownTo t 64 = F at *
      have hs := hb.out.size
      go_wp2_with (fail)
      refine (sort_any _ F.length _ F _ hle hown.out).mono ?_
      rintro e w3 ⟨rfl, hown3, hg3⟩
      have HB3 := Lib.hid (hb.out.grown hg3 hs (fun g e => (hown.out.lt g e).1))
      have HO3 := Lib.hid hown3
      clear hown3 hg3
      go_wp2_with (fail)
      refine (compact_any w.heap.size w.heap.size F.length _ (sorted F) w _ hle HO3.out HB3.out (Nat.le_refl _)).mono ?_
      rintro e w4 ⟨v4, rfl, hown4, hb4⟩
      rw [← HOL.out] at hown4
      obtain ⟨A, c, rfl, hnc, hcm, hr⟩ := own_reads hown4
      go_wp2
      go_ret
      exact ⟨hb4, A, c, rfl, hnc, hcm, hr⟩
end Go.Proofs.YtmjbacmaafbdlaaGreatDoor.C
