/-
  WHAT IS PROVED: contracts of the readers of one part of a text. Conditions: the two errors of strconv hold an error; a text has less than 2^32 bytes.
-/
import Derived.Test.YtngammeppiadgaaGreatDoorSText
import Derived.Test.YtngammeppiadgaaGreatDoorCut
import Derived.Lib.AtoiErrMem
namespace Go.Proofs.YtngammeppiadgaaGreatDoor.S
open Go.RowKit

/-- strconv's two errors hold an error -/
def Errs (w : World) : Prop := (∃ te pe, w.cell? ⟨2, 0, none⟩ = some (.iface te pe)) ∧ ∃ te pe, w.cell? ⟨3, 0, none⟩ = some (.iface te pe)
theorem lt_of_cell {w : World} {a : Addr} {v : Value} (h : w.cell? a = some v) : a.block < w.heap.size := by
  unfold World.cell? at h
  rcases Nat.lt_or_ge a.block w.heap.size with h' | h'
  · exact h'
  · rw [Array.getElem?_eq_none h'] at h
    cases h
theorem Errs.below {w w' : World} (h : Errs w) (hb : Below w.heap.size w w') : Errs w' := by
  obtain ⟨⟨a, b, h1⟩, c, d, h2⟩ := h
  exact ⟨⟨a, b, (hb.cell (lt_of_cell h1)).trans h1⟩, c, d, (hb.cell (lt_of_cell h2)).trans h2⟩
theorem Errs.drewN {w : World} (h : Errs w) (n : Nat) : Errs (w.drewN n) := h

/-- a part that is a number: it, and no error; else whatever, and an error that isn't nil -/
def AtoiPost (l : List UInt8) (w : World) (e : Ending) (w' : World) : Prop :=
  Below w.heap.size w w' ∧ ((∃ v, Lib.atoiAll l = .ok v ∧ e = .returned (.tuple #[.int .i64 v, .nilIface])) ∨ ((∀ v, Lib.atoiAll l ≠ .ok v) ∧ ∃ v t p, e = .returned (.tuple #[.int .i64 v, .iface t p])))
theorem atoi_any (l : List UInt8) (hl : l.length ≤ 4294967296) (w : World) (hE : Errs w) : Calls Tryz.prog 91 #[.string (str l)] w (AtoiPost l w) := by
  have hd : (str l).data.toList = l := rfl
  obtain ⟨⟨a, b, h1⟩, c, d, h2⟩ := hE
  cases h : Lib.atoiAll l
  · rename_i v
    refine (Tryz.strconv_Atoi_ok (str l) (by rw [str_size]; omega) v h w).mono fun e w' ⟨he, hw⟩ => ⟨?_, .inl ⟨v, h, he⟩⟩
    rcases hw with rfl | ⟨t, rfl⟩
    · exact Below.refl _ _
    · exact Lib.bytesWorld_below _ _ _
  · have k := Any.strconv_Atoi_syntax Tryz.laysC172 (str l) (by rw [str_size]; omega) h _ w h1 (.inr ⟨a, b, rfl⟩)
    have k' : Calls Tryz.prog 91 #[.string (str l)] w _ := k
    exact k'.mono fun e w' ⟨N, he, _, _, hb⟩ => ⟨hb, .inr ⟨fun v hv => (by rw [h] at hv; cases hv), _, _, _, he⟩⟩
  · have k := Any.strconv_Atoi_range Tryz.laysC172 (str l) (by rw [str_size]; omega) h _ w h2 (.inr ⟨c, d, rfl⟩)
    have k' : Calls Tryz.prog 91 #[.string (str l)] w _ := k
    exact k'.mono fun e w' ⟨N, he, _, _, hb⟩ => ⟨hb, .inr ⟨fun v hv => (by rw [h] at hv; cases hv), _, _, _, he⟩⟩

/-- what the reader of a slot hands back -/
def NumPost (l : List UInt8) (w : World) (e : Ending) (w' : World) : Prop :=
  Below w.heap.size w w' ∧ ((∃ n : Nat, num l = some n ∧ e = .returned (.tuple #[.int .i64 (n : Int), .bool true])) ∨ (num l = none ∧ ∃ v, e = .returned (.tuple #[.int .i64 v, .bool false])))
set_option maxRecDepth 100000 in
theorem number_any (l : List UInt8) (hl : l.length ≤ 4294967296) (w : World) (hE : Errs w) : Calls Tryz.prog 131 #[.string (str l)] w (NumPost l w) := by
  go_enter Tryz.func131, Tryz.ntmps131
  go_wp2_with (fail)
  refine (atoi_any l hl _ hE).mono ?_
  rintro e w1 ⟨hb, ⟨v, hv, rfl⟩ | ⟨hv, v, t, p, rfl⟩⟩
  · have HV := Lib.hid hv
    clear hv
    by_cases hr : 0 ≤ v ∧ v < 64
    · have HY := Lib.hid (slotB_yes hr.1 hr.2)
      have HN : Hid (num l = some v.toNat) := by show _ = _; unfold num; rw [HV.out]; simp [hr]
      have hv0 := hr.1
      clear hr
      go_wp2_with (go_at_call 74; refine (isslot_any _ _).mono ?_; rintro e w2 ⟨rfl, rfl⟩; rw [HY.out])
      go_ret2
      exact ⟨hb, .inl ⟨_, HN.out, by rw [Int.toNat_of_nonneg hv0]; rfl⟩⟩
    · have HY := Lib.hid (slotB_no (show v < 0 ∨ 64 ≤ v by omega))
      have HN : Hid (num l = none) := by show _ = _; unfold num; rw [HV.out]; simp; omega
      clear hr
      go_wp2_with (go_at_call 74; refine (isslot_any _ _).mono ?_; rintro e w2 ⟨rfl, rfl⟩; rw [HY.out])
      go_ret2
      exact ⟨hb, .inr ⟨HN.out, _, rfl⟩⟩
  · have HN : Hid (num l = none) := by
      show _ = _
      unfold num
      split
      · rename_i v' h; exact absurd h (hv v')
      · rfl
    clear hv
    go_wp2
    go_ret2
    exact ⟨hb, .inr ⟨HN.out, _, rfl⟩⟩

/-- what the reader of a part hands back -/
def EndsPost (l : List UInt8) (w : World) (e : Ending) (w' : World) : Prop :=
  Below w.heap.size w w' ∧ ((∃ a b : Nat, ends l = some (a, b) ∧ e = .returned (.tuple #[.int .i64 (a : Int), .int .i64 (b : Int), .bool true])) ∨ (ends l = none ∧ ∃ u v, e = .returned (.tuple #[.int .i64 u, .int .i64 v, .bool false])))
theorem ends_some {l : List UInt8} {a b : Nat} (h1 : num (cutL l 45).1 = some a) (h2 : num (if (cutL l 45).2.2 = true then (cutL l 45).2.1 else (cutL l 45).1) = some b) : ends l = some (a, b) := by
  unfold ends; rw [h1, h2]
theorem ends_no1 {l : List UInt8} (h1 : num (cutL l 45).1 = none) : ends l = none := by
  unfold ends; rw [h1]
theorem ends_no2 {l : List UInt8} (h2 : num (if (cutL l 45).2.2 = true then (cutL l 45).2.1 else (cutL l 45).1) = none) : ends l = none := by
  unfold ends; rw [h2]
  cases num (cutL l 45).1 <;> rfl
/-- the part behind the minus sign, or the part -/
def hi (l : List UInt8) : List UInt8 := if (cutL l 45).2.2 = true then (cutL l 45).2.1 else (cutL l 45).1
theorem hi_le (l : List UInt8) : (hi l).length ≤ l.length := by
  unfold hi; split
  · exact cutL_rest_le _ _
  · exact cutL_first_le _ _
set_option maxRecDepth 100000 in
set_option maxHeartbeats 1000000 in
theorem ends_any (l : List UInt8) (hl : l.length ≤ 4294967296) (w : World) (hE : Errs w) : Calls Tryz.prog 125 #[.string (str l)] w (EndsPost l w) := by
  have l1 := cutL_first_le l 45
  have l2 := hi_le l
  have HS : Hid (∀ a b, num (cutL l 45).1 = some a → num (hi l) = some b → ends l = some (a, b)) := fun a b => ends_some
  have HN1 : Hid (num (cutL l 45).1 = none → ends l = none) := ends_no1
  have HN2 : Hid (num (hi l) = none → ends l = none) := ends_no2
  have HT : Hid ((cutL l 45).2.2 = true → (cutL l 45).2.1 = hi l) := by show _ → _; intro h; unfold hi; rw [if_pos h]
  have HF : Hid ((cutL l 45).2.2 = false → (cutL l 45).1 = hi l) := by show _ → _; intro h; unfold hi; rw [h]; rfl
  go_enter Tryz.func125, Tryz.ntmps125
  go_wp2_with (fail)
  refine (cut_any l 45 _ (by omega)).mono ?_
  rintro e w' ⟨rfl, n, rfl⟩
  have hE2 : Errs (w.drewN n) := hE
  have hb0 : Below w.heap.size w (w.drewN n) := below_drewN (Below.refl _ _) n
  generalize w.drewN n = w0 at *
  generalize cutL l 45 = c at *
  obtain ⟨c1, c2, c3⟩ := c
  simp only at l1 HS HN1 HN2 HT HF ⊢
  generalize hi l = h at *
  cases c3
  · have e1 := HF.out rfl
    subst e1
    go_wp2_with (fail)
    refine (number_any c1 (by omega) _ hE2).mono ?_
    rintro e w1 ⟨hb1, ⟨a, ha, rfl⟩ | ⟨ha, u, rfl⟩⟩
    · have hE3 := hE2.below hb1
      have hb1' := hb0.trans (hb1.mono hb0.size)
      have HA := Lib.hid ha
      clear ha hb0 hb1
      go_wp2_with (fail)
      refine (number_any c1 (by omega) _ hE3).mono ?_
      rintro e w2 ⟨hb2, ⟨b, hb, rfl⟩ | ⟨hb, u, rfl⟩⟩
      · go_wp2
        go_ret3
        exact ⟨hb1'.trans (hb2.mono hb1'.size), .inl ⟨a, b, HS.out a b HA.out hb, rfl⟩⟩
      · go_wp2
        go_ret3
        exact ⟨hb1'.trans (hb2.mono hb1'.size), .inr ⟨HN2.out hb, _, _, rfl⟩⟩
    · have hE3 := hE2.below hb1
      have hb1' := hb0.trans (hb1.mono hb0.size)
      have HA := Lib.hid ha
      clear ha hb0 hb1
      go_wp2_with (fail)
      refine (number_any c1 (by omega) _ hE3).mono ?_
      rintro e w2 ⟨hb2, ⟨b, hb, rfl⟩ | ⟨hb, u2, rfl⟩⟩
      · go_wp2
        go_ret3
        exact ⟨hb1'.trans (hb2.mono hb1'.size), .inr ⟨HN1.out HA.out, _, _, rfl⟩⟩
      · go_wp2
        go_ret3
        exact ⟨hb1'.trans (hb2.mono hb1'.size), .inr ⟨HN1.out HA.out, _, _, rfl⟩⟩
  · have e1 := HT.out rfl
    subst e1
    go_wp2_with (fail)
    refine (number_any c1 (by omega) _ hE2).mono ?_
    rintro e w1 ⟨hb1, ⟨a, ha, rfl⟩ | ⟨ha, u, rfl⟩⟩
    · have hE3 := hE2.below hb1
      have hb1' := hb0.trans (hb1.mono hb0.size)
      have HA := Lib.hid ha
      clear ha hb0 hb1
      go_wp2_with (fail)
      refine (number_any c2 (by omega) _ hE3).mono ?_
      rintro e w2 ⟨hb2, ⟨b, hb, rfl⟩ | ⟨hb, u, rfl⟩⟩
      · go_wp2
        go_ret3
        exact ⟨hb1'.trans (hb2.mono hb1'.size), .inl ⟨a, b, HS.out a b HA.out hb, rfl⟩⟩
      · go_wp2
        go_ret3
        exact ⟨hb1'.trans (hb2.mono hb1'.size), .inr ⟨HN2.out hb, _, _, rfl⟩⟩
    · have hE3 := hE2.below hb1
      have hb1' := hb0.trans (hb1.mono hb0.size)
      have HA := Lib.hid ha
      clear ha hb0 hb1
      go_wp2_with (fail)
      refine (number_any c2 (by omega) _ hE3).mono ?_
      rintro e w2 ⟨hb2, ⟨b, hb, rfl⟩ | ⟨hb, u2, rfl⟩⟩
      · go_wp2
        go_ret3
        exact ⟨hb1'.trans (hb2.mono hb1'.size), .inr ⟨HN1.out HA.out, _, _, rfl⟩⟩
      · go_wp2
        go_ret3
        exact ⟨hb1'.trans (hb2.mono hb1'.size), .inr ⟨HN1.out HA.out, _, _, rfl⟩⟩
end Go.Proofs.YtngammeppiadgaaGreatDoor.S
