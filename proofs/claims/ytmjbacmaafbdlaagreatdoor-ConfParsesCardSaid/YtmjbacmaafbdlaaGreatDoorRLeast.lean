/-
  WHAT IS PROVED: the contract of the document's least: the least number of a row above another one, and whether there is one. No condition.
-/
import Derived.Test.YtmjbacmaafbdlaaGreatDoorRDig
import Derived.Test.YtmjbacmaafbdlaaGreatDoorCA
namespace Go.Proofs.YtmjbacmaafbdlaaGreatDoor.R
set_option maxRecDepth 100000
open Go.RowKit Go.Lib C

/-- may this place count? -/
def mayB (f o : Nat → Int) (only above : Int) (i : Nat) : Bool := (decide (only < 0) || (o i == only)) && decide (above < f i)
/-- the least of the first k -/
def leastTo (f o : Nat → Int) (only above : Int) : Nat → Option Int
  | 0 => none
  | k + 1 => if mayB f o only above k = true then (match leastTo f o only above k with
    | none => some (f k)
    | some b => if f k < b then some (f k) else some b) else leastTo f o only above k
theorem least_spec (f o : Nat → Int) (only above : Int) : ∀ k, (∀ b, leastTo f o only above k = some b → (∃ i, i < k ∧ mayB f o only above i = true ∧ f i = b) ∧ ∀ i, i < k → mayB f o only above i = true → b ≤ f i) ∧ (leastTo f o only above k = none → ∀ i, i < k → mayB f o only above i = false)
  | 0 => ⟨fun b h => (by cases h), fun _ i hi => absurd hi (by omega)⟩
  | k + 1 => by
    obtain ⟨h1, h2⟩ := least_spec f o only above k
    have hstep : leastTo f o only above (k + 1) = if mayB f o only above k = true then (match leastTo f o only above k with
      | none => some (f k)
      | some b => if f k < b then some (f k) else some b) else leastTo f o only above k := rfl
    by_cases hm : mayB f o only above k = true
    · rw [if_pos hm] at hstep
      cases hl : leastTo f o only above k with
      | none =>
        rw [hl] at hstep
        rw [hstep]
        refine ⟨fun b hb => ?_, fun h => by cases h⟩
        injection hb with hb
        subst hb
        refine ⟨⟨k, by omega, hm, rfl⟩, fun i hi hi2 => ?_⟩
        rcases Nat.lt_or_ge i k with h | h
        · rw [h2 hl i h] at hi2; cases hi2
        · have : i = k := by omega
          subst this; exact Int.le_refl _
      | some b =>
        obtain ⟨⟨j, hj, hjm, hjf⟩, hmin⟩ := h1 b hl
        rw [hl] at hstep
        simp only at hstep
        rw [hstep]
        by_cases hlt : f k < b
        · rw [if_pos hlt]
          refine ⟨fun b' hb => ?_, fun h => by cases h⟩
          injection hb with hb
          subst hb
          refine ⟨⟨k, by omega, hm, rfl⟩, fun i hi hi2 => ?_⟩
          rcases Nat.lt_or_ge i k with h | h
          · have := hmin i h hi2; omega
          · have : i = k := by omega
            subst this; exact Int.le_refl _
        · rw [if_neg hlt]
          refine ⟨fun b' hb => ?_, fun h => by cases h⟩
          injection hb with hb
          subst hb
          refine ⟨⟨j, by omega, hjm, hjf⟩, fun i hi hi2 => ?_⟩
          rcases Nat.lt_or_ge i k with h | h
          · exact hmin i h hi2
          · have : i = k := by omega
            subst this; omega
    · rw [if_neg hm] at hstep
      rw [hstep]
      have hm' : mayB f o only above k = false := by simpa using hm
      refine ⟨fun b hb => ?_, fun hb i hi => ?_⟩
      · obtain ⟨⟨j, hj, hjm, hjf⟩, hmin⟩ := h1 b hb
        refine ⟨⟨j, by omega, hjm, hjf⟩, fun i hi hi2 => ?_⟩
        rcases Nat.lt_or_ge i k with h | h
        · exact hmin i h hi2
        · have : i = k := by omega
          subst this; rw [hm'] at hi2; cases hi2
      · rcases Nat.lt_or_ge i k with h | h
        · exact h2 hb i h
        · have : i = k := by omega
          subst this; exact hm'
def leastF (f o : Nat → Int) (only above : Int) : Option Int := leastTo f o only above 64
def numO : Option Int → Int
  | some b => b
  | none => 0
/-- a row of 64 ints in a block -/
def RowAt (w : World) (b : Nat) (f : Nat → Int) : Prop := Blk w b 26 (row f).toArray
theorem RowAt.at_ {w : World} {b : Nat} {f : Nat → Int} (h : RowAt w b f) {i : Nat} (hi : i < 64) : w.cell? ⟨b, i, none⟩ = some (.int .i64 (f i)) := (Blk.cell h i).trans (by rw [List.getElem?_toArray]; exact row_at f hi)

set_option maxHeartbeats 4000000 in
theorem least_any (f o : Nat → Int) (only above : Int) (w : World) : Calls Tryz.prog 22 #[.agg (row f).toArray, .agg (row o).toArray, .int .i64 only, .int .i64 above] w fun e w' => e = .returned (.tuple #[.int .i64 (numO (leastF f o only above)), .bool (leastF f o only above).isSome]) ∧ Below w.heap.size w w' := by
  obtain ⟨R, HR⟩ : ∃ r, Hid (leastF f o only above = r) := ⟨_, Lib.hid rfl⟩
  rw [HR.out]
  go_enter Tryz.func22, Tryz.ntmps22
  obtain ⟨w1, hw1⟩ : ∃ x, (w.alloc (.cells (row f).toArray 26)).alloc (.cells (row o).toArray 26) = x := ⟨_, rfl⟩
  have h1 : RowAt w1 w.heap.size f := by rw [← hw1]; exact (Blk.new w _ _).alloc _
  have h2 : RowAt w1 (w.heap.size + 1) o := by
    rw [← hw1]
    have h := Blk.new (w.alloc (.cells (row f).toArray 26)) 26 (row o).toArray
    have e : (w.alloc (.cells (row f).toArray 26)).heap.size = w.heap.size + 1 := by simp
    rw [e] at h
    exact h
  have hb : Below w.heap.size w w1 := by rw [← hw1]; exact ((Below.refl _ w).alloc (Nat.le_refl _) _).alloc (by simp) _
  have H1 := Lib.hid h1
  have H2 := Lib.hid h2
  have HB := Lib.hid hb
  clear h1 h2 hb
  go_upto_region 1 with (fail)
  clear hw1
  go_wp2
  go_loop [10, 11, 12] (fun bv ov i => ∃ (k : Nat) (acc : Option Int), k ≤ 64 ∧ i = .int .i64 (k : Int) ∧ bv = .int .i64 (numO acc) ∧ ov = .bool acc.isSome ∧ Hid (acc = leastTo f o only above k)) (fun _ _ i => 64 - (intOf i).toNat)
  case atStart => exact ⟨0, none, Nat.zero_le _, rfl, rfl, rfl, Lib.hid rfl⟩
  case round =>
    obtain ⟨k, acc, hk, rfl, rfl, rfl, HA⟩ := hrel
    by_cases hlt : k < 64
    · have c1 := H1.out.at_ hlt
      have c2 := H2.out.at_ hlt
      have hk1 : 0 ≤ (k : Int) := by omega
      have hk2 : (k : Int) < 64 := by omega
      obtain ⟨fk, HFK⟩ : ∃ z, Hid (f k = z) := ⟨_, Lib.hid rfl⟩
      obtain ⟨ok, HOK⟩ : ∃ z, Hid (o k = z) := ⟨_, Lib.hid rfl⟩
      rw [HFK.out] at c1
      rw [HOK.out] at c2
      obtain ⟨mb, HMB⟩ : ∃ b, Hid (mayB f o only above k = b) := ⟨_, Lib.hid rfl⟩
      have HMX : Hid (mb = ((decide (only < 0) || (ok == only)) && decide (above < fk))) := Lib.hid (by rw [← HMB.out, ← HFK.out, ← HOK.out]; rfl)
      by_cases hn : only < 0
      · by_cases ha : above < fk
        · obtain rfl : mb = true := by rw [HMX.out]; simp [hn, ha]
          clear HMX
          cases acc with
          | none =>
            have HN : Hid (some fk = leastTo f o only above (k + 1)) := Lib.hid (by
              show _ = if mayB f o only above k = true then (match leastTo f o only above k with
                | none => some (f k)
                | some b => if f k < b then some (f k) else some b) else leastTo f o only above k
              rw [if_pos HMB.out, ← HA.out, HFK.out])
            go_wp2
            go_round
            case rel => exact ⟨k + 1, some fk, by omega, by go_num, rfl, rfl, HN⟩
            case measure => simp [intOf]; omega
          | some b =>
            have HST : Hid (leastTo f o only above (k + 1) = if fk < b then some fk else some b) := Lib.hid (by
              show (if mayB f o only above k = true then (match leastTo f o only above k with
                | none => some (f k)
                | some b => if f k < b then some (f k) else some b) else leastTo f o only above k) = _
              rw [if_pos HMB.out, ← HA.out, HFK.out])
            by_cases hlt : fk < b
            · have HN : Hid (some fk = leastTo f o only above (k + 1)) := Lib.hid (by rw [HST.out, if_pos hlt])
              have ql2 : decide (fk < b) = true := by simpa using hlt
              simp only [numO]
              go_wp2
              go_round
              case rel => exact ⟨k + 1, some fk, by omega, by go_num, rfl, rfl, HN⟩
              case measure => simp [intOf]; omega
            · have HN : Hid (some b = leastTo f o only above (k + 1)) := Lib.hid (by rw [HST.out, if_neg hlt])
              have ql2 : decide (fk < b) = false := by simpa using hlt
              simp only [numO]
              go_wp2
              go_round
              case rel => exact ⟨k + 1, some b, by omega, by go_num, rfl, rfl, HN⟩
              case measure => simp [intOf]; omega
        · obtain rfl : mb = false := by rw [HMX.out]; simp [ha]
          clear HMX
          have HN : Hid (acc = leastTo f o only above (k + 1)) := Lib.hid (by rw [HA.out]; unfold leastTo; rw [if_neg (by rw [HMB.out]; simp)]; cases k <;> rfl)
          go_wp2
          go_round
          case rel => exact ⟨k + 1, acc, by omega, by go_num, rfl, rfl, HN⟩
          case measure => simp [intOf]; omega
      · by_cases he : ok = only
        · have qe : (ok == only) = true := by simpa using he
          by_cases ha : above < fk
          · obtain rfl : mb = true := by rw [HMX.out]; simp [he, ha]
            clear HMX he
            cases acc with
            | none =>
              have HN : Hid (some fk = leastTo f o only above (k + 1)) := Lib.hid (by
                show _ = if mayB f o only above k = true then (match leastTo f o only above k with
                  | none => some (f k)
                  | some b => if f k < b then some (f k) else some b) else leastTo f o only above k
                rw [if_pos HMB.out, ← HA.out, HFK.out])
              go_wp2
              go_round
              case rel => exact ⟨k + 1, some fk, by omega, by go_num, rfl, rfl, HN⟩
              case measure => simp [intOf]; omega
            | some b =>
              have HST : Hid (leastTo f o only above (k + 1) = if fk < b then some fk else some b) := Lib.hid (by
                show (if mayB f o only above k = true then (match leastTo f o only above k with
                  | none => some (f k)
                  | some b => if f k < b then some (f k) else some b) else leastTo f o only above k) = _
                rw [if_pos HMB.out, ← HA.out, HFK.out])
              by_cases hlt : fk < b
              · have HN : Hid (some fk = leastTo f o only above (k + 1)) := Lib.hid (by rw [HST.out, if_pos hlt])
                have ql2 : decide (fk < b) = true := by simpa using hlt
                simp only [numO]
                go_wp2
                go_round
                case rel => exact ⟨k + 1, some fk, by omega, by go_num, rfl, rfl, HN⟩
                case measure => simp [intOf]; omega
              · have HN : Hid (some b = leastTo f o only above (k + 1)) := Lib.hid (by rw [HST.out, if_neg hlt])
                have ql2 : decide (fk < b) = false := by simpa using hlt
                simp only [numO]
                go_wp2
                go_round
                case rel => exact ⟨k + 1, some b, by omega, by go_num, rfl, rfl, HN⟩
                case measure => simp [intOf]; omega
          · obtain rfl : mb = false := by rw [HMX.out]; simp [ha]
            clear HMX he
            have HN : Hid (acc = leastTo f o only above (k + 1)) := Lib.hid (by rw [HA.out]; unfold leastTo; rw [if_neg (by rw [HMB.out]; simp)]; cases k <;> rfl)
            go_wp2
            go_round
            case rel => exact ⟨k + 1, acc, by omega, by go_num, rfl, rfl, HN⟩
            case measure => simp [intOf]; omega
        · have qe : (ok == only) = false := by simpa using he
          obtain rfl : mb = false := by rw [HMX.out]; simp [hn, he]
          clear HMX he
          have HN : Hid (acc = leastTo f o only above (k + 1)) := Lib.hid (by rw [HA.out]; unfold leastTo; rw [if_neg (by rw [HMB.out]; simp)]; cases k <;> rfl)
          go_wp2
          go_round
          case rel => exact ⟨k + 1, acc, by omega, by go_num, rfl, rfl, HN⟩
          case measure => simp [intOf]; omega
    · obtain rfl : k = 64 := by omega
      have HE : Hid (acc = R) := Lib.hid (by rw [HA.out, ← HR.out]; rfl)
      go_wp2
      go_ret2
      exact ⟨by rw [← HE.out]; rfl, HB.out⟩
end Go.Proofs.YtmjbacmaafbdlaaGreatDoor.R
