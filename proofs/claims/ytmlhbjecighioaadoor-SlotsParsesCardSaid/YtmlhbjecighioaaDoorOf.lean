/-
  WHAT IS PROVED: contracts of the makers of sets: of slots, and of shares. Condition: none.
-/
import Derived.Test.YtmlhbjecighioaaDoorOne
namespace Go.Proofs.YtmlhbjecighioaaDoor
open Go.RowKit

def zints (l : List Int) : List Value := l.map fun z => Value.int .i64 z
def ofSet : List Int → Nat
  | [] => 0
  | z :: r => spanN z.toNat z.toNat ||| ofSet r
def allSlots (l : List Int) : Bool := l.all slotB
def ofP (l : List Int) : Nat × Int := if allSlots l = true then (ofSet l, 0) else (0, 20)
theorem ofSet_lt : ∀ l, ofSet l < 18446744073709551616
  | [] => by decide
  | z :: r => or_lt (span_lt _ _) (ofSet_lt r)
theorem ofSet_snoc (l : List Int) (z : Int) : ofSet (l ++ [z]) = ofSet l ||| spanN z.toNat z.toNat := by
  induction l with
  | nil => simp [ofSet]
  | cons q r ih => rw [List.cons_append, ofSet, ofSet, ih, Nat.or_assoc]
theorem ofSet_append (l m : List Int) : ofSet (l ++ m) = ofSet l ||| ofSet m := by
  induction l with
  | nil => simp [ofSet]
  | cons q r ih => rw [List.cons_append, ofSet, ofSet, ih, Nat.or_assoc]
theorem zints_at {l : List Int} {k : Nat} {u : Value} (h : (zints l)[k]? = some u) : ∃ z, l[k]? = some z ∧ u = .int .i64 z := by
  unfold zints at h
  rw [List.getElem?_map] at h
  cases e : l[k]? with
  | none => rw [e] at h; cases h
  | some c => rw [e] at h; injection h with h; exact ⟨c, rfl, h.symm⟩
theorem takeZ_snoc {l : List Int} {k : Nat} {z : Int} (h : l[k]? = some z) : l.take (k + 1) = l.take k ++ [z] := by
  rw [List.take_add_one, h]; rfl

set_option maxRecDepth 100000 in
set_option maxHeartbeats 1000000 in
theorem of_any (A : Option Addr) (n c : Nat) (zs : List Int) (g : Nat) (w : World) (hn : n ≤ 9223372036854775807) (hr : Reads w g A n (zints zs)) :
    Calls Tryd.prog 11 #[.slice A n c] w fun e w' => e = .returned (.tuple #[.int .u64 ((ofP zs).1 : Int), .int .i64 (ofP zs).2]) ∧ ∃ m, w' = w.drewN m := by
  have hlen : zs.length = n := by have := hr.1; simpa [zints] using this
  have HL := Lib.hid hlen
  clear hlen
  have HP : Hid (ofP zs = if allSlots zs = true then (ofSet zs, 0) else (0, 20)) := rfl
  go_enter Tryd.func11, Tryd.ntmps11
  go_wp2
  go_loopw [4, 9] (fun s i wr => ∃ k m : Nat, k ≤ n ∧ i = .int .i64 k ∧ s = .int .u64 (ofSet (zs.take k) : Nat) ∧ allSlots (zs.take k) = true ∧ wr = w.drewN m) (fun _ i _ => n - (intOf i).toNat)
  case atStart => exact ⟨0, 0, by omega, rfl, rfl, rfl, rfl⟩
  case round =>
    obtain ⟨k, m, hk, rfl, rfl, hall, rfl⟩ := hrel
    by_cases hlt : k < n
    · obtain ⟨ad, u, rfl, hu, hc⟩ := hr.at_ hlt
      obtain ⟨z, hz, rfl⟩ := zints_at hu
      have hc2 : (w.drewN m).cell? (ad.add k) = some (.int .i64 z) := hc
      have HT := Lib.hid (takeZ_snoc hz)
      have HA := Lib.hid hall
      clear hu hc hall
      by_cases hs : 0 ≤ z ∧ z < 64
      · obtain ⟨j, rfl⟩ := Int.eq_ofNat_of_zero_le hs.1
        have hj : j < 64 := by omega
        have HY := Lib.hid (slotB_yes hs.1 hs.2)
        have hl1 := ofSet_lt (zs.take k)
        have HO := Lib.hid (u64_or_nat _ _ hl1 (span_lt j j))
        have HX : Hid (ofSet (zs.take (k + 1)) = ofSet (zs.take k) ||| spanN j j) := by show _ = _; rw [HT.out, ofSet_snoc]; rfl
        have HA2 : Hid (allSlots (zs.take (k + 1)) = true) := by
          have ha := HA.out
          show _ = _; rw [HT.out]; unfold allSlots at ha ⊢; rw [List.all_append, ha]; simp [HY.out]
        clear hs hz hl1
        generalize ofSet (zs.take k) = s at *
        go_wp2_with (fail)
        refine (isslot_any _ _).mono ?_
        rintro e w2 ⟨rfl, rfl⟩
        rw [HY.out]
        go_wp2_with (fail)
        refine (span_any j j hj hj _).mono ?_
        rintro e w2 ⟨rfl, q, rfl⟩
        go_wp2
        go_roundw
        case rel => exact ⟨k + 1, m + q, by omega, by go_num, by rw [HX.out, HO.out], HA2.out, rfl⟩
        case measure => simp [intOf]; omega
      · have HY := Lib.hid (slotB_no (n := z) (by omega))
        have HX : Hid (ofP zs = (0, 20)) := by
          show _ = _
          rw [HP.out, if_neg]
          intro ha
          unfold allSlots at ha
          rw [List.all_eq_true] at ha
          have := ha z (List.mem_of_getElem? hz)
          rw [HY.out] at this; cases this
        clear hs hz
        go_wp2_with (fail)
        refine (isslot_any _ _).mono ?_
        rintro e w2 ⟨rfl, rfl⟩
        rw [HY.out]
        go_wp2
        go_ret2
        exact ⟨by rw [HX.out]; rfl, m, rfl⟩
    · obtain rfl : k = n := by omega
      have ht : zs.take k = zs := List.take_of_length_le (by rw [HL.out]; exact Nat.le_refl _)
      have HX : Hid (ofP zs = (ofSet zs, 0)) := by show _ = _; rw [HP.out, ← ht, if_pos hall]
      rw [ht]
      clear hall ht
      go_wp2
      go_ret2
      exact ⟨by rw [HX.out]; rfl, m, rfl⟩

/-- THE SHARES -/
def shareP (n k : Int) : Nat × Int := if n < 1 ∨ 16 < n ∨ k < 0 ∨ n ≤ k then (0, 10) else (spanN (k * 64 / n).toNat ((k + 1) * 64 / n - 1).toNat, 0)
theorem share_ends : ∀ n : Fin 17, ∀ k : Fin 16, 0 < n.val → k.val < n.val → k.val * 64 / n.val < 64 ∧ (k.val + 1) * 64 / n.val - 1 < 64 ∧ 1 ≤ (k.val + 1) * 64 / n.val := by decide +kernel

set_option maxRecDepth 100000 in
theorem share_no (n k : Int) (w : World) (h : n < 1 ∨ (1 ≤ n ∧ 16 < n) ∨ (1 ≤ n ∧ n ≤ 16 ∧ k < 0) ∨ (1 ≤ n ∧ n ≤ 16 ∧ 0 ≤ k ∧ n ≤ k)) :
    Calls Tryd.prog 20 #[.int .i64 n, .int .i64 k] w fun e w' => e = .returned (.tuple #[.int .u64 0, .int .i64 10]) ∧ w = w' := by
  rcases h with h | ⟨h1, h⟩ | ⟨h1, h2, h⟩ | ⟨h1, h2, h3, h⟩
  all_goals
    go_enter Tryd.func20, Tryd.ntmps20
    go_wp2
    go_ret2
    exact ⟨rfl, rfl⟩

set_option maxRecDepth 100000 in
theorem share_yes (n k : Nat) (w : World) (h1 : 1 ≤ n) (h2 : n ≤ 16) (h3 : k < n) :
    Calls Tryd.prog 20 #[.int .i64 (n : Int), .int .i64 (k : Int)] w fun e w' => e = .returned (.tuple #[.int .u64 (spanN (k * 64 / n) ((k + 1) * 64 / n - 1) : Nat), .int .i64 0]) ∧ ∃ m, w' = w.drewN m := by
  have HE := Lib.hid (share_ends ⟨n, by omega⟩ ⟨k, by omega⟩ (by show 0 < n; omega) h3)
  have c1 : (1 : Int) ≤ n := by omega
  have c2 : (n : Int) ≤ 16 := by omega
  have c3 : (0 : Int) ≤ k := by omega
  have c4 : (k : Int) < n := by omega
  have c5 : (k : Int) ≤ 15 := by omega
  have e1 : (((k * 64 / n : Nat) : Int)) = (k : Int) * 64 / n := by rw [Int.natCast_ediv, Int.natCast_mul]; rfl
  have e2 : ((((k + 1) * 64 / n - 1 : Nat) : Int)) = ((k : Int) + 1) * 64 / n - 1 := by
    have := HE.out.2.2
    rw [Int.natCast_sub this, Int.natCast_ediv, Int.natCast_mul]; rfl
  have hsp : ∀ W, Calls Tryd.prog 23 #[.int .i64 ((k : Int) * 64 / n), .int .i64 (((k : Int) + 1) * 64 / n - 1)] W fun e w' => e = .returned (.int .u64 (spanN (k * 64 / n) ((k + 1) * 64 / n - 1) : Nat)) ∧ ∃ m, w' = W.drewN m := fun W => by
    rw [← e1, ← e2]; exact span_any _ _ HE.out.1 HE.out.2.1 W
  have q1 : (0 : Int) ≤ (k : Int) * 64 / n := by rw [← e1]; exact Int.natCast_nonneg _
  have q2 : (k : Int) * 64 / n < 64 := by rw [← e1]; exact Int.ofNat_lt.2 HE.out.1
  have q3 : (1 : Int) ≤ ((k : Int) + 1) * 64 / n := by have := HE.out.2.2; simp only at this; have h := Int.ofNat_le.2 this; rw [Int.natCast_ediv, Int.natCast_mul] at h; exact h
  have q4 : ((k : Int) + 1) * 64 / n ≤ 64 := by have h := Int.ofNat_lt.2 HE.out.2.1; simp only at h; omega
  clear e1 e2
  go_enter Tryd.func20, Tryd.ntmps20
  go_wp2
  go_quiet ((go_at_call 23; exact Calls.quiet_of (hsp _)))
  go_wp2
  go_ret2
  exact ⟨rfl, _, rfl⟩
end Go.Proofs.YtmlhbjecighioaaDoor
