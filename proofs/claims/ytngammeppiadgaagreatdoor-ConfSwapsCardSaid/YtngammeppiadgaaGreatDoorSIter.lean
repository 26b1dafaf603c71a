/-
  WHAT IS PROVED: the contract of the iterator over a text's stretches: what it hands to a loop. Conditions: strconv's errors hold errors; a text has less than 2^32 bytes.
-/
import Derived.Test.YtngammeppiadgaaGreatDoorSNumber
import Derived.RangeFuncNested
import Derived.RangeFuncBound
import Derived.RangeFuncCalls
import Derived.RangeFuncLeaves
import Derived.RangeFuncFrom
import Derived.Shelf.Abstract
import Derived.Shelf.RegionOpen
import Derived.WalkKit
import Derived.OwnWalkIn
import Derived.TacticsInMore
import Derived.LoopNIn
import Derived.LoopIn
namespace Go.Proofs.YtngammeppiadgaaGreatDoor.S
open Go.RowKit Go.Shelf
attribute [local go_sem] Oper.semAt_some

/-- the ends of a stretch that a text may name -/
abbrev Pair := { p : Nat × Nat // p.1 < 64 ∧ p.2 < 64 }
abbrev encP (p : Pair) : Array Value := #[.int .i64 (p.1.1 : Int), .int .i64 (p.1.2 : Int)]

def ErrsB (n₀ : Nat) (w : World) : Prop := Errs w ∧ 2 < n₀ ∧ 3 < n₀
theorem ErrsB.below {n₀ : Nat} {w w' : World} (h : ErrsB n₀ w) (hb : Below n₀ w w') : ErrsB n₀ w' := by
  obtain ⟨⟨⟨a, b, h1⟩, c, d, h2⟩, h3, h4⟩ := h
  exact ⟨⟨⟨a, b, (hb.cell h3).trans h1⟩, c, d, (hb.cell h4).trans h2⟩, h3, h4⟩
theorem ErrsB.of {w : World} (h : Errs w) : ErrsB w.heap.size w := ⟨h, by obtain ⟨⟨_, _, h1⟩, _⟩ := h; exact lt_of_cell h1, by obtain ⟨_, _, _, h1⟩ := h; exact lt_of_cell h1⟩

def strLen : Value → Nat
  | .string b => b.size
  | _ => 0
theorem lens_nil (k : Nat) : lens k [] = [] := by cases k <;> simp [lens]
theorem lens_yes {k : Nat} {l : List UInt8} {p : Nat × Nat} (h : l ≠ []) (hp : ends (cutL l 32).1 = some p) : lens (k + 1) l = p :: lens k (cutL l 32).2.1 := by
  rw [lens, if_neg h, hp]
theorem lens_stop {k : Nat} {l : List UInt8} (hp : ends (cutL l 32).1 = none) : lens k l = [] := by
  cases k with
  | zero => rfl
  | succ k =>
    rw [lens]
    split
    · rfl
    · rw [hp]
theorem lens_len : ∀ (k : Nat) (l : List UInt8), (lens k l).length ≤ k
  | 0, _ => Nat.le_refl _
  | k + 1, l => by
    rw [lens]
    split
    · simp
    · split
      · simp
      · have := lens_len k (cutL l 32).2.1
        simp; omega

set_option maxRecDepth 100000 in
set_option maxHeartbeats 2000000 in
theorem stretches_stops (n : Nat) (hn : 1 ≤ n) (Bn n₀ : Nat) (t : List UInt8) (w : World) (hB : w.cell? ⟨Bn, 0, none⟩ = some (.string (str t))) (ht : t.length ≤ 4294967296) (hn0 : n₀ ≤ w.heap.size) (hE : ErrsB n₀ w) :
    SeqStopsK Fence.wide n Tryz.prog 124 #[.pointer (some ⟨Bn, 0, none⟩)] encP (Below n₀) (fun xs => xs.map (·.1) = lens t.length t) (fun _ => True) (t.length + 1) w := fun l J Jx W hW hJ hJx hY h0 => by
  have hBW : W.cell? ⟨Bn, 0, none⟩ = some (.string (str t)) := (hW.cell (lt_of_cell hB)).trans hB
  have hEW : ErrsB n₀ W := hE.below (hW.mono hn0)
  have hnW : n₀ ≤ W.heap.size := Nat.le_trans hn0 hW.size
  refine callsIn_of_wp Tryz.func124 rfl trivial ?_ rfl
  simp only [Tryz.ntmps124, List.size_toArray, List.length_cons, List.length_nil, Nat.reduceAdd, Nat.reduceSub, Array.replicate_succ, Array.replicate_zero, List.push_toArray, List.append_toArray, List.nil_append, List.cons_append]
  clear hB hE hW
  gi_wp2
  gi_loopw [3] (fun r wr => ∃ (pre : List Pair) (rest : List UInt8) (k : Nat), r = .string (str rest) ∧ rest.length ≤ k ∧ rest.length ≤ t.length ∧ pre.length + k ≤ t.length ∧ lens t.length t = pre.map (·.1) ++ lens k rest ∧ W.heap.size ≤ wr.heap.size ∧ ErrsB n₀ wr ∧ J pre wr)
    (fun r _ => strLen r)
  case atStart => exact ⟨[], t, t.length, rfl, Nat.le_refl _, Nat.le_refl _, by simp, by simp, Nat.le_refl _, hEW, h0⟩
  case round =>
    obtain ⟨pre, rest, k, rfl, hk1, hk2, hk3, hL, hsz, hEr, hJr⟩ := hrel
    by_cases hr : rest = []
    · subst hr
      have he : (str []).toList.isEmpty = true := by rw [str_toList]; rfl
      rw [lens_nil, List.append_nil] at hL
      have HL := Lib.hid hL
      clear hL
      gi_wp2
      go_end0
      exact ⟨⟨_, rfl⟩, .inl ⟨pre, HL.out.symm, hJr⟩⟩
    · obtain ⟨k, rfl⟩ : ∃ j, k = j + 1 := ⟨k - 1, by have := List.length_pos_iff.2 hr; omega⟩
      have he : (str rest).toList.isEmpty = false := by rw [str_toList]; simpa using hr
      have HSh := Lib.hid (cutL_shorter (c := 32) hr)
      have hfst := cutL_first_le rest 32
      have HY : Hid (∀ p, ends (cutL rest 32).1 = some p → lens (k + 1) rest = p :: lens k (cutL rest 32).2.1) := fun p => lens_yes hr
      have HN : Hid (ends (cutL rest 32).1 = none → lens (k + 1) rest = []) := lens_stop
      have HL := Lib.hid hL
      clear hL hr
      gi_wp2_with (fail)
      refine ⟨trivial, ?_⟩
      refine (callsIn_wide.2 (cut_any rest 32 _ (by omega))).mono ?_
      rintro e w' ⟨rfl, m, rfl⟩
      have hE2 : ErrsB n₀ (wr.drewN m) := hEr
      have hs2 : W.heap.size ≤ (wr.drewN m).heap.size := hsz
      have hJ2 : J pre (wr.drewN m) := hJ _ _ _ none hJr (only_of_below (below_drewN (Below.refl _ _) m) none) (fun r e => by cases e)
      generalize wr.drewN m = w0 at *
      generalize cutL rest 32 = c at *
      obtain ⟨c1, c2, c3⟩ := c
      simp only at HSh hfst HY HN ⊢
      gi_wp2_with (fail)
      refine ⟨trivial, ?_⟩
      refine (callsIn_wide.2 (ends_any c1 (by omega) _ hE2.1)).mono ?_
      rintro e w2 ⟨hb2, ⟨a, b, hab, rfl⟩ | ⟨hab, u, v, rfl⟩⟩
      · have hE3 : ErrsB n₀ w2 := hE2.below (hb2.mono (Nat.le_trans hnW hs2))
        have hs3 : W.heap.size ≤ w2.heap.size := Nat.le_trans hs2 hb2.size
        have hJ3 : J pre w2 := hJ _ _ _ none hJ2 (only_of_below hb2 none) (fun r e => by cases e)
        have hlt := ends_lt hab
        have HP : Hid (lens t.length t = pre.map (·.1) ++ (a, b) :: lens k c2) := by show _ = _; rw [← HY.out _ hab]; exact HL.out
        clear hab hJ2 hb2 HY HN HL
        obtain ⟨fn, tmps, assign, body, hy, hR⟩ := hY pre ⟨(a, b), hlt⟩ w2 hJ3 (by omega)
        dsimp only [encP] at hy
        gi_wp2
        refine hR.mono ?_
        rintro e w3 (⟨rfl, hJ4, hk4⟩ | ⟨rfl, hJx4⟩)
        · have hE4 : ErrsB n₀ w3 := hE3.below hk4
          have hs4 : W.heap.size ≤ w3.heap.size := Nat.le_trans hs3 hk4.size
          gi_wp2
          go_roundw
          case rel =>
            refine ⟨pre ++ [⟨(a, b), hlt⟩], c2, k, rfl, ?_, ?_, by simp; omega, ?_, hs4, hE4, hJ4⟩
            · have := HSh.out; omega
            · have := HSh.out; omega
            · rw [HP.out]; simp
          case measure =>
            have := HSh.out
            simpa [strLen, str_size] using this
        · gi_wp2
          refine bodyPost_ret (results_none rfl _ _ _) rfl ?_
          exact ⟨⟨_, rfl⟩, .inr ⟨_, trivial, hJx4⟩⟩
      · have hJ3 : J pre w2 := hJ _ _ _ none hJ2 (only_of_below hb2 none) (fun r e => by cases e)
        have HP : Hid (pre.map (·.1) = lens t.length t) := by show _ = _; rw [HL.out, HN.out hab, List.append_nil]
        clear hab hJ2 hb2 HY HN HL
        gi_wp2
        refine ⟨fun _ h => (by cases h), ?_⟩
        gi_wp2
        refine bodyPost_ret (results_none rfl _ _ _) rfl ?_
        exact ⟨⟨_, rfl⟩, .inl ⟨pre, HP.out, hJ3⟩⟩
end Go.Proofs.YtngammeppiadgaaGreatDoor.S
