/-
  WHAT IS PROVED: the contract of the library's iterator over a slice's pieces of nine bytes (slices.Chunk): what it hands to a loop. Condition: the slice has nine times as many bytes as there are pieces.
-/
import Derived.Test.YtneanlffllejnaaCells
import Derived.RangeFuncNested
import Derived.RangeFuncBound
import Derived.RangeFuncCalls
import Derived.RangeFuncLeaves
import Derived.RangeFuncFrom
import Derived.RangeFuncBox
import Derived.Shelf.Abstract
import Derived.Shelf.RegionOpen
import Derived.WalkKit
import Derived.OwnWalkIn
import Derived.TacticsInMore
import Derived.LoopNIn
import Derived.LoopIn
import Derived.BigRegionIn
namespace Go.Proofs.Ytneanlffllejnaa
open Go.RowKit Go.Shelf
attribute [local go_sem] Oper.semAt_some

theorem chunk_any (A : Option Addr) (n c : Nat) (w : World) : Calls Try.prog 45 #[.slice A n c, .int .i64 9] w fun e w' =>
    e = .returned (.func (.func 48) #[] #[.pointer (some ⟨w.heap.size, 0, none⟩), .pointer (some ⟨w.heap.size + 1, 0, none⟩)]) ∧ w' = (w.alloc (.cells #[.slice A n c] 32)).alloc (.cells #[.int .i64 9] 3) := by
  have hmf : ∀ (fn : Fn) (first cap : Array Value) (w : World), (Instr.makeFunc fn first cap).run Try.prog w = .ok (.func fn first cap) w := fun _ _ _ _ => rfl
  go_enter Try.func45, Try.ntmps45
  go_wp2
  go_ret
  exact ⟨rfl, rfl⟩

/-- a piece's number -/
abbrev Pc (m : Nat) := { k : Nat // k < m }
/-- a round keeps both boxes -/
def KpB (Bs Bn : Nat) (W W' : World) : Prop := W'.heap[Bs]? = W.heap[Bs]? ∧ W'.heap[Bn]? = W.heap[Bn]?
theorem kpB_t {Bs Bn : Nat} {A B C : World} (h : KpB Bs Bn A B) (k : KpB Bs Bn B C) : KpB Bs Bn A C := ⟨k.1.trans h.1, k.2.trans h.2⟩
theorem kpB_b {Bs Bn : Nat} {w : World} (h1 : Bs < w.heap.size) (h2 : Bn < w.heap.size) (W : World) (l : Nat) (o o' : Obj) (hl : w.heap.size ≤ l) (_ : W.heap[l]? = some o) (_ : o.isCells = false) (_ : o.isWalk = false) : KpB Bs Bn W (W.putObj l o') :=
  ⟨World.putObj_heap_other (by omega), World.putObj_heap_other (by omega)⟩

set_option maxRecDepth 100000 in
set_option maxHeartbeats 2000000 in
theorem chunk_stops (n : Nat) (hn : 1 ≤ n) (Bs Bn : Nat) (ad : Addr) (m L cap : Nat) (w : World) (hL : L = m * 9) (hm : m ≤ 1000) (hc : L ≤ cap) (hcm : cap ≤ 9223372036854775807)
    (h1 : Boxed w Bs 32 (.slice (some ad) L cap)) (h2 : Boxed w Bn 3 (.int .i64 9)) :
    SeqStopsK Fence.wide n Try.prog 48 #[.pointer (some ⟨Bs, 0, none⟩), .pointer (some ⟨Bn, 0, none⟩)] (fun k : Pc m => #[.slice (some (ad.add (k.1 * 9))) 9 9]) (KpB Bs Bn) (fun xs => xs.map (·.1) = List.range m) (fun _ => True) m w := fun l J Jx W hW hJ hJx hY h0 => by
  have b1 : Boxed W Bs 32 (.slice (some ad) L cap) := (hW.block Bs h1.lt).trans h1
  have b2 : Boxed W Bn 3 (.int .i64 9) := (hW.block Bn h2.lt).trans h2
  refine callsIn_of_wp Try.func48 rfl trivial ?_ rfl
  simp only [Try.ntmps48, List.size_toArray, List.length_cons, List.length_nil, Nat.reduceAdd, Nat.reduceSub, Array.replicate_succ, Array.replicate_zero, List.push_toArray, List.append_toArray, List.nil_append, List.cons_append]
  have HL := Lib.hid hL
  clear h1 h2 hW hL
  gi_wp2
  gi_loopw [4] (fun r wr => ∃ (k : Nat) (pre : List (Pc m)), k ≤ m ∧ r = .int .i64 ((k * 9 : Nat) : Int) ∧ pre.map (·.1) = List.range k ∧ Boxed wr Bs 32 (.slice (some ad) L cap) ∧ Boxed wr Bn 3 (.int .i64 9) ∧ J pre wr)
    (fun r _ => L - (intOf r).toNat)
  case atStart => exact ⟨0, [], by omega, rfl, rfl, b1, b2, h0⟩
  case round =>
    obtain ⟨k, pre, hk, rfl, hpre, c1, c2, hJr⟩ := hrel
    clear b1 b2
    have d1 := c1.cell
    have d2 := c2.cell
    by_cases hkm : k < m
    · have hlen : pre.length = k := by have := congrArg List.length hpre; simpa using this
      obtain ⟨p, hp⟩ : ∃ p, p = k * 9 := ⟨_, rfl⟩
      have HP := Lib.hid hp
      have k0 : (0 : Int) ≤ (p : Int) := by omega
      have k1 : (p : Int) ≤ (L : Int) := by have := HL.out; omega
      have k2 : (L : Int) ≤ (cap : Int) := by omega
      have k3 : (p : Int) < (L : Int) := by have := HL.out; omega
      have k4 : (9 : Int) ≤ ((L - p : Nat) : Int) := by have := HL.out; omega
      have k5 : min (9 : Int) ((L - p : Nat) : Int) = 9 := by omega
      have hck : ¬ cap = p := by have := HL.out; omega
      rw [← hp]
      have HPRE := Lib.hid hpre
      clear hp hpre
      gi_wp2
      gi_region
      have hJd : J pre wr.drew := hJ _ _ _ none hJr (only_of_below ((Below.refl _ _).drew) none) (fun r e => by cases e)
      have e1 : wr.drew.cell? ⟨Bs, 0, none⟩ = some (.slice (some ad) L cap) := d1
      have e2 : wr.drew.cell? ⟨Bn, 0, none⟩ = some (.int .i64 9) := d2
      have k6 : (p : Int) + 9 ≤ (cap : Int) := by have := HL.out; have := HP.out; omega
      have k7 : (p : Int) ≤ (p : Int) + 9 := by omega
      obtain ⟨fn, tmps, assign, body, hy, hR⟩ := hY pre ⟨k, hkm⟩ wr.drew hJd (by omega)
      dsimp only at hy
      rw [← HP.out] at hy
      gi_wp2
      refine hR.mono ?_
      rintro e w3 (⟨rfl, hJ3, hk3⟩ | ⟨rfl, hJx3⟩)
      · have f1 : Boxed w3 Bs 32 (.slice (some ad) L cap) := hk3.1.trans c1
        have f2 : Boxed w3 Bn 3 (.int .i64 9) := hk3.2.trans c2
        have g1 := f1.cell
        have g2 := f2.cell
        clear d1 d2 e1 e2
        gi_wp2
        go_roundw
        case rel => exact ⟨k + 1, pre ++ [⟨k, hkm⟩], by omega, by rw [show (k + 1) * 9 = p + 9 by have := HP.out; omega]; go_num, by rw [List.map_append, HPRE.out, List.range_succ]; rfl, f1, f2, hJ3⟩
        case measure => simp [intOf]; omega
      · gi_wp2
        refine bodyPost_ret (results_none rfl _ _ _) rfl ?_
        exact ⟨⟨_, rfl⟩, .inr ⟨_, trivial, hJx3⟩⟩
    · obtain rfl : k = m := by omega
      have HPRE := Lib.hid hpre
      have HLk : Hid ((k * 9 : Nat) = L) := HL.out.symm
      rw [HLk.out]
      clear hpre
      gi_wp2
      go_end0
      exact ⟨⟨_, rfl⟩, .inl ⟨pre, HPRE.out, hJr⟩⟩
end Go.Proofs.Ytneanlffllejnaa
