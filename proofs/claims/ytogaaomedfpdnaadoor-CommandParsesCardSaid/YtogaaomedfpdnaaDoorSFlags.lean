/-
  WHAT IS PROVED: contracts of the document's answers by lists of yes and no: a set's flags, and the set of flags. Condition: none.
-/
import Derived.Test.YtogaaomedfpdnaaDoorSA0
import Derived.Laws.Rows
import Derived.Laws.Tables
import Derived.Laws.ResultCell
import Derived.Laws.CopyOwn
namespace Go.Proofs.YtogaaomedfpdnaaDoor.S
open Go.RowKit

/-- the flags of a set, as cells -/
def fl (s : Nat) : Array Value := ((List.range 64).map fun i => Value.bool (s.testBit i)).toArray
theorem fl_size (s : Nat) : (fl s).size = 64 := by simp [fl]
theorem fl_at (s : Nat) {i : Nat} (h : i < 64) : (fl s)[i]? = some (.bool (s.testBit i)) := by simp [fl, h]
theorem fl_set {s t k : Nat} (hk : k < 64) {b : Bool} (ht : t.testBit k = b) (ho : ∀ i, i ≠ k → t.testBit i = s.testBit i) : (fl s).setIfInBounds k (.bool b) = fl t := by
  apply Array.ext_getElem?
  intro i
  rw [Array.getElem?_setIfInBounds]
  by_cases hi : i < 64
  · by_cases h : k = i
    · subst h
      rw [if_pos rfl, if_pos (by rw [fl_size]; exact hk), fl_at t hk, ht]
    · rw [if_neg h, fl_at s hi, fl_at t hi, ho i (fun e => h e.symm)]
  · have e1 : (fl s)[i]? = none := Array.getElem?_eq_none (by rw [fl_size]; omega)
    have e2 : (fl t)[i]? = none := Array.getElem?_eq_none (by rw [fl_size]; omega)
    rw [e1, e2]
    by_cases h : k = i
    · omega
    · rw [if_neg h]
theorem blk_new {W : World} {g : Nat} {t : TypeId} {C D : Array Value} (hg : g = W.heap.size) (h : C = D) : Blk (W.alloc (.cells C t)) g t D := by
  subst hg; subst h; exact Blk.new W t C
theorem fl_cells (s : Nat) : (fl s).all (·.oneCell') = true := by
  rw [Array.all_eq_true_iff_forall_mem]
  intro x hx
  simp only [fl, List.mem_toArray, List.mem_map] at hx
  obtain ⟨i, _, rfl⟩ := hx
  rfl
theorem arr_size : (Tryd.prog.info? 57).map (·.size) = some 64 := by kernel_rfl


theorem half_bit (s k : Nat) : (((s / 2 ^ k : Nat) : Int) % 2 == 1) = s.testBit k := by
  have h : s.testBit k = decide (s / 2 ^ k % 2 = 1) := Nat.testBit_eq_decide_div_mod_eq
  rw [h, Bool.eq_iff_iff, beq_iff_eq, decide_eq_true_eq]
  generalize s / 2 ^ k = q
  omega
theorem half_next {s : Nat} (hs : s < 18446744073709551616) (k : Nat) : IntKind.u64.wrap (((s / 2 ^ k : Nat) : Int) / 2) = ((s / 2 ^ (k + 1) : Nat) : Int) := by
  have h : s / 2 ^ k < 18446744073709551616 := Nat.lt_of_le_of_lt (Nat.div_le_self _ _) hs
  rw [Nat.pow_succ, ← Nat.div_div_eq_div_mul, IntKind.wrap_u64]
  generalize s / 2 ^ k = q at *
  omega
theorem fl_step {s k : Nat} (hk : k < 64) : (fl (s % 2 ^ k)).setIfInBounds k (.bool (s.testBit k)) = fl (s % 2 ^ (k + 1)) := by
  refine fl_set hk ?_ fun i hi => ?_
  · rw [Nat.testBit_mod_two_pow]; simp
  · rw [Nat.testBit_mod_two_pow, Nat.testBit_mod_two_pow]
    by_cases h : i < k
    · simp [h, show i < k + 1 by omega]
    · simp [h, show ¬ i < k + 1 by omega]

/-- THE SET OF FLAGS -/
theorem horner (s : Nat) (k : Nat) : (s / 2 ^ (k + 1)) * 2 + (if s.testBit k = true then 1 else 0) = s / 2 ^ k := by
  have h : s.testBit k = decide (s / 2 ^ k % 2 = 1) := Nat.testBit_eq_decide_div_mod_eq
  rw [Nat.pow_succ, ← Nat.div_div_eq_div_mul, h]
  generalize s / 2 ^ k = q
  by_cases hq : q % 2 = 1 <;> simp [hq] <;> omega
end Go.Proofs.YtogaaomedfpdnaaDoor.S
