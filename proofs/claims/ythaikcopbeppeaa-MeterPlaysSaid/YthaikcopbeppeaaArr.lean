/-
  WHAT IS PROVED: words for an array of 16 ints as a block's cells. Condition: none.
-/
import Derived.Test.YthaikcopbeppeaaPlain
import Derived.Laws.Rows
import Derived.Laws.Tables
namespace Go.Proofs.Ythaikcopbeppeaa
open Go.RowKit

/-- sixteen numbers, as cells -/
def fa (f : Nat → Int) : Array Value := ((List.range 16).map fun i => Value.int .i64 (f i)).toArray
theorem fa_size (f : Nat → Int) : (fa f).size = 16 := by simp [fa]
theorem fa_at (f : Nat → Int) {i : Nat} (h : i < 16) : (fa f)[i]? = some (.int .i64 (f i)) := by simp [fa, h]
theorem fa_set (f : Nat → Int) {k : Nat} (hk : k < 16) (v : Int) : (fa f).setIfInBounds k (.int .i64 v) = fa (fun i => if i = k then v else f i) := by
  apply Array.ext_getElem?
  intro i
  rw [Array.getElem?_setIfInBounds]
  by_cases hi : i < 16
  · rw [fa_at (fun i => if i = k then v else f i) hi, fa_at f hi]
    by_cases h : k = i
    · subst h
      rw [if_pos rfl, if_pos (by rw [fa_size]; exact hk), if_pos rfl]
    · rw [if_neg h, if_neg (fun e => h e.symm)]
  · have e1 : (fa f)[i]? = none := Array.getElem?_eq_none (by rw [fa_size]; omega)
    have e2 : (fa (fun i => if i = k then v else f i))[i]? = none := Array.getElem?_eq_none (by rw [fa_size]; omega)
    rw [e1, e2]
    by_cases h : k = i
    · omega
    · rw [if_neg h]
theorem fa_same {f f' : Nat → Int} (h : ∀ i, i < 16 → f i = f' i) : fa f = fa f' := by
  unfold fa
  congr 1
  exact List.map_congr_left fun i hi => by rw [h i (by simpa using hi)]
theorem blk_new {W : World} {g : Nat} {t : TypeId} {C D : Array Value} (hg : g = W.heap.size) (h : C = D) : Blk (W.alloc (.cells C t)) g t D := by
  subst hg; subst h; exact Blk.new W t C
theorem fa_info (f : Nat → Int) : (Try.prog.info? 26).map (·.size) = some (fa f).size := by rw [fa_size]; kernel_rfl
theorem run_index_fa (f : Nat → Int) (k : Nat) (hk : k < 16) (w : World) : (Instr.index 26 (.agg (fa f)) (.int .i64 (k : Int))).run Try.prog w = .ok (.int .i64 (f k)) w := by
  have hf := fa_at f hk
  simp [Instr.index, run_underlying Try.underlying26, asIntOf, go_sem, hk]
  rw [hf]; rfl
end Go.Proofs.Ythaikcopbeppeaa
