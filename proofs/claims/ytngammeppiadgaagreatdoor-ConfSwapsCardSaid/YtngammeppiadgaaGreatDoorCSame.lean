/-
  WHAT IS PROVED: what '==' and '!=' say of two tables. Condition: none.
-/
import Derived.Test.YtngammeppiadgaaGreatDoorCTab
namespace Go.Proofs.YtngammeppiadgaaGreatDoor.C
open Go.RowKit

def rowB (f g : Nat → Int) : Bool := (List.range 64).all fun i => f i == g i
def sameB (t u : Tab) : Bool := rowB t.o u.o && rowB t.e u.e
theorem rowB_iff {f g : Nat → Int} : rowB f g = true ↔ ∀ i, i < 64 → f i = g i := by
  unfold rowB; simp [List.all_eq_true]
theorem same_iff {t u : Tab} : sameB t u = true ↔ same t u := by
  unfold sameB same
  rw [Bool.and_eq_true, rowB_iff, rowB_iff]
  exact ⟨fun h i hi => ⟨h.1 i hi, h.2 i hi⟩, fun h => ⟨fun i hi => (h i hi).1, fun i hi => (h i hi).2⟩⟩

theorem arr_loop (f g : Nat → Int) (d : Nat) (w : World) : ∀ (n k : Nat), k + n ≤ 64 →
    (forIn (List.range' k n) ((none, ()) : Option Bool × Unit) (fun i (_ : Option Bool × Unit) => do
      let a ← part 3 (row f).toArray (i * 1)
      let b ← part 3 (row g).toArray (i * 1)
      let r ← Op.equalIn (d + 1) 3 a b
      if (!r) = true then pure (ForInStep.done (some false, ())) else pure (ForInStep.yield (none, ())))).run Tryz.prog w =
      .ok (if (List.range' k n).all (fun i => f i == g i) = true then (none, ()) else (some false, ())) w
  | 0, k, _ => by simp
  | n + 1, k, h => by
    have hk : k < 64 := by omega
    have ih := arr_loop f g d w n (k + 1) (by omega)
    rw [List.range'_succ]
    simp only [List.forIn_cons, Sem.run_bind]
    have pa : ∀ f : Nat → Int, (part 3 (row f).toArray (k * 1)).run Tryz.prog w = .ok (.int .i64 (f k)) w := fun f => by
      simp [part, Tryz.isAgg3, row_at f hk]
    rw [pa f, Result.andThen_ok, pa g, Result.andThen_ok, run_equalIn_int w d 3 .i64 .i64 _ _ Tryz.underlying3, Result.andThen_ok]
    by_cases hfg : f k = g k
    · simp only [hfg, beq_self_eq_true, Bool.not_true, Bool.false_eq_true, if_false, Sem.run_pure, Result.andThen_ok]
      rw [ih, List.all_cons]
      simp only [hfg, beq_self_eq_true, Bool.true_and]
    · have e : (f k == g k) = false := by simpa using hfg
      simp [e]

theorem same_arr (f g : Nat → Int) (d : Nat) (w : World) : (Op.equalIn (d + 2) 25 (.agg (row f).toArray) (.agg (row g).toArray)).run Tryz.prog w = .ok (rowB f g) w := by
  have h := arr_loop f g d w 64 0 (by omega)
  rw [Op.equalIn]
  simp only [Sem.run_bind, run_underlying Tryz.underlying25, Result.andThen_ok, Tryz.sizeOf3]
  simp only [Std.Legacy.Range.forIn_eq_forIn_range', Std.Legacy.Range.size, Nat.sub_zero, Nat.add_one_sub_one, Nat.div_one]
  rw [h]
  have e : rowB f g = (List.range' 0 64).all fun i => f i == g i := by unfold rowB; rw [List.range_eq_range']
  rw [e]
  cases (List.range' 0 64).all fun i => f i == g i <;> simp

theorem cut_o (t : Tab) : (tb t).extract 0 64 = (row t.o).toArray := by
  apply Array.ext_getElem?
  intro i
  rw [Array.getElem?_extract]
  by_cases h : i < 64
  · rw [if_pos (by rw [tb_size]; omega), Nat.zero_add, tb_o t h, List.getElem?_toArray, row_at _ h]
  · rw [if_neg (by rw [tb_size]; omega), List.getElem?_toArray, List.getElem?_eq_none (by rw [row_len]; omega)]
theorem cut_e (t : Tab) : (tb t).extract 64 128 = (row t.e).toArray := by
  apply Array.ext_getElem?
  intro i
  rw [Array.getElem?_extract]
  by_cases h : i < 64
  · rw [if_pos (by rw [tb_size]; omega), tb_e t h, List.getElem?_toArray, row_at _ h]
  · rw [if_neg (by rw [tb_size]; omega), List.getElem?_toArray, List.getElem?_eq_none (by rw [row_len]; omega)]

theorem part_o (t : Tab) (w : World) : (part 25 (tb t) 0).run Tryz.prog w = .ok (.agg (row t.o).toArray) w := by
  rw [← cut_o t]
  simp only [part, Sem.run_bind, Tryz.isAgg25, Result.andThen_ok, if_true, Tryz.sizeOf25, Sem.run_pure, Nat.zero_add]
theorem part_e (t : Tab) (w : World) : (part 25 (tb t) 64).run Tryz.prog w = .ok (.agg (row t.e).toArray) w := by
  rw [← cut_e t]
  simp only [part, Sem.run_bind, Tryz.isAgg25, Result.andThen_ok, if_true, Tryz.sizeOf25, Sem.run_pure, Nat.reduceAdd]
theorem eq_fields {P : Program} {d : Nat} {xs ys : Array Value} {f0 f1 : Field} {w : World} {a0 b0 a1 b1 : Value} {r0 r1 : Bool} (n0 : f0.name ≠ "_") (n1 : f1.name ≠ "_")
    (h0 : (part f0.type xs f0.offset).run P w = .ok a0 w) (h1 : (part f0.type ys f0.offset).run P w = .ok b0 w) (h2 : (Op.equalIn d f0.type a0 b0).run P w = .ok r0 w)
    (h3 : (part f1.type xs f1.offset).run P w = .ok a1 w) (h4 : (part f1.type ys f1.offset).run P w = .ok b1 w) (h5 : (Op.equalIn d f1.type a1 b1).run P w = .ok r1 w) :
    (Op.eqFields d xs ys [f0, f1]).run P w = .ok (r0 && r1) w := by
  simp only [Op.eqFields, if_pos n0, if_pos n1, Sem.run_bind, h0, h1, h2, Result.andThen_ok]
  cases r0
  · simp
  · simp only [Bool.not_true, Bool.false_eq_true, if_false, Sem.run_bind, h3, h4, h5, Result.andThen_ok]
    cases r1 <;> simp
theorem fields_tab : ∃ f0 f1 : Field, Tryz.prog.fieldsOf 27 = #[f0, f1] ∧ f0.name ≠ "_" ∧ f1.name ≠ "_" ∧ f0.type = 25 ∧ f1.type = 25 ∧ f0.offset = 0 ∧ f1.offset = 64 := by
  refine ⟨{ name := "Owner", type := 25, offset := 0, embedded := false, tag := "", pkgPath := "", byteOffset := 0 }, { name := "Epoch", type := 25, offset := 64, embedded := false, tag := "", pkgPath := "", byteOffset := 512 }, ?_, by decide, by decide, rfl, rfl, rfl, rfl⟩
  simp only [Program.fieldsOf, Tryz.underlying27]
theorem same_deep (t u : Tab) (d : Nat) (w : World) : (Op.equalIn (d + 2 + 1) 27 (.agg (tb t)) (.agg (tb u))).run Tryz.prog w = .ok (sameB t u) w := by
  have hS : Tryz.prog.underlying 27 = some (.struct (Tryz.prog.fieldsOf 27)) := by kernel_rfl
  have hp : Tryz.prog.stoodInHeld 27 = false := by kernel_rfl
  rw [run_equalIn_agg w (d + 2) 27 _ _ hS hp]
  obtain ⟨f0, f1, e, n0, n1, t0, t1, o0, o1⟩ := fields_tab
  rw [e]
  exact eq_fields n0 n1 (by rw [t0, o0]; exact part_o t w) (by rw [t0, o0]; exact part_o u w) (by rw [t0]; exact same_arr t.o u.o d w) (by rw [t1, o1]; exact part_e t w) (by rw [t1, o1]; exact part_e u w) (by rw [t1]; exact same_arr t.e u.e d w)
theorem same_tab (t u : Tab) (w : World) : (Op.equalIn 10000 27 (.agg (tb t)) (.agg (tb u))).run Tryz.prog w = .ok (sameB t u) w := by
  rw [show (10000 : Nat) = 9997 + 2 + 1 from rfl]
  exact same_deep t u 9997 w
theorem guard_tab (op : BinOp) (a b : Operand) (x r : Tab) (w : World) : (eqGuard op 27 a b (.agg (tb x)) (.agg (tb r))).run Tryz.prog w = .ok () w := run_eqGuard_agg w op 27 a b _ _ (by kernel_rfl)
end Go.Proofs.YtngammeppiadgaaGreatDoor.C
