/-
  WHAT IS PROVED: tables without owners: Agreed and Claimants of a few of them. No condition.
-/
import Derived.Test.YtemokbggchodgaaDoorLater
import Derived.Deep.MidRow
import Derived.Deep.WholeRow
import Derived.Laws.StructEq
import Derived.Laws.MakeOwn
import Derived.OwnWalk
namespace Go.Proofs.YtemokbggchodgaaDoor
open Go.RowKit Go.Lib
set_option maxRecDepth 100000

def row (f : Nat → Int) : List Value := (List.range 64).map fun i => Value.int .i64 (f i)
theorem row_len (f : Nat → Int) : (row f).length = 64 := by simp [row]
theorem row_at (f : Nat → Int) {i : Nat} (h : i < 64) : (row f)[i]? = some (.int .i64 (f i)) := by simp [row, h]
theorem row_congr {f g : Nat → Int} (h : ∀ i, i < 64 → f i = g i) : row f = row g := by
  unfold row
  refine List.map_congr_left fun i hi => ?_
  rw [h i (by simpa using hi)]
theorem row_mem {f : Nat → Int} {v : Value} (h : v ∈ row f) : ∃ z, v = .int .i64 z := by
  unfold row at h
  obtain ⟨i, _, rfl⟩ := List.mem_map.1 h
  exact ⟨_, rfl⟩
theorem arr_size (f : Nat → Int) : (Tryd.prog.info? 52).map (·.size) = some (row f).length := by rw [row_len]; kernel_rfl
def rowB (f g : Nat → Int) : Bool := (List.range 64).all fun i => f i == g i
theorem rowB_iff {f g : Nat → Int} : rowB f g = true ↔ ∀ i, i < 64 → f i = g i := by
  unfold rowB; simp [List.all_eq_true]
theorem arr_loop (f g : Nat → Int) (d : Nat) (w : World) : ∀ (n k : Nat), k + n ≤ 64 →
    (forIn (List.range' k n) ((none, ()) : Option Bool × Unit) (fun i (_ : Option Bool × Unit) => do
      let a ← part 3 (row f).toArray (i * 1)
      let b ← part 3 (row g).toArray (i * 1)
      let r ← Op.equalIn (d + 1) 3 a b
      if (!r) = true then pure (ForInStep.done (some false, ())) else pure (ForInStep.yield (none, ())))).run Tryd.prog w =
      .ok (if (List.range' k n).all (fun i => f i == g i) = true then (none, ()) else (some false, ())) w
  | 0, k, _ => by simp
  | n + 1, k, h => by
    have hk : k < 64 := by omega
    have ih := arr_loop f g d w n (k + 1) (by omega)
    rw [List.range'_succ]
    simp only [List.forIn_cons, Sem.run_bind]
    have pa : ∀ f : Nat → Int, (part 3 (row f).toArray (k * 1)).run Tryd.prog w = .ok (.int .i64 (f k)) w := fun f => by
      simp [part, Tryd.isAgg3, row_at f hk]
    rw [pa f, Result.andThen_ok, pa g, Result.andThen_ok, run_equalIn_int w d 3 .i64 .i64 _ _ Tryd.underlying3, Result.andThen_ok]
    by_cases hfg : f k = g k
    · simp only [hfg, beq_self_eq_true, Bool.not_true, Bool.false_eq_true, if_false, Sem.run_pure, Result.andThen_ok]
      rw [ih, List.all_cons]
      simp only [hfg, beq_self_eq_true, Bool.true_and]
    · have e : (f k == g k) = false := by simpa using hfg
      simp [e]

theorem same_arr (f g : Nat → Int) (d : Nat) (w : World) : (Op.equalIn (d + 2) 52 (.agg (row f).toArray) (.agg (row g).toArray)).run Tryd.prog w = .ok (rowB f g) w := by
  have h := arr_loop f g d w 64 0 (by omega)
  rw [Op.equalIn]
  simp only [Sem.run_bind, run_underlying Tryd.underlying52, Result.andThen_ok, Tryd.sizeOf3]
  simp only [Std.Legacy.Range.forIn_eq_forIn_range', Std.Legacy.Range.size, Nat.sub_zero, Nat.add_one_sub_one, Nat.div_one]
  rw [h]
  have e : rowB f g = (List.range' 0 64).all fun i => f i == g i := by unfold rowB; rw [List.range_eq_range']
  rw [e]
  cases (List.range' 0 64).all fun i => f i == g i <;> simp


def z0 : Nat → Int := fun _ => 0
theorem rowB_self (f : Nat → Int) : rowB f f = true := rowB_iff.2 fun _ _ => rfl
/-- a row of n tables without owners -/
def Zt (w : World) (g n : Nat) : Prop := ∀ i, i < n → ∀ j, j < 64 → w.cell? ((⟨g, i * 128, none⟩ : Addr).add j) = some (.int .i64 0)
theorem Zt.cell {w : World} {g n : Nat} (h : Zt w g n) {i : Nat} (hi : i < n) {j : Nat} (hj : j < 64) : w.cell? ((⟨g, i * 128, none⟩ : Addr).add j) = some (.int .i64 0) := h i hi j hj
theorem Zt.below {w w' : World} {g n : Nat} (h : Zt w g n) (hb : Below w.heap.size w w') : Zt w' g n := fun i hi j hj => (hb.cell (lt_of_cell (h i hi j hj))).trans (h i hi j hj)
theorem run_loadArr (w : World) (p : Addr) (h : ∀ j, j < 64 → w.cell? (p.add j) = some (.int .i64 0)) : (loadVar 52 p).run Tryd.prog w = .ok (.agg (row z0).toArray) w := by
  have hl : (loadCells p (row z0).length).run Tryd.prog w = .ok (row z0).toArray w :=
    run_loadCells_list (P := Tryd.prog) w p (row z0) (fun j v hv => by
      have hj : j < 64 := by
        have := (List.getElem?_eq_some_iff.1 hv).1
        rwa [row_len] at this
      rw [row_at z0 hj] at hv
      rw [h j hj]
      exact hv)
  have hi := arr_size z0
  cases hq : Tryd.prog.info? 52 with
  | none => simp [hq] at hi
  | some i =>
    have hs : i.size = (row z0).length := by simpa [hq] using hi
    simp [loadVar, sizeOf, typeInfo, hq, hs, hl, Result.andThen]
theorem quiet_arr {ops : Array Oper} {rest : List Oper} {Q : Act → Prop} {a : Act} {w : World} {dst : Option Tmp} {ty : TypeId} {pos : String} {after : Array Edge} {gd : Option (Nat × Bool)} {x : Operand} {p : Addr}
    (hx : a.eval x = .pointer (some p)) (hb : ∀ j, j < 64 → w.cell? (p.add j) = some (.int .i64 0)) (hw : Region.wanted ⟨dst, .load 52 x, ty, pos, after, gd⟩ (yielded ops a.tmps) = true)
    (h : wpQuiet Tryd.prog ops (fun w' => ∃ p : Later w, w' = p.now) Q rest (a.put dst (.agg (row z0).toArray))) : wpQuiet Tryd.prog ops (fun w' => ∃ p : Later w, w' = p.now) Q (⟨dst, .load 52 x, ty, pos, after, gd⟩ :: rest) a := by
  unfold wpQuiet
  rw [if_pos hw]
  refine ⟨.agg (row z0).toArray, fun w' hw' => ?_, h⟩
  obtain ⟨q, rfl⟩ := hw'
  unfold Oper.quietAt execOp
  have hl := run_loadArr q.now p (fun j hj => (q.below.cell (lt_of_cell (hb j hj))).trans (hb j hj))
  simp only [hx, Instr.loadAt, Instr.sureAddr, Sem.run_bind, Sem.run_pure, Result.andThen_ok, hl]
  exact ⟨rfl, rfl⟩
set_option maxHeartbeats 4000000 in
theorem agreed_zero (w : World) (g n : Nat) (hz : Zt w g n) (hn : n ≤ 10) : Calls Tryd.prog 11 #[.slice (some ⟨g, 0, none⟩) n n] w (Says true w) := by
  have HZ := Lib.hid hz
  clear hz
  go_enter Tryd.func11, Tryd.ntmps11
  go_wp2
  go_loopw [6] (fun i wr => ∃ k : Nat, k ≤ n ∧ i = .int .i64 k ∧ Below w.heap.size w wr) (fun i _ => n - (RowKit.intOf i).toNat)
  case atStart => exact ⟨0, by omega, rfl, Below.refl _ _⟩
  case round =>
    obtain ⟨w3, rfl⟩ : ∃ w3, w3 = wr := ⟨_, rfl⟩
    obtain ⟨k, hk, rfl, hb3⟩ := hrel
    have HB3 := Lib.hid hb3
    have HZ3 := Lib.hid (HZ.out.below hb3)
    clear hb3
    by_cases hlt : k < n
    · have h0 : 0 < n := by omega
      have HC : Hid (∀ j, j < 64 → w3.cell? ((⟨g, k * 128, none⟩ : Addr).add j) = some (.int .i64 0)) := Lib.hid fun j hj => HZ3.out k hlt j hj
      have HC0 : Hid (∀ j, j < 64 → w3.cell? ((⟨g, 0, none⟩ : Addr).add j) = some (.int .i64 0)) := Lib.hid fun j hj => by have h := HZ3.out 0 h0 j hj; rwa [Nat.zero_mul] at h
      have hEQ : ∀ w, (Op.equalIn 10000 52 (.agg (row z0).toArray) (.agg (row z0).toArray)).run Tryd.prog w = .ok true w := fun w => by rw [same_arr z0 z0 9998 w, rowB_self]
      go_wp2
      refine wp_region_later (by kernel_rfl) (by kernel_rfl) ?_
      repeat (first | ((with_reducible refine quiet_arr ?_ HC.out ?_ ?_); (rfl); (rfl); (simp only [Act.put, List.setIfInBounds_toArray, List.set_cons_zero, List.set_cons_succ])) | ((with_reducible refine quiet_arr ?_ HC0.out ?_ ?_); (rfl); (rfl); (simp only [Act.put, List.setIfInBounds_toArray, List.set_cons_zero, List.set_cons_succ])) | go_big_quiet_step (first | fail))
      refine wpQuiet_nil ?_
      intro _ hw'
      obtain ⟨pr, hw''⟩ := hw'
      subst hw''
      have HB8 := Lib.hid (HB3.out.trans (pr.below.mono HB3.out.size))
      generalize pr.now = w8 at *
      go_wp2
      go_roundw
      case rel => exact ⟨k + 1, by omega, by go_num, HB8.out⟩
      case measure => simp [RowKit.intOf]; omega
    · obtain rfl : k = n := by omega
      go_wp2
      go_ret
      exact ⟨rfl, HB3.out⟩
set_option maxHeartbeats 4000000 in
theorem claimants_zero (w : World) (b g : Nat) (hi : w.cell? ⟨b, 0, none⟩ = some (.int .i64 1)) (hz : Zt w g 1) :
    Calls Tryd.prog 12 #[.slice (some ⟨b, 0, none⟩) 1 1, .slice (some ⟨g, 0, none⟩) 1 1, .int .i64 0] w fun e w' => e = .returned (.slice none 0 0) ∧ w = w' := by
  have c0 : w.cell? ⟨g, 0, none⟩ = some (.int .i64 0) := hz 0 (by omega) 0 (by omega)
  clear hz
  go_enter Tryd.func12, Tryd.ntmps12
  go_wp2
  refine wp_loop_rounds 2 ?_
  rw [rounds_succ]
  go_wp2
  rw [rounds_succ]
  go_wp2
  go_ret
  exact ⟨rfl, rfl⟩
end Go.Proofs.YtemokbggchodgaaDoor
