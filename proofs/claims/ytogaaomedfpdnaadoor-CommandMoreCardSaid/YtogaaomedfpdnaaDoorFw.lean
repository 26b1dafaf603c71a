/-
  WHAT IS PROVED: contracts of command.firstOf, command.big and command.firstIn. Condition: the variable firsts holds what is laid there.
-/
import Derived.Test.YtogaaomedfpdnaaDoorPl
import Derived.Test.YtogaaomedfpdnaaDoorBack
import Derived.Laws.Rows
import Derived.Laws.ResultCell
import Derived.Deep.QuietTactic
import Derived.BigQuiet
import Derived.WalkKit
import Derived.LoopTactic
import Derived.Lib.Hide
import Derived.Outline
import Derived.Deep.CutRange
namespace Go.Proofs.YtogaaomedfpdnaaDoor
open Go.RowKit

def fA (f : Fw) : Array Value := #[.string (str f.w), .int .i64 f.k, .int .i64 f.a]
def firstsV : Array Value := (firstsL.flatMap fun f => (fA f).toList).toArray
/-- the variable firsts holds what is laid there -/
def FirstsAt (w : World) : Prop := ∃ t fr, w.heap[0]? = some (.cells firstsV t fr)
theorem FirstsAt.below {w w' : World} (h : FirstsAt w) (hb : Below w.heap.size w w') : FirstsAt w' := by
  obtain ⟨t, fr, h⟩ := h
  exact ⟨t, fr, (hb.block _ (Array.getElem?_eq_some_iff.1 h).1).trans h⟩
theorem firsts_size : (Tryd.prog.info? 65).map (·.size) = some firstsV.size := by
  rw [show firstsV.size = 45 from rfl]; kernel_rfl
theorem fw_size (f : Fw) : (Tryd.prog.info? 48).map (·.size) = some (fA f).size := by
  rw [show (fA f).size = 3 from rfl]; kernel_rfl
theorem firsts_len : firstsL.length = 15 := rfl
theorem firsts_ext : ∀ k, k < 15 → firstsV.extract (k * 3) (k * 3 + 3) = fA (firstsL.getD k noF) := by
  intro k hk
  match k, hk with
  | 0, _ => rfl
  | 1, _ => rfl
  | 2, _ => rfl
  | 3, _ => rfl
  | 4, _ => rfl
  | 5, _ => rfl
  | 6, _ => rfl
  | 7, _ => rfl
  | 8, _ => rfl
  | 9, _ => rfl
  | 10, _ => rfl
  | 11, _ => rfl
  | 12, _ => rfl
  | 13, _ => rfl
  | 14, _ => rfl
theorem index_first {k : Nat} (hk : k < 15) (w : World) : (Instr.index 65 (.agg firstsV) (.int .i64 (k : Int))).run Tryd.prog w = .ok (.agg (fA (firstsL.getD k noF))) w := by
  have h1 : (0 : Int) ≤ k := by omega
  simp [Instr.index, asIntOf, run_underlying Tryd.underlying65, h1, hk, part, Tryd.isAgg48, Tryd.sizeOf48, firsts_ext k hk]
theorem find_at {p : Fw → Bool} : ∀ {l : List Fw} {k : Nat}, k < l.length → p (l.getD k noF) = true → (∀ j, j < k → p (l.getD j noF) = false) → l.find? p = some (l.getD k noF)
  | [], k, hk, _, _ => absurd hk (by simp)
  | f :: l, 0, _, hp, _ => by simpa using List.find?_cons_of_pos (l := l) (by simpa using hp)
  | f :: l, k + 1, hk, hp, hn => by
    have h0 := hn 0 (by omega)
    have ih := find_at (l := l) (k := k) (by simpa using hk) (by simpa using hp) (fun j hj => by simpa using hn (j + 1) (by omega))
    rw [List.find?_cons_of_neg (by simpa using h0), ih]
    simp
theorem find_none {p : Fw → Bool} : ∀ {l : List Fw}, (∀ j, j < l.length → p (l.getD j noF) = false) → l.find? p = none
  | [], _ => rfl
  | f :: l, hn => by
    have h0 := hn 0 (by simp)
    rw [List.find?_cons_of_neg (by simpa using h0)]
    exact find_none (l := l) fun j hj => by simpa using hn (j + 1) (by simpa using hj)
/-- nobody ahead of the k-th one has that kind -/
def NoK (z : Int) (k : Nat) : Prop := ∀ j, j < k → (firstsL.getD j noF).k ≠ z
theorem ofK_at {z : Int} {k : Nat} (hk : k < 15) (h : NoK z k) (e : (firstsL.getD k noF).k = z) : ofK z = firstsL.getD k noF := by
  unfold ofK
  rw [find_at (p := fun f => decide (f.k = z)) (l := firstsL) (k := k) hk (by simpa using e) (fun j hj => by simpa using h j hj)]
  rfl
theorem ofK_none {z : Int} (h : NoK z 15) : ofK z = noF := by
  unfold ofK
  rw [find_none (p := fun f => decide (f.k = z)) (l := firstsL) (fun j hj => by simpa using h j hj)]
  rfl
/-- a first word is handed back -/
def GivesF (f : Fw) (w : World) (e : Ending) (w' : World) : Prop := e = .returned (.agg (fA f)) ∧ Below w.heap.size w w'

theorem blk_store3 {w : World} {b : Nat} {t : TypeId} {f : Fw} (h : Blk w b t (fA f)) (g : Fw) : Blk (((w.setCell ⟨b, 0, none⟩ (.string (str g.w))).setCell ⟨b, 1, none⟩ (.int .i64 g.k)).setCell ⟨b, 2, none⟩ (.int .i64 g.a)) b t (fA g) := by
  have h3 := ((Blk.set_ h 0 (.string (str g.w))).set_ 1 (.int .i64 g.k)).set_ 2 (.int .i64 g.a)
  exact h3
theorem below_store3 {w w' : World} {B b : Nat} (h : Below B w w') (hb : B ≤ b) (x y z : Value) : Below B w (((w'.setCell ⟨b, 0, none⟩ x).setCell ⟨b, 1, none⟩ y).setCell ⟨b, 2, none⟩ z) :=
  ((h.setCell (p := ⟨b, 0, none⟩) hb x).setCell (p := ⟨b, 1, none⟩) hb y).setCell (p := ⟨b, 2, none⟩) hb z

set_option maxRecDepth 100000 in
set_option maxHeartbeats 1000000 in
theorem firstof_any (z : Int) (w : World) (hF : FirstsAt w) : Calls Tryd.prog 30 #[.int .i64 z] w (GivesF (ofK z) w) := by
  obtain ⟨tF, frF, hF⟩ := hF
  have hb0 : Below w.heap.size w (w.alloc (.cells (fA noF) 48)) := (Below.refl _ w).alloc (Nat.le_refl _) _
  have HF : Hid ((w.alloc (.cells (fA noF) 48)).heap[0]? = some (.cells firstsV tF frF)) := Lib.hid ((hb0.block _ (Array.getElem?_eq_some_iff.1 hF).1).trans hF)
  have HB0 := Lib.hid hb0
  have HR0 : Hid (Blk (w.alloc (.cells (fA noF) 48)) w.heap.size 48 (fA noF)) := Lib.hid (Blk.new w _ _)
  clear hb0 hF
  go_enter Tryd.func30, Tryd.ntmps30
  go_wp2_with (refine wpList_load_row rfl 65 (.global 0) rfl 0 rfl _ firstsV _ _ HF.out Tryd.underlying65 rfl firsts_size ?_)
  go_loopw [6] (fun i wr => ∃ k : Nat, k ≤ 15 ∧ i = .int .i64 k ∧ Hid (NoK z k) ∧ Hid (Blk wr w.heap.size 48 (fA noF)) ∧ Hid (Below w.heap.size w wr)) (fun i _ => 15 - (intOf i).toNat)
  case atStart => exact ⟨0, by omega, rfl, Lib.hid (fun j hj => absurd hj (by omega)), HR0, HB0⟩
  case round =>
    obtain ⟨k, hk, rfl, hn, hr, hb⟩ := hrel
    by_cases hlt : k < 15
    · have hk0 : (0 : Int) ≤ k := by omega
      have hk1 : (k : Int) < 15 := by omega
      have hix := index_first hlt
      have HA := Lib.hid (@ofK_at z k hlt hn.out)
      have HS : Hid ((firstsL.getD k noF).k ≠ z → NoK z (k + 1)) := Lib.hid fun h j hj => by
        rcases Nat.lt_or_ge j k with h1 | h1
        · exact hn.out j h1
        · obtain rfl : j = k := by omega
          exact h
      generalize firstsL.getD k noF = f at *
      have K : Hid (Blk (wr.alloc (.cells #[.string (str f.w), .int .i64 f.k, .int .i64 f.a] 48)) w.heap.size 48 (fA noF)) := Lib.hid (hr.out.alloc _)
      have KB : Hid (Below w.heap.size w (wr.alloc (.cells #[.string (str f.w), .int .i64 f.k, .int .i64 f.a] 48))) := Lib.hid (hb.out.alloc hb.out.size _)
      have c0 : (wr.alloc (.cells #[.string (str f.w), .int .i64 f.k, .int .i64 f.a] 48)).cell? ⟨w.heap.size, 0, none⟩ = some (.string ⟨#[]⟩) := K.out.cell 0
      have c1 : (wr.alloc (.cells #[.string (str f.w), .int .i64 f.k, .int .i64 f.a] 48)).cell? ⟨w.heap.size, 1, none⟩ = some (.int .i64 0) := K.out.cell 1
      have c2 : (wr.alloc (.cells #[.string (str f.w), .int .i64 f.k, .int .i64 f.a] 48)).cell? ⟨w.heap.size, 2, none⟩ = some (.int .i64 0) := K.out.cell 2
      have fz := K.out.frozen
      have d0 : wr.cell? ⟨w.heap.size, 0, none⟩ = some (.string ⟨#[]⟩) := hr.out.cell 0
      have d1 : wr.cell? ⟨w.heap.size, 1, none⟩ = some (.int .i64 0) := hr.out.cell 1
      have d2 : wr.cell? ⟨w.heap.size, 2, none⟩ = some (.int .i64 0) := hr.out.cell 2
      have fy := hr.out.frozen
      have hsz : w.heap.size < wr.heap.size := hr.out.lt
      have HR := hr
      have HBR := hb
      clear hr hb hn
      have hfv : fA f = #[.string (str f.w), .int .i64 f.k, .int .i64 f.a] := rfl
      by_cases he : f.k = z
      · have hq : (f.k == z) = true := by simpa using he
        have HX := Lib.hid (HA.out he)
        clear he HA HS
        go_wp2
        exact bodyPost_ret (results_cell_row rfl _ _ w.heap.size _ (fA f) (0, 0) _ rfl ((blk_store3 HR.out f).alloc _) Tryd.underlying48 rfl (fw_size f)) rfl ⟨by rw [HX.out], (below_store3 HBR.out (Nat.le_refl _) _ _ _).alloc (by simpa using HBR.out.size) _⟩
      · have hq : (f.k == z) = false := by simpa using he
        have HX := Lib.hid (HS.out he)
        clear he HA HS
        go_wp2
        go_roundw
        case rel => exact ⟨k + 1, by omega, by go_num, HX, K, KB⟩
        case measure => simp [intOf]; omega
    · obtain rfl : k = 15 := by omega
      have HX := Lib.hid (ofK_none hn.out)
      have c0 : wr.cell? ⟨w.heap.size, 0, none⟩ = some (.string ⟨#[]⟩) := hr.out.cell 0
      have c1 : wr.cell? ⟨w.heap.size, 1, none⟩ = some (.int .i64 0) := hr.out.cell 1
      have c2 : wr.cell? ⟨w.heap.size, 2, none⟩ = some (.int .i64 0) := hr.out.cell 2
      have fz := hr.out.frozen
      go_wp2
      exact bodyPost_ret (results_cell_row rfl _ _ w.heap.size _ (fA noF) (0, 0) _ rfl (blk_store3 hr.out noF) Tryd.underlying48 rfl (fw_size noF)) rfl ⟨by rw [HX.out], below_store3 hb.out (Nat.le_refl _) _ _ _⟩
end Go.Proofs.YtogaaomedfpdnaaDoor
