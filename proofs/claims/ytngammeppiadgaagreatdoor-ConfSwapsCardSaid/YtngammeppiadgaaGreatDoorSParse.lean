/-
  WHAT IS PROVED: the contract of the reader of a set's text. Conditions: strconv's errors hold errors; a text has less than 2^32 bytes.
-/
import Derived.Test.YtngammeppiadgaaGreatDoorSIter
namespace Go.Proofs.YtngammeppiadgaaGreatDoor.S
open Go.RowKit Go.Shelf
attribute [local go_sem] Oper.semAt_some

theorem stretches_any (t : List UInt8) (w : World) : Calls Tryz.prog 110 #[.string (str t)] w fun e w' =>
    e = .returned (.func (.func 124) #[] #[.pointer (some ⟨w.heap.size, 0, none⟩)]) ∧ w' = w.alloc (.cells #[.string (str t)] 9) := by
  have hmf : ∀ (fn : Fn) (first cap : Array Value) (w : World), (Instr.makeFunc fn first cap).run Tryz.prog w = .ok (.func fn first cap) w := fun _ _ _ _ => rfl
  go_enter Tryz.func110, Tryz.ntmps110
  go_wp2
  go_ret
  exact ⟨rfl, rfl⟩

theorem cell_new_b (W : World) (v : Value) (t : TypeId) : (W.alloc (.cells #[v] t)).cell? ⟨W.heap.size, 0, none⟩ = some v ∧ (W.alloc (.cells #[v] t)).frozen? ⟨W.heap.size, 0, none⟩ = false :=
  ⟨(Blk.new W t #[v]).cell 0, (Blk.new W t #[v]).frozen 0⟩
theorem cell_alloc_b {W : World} {a : Addr} {v : Value} (o : Obj) (h : W.cell? a = some v) : (W.alloc o).cell? a = some v := cell_kept h (World.grownBy_alloc W o none) (fun r e => by cases e)
theorem frozen_alloc_b {W : World} {a : Addr} {v : Value} (o : Obj) (h : W.cell? a = some v) (hf : W.frozen? a = false) : (W.alloc o).frozen? a = false := (frozen_kept h (World.grownBy_alloc W o none) (fun r e => by cases e)).trans hf
theorem pairs_snoc (pre : List Pair) (x : Pair) : setOf ((pre ++ [x]).map (·.1)) = setOf (pre.map (·.1)) ||| spanN x.1.1 x.1.2 := by
  rw [List.map_append]; exact set_snoc _ _

theorem keeps_drewN (W : World) (n : Nat) : KeepsOthers W (W.drewN n) := ⟨Nat.le_refl _, fun _ _ h _ => h⟩
theorem body_close {w W : World} {s : Nat} {v : Value} (k : Nat) (hB : Below w.heap.size w W) (hf : W.frozen? ⟨w.heap.size, 0, none⟩ = false) (hc : W.cell? ⟨w.heap.size, 0, none⟩ = some (.int .u64 (s : Int))) :
    KeepsOthers W ((W.drewN k).setCell ⟨w.heap.size, 0, none⟩ v) ∧ Below w.heap.size W ((W.drewN k).setCell ⟨w.heap.size, 0, none⟩ v) ∧
      (((W.drewN k).setCell ⟨w.heap.size, 0, none⟩ v).cell? ⟨w.heap.size, 0, none⟩ = some v ∧ ((W.drewN k).setCell ⟨w.heap.size, 0, none⟩ v).frozen? ⟨w.heap.size, 0, none⟩ = false) ∧
      Below w.heap.size w ((W.drewN k).setCell ⟨w.heap.size, 0, none⟩ v) := by
  have h2 : Below w.heap.size W ((W.drewN k).setCell ⟨w.heap.size, 0, none⟩ v) := (below_drewN (Below.refl _ _) k).setCell (p := ⟨w.heap.size, 0, none⟩) (Nat.le_refl _) _
  exact ⟨(keeps_drewN W k).trans (KeepsOthers.setCell _ _ _), h2, ⟨World.cell?_setCell_same' _ _ _ (by show (W.cell? _).isSome = true; rw [hc]; rfl), by rw [World.frozen?_setCell]; exact hf⟩, hB.trans h2⟩

set_option maxRecDepth 100000 in
set_option maxHeartbeats 4000000 in
theorem parse_in (t : List UInt8) (ht : t.length ≤ 4294967296) (w : World) (hE : Errs w) :
    CallsIn Fence.wide 4 Tryz.prog 92 #[.string (str t)] w fun e w' => e = .returned (.tuple #[.int .u64 ((parseP t).1 : Int), .int .i64 (parseP t).2]) ∧ Below w.heap.size w w' := by
  have hEB := ErrsB.of hE
  refine callsIn_of_wp_marks Tryz.func92 rfl trivial ?_ rfl
  simp only [Tryz.ntmps92, List.size_toArray, List.length_cons, List.length_nil, Nat.reduceAdd, Nat.reduceSub, Array.replicate_succ, Array.replicate_zero, List.push_toArray, List.append_toArray, List.nil_append, List.cons_append]
  gi_wp2_with (refine ⟨trivial, ?_⟩; gi_at_call 110; refine (callsIn_wide.2 (stretches_any t _)).mono ?_; rintro e w' ⟨rfl, rfl⟩)
  have hs0 := cell_new_b w (.int .u64 0) 57
  have hb0 := cell_new_b (w.alloc (.cells #[.int .u64 0] 57)) (.string (str t)) 9
  rw [World.size_alloc] at hb0
  have hB0 : Below w.heap.size w ((w.alloc (.cells #[.int .u64 0] 57)).alloc (.cells #[.string (str t)] 9)) := ((Below.refl _ w).alloc (Nat.le_refl _) _).alloc (by simp) _
  refine wpIn_rangeFunc_ownF rfl (by omega) (gf := 124) (lb := #[.pointer (some ⟨w.heap.size + 1, 0, none⟩)]) rfl trivial (enters_of Tryz.func124 (by kernel_rfl) rfl)
    (stretches_stops 3 (by omega) (w.heap.size + 1) w.heap.size t _ hb0.1 ht (by simp; omega) (hEB.below hB0)) belowK_t (belowK_b (by simp; omega)) (Below.refl _ _) (fun _ => rfl)
    (fun pre W => (W.cell? ⟨w.heap.size, 0, none⟩ = some (.int .u64 (setOf (pre.map (·.1)) : Nat)) ∧ W.frozen? ⟨w.heap.size, 0, none⟩ = false) ∧ Below w.heap.size w W)
    (fun _ _ _ => False)
    (OwnFrom.and (Own.from (fun s A B row hs hg hr => ⟨cell_kept hs.1 hg hr, (frozen_kept hs.1 hg hr).trans hs.2⟩) _) (ownFrom_below (Nat.le_refl _) (by simp; omega)))
    (fun _ _ _ _ _ hs _ _ => hs)
    ⟨⟨cell_alloc_b _ hs0.1, frozen_alloc_b _ hs0.1 hs0.2⟩, hB0⟩
    (fun x => { tmps := #[.string (str t), undef, .int .u64 0, .int .i64 0, .pointer (some ⟨w.heap.size, 0, none⟩), .int .i64 (x.1.1 : Int), .int .i64 (x.1.2 : Int), .string (str t), .func (.func 124) #[] #[.pointer (some ⟨w.heap.size + 1, 0, none⟩)], .int .i64 (x.1.1 : Int), .int .i64 (x.1.2 : Int), undef, undef, undef, undef, undef, undef, undef, undef, undef, undef], defers := [] }) ?assign ?body ?done ?stop
  case assign =>
    intro l x W K hK
    gi_wp2
    exact hK
  case body =>
    rintro l pre x W ⟨⟨hc, hf⟩, hB⟩ _
    have hmx : Tryz.prog.follows .mixedOrders = true := by kernel_rfl
    obtain ⟨⟨a, b⟩, ha, hb⟩ := x
    simp only at ha hb
    have hlt := set_lt (pre.map (·.1))
    have hlt2 := span_lt a b
    have HP := Lib.hid (pairs_snoc pre ⟨(a, b), ha, hb⟩)
    have HO := Lib.hid (u64_or_nat _ _ hlt hlt2)
    clear hlt hlt2
    generalize setOf (pre.map (·.1)) = s at *
    gi_wp2
    gi_region_with_o (refine ⟨trivial, ?_⟩; gi_at_call 111; refine (CallsIn.inRound l (callsIn_wide.2 (span_any a b ha hb _))).mono ?_; rintro e w' ⟨rfl, m, rfl⟩)
    all_goals gi_wp2
    all_goals
      obtain ⟨x1, x2, ⟨x3, x4⟩, x5⟩ := body_close (v := .int .u64 (bits BinOp.or IntKind.u64 (s : Int) (spanN a b : Nat))) (1 + m) hB hf hc
      exact ⟨x1, x2, ⟨by rw [x3, HO.out, HP.out], x4⟩, x5⟩
  case done =>
    rintro D ys W hD hys ⟨⟨hc, hf⟩, hB⟩ hK
    have HY := Lib.hid hys
    have hlt := set_lt (lens t.length t)
    rw [hys] at hc
    have HP : Hid (parseP t = if txt (setOf (lens t.length t)) = t then (setOf (lens t.length t), 0) else (0, 60)) := rfl
    clear hys
    generalize setOf (lens t.length t) = s at *
    have HD : w.heap.size < W.heap.size := lt_of_cell hc
    by_cases he : txt s = t
    · have HX : Hid (parseP t = (s, 0)) := by show _ = _; rw [HP.out, if_pos he]
      have hq : ((str (txt s)).toList == (str t).toList) = true := by rw [str_toList, str_toList, he]; simp
      clear he
      gi_wp2_with (fail)
      refine ⟨trivial, (callsIn_wide.2 (text_any s hlt _)).mono ?_⟩
      rintro e W2 ⟨rfl, hb2⟩
      have hc2 : W2.cell? ⟨w.heap.size, 0, none⟩ = some (.int .u64 (s : Int)) := (hb2.cell HD).trans hc
      have hK2 : W2.heap[D]? = some (.deferred (some [])) := (hb2.block D (Array.getElem?_eq_some_iff.1 hK).1).trans hK
      have hB2 : Below w.heap.size w W2 := hB.trans (hb2.mono (by omega))
      clear hc hK hB hb2
      gi_wp2
      refine ⟨by simp, .inl ⟨_, _, rfl, run_takeDeferred hK2, ?_⟩⟩
      exact ⟨_, results_tmp2 rfl _ _ _, by rw [HX.out]; rfl, hB2.trans (belowK_b (w := w) (Nat.le_refl _) W2 D _ _ (by simp at hD; omega) hK2 rfl rfl)⟩
    · have HX : Hid (parseP t = (0, 60)) := by show _ = _; rw [HP.out, if_neg he]
      have hq : ((str (txt s)).toList == (str t).toList) = false := by rw [str_toList, str_toList]; simpa using he
      clear he
      gi_wp2_with (fail)
      refine ⟨trivial, (callsIn_wide.2 (text_any s hlt _)).mono ?_⟩
      rintro e W2 ⟨rfl, hb2⟩
      have hK2 : W2.heap[D]? = some (.deferred (some [])) := (hb2.block D (Array.getElem?_eq_some_iff.1 hK).1).trans hK
      have hB2 : Below w.heap.size w W2 := hB.trans (hb2.mono (by omega))
      clear hc hK hB hb2
      gi_wp2
      refine ⟨by simp, .inl ⟨_, _, rfl, run_takeDeferred hK2, ?_⟩⟩
      exact ⟨_, results_tmp2 rfl _ _ _, by rw [HX.out]; rfl, hB2.trans (belowK_b (w := w) (Nat.le_refl _) W2 D _ _ (by simp at hD; omega) hK2 rfl rfl)⟩
  case stop =>
    rintro D c pre W _ _ h _
    exact h.elim

theorem parse_any (t : List UInt8) (ht : t.length ≤ 4294967296) (w : World) (hE : Errs w) :
    Calls Tryz.prog 92 #[.string (str t)] w fun e w' => e = .returned (.tuple #[.int .u64 ((parseP t).1 : Int), .int .i64 (parseP t).2]) ∧ Below w.heap.size w w' :=
  callsIn_wide.1 (parse_in t ht w hE)
end Go.Proofs.YtngammeppiadgaaGreatDoor.S
