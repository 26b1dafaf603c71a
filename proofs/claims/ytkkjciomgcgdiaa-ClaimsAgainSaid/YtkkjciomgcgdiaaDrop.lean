/-
  WHAT IS PROVED: the contract of Drop. Condition: none.
-/
import Derived.Test.YtkkjciomgcgdiaaClaim
import Derived.Deep.RegionHeld3
namespace Go.Proofs.Ytkkjciomgcgdiaa
open Go.RowKit

set_option maxRecDepth 100000 in
set_option maxHeartbeats 2000000 in
theorem drop_no (t : Tab) (id : Int) (s : Nat) (h : (okB t && idB id) = false) (w : World) :
    Calls Try.prog 19 #[.agg (tb t), .int .i64 id, .int .u64 (s : Int)] w (Gives Tab.zero 0 10 w) := by
  have HT : Hid (TabAt ((w.alloc (.cells (tb t) 24)).alloc (.cells (tb Tab.zero) 24)) w.heap.size t) := Lib.hid ((TabAt.new w t).alloc _)
  obtain ⟨b1, B1⟩ : ∃ b, Hid (okB t = b) := ⟨_, Lib.hid rfl⟩
  obtain ⟨b2, B2⟩ : ∃ b, Hid (betB 1 4294967296 id = b) := ⟨_, Lib.hid rfl⟩
  have HG : Hid ((b1 && b2) = false) := Lib.hid (by rw [← B1.out, ← B2.out]; exact h)
  clear h
  go_enter Try.func19, Try.ntmps19
  go_wp2_with (first | refine at_alloc rfl ?_ | refine at_load rfl HT.out rfl ?_)
  refine (right_any t _).mono ?_
  rintro e w1 ⟨rfl, hb1⟩
  obtain ⟨_, k2, hb2, _⟩ := two_tabs hb1
  have K2 := Lib.hid k2
  have HB2 := Lib.hid hb2
  clear hb1 k2 hb2
  rw [B1.out]
  cases b1
  · go_wp2_with (first | refine at_build rfl ?_ | refine at_store rfl rfl K2.out rfl ?_)
    exact bodyPost_ret (results_tab3 rfl _ _ (w.heap.size + 1) Tab.zero rfl (K2.out.store _)) rfl ⟨rfl, below_row HB2.out (by omega) _⟩
  · go_wp2_with (fail)
    refine (isid_any id _).mono ?_
    rintro e w2 ⟨rfl, rfl⟩
    rw [B2.out]
    cases b2
    · go_wp2_with (first | refine at_build rfl ?_ | refine at_store rfl rfl K2.out rfl ?_)
      exact bodyPost_ret (results_tab3 rfl _ _ (w.heap.size + 1) Tab.zero rfl (K2.out.store _)) rfl ⟨rfl, below_row HB2.out (by omega) _⟩
    · exact absurd HG.out (by decide)

/-- a whole table is read, whatever the order -/
theorem yields_load {ops : Array Oper} {S : World → Prop} {a : Act} {dst : Option Tmp} {ty : TypeId} {pos : String} {after : Array Edge} {x : Operand} {b : Nat} {t : Tab} (hx : a.eval x = .pointer (some ⟨b, 0, none⟩)) (hS : ∀ w, S w → TabAt w b t) :
    YieldsIf Try.prog ops S ⟨dst, .load 24 x, ty, pos, after, none⟩ (.agg (tb t)) a :=
  .inl ⟨rfl, fun w hw => by
    unfold execOp
    simp only [hx, Instr.loadAt, Instr.sureAddr, Sem.run_bind, Sem.run_pure, Result.andThen_ok, run_loadVar_row w b 24 24 (tb t) (0, 0) _ (hS w hw) Try.underlying24 rfl (tab_size t)]⟩
theorem yields_move {ops : Array Oper} {S : World → Prop} {a : Act} {dst : Option Tmp} {ty : TypeId} {pos : String} {after : Array Edge} {x : Operand} {v : Value} (hx : a.eval x = v) :
    YieldsIf Try.prog ops S ⟨dst, .move x, ty, pos, after, none⟩ v a :=
  .inl ⟨rfl, fun w _ => by subst hx; exact BigFrame.run_move (o := ⟨dst, .move x, ty, pos, after, none⟩) x rfl w⟩
theorem yields_assign {ops : Array Oper} {S : World → Prop} {a : Act} {dst : Option Tmp} {ty : TypeId} {pos : String} {after : Array Edge} {x : Operand} {v : Value} (hx : a.eval x = v) :
    YieldsIf Try.prog ops S ⟨dst, .assign x, ty, pos, after, none⟩ v a :=
  .inl ⟨rfl, fun w _ => by subst hx; exact BigFrame.run_assign (o := ⟨dst, .assign x, ty, pos, after, none⟩) x rfl w⟩

set_option maxRecDepth 100000 in
set_option maxHeartbeats 2000000 in
theorem drop_yes (t : Tab) (id : Int) (s : Nat) (hs : s < 18446744073709551616) (h : (okB t && idB id) = true) (w : World) :
    Calls Try.prog 19 #[.agg (tb t), .int .i64 id, .int .u64 (s : Int)] w (Gives (dropP t (goneN t id s).testBit) (goneN t id s) 0 w) := by
  have HT : Hid (TabAt ((w.alloc (.cells (tb t) 24)).alloc (.cells (tb Tab.zero) 24)) w.heap.size t) := Lib.hid ((TabAt.new w t).alloc _)
  have B1 : Hid (okB t = true) := Lib.hid (by simp at h; exact h.1)
  have B2 : Hid (betB 1 4294967296 id = true) := Lib.hid (by simp at h; exact h.2)
  have HL : Hid (bits .andNot .u64 ((ofN t id : Nat) : Int) (s : Int) = ((goneN t id s : Nat) : Int)) := Lib.hid (less_int (ofN_lt t id) hs)
  clear h
  go_enter Try.func19, Try.ntmps19
  go_wp2_with (first | refine at_alloc rfl ?_ | refine at_load rfl HT.out rfl ?_)
  refine (right_any t _).mono ?_
  rintro e w1 ⟨rfl, hb1⟩
  obtain ⟨k1, k2, hb2, hlt2⟩ := two_tabs hb1
  have K1 := Lib.hid k1
  have K2 := Lib.hid k2
  have HB2 := Lib.hid hb2
  have HLT2 := Lib.hid hlt2
  clear hb1 k1 k2 hb2 hlt2
  rw [B1.out]
  go_wp2_with (fail)
  refine (isid_any id _).mono ?_
  rintro e w2 ⟨rfl, rfl⟩
  rw [B2.out]
  go_wp2_with (fail)
  refine wp_region_held_drew (S := fun w' => TabAt w' w.heap.size t ∧ (∃ u, TabAt w' (w.heap.size + 1) u) ∧ Below w.heap.size w w') (by kernel_rfl) ⟨K1.out, ⟨_, K2.out⟩, below_drewN HB2.out 1⟩ (fun hHeld => ?_)
  refine wpAnyH_take (i := 0) (oi := ⟨some 20, .load 24 (.tmp 3), 24, "claims.go:68", #[], none⟩) (v := .agg (tb t)) rfl (by kernel_rfl) (by kernel_rfl) (by kernel_rfl) (fun _ _ _ h => h) (yields_load rfl fun _ h => h.1) (by assumption) ?_
  try simp only [Act.put, List.setIfInBounds_toArray, List.set_cons_zero, List.set_cons_succ]
  refine wpAnyH_take (i := 1) (oi := ⟨some 21, .load 24 (.tmp 3), 24, "claims.go:68", #[], none⟩) (v := .agg (tb t)) rfl (by kernel_rfl) (by kernel_rfl) (by kernel_rfl) (fun _ _ _ h => h) (yields_load rfl fun _ h => h.1) (by assumption) ?_
  try simp only [Act.put, List.setIfInBounds_toArray, List.set_cons_zero, List.set_cons_succ]
  refine wpAnyH_take (i := 2) (oi := ⟨some 22, .move (.tmp 1), 3, "claims.go:68", #[], none⟩) (v := .int .i64 id) rfl (by kernel_rfl) (by kernel_rfl) (by kernel_rfl) (fun _ _ _ h => h) (yields_move rfl) (by assumption) ?_
  try simp only [Act.put, List.setIfInBounds_toArray, List.set_cons_zero, List.set_cons_succ]
  refine wpAnyH_take (i := 4) (oi := ⟨some 24, .move (.tmp 2), 26, "claims.go:68", #[{ on := 6, ground := Ground.gcOnly Departure.lateStores }], none⟩) (v := .int .u64 (s : Int)) rfl (by kernel_rfl) (by kernel_rfl) (by kernel_rfl) (fun _ _ _ h => h) (yields_move rfl) (by assumption) ?_
  try simp only [Act.put, List.setIfInBounds_toArray, List.set_cons_zero, List.set_cons_succ]
  refine wpAnyH_ready (rs := [3]) (by kernel_rfl) (by simp) ?_
  refine AllReadyH.cons (o := ⟨some 23, .call { callee := .value (.func 20), args := #[.tmp 21, .tmp 22], argTypes := #[24, 3] }, 26, "claims.go:68", #[{ on := 1, ground := Ground.data }, { on := 2, ground := Ground.data }], none⟩) rfl (fun K hK => ?_) AllReadyH.nil
  go_simp
  refine (of_any t id _).mono ?_
  rintro e w3 ⟨rfl, hb3⟩
  obtain ⟨hA, ⟨u0, hU⟩, hB⟩ := hHeld
  refine hK.out _ _ ⟨hA.later hb3, ⟨u0, hU.later hb3⟩, hB.trans (hb3.mono hB.size)⟩ (fun hHeld => ?_)
  clear hK K hA hU hB hb3
  try simp only [Act.put, List.setIfInBounds_toArray, List.set_cons_zero, List.set_cons_succ]
  refine wpAnyH_take (i := 5) (oi := ⟨some 25, .binOp .andNot 26 (.tmp 23) (.tmp 24) 26, 26, "claims.go:68", #[{ on := 3, ground := Ground.data }, { on := 4, ground := Ground.data }, { on := 6, ground := Ground.gcOnly Departure.lateStores }], none⟩) (v := .int .u64 ((goneN t id s : Nat) : Int)) rfl (by kernel_rfl) (by kernel_rfl) (by kernel_rfl) (fun _ _ _ h => h) (Or.inl ⟨rfl, fun w' _ => ?_⟩) (by assumption) ?_
  · have h := HL.out
    go_simp
  try simp only [Act.put, List.setIfInBounds_toArray, List.set_cons_zero, List.set_cons_succ]
  refine wpAnyH_ready (rs := [6]) (by kernel_rfl) (by simp) ?_
  refine AllReadyH.cons (o := ⟨none, .store 24 (.tmp 6) (.tmp 20), 0, "claims.go:68", _, none⟩) rfl (fun K hK => ?_) AllReadyH.nil
  rw [if_pos (by rfl)]
  obtain ⟨hA, ⟨u0, hU⟩, hB⟩ := hHeld
  refine wp_store_row 24 (.tmp 6) (.tmp 20) rfl (w.heap.size + 1) (tb t) rfl rfl _ (tb u0) hU (tab_size t) (by rw [tb_size, tb_size]) (tb_cells t) ?_
  refine hK.out _ _ ⟨hA.row_far (by omega) _, ⟨_, hU.store t⟩, below_row hB (Nat.le_succ _) _⟩ (fun hHeld => ?_)
  have hU6 := hU.store t
  clear hK K hA hU hB
  simp only [Act.put]
  refine wpAnyH_take (i := 7) (oi := ⟨some 7, .assign (.tmp 25), 26, "claims.go:68", _, none⟩) (v := .int .u64 ((goneN t id s : Nat) : Int)) rfl (by kernel_rfl) (by kernel_rfl) (by kernel_rfl) (fun _ _ _ h => h) (yields_assign rfl) (by assumption) ?_
  try simp only [Act.put, List.setIfInBounds_toArray, List.set_cons_zero, List.set_cons_succ]
  refine wpAnyH_done (by kernel_rfl) ?_ _
  obtain ⟨hA, hx, hB⟩ := hHeld
  have K6 := Lib.hid hA
  have L6 := Lib.hid hU6
  have HB6 := Lib.hid hB
  clear hA hx hU6 hB HT
  generalize w3.setRow (w.heap.size + 1) (tb t) = w6 at *
  have hg : goneN t id s < 18446744073709551616 := less_lt _ _
  have HG := Lib.hid hg
  clear hg
  generalize goneN t id s = d at *
  have HE := Lib.hid (tb_congr (drop_all (t := t) HG.out))
  have HLT : Hid (∀ i, i ∈ slotsTo d 64 → i < 64) := Lib.hid fun i hi => (slotsTo_mem.1 hi).1
  have HLE := Lib.hid (slotsTo_le d 64)
  go_wp2_with (fail)
  refine (list_any d HG.out _).mono ?_
  rintro e w7 ⟨hb7, A, c, rfl, hnc, hcm, hr⟩
  have K7 := Lib.hid (K6.out.later hb7)
  have L7 := Lib.hid (L6.out.later hb7)
  have HB7 := Lib.hid (HB6.out.trans (hb7.mono HB6.out.size))
  have HR7 := Lib.hid (hr (w.heap.size + 1) (.inr L6.out.lt))
  clear hb7 hr
  generalize slotsTo d 64 = L at *
  go_wp2
  go_loopw [29] (fun i wr => ∃ k : Nat, k ≤ L.length ∧ i = .int .i64 k ∧ Hid (Below w.heap.size w wr) ∧ Hid (TabAt wr (w.heap.size + 1) (dropP t fun i => decide (i ∈ L.take k))) ∧ Hid (Reads wr (w.heap.size + 1) A L.length (ints L))) (fun i _ => L.length - (intOf i).toNat)
  case atStart =>
    exact ⟨0, by omega, rfl, HB7, Lib.hid (L7.out.like (drop_none t)), HR7⟩
  case round =>
    obtain ⟨k, hk, rfl, hb, hU, hR⟩ := hrel
    by_cases hlt : k < L.length
    · obtain ⟨ad, u, rfl, hu, hc⟩ := hR.out.at_ hlt
      obtain ⟨m, hm⟩ : ∃ m, L[k]? = some m := ⟨L[k], List.getElem?_eq_getElem hlt⟩
      rw [ints_at hm] at hu
      injection hu with hu
      subst hu
      have hm64 := HLT.out m (List.mem_of_getElem? hm)
      have hm0 : (0 : Int) ≤ m := by omega
      have hm1 : (m : Int) < 64 := by omega
      have HS := Lib.hid (take_snoc hm)
      have f0 := fun x => hU.out.fz x
      have HC1 := Lib.hid (drop_step (t := t) (l := L.take k) (m := m))
      obtain ⟨v0, hv0⟩ : ∃ v, wr.cell? ⟨w.heap.size + 1, m, none⟩ = some v := ⟨_, hU.out.o hm64⟩
      obtain ⟨v1, hv1⟩ : ∃ v, wr.cell? ⟨w.heap.size + 1, 64 + m, none⟩ = some v := ⟨_, hU.out.e hm64⟩
      go_wp2
      go_roundw
      case rel => exact ⟨k + 1, by omega, by go_num, Lib.hid (below_set (below_set hb.out (p := ⟨w.heap.size + 1, m, none⟩) (Nat.le_succ _) _) (p := ⟨w.heap.size + 1, 64 + m, none⟩) (Nat.le_succ _) _), Lib.hid (by rw [HS.out]; exact ((hU.out.setO hm64 _).setE hm64 _).like HC1.out), Lib.hid ((hR.out.set _ _).set _ _)⟩
      case measure => simp [intOf]; omega
    · obtain rfl : k = L.length := by omega
      have e := List.take_length (l := L)
      rw [e] at hU
      have HU5 : Hid (TabAt wr (w.heap.size + 1) (dropP t d.testBit)) := Lib.hid (by unfold TabAt; rw [← HE.out]; exact hU.out)
      clear e
      go_wp2_with (first | refine at_load rfl HU5.out rfl ?_ | refine at_store rfl rfl HU5.out rfl ?_)
      exact bodyPost_ret (results_tab3 rfl _ _ (w.heap.size + 1) _ rfl (HU5.out.store _)) rfl ⟨rfl, below_row hb.out (Nat.le_succ _) _⟩
end Go.Proofs.Ytkkjciomgcgdiaa
