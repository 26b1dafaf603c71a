/-
  WHAT IS PROVED: the contract of grapevinemade.State: the document's state has the same numbers, and known ones in new memory. Conditions: the known ones lie in memory, fewer than 100000.
-/
import Derived.Test.YtmjbacmaafbdlaaGreatDoorRSt
import Derived.Test.YtmjbacmaafbdlaaGreatDoorKnows
namespace Go.Proofs.YtmjbacmaafbdlaaGreatDoor.R
set_option maxRecDepth 100000
open Go.RowKit Go.Lib C

theorem rk_info : (Tryz.prog.info? 60).map (fun i => (i.zero, i.size, i.bytes)) = some (some (.agg #[.int .i64 0, .int .i64 0, .int .i64 0]), 3, 24) := by kernel_rfl
def _root_.Go.Proofs.YtmjbacmaafbdlaaGreatDoor.Sv.bare (s : Sv) : Sv := { s with a := none, n := 0, cap := 0 }
theorem rt_built (s : Sv) : Tryz.prog.built 36 [(0, .int .i64 s.i), (1, .int .i64 s.m), (2, .int .i64 s.c), (3, .int .i64 s.v), (4, .int .i64 s.f), (6, .agg (row s.t.o).toArray), (7, .agg (row s.t.e).toArray)] = some (stv s.bare) := by
  kernel_rfl
theorem stv_set5 (s : Sv) (A : Option Addr) (n c : Nat) : (stv s).setIfInBounds 5 (.slice A n c) = stv { s with a := A, n := n, cap := c } := by
  apply Array.ext_getElem?
  intro i
  by_cases h : i = 5
  · subst h
    rw [Array.getElem?_setIfInBounds_self_of_lt (by rw [stv_size]; omega), stv_5]
  · rw [Array.getElem?_setIfInBounds_ne (by omega)]
    rcases Nat.lt_or_ge i 6 with h1 | h1
    · match i, h1 with
      | 0, _ => rw [stv_0, stv_0]
      | 1, _ => rw [stv_1, stv_1]
      | 2, _ => rw [stv_2, stv_2]
      | 3, _ => rw [stv_3, stv_3]
      | 4, _ => rw [stv_4, stv_4]
      | 5, _ => exact absurd rfl h
    · obtain ⟨j, rfl⟩ : ∃ j, i = 6 + j := ⟨i - 6, by omega⟩
      rw [stv_t, stv_t]
theorem _root_.Go.Proofs.YtmjbacmaafbdlaaGreatDoor.RAt.set5 {w : World} {b : Nat} {s : Sv} (h : RAt w b s) (A : Option Addr) (n c : Nat) : RAt (w.setCell ⟨b, 5, none⟩ (.slice A n c)) b { s with a := A, n := n, cap := c } := by
  unfold RAt; rw [← stv_set5]; exact Blk.set_ h 5 _
section
variable {ops : Array Oper} {rest : List Oper} {Q : Exit → Act → World → Prop} {a : Act} {w : World} {dst : Option Tmp} {ty : TypeId} {pos : String} {after : Array Edge} {g : Option (Nat × Bool)} {p0 p1 p2 p3 p4 p6 p7 : Tmp} {s : Sv}
theorem rt_make (h0 : a.eval (.tmp p0) = .int .i64 s.i) (h1 : a.eval (.tmp p1) = .int .i64 s.m) (h2 : a.eval (.tmp p2) = .int .i64 s.c) (h3 : a.eval (.tmp p3) = .int .i64 s.v) (h4 : a.eval (.tmp p4) = .int .i64 s.f) (h6 : a.eval (.tmp p6) = .agg (row s.t.o).toArray) (h7 : a.eval (.tmp p7) = .agg (row s.t.e).toArray)
    (hw : Region.wanted ⟨dst, .build 36 #[(0, .tmp p0), (1, .tmp p1), (2, .tmp p2), (3, .tmp p3), (4, .tmp p4), (6, .tmp p6), (7, .tmp p7)], ty, pos, after, g⟩ (yielded ops a.tmps) = true)
    (h : wpList Tryz.prog ops Q rest (a.put dst (.agg (stv s.bare))) w) : wpList Tryz.prog ops Q (⟨dst, .build 36 #[(0, .tmp p0), (1, .tmp p1), (2, .tmp p2), (3, .tmp p3), (4, .tmp p4), (6, .tmp p6), (7, .tmp p7)], ty, pos, after, g⟩ :: rest) a w :=
  at_want hw fun _ hK => by
    have hk := hK _ _ h
    have e : ((#[(0, Operand.tmp p0), (1, .tmp p1), (2, .tmp p2), (3, .tmp p3), (4, .tmp p4), (6, .tmp p6), (7, .tmp p7)] : Array (Nat × Operand)).map fun (i, x) => (i, a.eval x)).toList = [(0, .int .i64 s.i), (1, .int .i64 s.m), (2, .int .i64 s.c), (3, .int .i64 s.v), (4, .int .i64 s.f), (6, .agg (row s.t.o).toArray), (7, .agg (row s.t.e).toArray)] := by
      simp only [List.map_toArray, List.map_cons, List.map_nil, h0, h1, h2, h3, h4, h6, h7]
    refine wp_build 36 #[(0, .tmp p0), (1, .tmp p1), (2, .tmp p2), (3, .tmp p3), (4, .tmp p4), (6, .tmp p6), (7, .tmp p7)] rfl ?_ ?_
    · rw [e, rt_built]; rfl
    · rw [e, rt_built]; exact hk
end

theorem _root_.Go.Proofs.YtmjbacmaafbdlaaGreatDoor.RAt.grown {w w' : World} {b : Nat} {s : Sv} {row : Option Nat} (h : RAt w b s) (hb : w.grownBy w' row) (hg : some b ≠ row) : RAt w' b s := Blk.grown h hb hg
theorem own_set_far {w : World} {base n k : Nat} {v : Value} {xs : List Value} {e : TypeId} (h : w.ownsRow base e k v n xs) {p : Addr} (hp : p.block < base) (u : Value) : (w.setCell p u).ownsRow base e k v n xs := by
  refine ⟨h.1, ?_⟩
  rcases h.2 with h0 | ⟨b, cap, cur, hv, hb, hh, hr⟩
  · exact .inl h0
  · exact .inr ⟨b, cap, cur, hv, hb, (Below.heap_setCell w p u b (by omega)).trans hh, hr⟩
theorem kn_of_own {w : World} {base n cap : Nat} {a : Option Addr} {l : List Kn} {e : TypeId} (h : w.ownsRow base e 3 (.slice a n cap) n (flatK l)) : KnAt w a n l := by
  obtain ⟨A2, c2, hv, _, _, hkn⟩ := own_kn h
  injection hv with hv1 hv2 hv3
  subst hv1
  exact hkn
theorem own_low {w : World} {base n cap k : Nat} {a : Option Addr} {xs : List Value} {e : TypeId} (h : w.ownsRow base e k (.slice a n cap) n xs) : ∀ ad, a = some ad → base ≤ ad.block := fun ad e1 => by
  subst e1
  rcases h.2 with ⟨h0, _⟩ | ⟨b, c, cur, hv, hb, _⟩
  · cases h0
  · injection hv with h1 h2 h3
    injection h1 with h1
    subst h1
    exact hb
theorem kn_row_far2 {w : World} {a : Option Addr} {n g : Nat} {l : List Kn} {cs : Array Value} (h : KnAt w a n l) (hb : ∀ ad, a = some ad → ad.block ≠ g) : KnAt (w.setRow g cs) a n l :=
  ⟨h.1, fun hn => by
    obtain ⟨ad, e, hlt, hc⟩ := h.2 hn
    have hf : ∀ j, (w.setRow g cs).cell? (ad.add j) = w.cell? (ad.add j) := fun j => World.cell?_of_block (setRow_other w g _ cs (by rw [block_of_add]; exact hb ad e))
    refine ⟨ad, e, by rw [size_setRow]; exact hlt, fun i s hs => ?_⟩
    obtain ⟨c0, c1, c2⟩ := hc i s hs
    exact ⟨(hf _).trans c0, (hf _).trans c1, (hf _).trans c2⟩⟩
theorem take_succ_kn {l : List Kn} {k : Nat} {r : Kn} (h : l[k]? = some r) : l.take (k + 1) = l.take k ++ [r] := by
  rw [List.take_add_one, h]; rfl
/-- the document's state is handed back -/
def MadeP (s : Sv) (l : List Kn) (w : World) (e : Ending) (w' : World) : Prop := Below w.heap.size w w' ∧ ∃ a cap, e = .returned (.agg (stv { s with a := a, cap := cap })) ∧ KnAt w' a s.n l
theorem three_objs {w w1 : World} {x y z : Obj} (h : Below (((w.alloc x).alloc y).alloc z).heap.size (((w.alloc x).alloc y).alloc z) w1) : Below w.heap.size w w1 ∧ w.heap.size + 3 ≤ w1.heap.size :=
  ⟨((((Below.refl _ w).alloc (Nat.le_refl _) x).alloc (by simp) y).alloc (by simp; omega) z).trans (h.mono (by simp; omega)), by have := h.size; simpa using this⟩

set_option maxHeartbeats 2000000 in
theorem made_any (s : Sv) (l : List Kn) (w : World) (hk : KnAt w s.a s.n l) (hN : s.n ≤ 100000) : Calls Tryz.prog 8 #[.agg (stv s)] w (MadeP s l w) := by
  have hl := hk.1
  obtain ⟨i0, hi0, hz0, hz1, hz2⟩ := info_parts rk_info
  have HI := Lib.hid hi0
  have HZ0 := Lib.hid hz0
  have HZ1 := Lib.hid hz1
  have HZ2 := Lib.hid hz2
  have J1 : Hid (StAt ((w.alloc (.cells (stv s) 30)).alloc (.cells (stv Sv.zero) 36)) w.heap.size s) := Lib.hid ((StAt.new w s).alloc _)
  obtain ⟨W, HW⟩ : ∃ W, Hid (((w.alloc (.cells (stv s) 30)).alloc (.cells (stv Sv.zero) 36)).alloc (.cells (stv s.bare) 36) = W) := ⟨_, Lib.hid rfl⟩
  have HB : Hid (Below w.heap.size w W ∧ w.heap.size + 3 ≤ W.heap.size) := Lib.hid (three_objs (x := .cells (stv s) 30) (y := .cells (stv Sv.zero) 36) (z := .cells (stv s.bare) 36) (by rw [HW.out]; exact Below.refl _ _))
  have K1 : Hid (StAt W w.heap.size s) := Lib.hid (by rw [← HW.out]; exact ((StAt.new w s).alloc _).alloc _)
  have K2 : Hid (RAt W (w.heap.size + 1) Sv.zero) := Lib.hid (by
    rw [← HW.out]
    have := RAt.new (w.alloc (.cells (stv s) 30)) Sv.zero
    have e : (w.alloc (.cells (stv s) 30)).heap.size = w.heap.size + 1 := by simp
    rw [e] at this
    exact this.alloc _)
  have K3 : Hid (RAt W (w.heap.size + 2) s.bare) := Lib.hid (by
    rw [← HW.out]
    have := RAt.new ((w.alloc (.cells (stv s) 30)).alloc (.cells (stv Sv.zero) 36)) s.bare
    simpa using this)
  have HK := Lib.hid hk
  obtain ⟨a0, a1, a2, a3, a4, a5⟩ := J1.out.box
  clear hi0 hz0 hz1 hz2 hk
  go_enter Tryz.func8, Tryz.ntmps8
  go_wp2_with (first | refine rt_alloc rfl ?_ | ((with_reducible refine st_owners (b := w.heap.size) (s := s) ?_ ?_ ?_ ?_); (rfl); (with_reducible exact J1.out); (rfl)) | ((with_reducible refine st_epochs (b := w.heap.size) (s := s) ?_ ?_ ?_ ?_); (rfl); (with_reducible exact J1.out); (rfl)) | ((with_reducible refine rt_make (s := s) ?_ ?_ ?_ ?_ ?_ ?_ ?_ ?_ ?_); (rfl); (rfl); (rfl); (rfl); (rfl); (rfl); (rfl); (rfl)) | ((with_reducible refine rt_store_new (u := s.bare) ?_ ?_ ?_ ?_); (rfl); (rfl); (rfl)))
  have h0 : w.heap.size + 1 + 1 = w.heap.size + 2 := rfl
  rw [HW.out, h0]
  have KB := Lib.hid HB.out.1
  have KS := Lib.hid HB.out.2
  clear HB HW J1 a0 a1 a2 a3 a4 a5
  have a5 := K1.out.box.2.2.2.2.2
  go_wp2
  go_loopw [29] (fun i wr => ∃ (k : Nat) (A : Option Addr) (c : Nat), k ≤ s.n ∧ i = .int .i64 (k : Int) ∧ Hid (RAt wr (w.heap.size + 2) { s with a := A, n := k, cap := c }) ∧ Hid (RAt wr (w.heap.size + 1) Sv.zero) ∧ Hid (Below w.heap.size w wr) ∧ Hid (w.heap.size + 3 ≤ wr.heap.size) ∧ Hid (wr.ownsRow (w.heap.size + 3) 60 3 (.slice A k c) k (flatK (l.take k)))) (fun i _ => s.n - (intOf i).toNat)
  case atStart => exact ⟨0, none, 0, Nat.zero_le _, rfl, K3, K2, KB, KS, Lib.hid ⟨by simp [flatK], .inl ⟨rfl, rfl⟩⟩⟩
  case round =>
    obtain ⟨k, A, c, hkn, rfl, R3, R2, RB, RS, RO⟩ := hrel
    by_cases hlt : k < s.n
    · obtain ⟨ad, r, hA, hr, hltb, c0, c1, c2⟩ := (HK.out.below RB.out).at_ hlt
      have HT := Lib.hid (take_succ_kn hr)
      have hk1 : 0 ≤ (k : Int) := by omega
      have L3 := Lib.hid ((R3.out.alloc (.cells #[.int .i64 r.i, .int .i64 r.m, .int .i64 r.c] 52)).alloc (.cells #[.int .i64 r.i, .int .i64 r.m, .int .i64 r.c] 60))
      have L2 := Lib.hid ((R2.out.alloc (.cells #[.int .i64 r.i, .int .i64 r.m, .int .i64 r.c] 52)).alloc (.cells #[.int .i64 r.i, .int .i64 r.m, .int .i64 r.c] 60))
      have LB := Lib.hid ((RB.out.alloc RB.out.size (.cells #[.int .i64 r.i, .int .i64 r.m, .int .i64 r.c] 52)).alloc (by have := RB.out.size; simp; omega) (.cells #[.int .i64 r.i, .int .i64 r.m, .int .i64 r.c] 60))
      have LO := Lib.hid ((RO.out.alloc (.cells #[.int .i64 r.i, .int .i64 r.m, .int .i64 r.c] 52)).alloc (.cells #[.int .i64 r.i, .int .i64 r.m, .int .i64 r.c] 60))
      have LN := Lib.hid (KnAt.one (wr.alloc (.cells #[.int .i64 r.i, .int .i64 r.m, .int .i64 r.c] 52)) r 60)
      have LS : Hid (w.heap.size + 3 ≤ ((wr.alloc (.cells #[.int .i64 r.i, .int .i64 r.m, .int .i64 r.c] 52)).alloc (.cells #[.int .i64 r.i, .int .i64 r.m, .int .i64 r.c] 60)).heap.size) := Lib.hid (by have := RS.out; simp; omega)
      have LO3 : Hid (some (w.heap.size + 2) ≠ (Value.slice A k c).ownBlock) := Lib.hid (fun e => by have := (RO.out.lt _ e.symm).1; omega)
      have LO2 : Hid (some (w.heap.size + 1) ≠ (Value.slice A k c).ownBlock) := Lib.hid (fun e => by have := (RO.out.lt _ e.symm).1; omega)
      have LOB : Hid (∀ j, (Value.slice A k c).ownBlock = some j → w.heap.size ≤ j) := Lib.hid (fun j e => by have := (RO.out.lt _ e).1; omega)
      have b5' := (R3.out.alloc (.cells #[.int .i64 r.i, .int .i64 r.m, .int .i64 r.c] 52)).box.2.2.2.2.2
      obtain ⟨x0, x1, x2⟩ := (KBx.new wr r).box
      have hsz : (wr.alloc (.cells #[.int .i64 r.i, .int .i64 r.m, .int .i64 r.c] 52)).heap.size = wr.heap.size + 1 := by simp
      rw [hsz] at LN
      go_wp2_with (at_builtin; refine wpList_append_kn _ rfl (.tmp 34) (.tmp 36) 34 rfl (w.heap.size + 3) 60 i0 _ Tryz.underlying34 HI.out HZ0.out HZ1.out HZ2.out rfl _ k _ rfl LO.out _ 1 1 [r] rfl LN.out (by omega) LS.out ?_; intro v' w' ho hg _; obtain ⟨A', c', rfl, _, _, _⟩ := own_kn ho; have M3 := L3.out.grown hg LO3.out; have m5 := M3.box.2.2.2.2.2; have mf := M3.fz 5; skip)
      have P3 := Lib.hid (M3.set5 A' (k + 1) c')
      have P2 := Lib.hid ((L2.out.grown hg LO2.out).far (p := ⟨w.heap.size + 2, 5, none⟩) (by show w.heap.size + 1 ≠ w.heap.size + 2; omega) (.slice A' (k + 1) c'))
      have PB := Lib.hid (below_set (LB.out.grown hg LB.out.size LOB.out) (p := ⟨w.heap.size + 2, 5, none⟩) (by show w.heap.size ≤ w.heap.size + 2; omega) (.slice A' (k + 1) c'))
      have PS : Hid (w.heap.size + 3 ≤ w'.heap.size) := Lib.hid (Nat.le_trans LS.out hg.size)
      rw [← HT.out] at ho
      have PO := Lib.hid (own_set_far ho (p := ⟨w.heap.size + 2, 5, none⟩) (by show w.heap.size + 2 < w.heap.size + 3; omega) (.slice A' (k + 1) c'))
      clear ho hg M3 m5 mf
      go_roundw
      case rel => exact ⟨k + 1, by omega, by go_num, A', c', P3, P2, PB, PS, PO⟩
      case measure => simp [intOf]; omega
    · obtain rfl : k = s.n := by omega
      have HTL : l.take s.n = l := by rw [← hl, List.take_length]
      rw [HTL] at RO
      have KN := Lib.hid (kn_of_own RO.out)
      have KL := own_low RO.out
      go_wp2_with (first | ((with_reducible refine rt_load (b := w.heap.size + 2) (s := { s with a := A, n := s.n, cap := c }) ?_ ?_ ?_ ?_); (rfl); (with_reducible exact R3.out); (rfl)) | ((with_reducible refine rt_store (b := w.heap.size + 1) (s := Sv.zero) (u := { s with a := A, n := s.n, cap := c }) ?_ ?_ ?_ ?_ ?_); (rfl); (rfl); (with_reducible exact R2.out); (rfl)))
      exact bodyPost_ret (results_rt1 rfl _ _ (w.heap.size + 1) _ rfl (R2.out.store _)) rfl ⟨below_row RB.out (Nat.le_succ _) _, A, c, rfl, kn_row_far2 KN.out (fun ad e => by have := KL ad e; omega)⟩
end Go.Proofs.YtmjbacmaafbdlaaGreatDoor.R
