/-
  WHAT IS PROVED: arguments of type []conf.State open as lists of states; the law's own function small; the law's anchor. Conditions: the library's variables hold what is laid there.
-/
import Derived.Test.YtijkdibccgdomaaGreatDoorKCarry
import Derived.Test.YtijkdibccgdomaaGreatDoorDC
import Derived.Test.YtijkdibccgdomaaGreatDoorArgs
namespace Go.Proofs.YtijkdibccgdomaaGreatDoor.Dsk
set_option maxRecDepth 100000
open Go.RowKit Go.Lib Go.ChangeShapes Go.WideShapes Go.ChangeAt Go.WideElems C

/-! ### a state read at any address -/
theorem run_loadVar_at {P : Program} (w : World) (p : Addr) (ty : TypeId) (cs : List Value) (d : TypeDesc) (hc : ∀ j v, cs[j]? = some v → w.cell? (p.add j) = some v)
    (hu : P.underlying ty = some d) (hd : d.isRow = true) (hi : (P.info? ty).map (·.size) = some cs.length) : (loadVar ty p).run P w = .ok (.agg cs.toArray) w := by
  have hl : (loadCells p cs.length).run P w = .ok cs.toArray w := run_loadCells_list (P := P) w p cs hc
  cases hq : P.info? ty with
  | none => simp [hq] at hi
  | some i =>
    have hs : i.size = cs.length := by simpa [hq] using hi
    have hagg : (isAgg ty).run P w = .ok true w := by
      unfold isAgg
      rw [Sem.run_bind, run_underlying hu w]
      cases d <;> simp_all
    simp [loadVar, Sem.run_bind, hagg, sizeOf, typeInfo, hq, hs, hl]
/-- the state s lies at the address p -/
def Lies (w : World) (p : Addr) (s : Sv) : Prop := ∀ j v, (stv s).toList[j]? = some v → w.cell? (p.add j) = some v
theorem Lies.below {w w' : World} {p : Addr} {s : Sv} (h : Lies w p s) (hp : p.block < w.heap.size) (hb : Below w.heap.size w w') : Lies w' p s := fun j v hj => (hb.cell (by rw [block_of_add]; exact hp)).trans (h j v hj)
theorem st_list (s : Sv) : (Tryz.prog.info? 29).map (·.size) = some (stv s).toList.length := by
  have : (stv s).toList.length = 134 := by rw [Array.length_toList, stv_size]
  rw [this]; exact st_info
section
variable {ops : Array Oper} {rest : List Oper} {Q : Exit → Act → World → Prop} {a : Act} {w : World} {dst : Option Tmp} {ty : TypeId} {pos : String} {after : Array Edge} {g : Option (Nat × Bool)} {x : Operand} {p : Addr} {s : Sv}
theorem st_load_at (hx : a.eval x = .pointer (some p)) (hT : Lies w p s) (hw : Region.wanted ⟨dst, .load 29 x, ty, pos, after, g⟩ (yielded ops a.tmps) = true)
    (h : wpList Tryz.prog ops Q rest (a.put dst (.agg (stv s))) w) : wpList Tryz.prog ops Q (⟨dst, .load 29 x, ty, pos, after, g⟩ :: rest) a w :=
  at_want hw fun _ hK => by
    have hk := hK _ _ h
    unfold Oper.wp execOp
    simp only [hx, Instr.loadAt, Instr.sureAddr, Sem.run_bind, Sem.run_pure, Result.andThen_ok, run_loadVar_at w p 29 (stv s).toList _ hT Tryz.underlying29 rfl (st_list s)]
    exact hk
end

/-! ### a list of states -/
structure Ar where
  d : Dt
  a : Option Addr
  n : Nat
  c : Nat
def Ar.s (r : Ar) : Sv := mkS r.d r.a r.n r.c
/-- the slice value '.slice A n c' holds the states L -/
def StsAt (w : World) (A : Option Addr) (n : Nat) (L : List Ar) : Prop :=
  L.length = n ∧ (0 < n → ∃ ad, A = some ad ∧ ad.block < w.heap.size ∧ ∀ i r, L[i]? = some r → Lies w (ad.add (i * 134)) r.s) ∧ ∀ r ∈ L, KnAt w r.a r.n r.d.l ∧ r.n ≤ 9223372036854775807
theorem StsAt.below {w w' : World} {A : Option Addr} {n : Nat} {L : List Ar} (h : StsAt w A n L) (hb : Below w.heap.size w w') : StsAt w' A n L :=
  ⟨h.1, fun hn => by
    obtain ⟨ad, e, hlt, hc⟩ := h.2.1 hn
    exact ⟨ad, e, Nat.lt_of_lt_of_le hlt hb.size, fun i r hr => (hc i r hr).below (by rw [block_of_add]; exact hlt) hb⟩, fun r hr => ⟨(h.2.2 r hr).1.below hb, (h.2.2 r hr).2⟩⟩
theorem StsAt.at_ {w : World} {A : Option Addr} {n k : Nat} {L : List Ar} (h : StsAt w A n L) (hk : k < n) : ∃ ad r, A = some ad ∧ L[k]? = some r ∧ ad.block < w.heap.size ∧ Lies w (ad.add (k * 134)) r.s ∧ KnAt w r.a r.n r.d.l ∧ r.n ≤ 9223372036854775807 := by
  obtain ⟨ad, e, hlt, hc⟩ := h.2.1 (by omega)
  have hl : k < L.length := by have := h.1; omega
  have hr := List.getElem?_eq_getElem hl
  obtain ⟨h1, h2⟩ := h.2.2 _ (List.mem_of_getElem? hr)
  exact ⟨ad, L[k], e, hr, hlt, hc k _ hr, h1, h2⟩
section
variable {H : Type} {enc : TypeId × Value → H}
theorem open_st_cells {W : World} {fuel : Nat} {cs : List Value} {x : DataW H × List MemPlace} (hf : DataW.trod enc Tryz.prog W 0 (fun _ => true) true fuel 29 cs = some x) :
    ∃ (dt : Dt) (A : Option Addr) (n cap : Nat), cs = (stv (mkS dt A n cap)).toList ∧ KnAt W A n dt.l ∧ n ≤ 9223372036854775807 := by
  obtain ⟨y0, y1, y2, y3, y4, m, hl, h0, h1, h2, h3, h4⟩ := trod_struct5 Tryz.underlying29 hf
  rw [cells_st] at hl
  simp only [cells_int, cells_ep, cells_ks, cells_tab] at h0 h1 h2 h3 h4
  obtain ⟨z0, e0, _, _⟩ := DataW.trod_int Tryz.underlying3 h0
  obtain ⟨z1, e1, _, _⟩ := DataW.trod_int Tryz.underlying3 h1
  obtain ⟨z2, z3, z4, e2⟩ := open_tri Tryz.underlying23 rfl rfl rfl rfl rfl rfl cells_ep h2
  obtain ⟨A, n, cap, l, e3, hnc, hcm, hk⟩ := open_kns h3
  obtain ⟨t, e4⟩ := open_tabL h4
  refine ⟨⟨z0, z1, z2, z3, z4, l, t⟩, A, n, cap, ?_, hk, by omega⟩
  have e : cs = stL (mkS ⟨z0, z1, z2, z3, z4, l, t⟩ A n cap) ++ tbL t := by
    have s0 : cs = cs.take 1 ++ (((cs.drop 1).take 1) ++ (((cs.drop 2).take 3) ++ (((cs.drop 5).take 1) ++ ((cs.drop 6).take 128)))) := by
      have a1 := (List.take_append_drop 1 cs).symm
      have a2 := (List.take_append_drop 1 (cs.drop 1)).symm
      have a3 := (List.take_append_drop 3 (cs.drop 2)).symm
      have a4 := (List.take_append_drop 1 (cs.drop 5)).symm
      rw [List.drop_drop] at a2 a3 a4
      have a5 : (cs.drop 6).take 128 = cs.drop 6 := List.take_of_length_le (by rw [List.length_drop, hl]; omega)
      rw [a5, ← a4, ← a3, ← a2, ← a1]
    rw [s0]
    simp only [List.drop_zero] at e0
    rw [e0, e1, e2, e3, e4]
    rfl
  rw [e]; rfl
/-- AN ARGUMENT OF TYPE []State -/
theorem open_sts {W : World} {r : Reach} {b0 : Nat} {v : Value} {d : DataW H} {p : List MemPlace} (hval : Value.okWide Tryz.prog W r b0 46 v) (h0 : DataW.Trod enc Tryz.prog W 0 (fun _ => true) true 46 v d p) :
    ∃ (A : Option Addr) (n cap : Nat) (L : List Ar), v = .slice A n cap ∧ n ≤ cap ∧ cap ≤ 9223372036854775807 ∧ StsAt W A n L := by
  obtain ⟨a0, len0, cap0, rfl⟩ := okWide_slice Tryz.underlying46 hval
  obtain ⟨fuel, hf⟩ := h0
  rcases Go.Deep.open_slice Tryz.underlying46 hf with ⟨hcs, _⟩ | ⟨a, len, cap, m, q, D, Pl, hcs, _, hl, hm, hmm, _, hx⟩
  · simp [Value.cells] at hcs
    obtain ⟨rfl, rfl, rfl⟩ := hcs
    exact ⟨none, 0, 0, [], rfl, Nat.le_refl _, by omega, rfl, fun h => absurd h (by omega), fun r hr => (by cases hr)⟩
  · simp [Value.cells] at hcs
    obtain ⟨rfl, rfl, rfl⟩ := hcs
    simp only [if_true] at hmm
    have each : ∀ i, i < len0 → ∃ s : Ar, Lies W (a.add (i * 134)) s.s ∧ KnAt W s.a s.n s.d.l ∧ s.n ≤ 9223372036854775807 := fun i hi => by
      obtain ⟨cs', hc, hd⟩ := hx i (by omega)
      rw [cells_st] at hc
      obtain ⟨dt, B, k, kc, rfl, hk, hkn⟩ := open_st_cells hd
      obtain ⟨_, _, hcell⟩ := World.cells?_some hc
      refine ⟨⟨dt, B, k, kc⟩, fun j v hj => ?_, hk, hkn⟩
      have hj2 : j < 134 := by
        have := (List.getElem?_eq_some_iff.1 hj).1
        rwa [Array.length_toList, stv_size] at this
      have hcj := hcell j hj2
      have e : (stv (mkS dt B k kc)).toList[j]? = some v := hj
      rw [hcj]
      first
        | exact e
        | (rw [List.getD_eq_getElem?_getD, e]; rfl)
        | simp [e]
    have : Inhabited Ar := ⟨⟨Dt.zero, none, 0, 0⟩⟩
    obtain ⟨g, hg⟩ := Go.Deep.choose_lt each
    have hget : ∀ i r, ((List.range len0).map g)[i]? = some r → i < len0 ∧ r = g i := fun i r hs => by
      rw [List.getElem?_map] at hs
      cases hi : (List.range len0)[i]? with
      | none => rw [hi] at hs; cases hs
      | some j =>
        rw [hi] at hs
        simp at hs
        have hil : i < len0 := by
          have := (List.getElem?_eq_some_iff.1 hi).1
          simpa using this
        have hj : j = i := by
          have := (List.getElem?_eq_some_iff.1 hi).2
          simp at this
          exact this.symm
        subst hj
        exact ⟨hil, hs.symm⟩
    refine ⟨some a, len0, cap0, (List.range len0).map g, rfl, hl, hm, by simp, fun hn => ⟨a, rfl, ?_, fun i r hr => ?_⟩, fun r hr => ?_⟩
    · have h0 := (hg 0 hn).1 0 _ (show (stv (g 0).s).toList[0]? = some (.int .i64 (g 0).s.i) by simpa using stv_0 (g 0).s)
      have := C.lt_of_cell h0
      rwa [block_of_add, block_of_add] at this
    · obtain ⟨hi, rfl⟩ := hget i r hr
      exact (hg i hi).1
    · obtain ⟨i, hi, rfl⟩ := List.mem_map.1 hr
      exact (hg i (by simpa using hi)).2
end
end Go.Proofs.YtijkdibccgdomaaGreatDoor.Dsk
