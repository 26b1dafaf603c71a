/-
  WHAT IS PROVED: a slice of replicas in memory (as an argument, as a row of the call's own, a part of one); arguments of the types []rank.Replica and rank.Replica; append at replicas. No condition beyond sizes.
-/
import Derived.Test.YtdeppjoehnlbnaaPlain
import Derived.Test.YtdeppjoehnlbnaaLaw
import Derived.Maps.AppendAt
import Derived.OwnWalk
import Derived.Deep.Strs
import Derived.OpenShut
import Derived.OpenVars
namespace Go.Proofs.Ytdeppjoehnlbnaa
open Go.RowKit Go.ChangeShapes Go.WideShapes Go.ChangeAt Go.WideElems

def inInt (z : Int) : Prop := -9223372036854775808 ≤ z ∧ z ≤ 9223372036854775807
def Rep.fits (s : Rep) : Prop := inInt s.id ∧ inInt s.off
/-- a replica's cells -/
def encR (r : Rep) : List Value := [.int .i64 r.id, .int .i64 r.off]
def flatR (l : List Rep) : List Value := l.flatMap encR
theorem flat_len : ∀ l : List Rep, (flatR l).length = l.length * 2
  | [] => rfl
  | r :: l => by have := flat_len l; simp [flatR, encR] at this ⊢; omega
theorem flat_append (l m : List Rep) : flatR (l ++ m) = flatR l ++ flatR m := by unfold flatR; rw [List.flatMap_append]
theorem flat_one (l : List Rep) : ∀ u ∈ flatR l, u.oneCell' = true := by
  intro u hu
  obtain ⟨r, _, hr⟩ := List.mem_flatMap.1 hu
  simp [encR] at hr
  rcases hr with rfl | rfl <;> rfl
theorem flat_get : ∀ {l : List Rep} {i : Nat} {r : Rep}, l[i]? = some r → (flatR l)[i * 2]? = some (.int .i64 r.id) ∧ (flatR l)[i * 2 + 1]? = some (.int .i64 r.off)
  | x :: l, 0, r, h => by simp at h; subst h; exact ⟨rfl, rfl⟩
  | x :: l, i + 1, r, h => by
    have := flat_get (l := l) (i := i) (r := r) (by simpa using h)
    rw [show (i + 1) * 2 = i * 2 + 2 by omega, show i * 2 + 2 + 1 = i * 2 + 1 + 2 by omega]
    exact this
theorem flat_at : ∀ {l : List Rep} {j : Nat} {u : Value}, (flatR l)[j]? = some u → ∃ i r, l[i]? = some r ∧ ((j = i * 2 ∧ u = .int .i64 r.id) ∨ (j = i * 2 + 1 ∧ u = .int .i64 r.off))
  | x :: l, 0, u, h => by simp [flatR, encR] at h; exact ⟨0, x, rfl, .inl ⟨rfl, h.symm⟩⟩
  | x :: l, 1, u, h => by simp [flatR, encR] at h; exact ⟨0, x, rfl, .inr ⟨rfl, h.symm⟩⟩
  | x :: l, j + 2, u, h => by
    obtain ⟨i, r, hi, h⟩ := flat_at (l := l) (j := j) (u := u) h
    refine ⟨i + 1, r, by simpa using hi, ?_⟩
    rcases h with ⟨e, h⟩ | ⟨e, h⟩
    · exact .inl ⟨by omega, h⟩
    · exact .inr ⟨by omega, h⟩

/-- the slice value '.slice A n c' holds the replicas l, in a block that is there -/
def RepsAt (w : World) (A : Option Addr) (n : Nat) (l : List Rep) : Prop :=
  l.length = n ∧ (0 < n → ∃ ad, A = some ad ∧ ad.block < w.heap.size ∧ ∀ i s, l[i]? = some s → w.cell? (ad.add (i * 2)) = some (.int .i64 s.id) ∧ w.cell? (ad.add (i * 2 + 1)) = some (.int .i64 s.off))
theorem add_succ (x : Addr) (j : Nat) : x.add (j + 1) = ⟨x.block, x.off + (j + 1), none⟩ := by unfold Addr.add; rw [if_neg (by omega)]

section
variable {w w' : World} {A : Option Addr} {ad : Addr} {n k : Nat} {l : List Rep}
theorem RepsAt.nil_ (w : World) (A : Option Addr) : RepsAt w A 0 [] := ⟨rfl, fun h => absurd h (by omega)⟩
theorem RepsAt.below (h : RepsAt w A n l) (hb : Below w.heap.size w w') : RepsAt w' A n l :=
  ⟨h.1, fun hn => by
    obtain ⟨ad, e, hlt, hc⟩ := h.2 hn
    refine ⟨ad, e, Nat.lt_of_lt_of_le hlt hb.size, fun i s hs => ?_⟩
    obtain ⟨c0, c1⟩ := hc i s hs
    exact ⟨(hb.cell (by rw [block_of_add]; exact hlt)).trans c0, (hb.cell (by rw [block_of_add]; exact hlt)).trans c1⟩⟩
theorem RepsAt.at_ (h : RepsAt w A n l) (hk : k < n) :
    ∃ ad s, A = some ad ∧ l[k]? = some s ∧ ad.block < w.heap.size ∧ w.cell? (ad.add (k * 2)) = some (.int .i64 s.id) ∧ w.cell? ⟨(ad.add (k * 2)).block, (ad.add (k * 2)).off + 1, none⟩ = some (.int .i64 s.off) := by
  obtain ⟨ad, e, hlt, hc⟩ := h.2 (by omega)
  have hl : k < l.length := by have := h.1; omega
  obtain ⟨c0, c1⟩ := hc k _ (List.getElem?_eq_getElem hl)
  rw [← add_of_add, add_succ] at c1
  exact ⟨ad, l[k], e, List.getElem?_eq_getElem hl, hlt, c0, c1⟩
theorem RepsAt.take (h : RepsAt w A n l) (hk : k ≤ n) : RepsAt w A k (l.take k) := by
  refine ⟨by rw [List.length_take, h.1]; omega, fun hn => ?_⟩
  obtain ⟨ad, e, hlt, hc⟩ := h.2 (by omega)
  exact ⟨ad, e, hlt, fun i s hs => hc i s (by rw [List.getElem?_take] at hs; split at hs <;> simp_all)⟩
theorem RepsAt.cut (h : RepsAt w A n l) {cap : Nat} (hk : k ≤ n) (hc : n ≤ cap) :
    RepsAt w (if cap = k then A else A.map (·.add (k * 2))) (n - k) (l.drop k) := by
  refine ⟨by rw [List.length_drop, h.1], fun hn => ?_⟩
  obtain ⟨ad, rfl, hlt, hcell⟩ := h.2 (by omega)
  rw [if_neg (by omega)]
  refine ⟨ad.add (k * 2), rfl, by rw [block_of_add]; exact hlt, fun i s hs => ?_⟩
  have hs' : l[k + i]? = some s := by rw [← hs, List.getElem?_drop]
  obtain ⟨c0, c1⟩ := hcell _ s hs'
  rw [add_of_add, add_of_add]
  rw [show k * 2 + i * 2 = (k + i) * 2 by omega, show k * 2 + (i * 2 + 1) = (k + i) * 2 + 1 by omega]
  exact ⟨c0, c1⟩
theorem RepsAt.cells (h : RepsAt w (some ad) n l) : ∀ j u, (flatR l)[j]? = some u → w.cell? (ad.add j) = some u := fun j u hu => by
  obtain ⟨i, r, hi, hr⟩ := flat_at hu
  have hn : 0 < n := by have := h.1; have := (List.getElem?_eq_some_iff.1 hi).1; omega
  obtain ⟨ad', e, _, hc⟩ := h.2 hn
  cases e
  obtain ⟨c0, c1⟩ := hc i r hi
  rcases hr with ⟨rfl, rfl⟩ | ⟨rfl, rfl⟩
  · exact c0
  · exact c1
theorem RepsAt.of_cells {ad : Addr} (hl : l.length = n) (hlt : 0 < n → ad.block < w.heap.size) (hc : ∀ j u, (flatR l)[j]? = some u → w.cell? (ad.add j) = some u) : RepsAt w (some ad) n l :=
  ⟨hl, fun hn => ⟨ad, rfl, hlt hn, fun _ _ hs => ⟨hc _ _ (flat_get hs).1, hc _ _ (flat_get hs).2⟩⟩⟩
end

/-- a row of the call's own -/
theorem own_reps {w : World} {base n : Nat} {e : TypeId} {v : Value} {l : List Rep} (h : w.ownsRow base e 2 v n (flatR l)) :
    ∃ A cap, v = .slice A n cap ∧ n ≤ cap ∧ cap ≤ 9223372036854775807 ∧ RepsAt w A n l := by
  have hl : l.length = n := by have := h.1; rw [flat_len] at this; omega
  rcases h.2 with ⟨rfl, rfl⟩ | ⟨b, cap, cur, rfl, hb, hh, hnc, hcm, _⟩
  · obtain rfl := List.eq_nil_of_length_eq_zero hl
    exact ⟨none, 0, rfl, Nat.le_refl _, by omega, RepsAt.nil_ _ _⟩
  · exact ⟨some ⟨b, 0, none⟩, cap, rfl, hnc, by unfold maxLen at hcm; omega, RepsAt.of_cells hl (fun _ => (Array.getElem?_eq_some_iff.1 hh).1) (h.cells rfl)⟩

theorem cells_rep : Try.prog.cellsOf 29 = 2 := by kernel_rfl
theorem cells_int : Try.prog.cellsOf 3 = 1 := by kernel_rfl
theorem rep_info : (Try.prog.info? 29).map (fun i => (i.zero, i.size, i.bytes)) = some (some (.agg #[.int .i64 0, .int .i64 0]), 2, 16) := by kernel_rfl
theorem info_parts {P : Program} {t : TypeId} {z : Option Value} {s b : Nat} (h : (P.info? t).map (fun i => (i.zero, i.size, i.bytes)) = some (z, s, b)) : ∃ i, P.info? t = some i ∧ i.zero = z ∧ i.size = s ∧ i.bytes = b := by
  cases hi : P.info? t with
  | none => rw [hi] at h; cases h
  | some i => rw [hi] at h; simp at h; exact ⟨i, rfl, h.1, h.2.1, h.2.2⟩
theorem lt_of_cell {w : World} {a : Addr} {v : Value} (h : w.cell? a = some v) : a.block < w.heap.size := by
  unfold World.cell? at h
  rcases Nat.lt_or_ge a.block w.heap.size with h' | h'
  · exact h'
  · rw [Array.getElem?_eq_none h'] at h
    cases h
theorem wf_i64 {z : Int} (h : (Lit.int .i64 z).wf = true) : inInt z := by
  have e1 : IntKind.i64.min = -9223372036854775808 := by decide
  simp [Lit.wf] at h
  rw [e1] at h
  exact h

section
variable {H : Type} {enc : TypeId × Value → H}
theorem open_rep_cells {W : World} {sp : Nat → Bool} {hd : Bool} {fuel : Nat} {cs : List Value} {x : DataW H × List MemPlace} (h : DataW.trod enc Try.prog W 0 sp hd fuel 29 cs = some x) :
    ∃ s : Rep, s.fits ∧ cs = [.int .i64 s.id, .int .i64 s.off] := by
  obtain ⟨y0, y1, m, _, hl, h0, h1⟩ := Go.ChangeShapes.trod_struct2 Try.underlying29 h
  rw [cells_rep] at hl
  match cs, hl with
  | [a, b], _ =>
    simp only [cells_int] at h0 h1
    obtain ⟨z0, e0, _, w0⟩ := DataW.trod_int Try.underlying3 h0
    obtain ⟨z1, e1, _, w1⟩ := DataW.trod_int Try.underlying3 h1
    simp at e0 e1
    subst e0; subst e1
    exact ⟨⟨z0, z1⟩, ⟨wf_i64 w0, wf_i64 w1⟩, rfl⟩

/-- AN ARGUMENT OF TYPE Replica -/
theorem open_rep {W : World} {r : Reach} {b0 : Nat} {v : Value} {d : DataW H} {p : List MemPlace}
    (hval : Value.okWide Try.prog W r b0 29 v) (h0 : DataW.Trod enc Try.prog W 0 (fun _ => true) true 29 v d p) :
    ∃ s : Rep, v = .agg #[.int .i64 s.id, .int .i64 s.off] ∧ s.fits := by
  obtain ⟨cs, rfl, _⟩ := okWide_struct Try.underlying29 hval
  obtain ⟨fuel, hf⟩ := h0
  obtain ⟨s, hs, e⟩ := open_rep_cells hf
  refine ⟨s, ?_, hs⟩
  have e' : cs.toList = [.int .i64 s.id, .int .i64 s.off] := by simpa [Value.cells] using e
  rw [show cs = cs.toList.toArray by simp, e']

/-- AN ARGUMENT OF TYPE []Replica -/
theorem open_reps {W : World} {r : Reach} {b0 : Nat} {v : Value} {d : DataW H} {p : List MemPlace}
    (hval : Value.okWide Try.prog W r b0 22 v) (h0 : DataW.Trod enc Try.prog W 0 (fun _ => true) true 22 v d p) :
    ∃ (A : Option Addr) (n cap : Nat) (l : List Rep), v = .slice A n cap ∧ l.length = n ∧ n ≤ cap ∧ cap ≤ 9223372036854775807 ∧ RepsAt W A n l ∧ ∀ s ∈ l, s.fits := by
  obtain ⟨a0, len, cap, rfl⟩ := okWide_slice Try.underlying22 hval
  obtain ⟨fuel, hf⟩ := h0
  rcases Go.Deep.open_slice Try.underlying22 hf with ⟨hcs, _⟩ | ⟨a, len', cap', m, q, D, Pl, hcs, _, hl, hm, hmm, _, hx⟩
  · simp [Value.cells] at hcs
    obtain ⟨rfl, rfl, rfl⟩ := hcs
    exact ⟨none, 0, 0, [], rfl, rfl, Nat.le_refl _, by omega, ⟨rfl, fun h => absurd h (by omega)⟩, fun z hz => by cases hz⟩
  · simp [Value.cells] at hcs
    obtain ⟨rfl, rfl, rfl⟩ := hcs
    simp only [if_true] at hmm
    have each : ∀ i, i < len → ∃ s : Rep, s.fits ∧ W.cell? (a.add (i * 2)) = some (.int .i64 s.id) ∧ W.cell? (a.add (i * 2 + 1)) = some (.int .i64 s.off) := fun i hi => by
      obtain ⟨cs', hc, hd⟩ := hx i (by omega)
      rw [cells_rep] at hc
      obtain ⟨s, hs, rfl⟩ := open_rep_cells hd
      obtain ⟨_, _, hcell⟩ := World.cells?_some hc
      have c0 := hcell 0 (by omega)
      have c1 := hcell 1 (by omega)
      rw [add_of_add] at c0 c1
      exact ⟨s, hs, c0, c1⟩
    obtain ⟨g, hg⟩ := Go.Deep.choose_lt each
    refine ⟨some a, len, cap, (List.range len).map g, rfl, by simp, hl, hm, ⟨by simp, fun hn => ⟨a, rfl, ?_, fun i s hs => ?_⟩⟩, fun s hs => ?_⟩
    · have := lt_of_cell (hg 0 hn).2.1
      rwa [block_of_add] at this
    · rw [List.getElem?_map] at hs
      cases hi : (List.range len)[i]? with
      | none => rw [hi] at hs; cases hs
      | some j =>
        rw [hi] at hs
        simp at hs
        have hil : i < len := by
          have := (List.getElem?_eq_some_iff.1 hi).1
          simpa using this
        have hj : j = i := by
          have := (List.getElem?_eq_some_iff.1 hi).2
          simp at this
          exact this.symm
        subst hj; subst hs
        exact (hg j hil).2
    · obtain ⟨j, hj, rfl⟩ := List.mem_map.1 hs
      exact (hg j (by simpa using hj)).1
end

section
variable {P : Program} (w : World)
/-- append at replicas: onto an own row, of a slice that may be nil -/
theorem run_append_reps (base : Nat) (t ty e : TypeId) (i : TypeInfo) (z : Value) (ht : P.underlying t = some (.slice e)) (hi : P.info? e = some i) (hz : i.zero = some z)
    (hsize : i.size = 2) (hby : i.bytes = 16) (hzs : z.cells.size = 2)
    (v : Value) (n : Nat) (xs : List Rep) (hown : w.ownsRow base e 2 v n (flatR xs))
    (A : Option Addr) (m c : Nat) (news : List Rep) (hr : RepsAt w A m news)
    (h63 : n + m ≤ 1000000) (hbase : base ≤ w.heap.size) :
    ∃ v' w', (Builtin.append_ #[t, t] ty #[v, .slice A m c]).run P w = .ok v' w' ∧ w'.ownsRow base e 2 v' (n + m) (flatR (xs ++ news)) ∧ w.grownBy w' v.ownBlock ∧
      (v'.ownBlock = v.ownBlock ∨ v'.ownBlock = some w.heap.size) := by
  rw [flat_append]
  cases A with
  | none =>
    have hm : m = 0 := by
      rcases Nat.eq_zero_or_pos m with h0 | h0
      · exact h0
      · obtain ⟨ad, h, _⟩ := hr.2 h0
        cases h
    subst hm
    have hn : news = [] := List.eq_nil_of_length_eq_zero hr.1
    subst hn
    refine ⟨v, w, ?_, by simpa [flatR] using hown, World.grownBy.refl w _, .inl rfl⟩
    rcases hown.2 with ⟨rfl, rfl⟩ | ⟨b, cap, cur, rfl, _, _, hnc, _⟩
    · simp [Builtin.append_, run_underlying ht, sizeOf, typeInfo, hi, Builtin.lenOf, Builtin.firstCells]
    · simp [Builtin.append_, run_underlying ht, sizeOf, typeInfo, hi, Builtin.lenOf, Builtin.firstCells, hnc, storeCells]
  | some ad =>
    obtain ⟨v', w', hrun, h2, h3, _, h5⟩ := run_append_own_at (P := P) w base t ty e i z 2 16 ht hi hz hsize hby hzs (by omega) v n (flatR xs) hown ad m c (flatR news) (by rw [flat_len, hr.1]) hr.cells (flat_one _) (by unfold maxLen; omega) (by omega) hbase
    exact ⟨v', w', hrun, h2, h3, h5⟩

theorem wpList_append_reps {ops : Array Oper} {rest : List Oper} {o : Oper} {a : Act} {Q : Exit → Act → World → Prop} (hgd : o.guard = none) (s x : Operand) (t : TypeId)
    (ho : o.op = .call { callee := .builtin .append, args := #[s, x], argTypes := #[t, t] })
    (base : Nat) (e : TypeId) (i : TypeInfo) (z : Value) (ht : P.underlying t = some (.slice e)) (hi : P.info? e = some i) (hz : i.zero = some z)
    (hsize : i.size = 2) (hby : i.bytes = 16) (hzs : z.cells.size = 2)
    (v : Value) (n : Nat) (xs : List Rep) (hs : a.eval s = v) (hown : w.ownsRow base e 2 v n (flatR xs))
    (A : Option Addr) (m c : Nat) (news : List Rep) (hx : a.eval x = .slice A m c) (hr : RepsAt w A m news)
    (h63 : n + m ≤ 1000000) (hbase : base ≤ w.heap.size)
    (h : ∀ v' w', w'.ownsRow base e 2 v' (n + m) (flatR (xs ++ news)) → w.grownBy w' v.ownBlock → (v'.ownBlock = v.ownBlock ∨ v'.ownBlock = some w.heap.size) → wpList P ops Q rest (a.put o.dst v') w') : wpList P ops Q (o :: rest) a w :=
  wpList_plain hgd fun K hK => by
    obtain ⟨v', w', hrun, h2, h3, h4⟩ := run_append_reps (P := P) w base t o.type e i z ht hi hz hsize hby hzs v n xs hown A m c news hr h63 hbase
    unfold Oper.wp execOp
    simp only [ho, resolve, invoke, builtin, Sem.run_bind, Sem.run_pure, Result.andThen_ok, List.map_toArray, List.map_cons, List.map_nil, hs, hx, hrun]
    exact hK _ _ (h v' w' h2 h3 h4)
end
end Go.Proofs.Ytdeppjoehnlbnaa
