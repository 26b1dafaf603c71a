/-
  WHAT IS PROVED: arguments of type []Act; slices of peers in memory (read, a row of the call's own, appended to, one of them written). Conditions: the sizes.
-/
import Derived.Test.YtcphodnenhnalaaMap
import Derived.Maps.AppendAt
import Derived.OwnWalk
import Derived.Deep.Strs
import Derived.Lib.SmallJoins
import Derived.OpenShut
import Derived.OpenVars
namespace Go.Proofs.Ytcphodnenhnalaa
open Go.RowKit Go.ChangeShapes Go.WideShapes Go.ChangeAt Go.WideElems

def St.fits (s : St) : Prop := inInt s.how ∧ inInt s.id ∧ inInt s.t
theorem add_succ (x : Addr) (j : Nat) : x.add (j + 1) = ⟨x.block, x.off + (j + 1), none⟩ := by unfold Addr.add; rw [if_neg (by omega)]

/-- the slice value '.slice A n c' holds the steps l, in a block that is there -/
def ActsAt (w : World) (A : Option Addr) (n : Nat) (l : List St) : Prop :=
  l.length = n ∧ (0 < n → ∃ ad, A = some ad ∧ ad.block < w.heap.size ∧ ∀ i s, l[i]? = some s → w.cell? (ad.add (i * 3)) = some (.int .i64 s.how) ∧ w.cell? (ad.add (i * 3 + 1)) = some (.int .i64 s.id) ∧ w.cell? (ad.add (i * 3 + 2)) = some (.int .i64 s.t))
theorem ActsAt.below {w w' : World} {A : Option Addr} {n : Nat} {l : List St} (h : ActsAt w A n l) (hb : Below w.heap.size w w') : ActsAt w' A n l :=
  ⟨h.1, fun hn => by
    obtain ⟨ad, e, hlt, hc⟩ := h.2 hn
    refine ⟨ad, e, Nat.lt_of_lt_of_le hlt hb.size, fun i s hs => ?_⟩
    obtain ⟨c0, c1, c2⟩ := hc i s hs
    exact ⟨(hb.cell (by rw [block_of_add]; exact hlt)).trans c0, (hb.cell (by rw [block_of_add]; exact hlt)).trans c1, (hb.cell (by rw [block_of_add]; exact hlt)).trans c2⟩⟩
theorem ActsAt.at_ {w : World} {A : Option Addr} {n k : Nat} {l : List St} (h : ActsAt w A n l) (hk : k < n) :
    ∃ ad s, A = some ad ∧ l[k]? = some s ∧ ad.block < w.heap.size ∧ w.cell? (ad.add (k * 3)) = some (.int .i64 s.how) ∧ w.cell? ⟨(ad.add (k * 3)).block, (ad.add (k * 3)).off + 1, none⟩ = some (.int .i64 s.id) ∧ w.cell? ⟨(ad.add (k * 3)).block, (ad.add (k * 3)).off + 2, none⟩ = some (.int .i64 s.t) := by
  obtain ⟨ad, e, hlt, hc⟩ := h.2 (by omega)
  have hl : k < l.length := by have := h.1; omega
  obtain ⟨c0, c1, c2⟩ := hc k _ (List.getElem?_eq_getElem hl)
  rw [← add_of_add, add_succ] at c1 c2
  exact ⟨ad, l[k], e, List.getElem?_eq_getElem hl, hlt, c0, c1, c2⟩
theorem cells_act : Try.prog.cellsOf 30 = 3 := by kernel_rfl

section
variable {H : Type} {enc : TypeId × Value → H}
theorem open_act {W : World} {sp : Nat → Bool} {hd : Bool} {fuel : Nat} {cs : List Value} {x : DataW H × List MemPlace} (h : DataW.trod enc Try.prog W 0 sp hd fuel 30 cs = some x) :
    ∃ s : St, s.fits ∧ cs = [.int .i64 s.how, .int .i64 s.id, .int .i64 s.t] := by
  obtain ⟨y0, y1, y2, m, _, hl, h0, h1, h2⟩ := Go.Deep.trod_struct3 Try.underlying30 h
  rw [cells_act] at hl
  match cs, hl with
  | [a, b, c], _ =>
    simp only [cells_int] at h0 h1 h2
    obtain ⟨z0, e0, _, w0⟩ := DataW.trod_int Try.underlying3 h0
    obtain ⟨z1, e1, _, w1⟩ := DataW.trod_int Try.underlying3 h1
    obtain ⟨z2, e2, _, w2⟩ := DataW.trod_int Try.underlying3 h2
    simp at e0 e1 e2
    subst e0; subst e1; subst e2
    exact ⟨⟨z0, z1, z2⟩, ⟨wf_i64 w0, wf_i64 w1, wf_i64 w2⟩, rfl⟩

/-- AN ARGUMENT OF TYPE []Act -/
theorem open_acts {W : World} {r : Reach} {b0 : Nat} {v : Value} {d : DataW H} {p : List MemPlace}
    (hval : Value.okWide Try.prog W r b0 22 v) (h0 : DataW.Trod enc Try.prog W 0 (fun _ => true) true 22 v d p) :
    ∃ (A : Option Addr) (n cap : Nat) (l : List St), v = .slice A n cap ∧ l.length = n ∧ n ≤ cap ∧ cap ≤ 9223372036854775807 ∧ ActsAt W A n l ∧ ∀ s ∈ l, s.fits := by
  obtain ⟨a0, len, cap, rfl⟩ := okWide_slice Try.underlying22 hval
  obtain ⟨fuel, hf⟩ := h0
  rcases Go.Deep.open_slice Try.underlying22 hf with ⟨hcs, _⟩ | ⟨a, len', cap', m, q, D, Pl, hcs, _, hl, hm, hmm, _, hx⟩
  · simp [Value.cells] at hcs
    obtain ⟨rfl, rfl, rfl⟩ := hcs
    exact ⟨none, 0, 0, [], rfl, rfl, Nat.le_refl _, by omega, ⟨rfl, fun h => absurd h (by omega)⟩, fun z hz => by cases hz⟩
  · simp [Value.cells] at hcs
    obtain ⟨rfl, rfl, rfl⟩ := hcs
    simp only [if_true] at hmm
    have each : ∀ i, i < len → ∃ s : St, s.fits ∧ W.cell? (a.add (i * 3)) = some (.int .i64 s.how) ∧ W.cell? (a.add (i * 3 + 1)) = some (.int .i64 s.id) ∧ W.cell? (a.add (i * 3 + 2)) = some (.int .i64 s.t) := fun i hi => by
      obtain ⟨cs', hc, hd⟩ := hx i (by omega)
      rw [cells_act] at hc
      obtain ⟨s, hs, rfl⟩ := open_act hd
      obtain ⟨_, _, hcell⟩ := World.cells?_some hc
      have c0 := hcell 0 (by omega)
      have c1 := hcell 1 (by omega)
      have c2 := hcell 2 (by omega)
      rw [add_of_add] at c0 c1 c2
      exact ⟨s, hs, c0, c1, c2⟩
    have : Inhabited St := ⟨⟨0, 0, 0⟩⟩
    obtain ⟨g, hg⟩ := Go.Deep.choose_lt each
    refine ⟨some a, len, cap, (List.range len).map g, rfl, by simp, hl, hm, ⟨by simp, fun hn => ⟨a, rfl, ?_, fun i s hs => ?_⟩⟩, fun s hs => ?_⟩
    · have := lt_of_cell (hg 0 hn).2.1
      rwa [block_of_add] at this
    · rw [List.getElem?_map] at hs
      cases hi : (List.range len)[i]? with
      | none => rw [hi] at hs; cases hs
      | some j =>
        rw [hi] at hs
        simp at hs
        have hil : i < len := by
          have := (List.getElem?_eq_some_iff.1 hi).1
          simpa using this
        have hj : j = i := by
          have := (List.getElem?_eq_some_iff.1 hi).2
          simp at this
          exact this.symm
        subst hj; subst hs
        exact (hg j hil).2
    · obtain ⟨j, hj, rfl⟩ := List.mem_map.1 hs
      exact (hg j (by simpa using hj)).1
end

/-! ### slices of peers -/
def encP (r : Pr) : List Value := [.int .i64 r.id, .int .i64 r.since, .int .i64 r.last, .bool r.waits]
def flatP (l : List Pr) : List Value := l.flatMap encP
theorem flat_len : ∀ l : List Pr, (flatP l).length = l.length * 4
  | [] => rfl
  | r :: l => by have := flat_len l; simp [flatP, encP] at this ⊢; omega
theorem flat_append (l m : List Pr) : flatP (l ++ m) = flatP l ++ flatP m := by unfold flatP; rw [List.flatMap_append]
theorem flat_one (l : List Pr) : ∀ u ∈ flatP l, u.oneCell' = true := by
  intro u hu
  obtain ⟨r, _, hr⟩ := List.mem_flatMap.1 hu
  simp [encP] at hr
  rcases hr with rfl | rfl | rfl | rfl <;> rfl
theorem flat_get : ∀ {l : List Pr} {i : Nat} {r : Pr}, l[i]? = some r → (flatP l)[i * 4]? = some (.int .i64 r.id) ∧ (flatP l)[i * 4 + 1]? = some (.int .i64 r.since) ∧ (flatP l)[i * 4 + 2]? = some (.int .i64 r.last) ∧ (flatP l)[i * 4 + 3]? = some (.bool r.waits)
  | x :: l, 0, r, h => by simp at h; subst h; exact ⟨rfl, rfl, rfl, rfl⟩
  | x :: l, i + 1, r, h => by
    have := flat_get (l := l) (i := i) (r := r) (by simpa using h)
    rw [show (i + 1) * 4 = i * 4 + 4 by omega, show i * 4 + 4 + 1 = i * 4 + 1 + 4 by omega, show i * 4 + 4 + 2 = i * 4 + 2 + 4 by omega, show i * 4 + 4 + 3 = i * 4 + 3 + 4 by omega]
    exact this
theorem flat_at : ∀ {l : List Pr} {j : Nat} {u : Value}, (flatP l)[j]? = some u → ∃ i r, l[i]? = some r ∧ ((j = i * 4 ∧ u = .int .i64 r.id) ∨ (j = i * 4 + 1 ∧ u = .int .i64 r.since) ∨ (j = i * 4 + 2 ∧ u = .int .i64 r.last) ∨ (j = i * 4 + 3 ∧ u = .bool r.waits))
  | [], j, u, h => by simp [flatP] at h
  | x :: l, 0, u, h => by simp [flatP, encP] at h; exact ⟨0, x, rfl, .inl ⟨rfl, h.symm⟩⟩
  | x :: l, 1, u, h => by simp [flatP, encP] at h; exact ⟨0, x, rfl, .inr (.inl ⟨rfl, h.symm⟩)⟩
  | x :: l, 2, u, h => by simp [flatP, encP] at h; exact ⟨0, x, rfl, .inr (.inr (.inl ⟨rfl, h.symm⟩))⟩
  | x :: l, 3, u, h => by simp [flatP, encP] at h; exact ⟨0, x, rfl, .inr (.inr (.inr ⟨rfl, h.symm⟩))⟩
  | x :: l, j + 4, u, h => by
    obtain ⟨i, r, hi, h⟩ := flat_at (l := l) (j := j) (u := u) h
    refine ⟨i + 1, r, by simpa using hi, ?_⟩
    rcases h with ⟨e, h⟩ | ⟨e, h⟩ | ⟨e, h⟩ | ⟨e, h⟩
    · exact .inl ⟨by omega, h⟩
    · exact .inr (.inl ⟨by omega, h⟩)
    · exact .inr (.inr (.inl ⟨by omega, h⟩))
    · exact .inr (.inr (.inr ⟨by omega, h⟩))

/-- the slice value '.slice A n c' holds the peers l, in a block that is there -/
def PrsAt (w : World) (A : Option Addr) (n : Nat) (l : List Pr) : Prop :=
  l.length = n ∧ (0 < n → ∃ ad, A = some ad ∧ ad.block < w.heap.size ∧ ∀ i s, l[i]? = some s → w.cell? (ad.add (i * 4)) = some (.int .i64 s.id) ∧ w.cell? (ad.add (i * 4 + 1)) = some (.int .i64 s.since) ∧ w.cell? (ad.add (i * 4 + 2)) = some (.int .i64 s.last) ∧ w.cell? (ad.add (i * 4 + 3)) = some (.bool s.waits))

section
variable {w w' : World} {A : Option Addr} {ad : Addr} {n k : Nat} {l : List Pr}
theorem PrsAt.nil_ (w : World) (A : Option Addr) : PrsAt w A 0 [] := ⟨rfl, fun h => absurd h (by omega)⟩
theorem PrsAt.below (h : PrsAt w A n l) (hb : Below w.heap.size w w') : PrsAt w' A n l :=
  ⟨h.1, fun hn => by
    obtain ⟨ad, e, hlt, hc⟩ := h.2 hn
    refine ⟨ad, e, Nat.lt_of_lt_of_le hlt hb.size, fun i s hs => ?_⟩
    obtain ⟨c0, c1, c2, c3⟩ := hc i s hs
    exact ⟨(hb.cell (by rw [block_of_add]; exact hlt)).trans c0, (hb.cell (by rw [block_of_add]; exact hlt)).trans c1, (hb.cell (by rw [block_of_add]; exact hlt)).trans c2, (hb.cell (by rw [block_of_add]; exact hlt)).trans c3⟩⟩
theorem PrsAt.at_ (h : PrsAt w A n l) (hk : k < n) :
    ∃ ad s, A = some ad ∧ l[k]? = some s ∧ ad.block < w.heap.size ∧ w.cell? (ad.add (k * 4)) = some (.int .i64 s.id) ∧ w.cell? ⟨(ad.add (k * 4)).block, (ad.add (k * 4)).off + 1, none⟩ = some (.int .i64 s.since) ∧ w.cell? ⟨(ad.add (k * 4)).block, (ad.add (k * 4)).off + 2, none⟩ = some (.int .i64 s.last) ∧ w.cell? ⟨(ad.add (k * 4)).block, (ad.add (k * 4)).off + 3, none⟩ = some (.bool s.waits) := by
  obtain ⟨ad, e, hlt, hc⟩ := h.2 (by omega)
  have hl : k < l.length := by have := h.1; omega
  obtain ⟨c0, c1, c2, c3⟩ := hc k _ (List.getElem?_eq_getElem hl)
  rw [← add_of_add, add_succ] at c1 c2 c3
  exact ⟨ad, l[k], e, List.getElem?_eq_getElem hl, hlt, c0, c1, c2, c3⟩
theorem PrsAt.cells (h : PrsAt w (some ad) n l) : ∀ j u, (flatP l)[j]? = some u → w.cell? (ad.add j) = some u := fun j u hu => by
  obtain ⟨i, r, hi, hr⟩ := flat_at hu
  have hn : 0 < n := by have := h.1; have := (List.getElem?_eq_some_iff.1 hi).1; omega
  obtain ⟨ad', e, _, hc⟩ := h.2 hn
  cases e
  obtain ⟨c0, c1, c2, c3⟩ := hc i r hi
  rcases hr with ⟨rfl, rfl⟩ | ⟨rfl, rfl⟩ | ⟨rfl, rfl⟩ | ⟨rfl, rfl⟩
  · exact c0
  · exact c1
  · exact c2
  · exact c3
theorem PrsAt.of_cells {ad : Addr} (hl : l.length = n) (hlt : 0 < n → ad.block < w.heap.size) (hc : ∀ j u, (flatP l)[j]? = some u → w.cell? (ad.add j) = some u) : PrsAt w (some ad) n l :=
  ⟨hl, fun hn => ⟨ad, rfl, hlt hn, fun _ _ hs => ⟨hc _ _ (flat_get hs).1, hc _ _ (flat_get hs).2.1, hc _ _ (flat_get hs).2.2.1, hc _ _ (flat_get hs).2.2.2⟩⟩⟩
end

/-- a row of the call's own -/
theorem own_prs {w : World} {base n : Nat} {e : TypeId} {v : Value} {l : List Pr} (h : w.ownsRow base e 4 v n (flatP l)) :
    ∃ A cap, v = .slice A n cap ∧ n ≤ cap ∧ cap ≤ 9223372036854775807 ∧ PrsAt w A n l := by
  have hl : l.length = n := by have := h.1; rw [flat_len] at this; omega
  rcases h.2 with ⟨rfl, rfl⟩ | ⟨b, cap, cur, rfl, hb, hh, hnc, hcm, _⟩
  · obtain rfl := List.eq_nil_of_length_eq_zero hl
    exact ⟨none, 0, rfl, Nat.le_refl _, by omega, PrsAt.nil_ _ _⟩
  · exact ⟨some ⟨b, 0, none⟩, cap, rfl, hnc, by unfold maxLen at hcm; omega, PrsAt.of_cells hl (fun _ => (Array.getElem?_eq_some_iff.1 hh).1) (h.cells rfl)⟩

theorem pr_info : (Try.prog.info? 50).map (fun i => (i.zero, i.size, i.bytes)) = some (some (.agg #[.int .i64 0, .int .i64 0, .int .i64 0, .bool false]), 4, 32) := by kernel_rfl
theorem int_info : (Try.prog.info? 3).map (fun i => (i.zero, i.size, i.bytes)) = some (some (.int .i64 0), 1, 8) := by kernel_rfl
theorem info_parts {P : Program} {t : TypeId} {z : Option Value} {s b : Nat} (h : (P.info? t).map (fun i => (i.zero, i.size, i.bytes)) = some (z, s, b)) : ∃ i, P.info? t = some i ∧ i.zero = z ∧ i.size = s ∧ i.bytes = b := by
  cases hi : P.info? t with
  | none => rw [hi] at h; cases h
  | some i => rw [hi] at h; simp at h; exact ⟨i, rfl, h.1, h.2.1, h.2.2⟩

section
variable {P : Program} (w : World)
/-- append at peers: onto an own row, of a slice that may be nil -/
theorem run_append_prs (base : Nat) (t ty e : TypeId) (i : TypeInfo) (z : Value) (ht : P.underlying t = some (.slice e)) (hi : P.info? e = some i) (hz : i.zero = some z)
    (hsize : i.size = 4) (hby : i.bytes = 32) (hzs : z.cells.size = 4)
    (v : Value) (n : Nat) (xs : List Pr) (hown : w.ownsRow base e 4 v n (flatP xs))
    (A : Option Addr) (m c : Nat) (news : List Pr) (hr : PrsAt w A m news)
    (h63 : n + m ≤ 1000000) (hbase : base ≤ w.heap.size) :
    ∃ v' w', (Builtin.append_ #[t, t] ty #[v, .slice A m c]).run P w = .ok v' w' ∧ w'.ownsRow base e 4 v' (n + m) (flatP (xs ++ news)) ∧ w.grownBy w' v.ownBlock ∧
      (v'.ownBlock = v.ownBlock ∨ v'.ownBlock = some w.heap.size) := by
  rw [flat_append]
  cases A with
  | none =>
    have hm : m = 0 := by
      rcases Nat.eq_zero_or_pos m with h0 | h0
      · exact h0
      · obtain ⟨ad, h, _⟩ := hr.2 h0
        cases h
    subst hm
    have hn : news = [] := List.eq_nil_of_length_eq_zero hr.1
    subst hn
    refine ⟨v, w, ?_, by simpa [flatP] using hown, World.grownBy.refl w _, .inl rfl⟩
    rcases hown.2 with ⟨rfl, rfl⟩ | ⟨b, cap, cur, rfl, _, _, hnc, _⟩
    · simp [Builtin.append_, run_underlying ht, sizeOf, typeInfo, hi, Builtin.lenOf, Builtin.firstCells]
    · simp [Builtin.append_, run_underlying ht, sizeOf, typeInfo, hi, Builtin.lenOf, Builtin.firstCells, hnc, storeCells]
  | some ad =>
    obtain ⟨v', w', hrun, h2, h3, _, h5⟩ := run_append_own_at (P := P) w base t ty e i z 4 32 ht hi hz hsize hby hzs (by omega) v n (flatP xs) hown ad m c (flatP news) (by rw [flat_len, hr.1]) hr.cells (flat_one _) (by unfold maxLen; omega) (by omega) hbase
    exact ⟨v', w', hrun, h2, h3, h5⟩

theorem wpList_append_prs {ops : Array Oper} {rest : List Oper} {o : Oper} {a : Act} {Q : Exit → Act → World → Prop} (hgd : o.guard = none) (s x : Operand) (t : TypeId)
    (ho : o.op = .call { callee := .builtin .append, args := #[s, x], argTypes := #[t, t] })
    (base : Nat) (e : TypeId) (i : TypeInfo) (z : Value) (ht : P.underlying t = some (.slice e)) (hi : P.info? e = some i) (hz : i.zero = some z)
    (hsize : i.size = 4) (hby : i.bytes = 32) (hzs : z.cells.size = 4)
    (v : Value) (n : Nat) (xs : List Pr) (hs : a.eval s = v) (hown : w.ownsRow base e 4 v n (flatP xs))
    (A : Option Addr) (m c : Nat) (news : List Pr) (hx : a.eval x = .slice A m c) (hr : PrsAt w A m news)
    (h63 : n + m ≤ 1000000) (hbase : base ≤ w.heap.size)
    (h : ∀ v' w', w'.ownsRow base e 4 v' (n + m) (flatP (xs ++ news)) → w.grownBy w' v.ownBlock → (v'.ownBlock = v.ownBlock ∨ v'.ownBlock = some w.heap.size) → wpList P ops Q rest (a.put o.dst v') w') : wpList P ops Q (o :: rest) a w :=
  wpList_plain hgd fun K hK => by
    obtain ⟨v', w', hrun, h2, h3, h4⟩ := run_append_prs (P := P) w base t o.type e i z ht hi hz hsize hby hzs v n xs hown A m c news hr h63 hbase
    unfold Oper.wp execOp
    simp only [ho, resolve, invoke, builtin, Sem.run_bind, Sem.run_pure, Result.andThen_ok, List.map_toArray, List.map_cons, List.map_nil, hs, hx, hrun]
    exact hK _ _ (h v' w' h2 h3 h4)
end
theorem PrsAt.one (w : World) (r : Pr) (t : TypeId) : PrsAt (w.alloc (.cells #[.int .i64 r.id, .int .i64 r.since, .int .i64 r.last, .bool r.waits] t)) (some ⟨w.heap.size, 0, none⟩) 1 [r] :=
  PrsAt.of_cells rfl (fun _ => by simp) fun j u hu => by
    rw [Go.WideShapes.add_plain, Nat.zero_add, (Blk.new w t _).cell j]
    simpa [flatP, encP] using hu


theorem PrsAt.take {w : World} {A : Option Addr} {n k : Nat} {l : List Pr} (h : PrsAt w A n l) (hk : k ≤ n) : PrsAt w A k (l.take k) :=
  ⟨by rw [List.length_take, h.1]; omega, fun hn => by
    obtain ⟨ad, e, hlt, hc⟩ := h.2 (by omega)
    refine ⟨ad, e, hlt, fun i s hs => hc i s ?_⟩
    rw [List.getElem?_take] at hs
    split at hs <;> simp_all⟩
theorem PrsAt.drop {w : World} {A : Option Addr} {n k c : Nat} {l : List Pr} (h : PrsAt w A n l) (hk : k ≤ n) (hc : n ≤ c) : PrsAt w (if c = k then A else A.map (·.add (k * 4))) (n - k) (l.drop k) := by
  refine ⟨by rw [List.length_drop, h.1], fun hn => ?_⟩
  obtain ⟨ad, rfl, hlt, hcell⟩ := h.2 (by omega)
  rw [if_neg (by omega)]
  refine ⟨ad.add (k * 4), rfl, by rw [block_of_add]; exact hlt, fun i s hs => ?_⟩
  rw [List.getElem?_drop] at hs
  obtain ⟨c0, c1, c2, c3⟩ := hcell _ s hs
  rw [add_of_add, add_of_add, add_of_add, add_of_add, show k * 4 + i * 4 = (k + i) * 4 by omega, show k * 4 + (i * 4 + 1) = (k + i) * 4 + 1 by omega, show k * 4 + (i * 4 + 2) = (k + i) * 4 + 2 by omega, show k * 4 + (i * 4 + 3) = (k + i) * 4 + 3 by omega]
  exact ⟨c0, c1, c2, c3⟩
/-- a slice of peers stays where a map is written -/
theorem PrsAt.kept {w w' : World} {A : Option Addr} {n b : Nat} {l L : List Pr} (h : PrsAt w A n l) (hm : MapAt w b L) (hg : w.grownBy w' (some b)) : PrsAt w' A n l :=
  ⟨h.1, fun hn => by
    obtain ⟨ad, e, hlt, hc⟩ := h.2 hn
    have hl : 0 < l.length := by rw [h.1]; exact hn
    have hne : ad.block ≠ b := by
      have := cell_map_ne (hc 0 l[0] (List.getElem?_eq_getElem hl)).1 hm
      rwa [block_of_add] at this
    have hk : ∀ j u, w.cell? (ad.add j) = some u → w'.cell? (ad.add j) = some u := fun j u hu =>
      (World.cell?_of_block (hg.block (ad.add j).block (by rw [block_of_add]; exact hlt) (fun e => hne (by rw [block_of_add] at e; injection e)))).trans hu
    refine ⟨ad, e, Nat.lt_of_lt_of_le hlt hg.size, fun i s hs => ?_⟩
    obtain ⟨c0, c1, c2, c3⟩ := hc i s hs
    exact ⟨hk _ _ c0, hk _ _ c1, hk _ _ c2, hk _ _ c3⟩⟩

/-! ### one of an own row's peers is written -/
theorem flat_set : ∀ {l : List Pr} {k : Nat} {p p' : Pr} {j : Nat} {u : Value}, l[k]? = some p → j < 4 → encP p' = (encP p).set j u → flatP (l.set k p') = (flatP l).set (k * 4 + j) u
  | [], _, _, _, _, _, h, _, _ => by simp at h
  | x :: l, 0, p, p', j, u, h, hj, he => by
    simp at h; subst h
    show encP p' ++ flatP l = (encP x ++ flatP l).set (0 * 4 + j) u
    rw [Nat.zero_mul, Nat.zero_add, he, List.set_append_left _ _ (by simpa [encP] using hj)]
  | x :: l, k + 1, p, p', j, u, h, hj, he => by
    show encP x ++ flatP (l.set k p') = (encP x ++ flatP l).set ((k + 1) * 4 + j) u
    rw [flat_set (k := k) (by simpa using h) hj he, List.set_append_right _ _ (by simp [encP]; omega)]
    congr 2
    simp [encP]
    omega
theorem own_put {w : World} {base n k c g : Nat} {e : TypeId} {l : List Pr} {p p' : Pr} {j : Nat} {u : Value} (h : w.ownsRow base e 4 (.slice (some ⟨g, 0, none⟩) n c) n (flatP l)) (hr : l[k]? = some p) (hj : j < 4) (he : encP p' = (encP p).set j u) :
    (w.setCell ⟨g, k * 4 + j, none⟩ u).ownsRow base e 4 (.slice (some ⟨g, 0, none⟩) n c) n (flatP (l.set k p')) := by
  rcases h.2 with ⟨h0, _⟩ | ⟨g', cap, cur, h0, hg, hh, hnc, hcm, hcs, ht⟩
  · cases h0
  · injection h0 with h1 h2 h3
    injection h1 with h1
    injection h1 with h1
    subst h1; subst h3
    have hB2 := (show Blk w g e cur from hh).set_ (k * 4 + j) u
    refine ⟨by rw [flat_len, List.length_set, ← flat_len]; exact h.1, .inr ⟨g, c, _, rfl, hg, hB2, hnc, hcm, by simpa using hcs, ?_⟩⟩
    rw [flat_set hr hj he, ← ht]
    simp [List.take_set]
theorem own_cells {w : World} {base n k c g : Nat} {e : TypeId} {l : List Pr} {p : Pr} (h : w.ownsRow base e 4 (.slice (some ⟨g, 0, none⟩) n c) n (flatP l)) (hr : l[k]? = some p) :
    (w.cell? ⟨g, k * 4, none⟩ = some (.int .i64 p.id) ∧ w.cell? ⟨g, k * 4 + 1, none⟩ = some (.int .i64 p.since) ∧ w.cell? ⟨g, k * 4 + 2, none⟩ = some (.int .i64 p.last) ∧ w.cell? ⟨g, k * 4 + 3, none⟩ = some (.bool p.waits)) ∧ ∀ j, w.frozen? ⟨g, j, none⟩ = false := by
  have hc := h.cells (g := g) rfl
  obtain ⟨f0, f1, f2, f3⟩ := flat_get hr
  have hz : ∀ j, (⟨g, 0, none⟩ : Addr).add j = ⟨g, j, none⟩ := fun j => by rw [Go.WideShapes.add_plain, Nat.zero_add]
  refine ⟨⟨by rw [← hz]; exact hc _ _ f0, by rw [← hz]; exact hc _ _ f1, by rw [← hz]; exact hc _ _ f2, by rw [← hz]; exact hc _ _ f3⟩, fun j => ?_⟩
  rcases h.2 with ⟨h0, _⟩ | ⟨g', cap, cur, h0, hg, hh, _⟩
  · cases h0
  · injection h0 with h1 h2 h3
    injection h1 with h1
    injection h1 with h1
    subst h1
    exact (show Blk w g e cur from hh).frozen _
/-- what the walk asks of a peer of an own row, and what comes of a write -/
theorem own_at {w : World} {base n k : Nat} {e : TypeId} {v : Value} {l : List Pr} {p : Pr} (h : w.ownsRow base e 4 v n (flatP l)) (hr : l[k]? = some p) :
    ∃ ad c, v = .slice (some ad) n c ∧ n ≤ c ∧ c ≤ 9223372036854775807 ∧ base ≤ ad.block ∧ ad.block < w.heap.size ∧ (ad.add (k * 4)).block = ad.block ∧
      (w.cell? (ad.add (k * 4)) = some (.int .i64 p.id) ∧ w.cell? ⟨(ad.add (k * 4)).block, (ad.add (k * 4)).off + 1, none⟩ = some (.int .i64 p.since) ∧ w.cell? ⟨(ad.add (k * 4)).block, (ad.add (k * 4)).off + 2, none⟩ = some (.int .i64 p.last) ∧ w.cell? ⟨(ad.add (k * 4)).block, (ad.add (k * 4)).off + 3, none⟩ = some (.bool p.waits)) ∧
      (w.frozen? (ad.add (k * 4)) = false ∧ w.frozen? ⟨(ad.add (k * 4)).block, (ad.add (k * 4)).off + 1, none⟩ = false ∧ w.frozen? ⟨(ad.add (k * 4)).block, (ad.add (k * 4)).off + 2, none⟩ = false ∧ w.frozen? ⟨(ad.add (k * 4)).block, (ad.add (k * 4)).off + 3, none⟩ = false) ∧
      (∀ x, (w.setCell ⟨(ad.add (k * 4)).block, (ad.add (k * 4)).off + 2, none⟩ (.int .i64 x)).ownsRow base e 4 (.slice (some ad) n c) n (flatP (l.set k ⟨p.id, x, p.waits, p.since⟩))) ∧
      (∀ x y, ((w.setCell ⟨(ad.add (k * 4)).block, (ad.add (k * 4)).off + 1, none⟩ (.int .i64 x)).setCell ⟨(ad.add (k * 4)).block, (ad.add (k * 4)).off + 3, none⟩ (.bool y)).ownsRow base e 4 (.slice (some ad) n c) n (flatP (l.set k ⟨p.id, p.last, y, x⟩))) ∧
      (∀ q : Pr, ((((w.setCell (ad.add (k * 4)) (.int .i64 q.id)).setCell ⟨(ad.add (k * 4)).block, (ad.add (k * 4)).off + 1, none⟩ (.int .i64 q.since)).setCell ⟨(ad.add (k * 4)).block, (ad.add (k * 4)).off + 2, none⟩ (.int .i64 q.last)).setCell ⟨(ad.add (k * 4)).block, (ad.add (k * 4)).off + 3, none⟩ (.bool q.waits)).ownsRow base e 4 (.slice (some ad) n c) n (flatP (l.set k q))) := by
  have hl : l.length = n := by have := h.1; rw [flat_len] at this; omega
  have hk : k < l.length := (List.getElem?_eq_some_iff.1 hr).1
  rcases h.2 with ⟨_, h0⟩ | ⟨g, cap, cur, rfl, hg, hh, hnc, hcm, hcs, ht⟩
  · omega
  · have e0 : (⟨g, 0, none⟩ : Addr).add (k * 4) = ⟨g, k * 4, none⟩ := by rw [Go.WideShapes.add_plain, Nat.zero_add]
    obtain ⟨hc, hf⟩ := own_cells h hr
    refine ⟨⟨g, 0, none⟩, cap, rfl, hnc, by unfold maxLen at hcm; omega, hg, (show Blk w g e cur from hh).lt, by rw [e0], ?_, ?_, ?_, ?_, ?_⟩
    · rw [e0]; exact hc
    · rw [e0]; exact ⟨hf _, hf _, hf _, hf _⟩
    · intro x
      rw [e0]
      exact own_put h hr (j := 2) (by omega) rfl
    · intro x y
      rw [e0]
      have h1 := own_put (p' := ⟨p.id, p.last, p.waits, x⟩) (u := .int .i64 x) h hr (j := 1) (by omega) rfl
      have h2 := own_put (p := ⟨p.id, p.last, p.waits, x⟩) (p' := ⟨p.id, p.last, y, x⟩) (u := .bool y) h1 (List.getElem?_set_self hk) (j := 3) (by omega) rfl
      rw [List.set_set] at h2
      exact h2
    · intro q
      rw [e0]
      have h1 := own_put (p' := ⟨q.id, p.last, p.waits, p.since⟩) (u := .int .i64 q.id) h hr (j := 0) (by omega) rfl
      have h2 := own_put (p := ⟨q.id, p.last, p.waits, p.since⟩) (p' := ⟨q.id, p.last, p.waits, q.since⟩) (u := .int .i64 q.since) h1 (List.getElem?_set_self hk) (j := 1) (by omega) rfl
      rw [List.set_set] at h2
      have h3 := own_put (p := ⟨q.id, p.last, p.waits, q.since⟩) (p' := ⟨q.id, q.last, p.waits, q.since⟩) (u := .int .i64 q.last) h2 (List.getElem?_set_self hk) (j := 2) (by omega) rfl
      rw [List.set_set] at h3
      have h4 := own_put (p := ⟨q.id, q.last, p.waits, q.since⟩) (p' := q) (u := .bool q.waits) h3 (List.getElem?_set_self hk) (j := 3) (by omega) rfl
      rw [List.set_set] at h4
      exact h4

section
variable {P : Program} (w : World)
theorem step_append_prs {ops : Array Oper} {o : Oper} {a : Act} {K : Act → World → Prop} {Q : Exit → Act → World → Prop} {E : Prop} (hgd : o.guard = none) (s x : Operand) (t : TypeId)
    (ho : o.op = .call { callee := .builtin .append, args := #[s, x], argTypes := #[t, t] })
    (base : Nat) (e : TypeId) (i : TypeInfo) (z : Value) (ht : P.underlying t = some (.slice e)) (hi : P.info? e = some i) (hz : i.zero = some z)
    (hsize : i.size = 4) (hby : i.bytes = 32) (hzs : z.cells.size = 4)
    (v : Value) (n : Nat) (xs : List Pr) (hs : a.eval s = v) (hown : w.ownsRow base e 4 v n (flatP xs))
    (A : Option Addr) (m c : Nat) (news : List Pr) (hx : a.eval x = .slice A m c) (hr : PrsAt w A m news)
    (h63 : n + m ≤ 1000000) (hbase : base ≤ w.heap.size)
    (h : ∀ v' w', w'.ownsRow base e 4 v' (n + m) (flatP (xs ++ news)) → w.grownBy w' v.ownBlock → (v'.ownBlock = v.ownBlock ∨ v'.ownBlock = some w.heap.size) → K (a.put o.dst v') w') :
    if Region.wanted o (yielded ops a.tmps) = true then Oper.wp P o a w K Q else E := by
  have hw : Region.wanted o (yielded ops a.tmps) = true := by simp [Region.wanted, hgd]
  rw [if_pos hw]
  obtain ⟨v', w', hrun, h2, h3, h4⟩ := run_append_prs (P := P) w base t o.type e i z ht hi hz hsize hby hzs v n xs hown A m c news hr h63 hbase
  unfold Oper.wp execOp
  simp only [ho, resolve, invoke, builtin, Sem.run_bind, Sem.run_pure, Result.andThen_ok, List.map_toArray, List.map_cons, List.map_nil, hs, hx, hrun]
  exact h v' w' h2 h3 h4
/-- append onto a slice without room: the new row holds both -/
theorem run_append_full (base : Nat) (t ty e : TypeId) (i : TypeInfo) (z : Value) (ht : P.underlying t = some (.slice e)) (hi : P.info? e = some i) (hz : i.zero = some z)
    (hsize : i.size = 4) (hby : i.bytes = 32) (hzs : z.cells.size = 4)
    (ad : Addr) (n : Nat) (xs : List Pr) (hx : PrsAt w (some ad) n xs) (a2 : Addr) (m c : Nat) (news : List Pr) (hr : PrsAt w (some a2) m news) (hm : 0 < m)
    (h63 : n + m ≤ 1000000) (hbase : base ≤ w.heap.size) :
    ∃ v' w', (Builtin.append_ #[t, t] ty #[.slice (some ad) n n, .slice (some a2) m c]).run P w = .ok v' w' ∧ w'.ownsRow base e 4 v' (n + m) (flatP (xs ++ news)) ∧ w.grownBy w' none := by
  have h1 : (flatP xs).length = n * i.size := by rw [flat_len, hx.1, hsize]
  have h2 : (flatP news).length = m * i.size := by rw [flat_len, hr.1, hsize]
  have hrun := run_append_grow (P := P) w t ty e i z ht hi hz ad n n (flatP xs) h1 hx.cells a2 m c (flatP news) h2 hr.cells (by omega) (by omega) (growslice_fits (by omega) (by rw [hby]; omega))
  refine ⟨_, _, hrun, ?_, ⟨rfl, rfl, rfl, by simp, fun k hk hn => (World.grownBy_alloc w.drew _ none).block k hk hn⟩⟩
  have hge := grownCap_ge w (n + m) n e
  have hcm : grownCap w (n + m) n e ≤ maxLen := grownCap_le_maxLen w (n + m) n e (by unfold maxLen; omega)
  rw [flat_append]
  have hlen : (flatP xs ++ flatP news).length = (n + m) * 4 := by rw [List.length_append, h1, h2, hsize]; omega
  refine ⟨hlen, .inr ⟨w.heap.size, _, _, rfl, hbase, heap_alloc_new w.drew _, hge, hcm, ?_, ?_⟩⟩
  · simp only [Array.size_append, List.size_toArray, size_zeroCells, hzs, h1, h2, hsize]
    omega
  · simp only [Array.toList_append, List.append_assoc]
    rw [← List.append_assoc, ← hlen]
    exact List.take_left
theorem step_append_full {ops : Array Oper} {o : Oper} {a : Act} {K : Act → World → Prop} {Q : Exit → Act → World → Prop} {E : Prop} (hgd : o.guard = none) (s x : Operand) (t : TypeId)
    (ho : o.op = .call { callee := .builtin .append, args := #[s, x], argTypes := #[t, t] })
    (base : Nat) (e : TypeId) (i : TypeInfo) (z : Value) (ht : P.underlying t = some (.slice e)) (hi : P.info? e = some i) (hz : i.zero = some z)
    (hsize : i.size = 4) (hby : i.bytes = 32) (hzs : z.cells.size = 4)
    (ad : Addr) (n : Nat) (xs : List Pr) (hs : a.eval s = .slice (some ad) n n) (hx : PrsAt w (some ad) n xs) (a2 : Addr) (m c : Nat) (news : List Pr) (hx2 : a.eval x = .slice (some a2) m c) (hr : PrsAt w (some a2) m news) (hm : 0 < m)
    (h63 : n + m ≤ 1000000) (hbase : base ≤ w.heap.size)
    (h : ∀ v' w', w'.ownsRow base e 4 v' (n + m) (flatP (xs ++ news)) → w.grownBy w' none → K (a.put o.dst v') w') :
    if Region.wanted o (yielded ops a.tmps) = true then Oper.wp P o a w K Q else E := by
  have hw : Region.wanted o (yielded ops a.tmps) = true := by simp [Region.wanted, hgd]
  rw [if_pos hw]
  obtain ⟨v', w', hrun, h2, h3⟩ := run_append_full (P := P) w base t o.type e i z ht hi hz hsize hby hzs ad n xs hx a2 m c news hr hm h63 hbase
  unfold Oper.wp execOp
  simp only [ho, resolve, invoke, builtin, Sem.run_bind, Sem.run_pure, Result.andThen_ok, List.map_toArray, List.map_cons, List.map_nil, hs, hx2, hrun]
  exact h v' w' h2 h3
end
end Go.Proofs.Ytcphodnenhnalaa
