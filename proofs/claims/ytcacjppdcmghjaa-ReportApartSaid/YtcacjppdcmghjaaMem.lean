/-
  WHAT IS PROVED: arguments of type []Act; slices of reports in memory (read, a row of the call's own, appended to, a field of one written). Conditions: the sizes.
-/
import Derived.Test.YtcacjppdcmghjaaPlain
import Derived.Test.YtcacjppdcmghjaaInts
import Derived.Maps.AppendAt
import Derived.OwnWalk
import Derived.Deep.Strs
import Derived.Lib.SmallJoins
import Derived.OpenShut
import Derived.OpenVars
namespace Go.Proofs.Ytcacjppdcmghjaa
open Go.RowKit Go.ChangeShapes Go.WideShapes Go.ChangeAt Go.WideElems

def inInt (z : Int) : Prop := -9223372036854775808 ≤ z ∧ z ≤ 9223372036854775807
def St.fits (s : St) : Prop := inInt s.how ∧ inInt s.a ∧ inInt s.b ∧ inInt s.t
theorem add_succ (x : Addr) (j : Nat) : x.add (j + 1) = ⟨x.block, x.off + (j + 1), none⟩ := by unfold Addr.add; rw [if_neg (by omega)]

/-- the slice value '.slice A n c' holds the steps l, in a block that is there -/
def ActsAt (w : World) (A : Option Addr) (n : Nat) (l : List St) : Prop :=
  l.length = n ∧ (0 < n → ∃ ad, A = some ad ∧ ad.block < w.heap.size ∧ ∀ i s, l[i]? = some s → w.cell? (ad.add (i * 4)) = some (.int .i64 s.how) ∧ w.cell? (ad.add (i * 4 + 1)) = some (.int .i64 s.a) ∧ w.cell? (ad.add (i * 4 + 2)) = some (.int .i64 s.b) ∧ w.cell? (ad.add (i * 4 + 3)) = some (.int .i64 s.t))
theorem ActsAt.below {w w' : World} {A : Option Addr} {n : Nat} {l : List St} (h : ActsAt w A n l) (hb : Below w.heap.size w w') : ActsAt w' A n l :=
  ⟨h.1, fun hn => by
    obtain ⟨ad, e, hlt, hc⟩ := h.2 hn
    refine ⟨ad, e, Nat.lt_of_lt_of_le hlt hb.size, fun i s hs => ?_⟩
    obtain ⟨c0, c1, c2, c3⟩ := hc i s hs
    exact ⟨(hb.cell (by rw [block_of_add]; exact hlt)).trans c0, (hb.cell (by rw [block_of_add]; exact hlt)).trans c1, (hb.cell (by rw [block_of_add]; exact hlt)).trans c2, (hb.cell (by rw [block_of_add]; exact hlt)).trans c3⟩⟩
theorem ActsAt.at_ {w : World} {A : Option Addr} {n k : Nat} {l : List St} (h : ActsAt w A n l) (hk : k < n) :
    ∃ ad s, A = some ad ∧ l[k]? = some s ∧ ad.block < w.heap.size ∧ w.cell? (ad.add (k * 4)) = some (.int .i64 s.how) ∧ w.cell? ⟨(ad.add (k * 4)).block, (ad.add (k * 4)).off + 1, none⟩ = some (.int .i64 s.a) ∧ w.cell? ⟨(ad.add (k * 4)).block, (ad.add (k * 4)).off + 2, none⟩ = some (.int .i64 s.b) ∧ w.cell? ⟨(ad.add (k * 4)).block, (ad.add (k * 4)).off + 3, none⟩ = some (.int .i64 s.t) := by
  obtain ⟨ad, e, hlt, hc⟩ := h.2 (by omega)
  have hl : k < l.length := by have := h.1; omega
  obtain ⟨c0, c1, c2, c3⟩ := hc k _ (List.getElem?_eq_getElem hl)
  rw [← add_of_add, add_succ] at c1 c2 c3
  exact ⟨ad, l[k], e, List.getElem?_eq_getElem hl, hlt, c0, c1, c2, c3⟩
theorem cells_act : Try.prog.cellsOf 30 = 4 := by kernel_rfl

section
variable {H : Type} {enc : TypeId × Value → H}
theorem open_act {W : World} {sp : Nat → Bool} {hd : Bool} {fuel : Nat} {cs : List Value} {x : DataW H × List MemPlace} (h : DataW.trod enc Try.prog W 0 sp hd fuel 30 cs = some x) :
    ∃ s : St, s.fits ∧ cs = [.int .i64 s.how, .int .i64 s.a, .int .i64 s.b, .int .i64 s.t] := by
  obtain ⟨y0, y1, y2, y3, m, _, hl, h0, h1, h2, h3⟩ := Go.Joins.trod_struct4 Try.underlying30 h
  rw [cells_act] at hl
  match cs, hl with
  | [a, b, c, d], _ =>
    simp only [cells_int] at h0 h1 h2 h3
    obtain ⟨z0, e0, _, w0⟩ := DataW.trod_int Try.underlying3 h0
    obtain ⟨z1, e1, _, w1⟩ := DataW.trod_int Try.underlying3 h1
    obtain ⟨z2, e2, _, w2⟩ := DataW.trod_int Try.underlying3 h2
    obtain ⟨z3, e3, _, w3⟩ := DataW.trod_int Try.underlying3 h3
    simp at e0 e1 e2 e3
    subst e0; subst e1; subst e2; subst e3
    exact ⟨⟨z0, z1, z2, z3⟩, ⟨wf_i64 w0, wf_i64 w1, wf_i64 w2, wf_i64 w3⟩, rfl⟩

/-- AN ARGUMENT OF TYPE []Act -/
theorem open_acts {W : World} {r : Reach} {b0 : Nat} {v : Value} {d : DataW H} {p : List MemPlace}
    (hval : Value.okWide Try.prog W r b0 22 v) (h0 : DataW.Trod enc Try.prog W 0 (fun _ => true) true 22 v d p) :
    ∃ (A : Option Addr) (n cap : Nat) (l : List St), v = .slice A n cap ∧ l.length = n ∧ n ≤ cap ∧ cap ≤ 9223372036854775807 ∧ ActsAt W A n l ∧ ∀ s ∈ l, s.fits := by
  obtain ⟨a0, len, cap, rfl⟩ := okWide_slice Try.underlying22 hval
  obtain ⟨fuel, hf⟩ := h0
  rcases Go.Deep.open_slice Try.underlying22 hf with ⟨hcs, _⟩ | ⟨a, len', cap', m, q, D, Pl, hcs, _, hl, hm, hmm, _, hx⟩
  · simp [Value.cells] at hcs
    obtain ⟨rfl, rfl, rfl⟩ := hcs
    exact ⟨none, 0, 0, [], rfl, rfl, Nat.le_refl _, by omega, ⟨rfl, fun h => absurd h (by omega)⟩, fun z hz => by cases hz⟩
  · simp [Value.cells] at hcs
    obtain ⟨rfl, rfl, rfl⟩ := hcs
    simp only [if_true] at hmm
    have each : ∀ i, i < len → ∃ s : St, s.fits ∧ W.cell? (a.add (i * 4)) = some (.int .i64 s.how) ∧ W.cell? (a.add (i * 4 + 1)) = some (.int .i64 s.a) ∧ W.cell? (a.add (i * 4 + 2)) = some (.int .i64 s.b) ∧ W.cell? (a.add (i * 4 + 3)) = some (.int .i64 s.t) := fun i hi => by
      obtain ⟨cs', hc, hd⟩ := hx i (by omega)
      rw [cells_act] at hc
      obtain ⟨s, hs, rfl⟩ := open_act hd
      obtain ⟨_, _, hcell⟩ := World.cells?_some hc
      have c0 := hcell 0 (by omega)
      have c1 := hcell 1 (by omega)
      have c2 := hcell 2 (by omega)
      have c3 := hcell 3 (by omega)
      rw [add_of_add] at c0 c1 c2 c3
      exact ⟨s, hs, c0, c1, c2, c3⟩
    have : Inhabited St := ⟨⟨0, 0, 0, 0⟩⟩
    obtain ⟨g, hg⟩ := Go.Deep.choose_lt each
    refine ⟨some a, len, cap, (List.range len).map g, rfl, by simp, hl, hm, ⟨by simp, fun hn => ⟨a, rfl, ?_, fun i s hs => ?_⟩⟩, fun s hs => ?_⟩
    · have := lt_of_cell (hg 0 hn).2.1
      rwa [block_of_add] at this
    · rw [List.getElem?_map] at hs
      cases hi : (List.range len)[i]? with
      | none => rw [hi] at hs; cases hs
      | some j =>
        rw [hi] at hs
        simp at hs
        have hil : i < len := by
          have := (List.getElem?_eq_some_iff.1 hi).1
          simpa using this
        have hj : j = i := by
          have := (List.getElem?_eq_some_iff.1 hi).2
          simp at this
          exact this.symm
        subst hj; subst hs
        exact (hg j hil).2
    · obtain ⟨j, hj, rfl⟩ := List.mem_map.1 hs
      exact (hg j (by simpa using hj)).1
end

/-! ### slices of reports -/
def encR (r : Rp) : List Value := [.int .i64 r.a, .int .i64 r.b, .int .i64 r.t]
def flatR (l : List Rp) : List Value := l.flatMap encR
theorem flat_len : ∀ l : List Rp, (flatR l).length = l.length * 3
  | [] => rfl
  | r :: l => by have := flat_len l; simp [flatR, encR] at this ⊢; omega
theorem flat_append (l m : List Rp) : flatR (l ++ m) = flatR l ++ flatR m := by unfold flatR; rw [List.flatMap_append]
theorem flat_one (l : List Rp) : ∀ u ∈ flatR l, u.oneCell' = true := by
  intro u hu
  obtain ⟨r, _, hr⟩ := List.mem_flatMap.1 hu
  simp [encR] at hr
  rcases hr with rfl | rfl | rfl <;> rfl
theorem flat_get : ∀ {l : List Rp} {i : Nat} {r : Rp}, l[i]? = some r → (flatR l)[i * 3]? = some (.int .i64 r.a) ∧ (flatR l)[i * 3 + 1]? = some (.int .i64 r.b) ∧ (flatR l)[i * 3 + 2]? = some (.int .i64 r.t)
  | x :: l, 0, r, h => by simp at h; subst h; exact ⟨rfl, rfl, rfl⟩
  | x :: l, i + 1, r, h => by
    have := flat_get (l := l) (i := i) (r := r) (by simpa using h)
    rw [show (i + 1) * 3 = i * 3 + 3 by omega, show i * 3 + 3 + 1 = i * 3 + 1 + 3 by omega, show i * 3 + 3 + 2 = i * 3 + 2 + 3 by omega]
    exact this
theorem flat_at : ∀ {l : List Rp} {j : Nat} {u : Value}, (flatR l)[j]? = some u → ∃ i r, l[i]? = some r ∧ ((j = i * 3 ∧ u = .int .i64 r.a) ∨ (j = i * 3 + 1 ∧ u = .int .i64 r.b) ∨ (j = i * 3 + 2 ∧ u = .int .i64 r.t))
  | [], j, u, h => by simp [flatR] at h
  | x :: l, 0, u, h => by simp [flatR, encR] at h; exact ⟨0, x, rfl, .inl ⟨rfl, h.symm⟩⟩
  | x :: l, 1, u, h => by simp [flatR, encR] at h; exact ⟨0, x, rfl, .inr (.inl ⟨rfl, h.symm⟩)⟩
  | x :: l, 2, u, h => by simp [flatR, encR] at h; exact ⟨0, x, rfl, .inr (.inr ⟨rfl, h.symm⟩)⟩
  | x :: l, j + 3, u, h => by
    obtain ⟨i, r, hi, h⟩ := flat_at (l := l) (j := j) (u := u) h
    refine ⟨i + 1, r, by simpa using hi, ?_⟩
    rcases h with ⟨e, h⟩ | ⟨e, h⟩ | ⟨e, h⟩
    · exact .inl ⟨by omega, h⟩
    · exact .inr (.inl ⟨by omega, h⟩)
    · exact .inr (.inr ⟨by omega, h⟩)

/-- the slice value '.slice A n c' holds the reports l, in a block that is there -/
def RpsAt (w : World) (A : Option Addr) (n : Nat) (l : List Rp) : Prop :=
  l.length = n ∧ (0 < n → ∃ ad, A = some ad ∧ ad.block < w.heap.size ∧ ∀ i s, l[i]? = some s → w.cell? (ad.add (i * 3)) = some (.int .i64 s.a) ∧ w.cell? (ad.add (i * 3 + 1)) = some (.int .i64 s.b) ∧ w.cell? (ad.add (i * 3 + 2)) = some (.int .i64 s.t))

section
variable {w w' : World} {A : Option Addr} {ad : Addr} {n k : Nat} {l : List Rp}
theorem RpsAt.nil_ (w : World) (A : Option Addr) : RpsAt w A 0 [] := ⟨rfl, fun h => absurd h (by omega)⟩
theorem RpsAt.below (h : RpsAt w A n l) (hb : Below w.heap.size w w') : RpsAt w' A n l :=
  ⟨h.1, fun hn => by
    obtain ⟨ad, e, hlt, hc⟩ := h.2 hn
    refine ⟨ad, e, Nat.lt_of_lt_of_le hlt hb.size, fun i s hs => ?_⟩
    obtain ⟨c0, c1, c2⟩ := hc i s hs
    exact ⟨(hb.cell (by rw [block_of_add]; exact hlt)).trans c0, (hb.cell (by rw [block_of_add]; exact hlt)).trans c1, (hb.cell (by rw [block_of_add]; exact hlt)).trans c2⟩⟩
theorem RpsAt.at_ (h : RpsAt w A n l) (hk : k < n) :
    ∃ ad s, A = some ad ∧ l[k]? = some s ∧ ad.block < w.heap.size ∧ w.cell? (ad.add (k * 3)) = some (.int .i64 s.a) ∧ w.cell? ⟨(ad.add (k * 3)).block, (ad.add (k * 3)).off + 1, none⟩ = some (.int .i64 s.b) ∧ w.cell? ⟨(ad.add (k * 3)).block, (ad.add (k * 3)).off + 2, none⟩ = some (.int .i64 s.t) := by
  obtain ⟨ad, e, hlt, hc⟩ := h.2 (by omega)
  have hl : k < l.length := by have := h.1; omega
  obtain ⟨c0, c1, c2⟩ := hc k _ (List.getElem?_eq_getElem hl)
  rw [← add_of_add, add_succ] at c1 c2
  exact ⟨ad, l[k], e, List.getElem?_eq_getElem hl, hlt, c0, c1, c2⟩
theorem RpsAt.cells (h : RpsAt w (some ad) n l) : ∀ j u, (flatR l)[j]? = some u → w.cell? (ad.add j) = some u := fun j u hu => by
  obtain ⟨i, r, hi, hr⟩ := flat_at hu
  have hn : 0 < n := by have := h.1; have := (List.getElem?_eq_some_iff.1 hi).1; omega
  obtain ⟨ad', e, _, hc⟩ := h.2 hn
  cases e
  obtain ⟨c0, c1, c2⟩ := hc i r hi
  rcases hr with ⟨rfl, rfl⟩ | ⟨rfl, rfl⟩ | ⟨rfl, rfl⟩
  · exact c0
  · exact c1
  · exact c2
theorem RpsAt.of_cells {ad : Addr} (hl : l.length = n) (hlt : 0 < n → ad.block < w.heap.size) (hc : ∀ j u, (flatR l)[j]? = some u → w.cell? (ad.add j) = some u) : RpsAt w (some ad) n l :=
  ⟨hl, fun hn => ⟨ad, rfl, hlt hn, fun _ _ hs => ⟨hc _ _ (flat_get hs).1, hc _ _ (flat_get hs).2.1, hc _ _ (flat_get hs).2.2⟩⟩⟩
end

/-- a row of the call's own -/
theorem own_reps {w : World} {base n : Nat} {e : TypeId} {v : Value} {l : List Rp} (h : w.ownsRow base e 3 v n (flatR l)) :
    ∃ A cap, v = .slice A n cap ∧ n ≤ cap ∧ cap ≤ 9223372036854775807 ∧ RpsAt w A n l := by
  have hl : l.length = n := by have := h.1; rw [flat_len] at this; omega
  rcases h.2 with ⟨rfl, rfl⟩ | ⟨b, cap, cur, rfl, hb, hh, hnc, hcm, _⟩
  · obtain rfl := List.eq_nil_of_length_eq_zero hl
    exact ⟨none, 0, rfl, Nat.le_refl _, by omega, RpsAt.nil_ _ _⟩
  · exact ⟨some ⟨b, 0, none⟩, cap, rfl, hnc, by unfold maxLen at hcm; omega, RpsAt.of_cells hl (fun _ => (Array.getElem?_eq_some_iff.1 hh).1) (h.cells rfl)⟩

theorem rp_info : (Try.prog.info? 53).map (fun i => (i.zero, i.size, i.bytes)) = some (some (.agg #[.int .i64 0, .int .i64 0, .int .i64 0]), 3, 24) := by kernel_rfl
theorem int_info : (Try.prog.info? 3).map (fun i => (i.zero, i.size, i.bytes)) = some (some (.int .i64 0), 1, 8) := by kernel_rfl
theorem info_parts {P : Program} {t : TypeId} {z : Option Value} {s b : Nat} (h : (P.info? t).map (fun i => (i.zero, i.size, i.bytes)) = some (z, s, b)) : ∃ i, P.info? t = some i ∧ i.zero = z ∧ i.size = s ∧ i.bytes = b := by
  cases hi : P.info? t with
  | none => rw [hi] at h; cases h
  | some i => rw [hi] at h; simp at h; exact ⟨i, rfl, h.1, h.2.1, h.2.2⟩

section
variable {P : Program} (w : World)
/-- append at reports: onto an own row, of a slice that may be nil -/
theorem run_append_reps (base : Nat) (t ty e : TypeId) (i : TypeInfo) (z : Value) (ht : P.underlying t = some (.slice e)) (hi : P.info? e = some i) (hz : i.zero = some z)
    (hsize : i.size = 3) (hby : i.bytes = 24) (hzs : z.cells.size = 3)
    (v : Value) (n : Nat) (xs : List Rp) (hown : w.ownsRow base e 3 v n (flatR xs))
    (A : Option Addr) (m c : Nat) (news : List Rp) (hr : RpsAt w A m news)
    (h63 : n + m ≤ 1000000) (hbase : base ≤ w.heap.size) :
    ∃ v' w', (Builtin.append_ #[t, t] ty #[v, .slice A m c]).run P w = .ok v' w' ∧ w'.ownsRow base e 3 v' (n + m) (flatR (xs ++ news)) ∧ w.grownBy w' v.ownBlock ∧
      (v'.ownBlock = v.ownBlock ∨ v'.ownBlock = some w.heap.size) := by
  rw [flat_append]
  cases A with
  | none =>
    have hm : m = 0 := by
      rcases Nat.eq_zero_or_pos m with h0 | h0
      · exact h0
      · obtain ⟨ad, h, _⟩ := hr.2 h0
        cases h
    subst hm
    have hn : news = [] := List.eq_nil_of_length_eq_zero hr.1
    subst hn
    refine ⟨v, w, ?_, by simpa [flatR] using hown, World.grownBy.refl w _, .inl rfl⟩
    rcases hown.2 with ⟨rfl, rfl⟩ | ⟨b, cap, cur, rfl, _, _, hnc, _⟩
    · simp [Builtin.append_, run_underlying ht, sizeOf, typeInfo, hi, Builtin.lenOf, Builtin.firstCells]
    · simp [Builtin.append_, run_underlying ht, sizeOf, typeInfo, hi, Builtin.lenOf, Builtin.firstCells, hnc, storeCells]
  | some ad =>
    obtain ⟨v', w', hrun, h2, h3, _, h5⟩ := run_append_own_at (P := P) w base t ty e i z 3 24 ht hi hz hsize hby hzs (by omega) v n (flatR xs) hown ad m c (flatR news) (by rw [flat_len, hr.1]) hr.cells (flat_one _) (by unfold maxLen; omega) (by omega) hbase
    exact ⟨v', w', hrun, h2, h3, h5⟩

theorem wpList_append_reps {ops : Array Oper} {rest : List Oper} {o : Oper} {a : Act} {Q : Exit → Act → World → Prop} (hgd : o.guard = none) (s x : Operand) (t : TypeId)
    (ho : o.op = .call { callee := .builtin .append, args := #[s, x], argTypes := #[t, t] })
    (base : Nat) (e : TypeId) (i : TypeInfo) (z : Value) (ht : P.underlying t = some (.slice e)) (hi : P.info? e = some i) (hz : i.zero = some z)
    (hsize : i.size = 3) (hby : i.bytes = 24) (hzs : z.cells.size = 3)
    (v : Value) (n : Nat) (xs : List Rp) (hs : a.eval s = v) (hown : w.ownsRow base e 3 v n (flatR xs))
    (A : Option Addr) (m c : Nat) (news : List Rp) (hx : a.eval x = .slice A m c) (hr : RpsAt w A m news)
    (h63 : n + m ≤ 1000000) (hbase : base ≤ w.heap.size)
    (h : ∀ v' w', w'.ownsRow base e 3 v' (n + m) (flatR (xs ++ news)) → w.grownBy w' v.ownBlock → (v'.ownBlock = v.ownBlock ∨ v'.ownBlock = some w.heap.size) → wpList P ops Q rest (a.put o.dst v') w') : wpList P ops Q (o :: rest) a w :=
  wpList_plain hgd fun K hK => by
    obtain ⟨v', w', hrun, h2, h3, h4⟩ := run_append_reps (P := P) w base t o.type e i z ht hi hz hsize hby hzs v n xs hown A m c news hr h63 hbase
    unfold Oper.wp execOp
    simp only [ho, resolve, invoke, builtin, Sem.run_bind, Sem.run_pure, Result.andThen_ok, List.map_toArray, List.map_cons, List.map_nil, hs, hx, hrun]
    exact hK _ _ (h v' w' h2 h3 h4)
end
theorem RpsAt.one (w : World) (r : Rp) (t : TypeId) : RpsAt (w.alloc (.cells #[.int .i64 r.a, .int .i64 r.b, .int .i64 r.t] t)) (some ⟨w.heap.size, 0, none⟩) 1 [r] :=
  RpsAt.of_cells rfl (fun _ => by simp) fun j u hu => by
    rw [Go.WideShapes.add_plain, Nat.zero_add, (Blk.new w t _).cell j]
    simpa [flatR, encR] using hu

/-- one of an own row's reports is given another time -/
theorem own_set {w : World} {base n k : Nat} {e : TypeId} {v : Value} {l : List Rp} {r : Rp} (h : w.ownsRow base e 3 v n (flatR l)) (hr : l[k]? = some r) :
    ∃ ad c, v = .slice (some ad) n c ∧ n ≤ c ∧ c ≤ 9223372036854775807 ∧ base ≤ ad.block ∧ ad.block < w.heap.size ∧
      w.cell? ⟨(ad.add (k * 3)).block, (ad.add (k * 3)).off + 2, none⟩ = some (.int .i64 r.t) ∧ w.frozen? ⟨(ad.add (k * 3)).block, (ad.add (k * 3)).off + 2, none⟩ = false ∧ (ad.add (k * 3)).block = ad.block ∧
      ∀ x, (w.setCell ⟨(ad.add (k * 3)).block, (ad.add (k * 3)).off + 2, none⟩ (.int .i64 x)).ownsRow base e 3 (.slice (some ad) n c) n (flatR (l.set k ⟨r.a, r.b, x⟩)) := by
  have hl : l.length = n := by have := h.1; rw [flat_len] at this; omega
  have hk : k < l.length := (List.getElem?_eq_some_iff.1 hr).1
  rcases h.2 with ⟨_, h0⟩ | ⟨g, cap, cur, rfl, hg, hh, hnc, hcm, hcs, ht⟩
  · omega
  · have hB : Blk w g e cur := hh
    have hcell : ∀ j u, (flatR l)[j]? = some u → cur[j]? = some u := fun j u hu => by
      rw [← ht, List.getElem?_take] at hu
      split at hu
      · simpa using hu
      · cases hu
    have e0 : (⟨g, 0, none⟩ : Addr).add (k * 3) = ⟨g, k * 3, none⟩ := by rw [Go.WideShapes.add_plain, Nat.zero_add]
    refine ⟨⟨g, 0, none⟩, cap, rfl, hnc, by unfold maxLen at hcm; omega, hg, hB.lt, ?_, ?_, by rw [e0], fun x => ?_⟩
    · rw [e0, hB.cell]
      exact hcell _ _ (flat_get hr).2.2
    · rw [e0]
      exact hB.frozen _
    · rw [e0]
      have hB2 := hB.set_ (k * 3 + 2) (.int .i64 x)
      refine ⟨by rw [flat_len, List.length_set, hl], .inr ⟨g, cap, _, rfl, hg, hB2, hnc, hcm, by simpa using hcs, ?_⟩⟩
      apply List.ext_getElem?
      intro j
      rw [List.getElem?_take]
      have hfl : (flatR (l.set k ⟨r.a, r.b, x⟩)).length = n * 3 := by rw [flat_len, List.length_set, hl]
      by_cases hj : j < n * 3
      · rw [if_pos hj]
        have hcur : k * 3 + 2 < cur.size := by have := (Array.getElem?_eq_some_iff.1 (hcell _ _ (flat_get hr).2.2)).1; exact this
        obtain ⟨q, hi, hq⟩ : ∃ q, q < l.length ∧ (j = q * 3 ∨ j = q * 3 + 1 ∨ j = q * 3 + 2) := ⟨j / 3, by omega, by omega⟩
        have hs := List.getElem?_eq_getElem (l := l.set k ⟨r.a, r.b, x⟩) (i := q) (by rw [List.length_set]; exact hi)
        obtain ⟨f0, f1, f2⟩ := flat_get hs
        simp only [Array.getElem?_toList]
        by_cases hik : q = k
        · have e1 : (l.set k ⟨r.a, r.b, x⟩)[q]'(by rw [List.length_set]; exact hi) = ⟨r.a, r.b, x⟩ := by simp [hik]
          rw [e1] at f0 f1 f2
          obtain ⟨g0, g1, g2⟩ := flat_get hr
          rcases hq with rfl | rfl | rfl
          · rw [f0, hik, Array.getElem?_setIfInBounds_ne (by omega)]; exact hcell _ _ g0
          · rw [f1, hik, Array.getElem?_setIfInBounds_ne (by omega)]; exact hcell _ _ g1
          · rw [f2, hik, Array.getElem?_setIfInBounds_self_of_lt hcur]
        · have e1 : (l.set k ⟨r.a, r.b, x⟩)[q]'(by rw [List.length_set]; exact hi) = l[q] := List.getElem_set_ne (fun e => hik e.symm) _
          rw [e1] at f0 f1 f2
          obtain ⟨g0, g1, g2⟩ := flat_get (List.getElem?_eq_getElem hi)
          rw [Array.getElem?_setIfInBounds_ne (by omega)]
          rcases hq with rfl | rfl | rfl
          · rw [f0]; exact hcell _ _ g0
          · rw [f1]; exact hcell _ _ g1
          · rw [f2]; exact hcell _ _ g2
      · rw [if_neg hj, List.getElem?_eq_none (by omega)]
end Go.Proofs.Ytcacjppdcmghjaa
