/-
  WHAT IS PROVED: a slice of claims, cut, and appended to a row of the call's own. Condition: the sizes.
-/
import Derived.Test.YtkkjciomgcgdiaaArgs
import Derived.Maps.AppendAt
import Derived.OwnWalk
namespace Go.Proofs.Ytkkjciomgcgdiaa
open Go.RowKit

/-- a claim's cells -/
def encC (r : Cl) : List Value := [.int .i64 r.id, .int .i64 r.ep, .int .u64 (r.s : Int)]
def flatC (l : List Cl) : List Value := l.flatMap encC
theorem flat_len : ∀ l : List Cl, (flatC l).length = l.length * 3
  | [] => rfl
  | r :: l => by have := flat_len l; simp [flatC, encC] at this ⊢; omega
theorem flat_append (l m : List Cl) : flatC (l ++ m) = flatC l ++ flatC m := by unfold flatC; rw [List.flatMap_append]
theorem flat_one (l : List Cl) : ∀ u ∈ flatC l, u.oneCell' = true := by
  intro u hu
  obtain ⟨r, _, hr⟩ := List.mem_flatMap.1 hu
  simp [encC] at hr
  rcases hr with rfl | rfl | rfl <;> rfl
theorem flat_get : ∀ {l : List Cl} {i : Nat} {r : Cl}, l[i]? = some r → (flatC l)[i * 3]? = some (.int .i64 r.id) ∧ (flatC l)[i * 3 + 1]? = some (.int .i64 r.ep) ∧ (flatC l)[i * 3 + 2]? = some (.int .u64 (r.s : Int))
  | x :: l, 0, r, h => by simp at h; subst h; exact ⟨rfl, rfl, rfl⟩
  | x :: l, i + 1, r, h => by
    have := flat_get (l := l) (i := i) (r := r) (by simpa using h)
    rw [show (i + 1) * 3 = i * 3 + 3 by omega, show i * 3 + 3 + 1 = i * 3 + 1 + 3 by omega, show i * 3 + 3 + 2 = i * 3 + 2 + 3 by omega]
    exact this
theorem flat_at : ∀ {l : List Cl} {j : Nat} {u : Value}, (flatC l)[j]? = some u → ∃ i r, l[i]? = some r ∧ ((j = i * 3 ∧ u = .int .i64 r.id) ∨ (j = i * 3 + 1 ∧ u = .int .i64 r.ep) ∨ (j = i * 3 + 2 ∧ u = .int .u64 (r.s : Int)))
  | x :: l, 0, u, h => by simp [flatC, encC] at h; exact ⟨0, x, rfl, .inl ⟨rfl, h.symm⟩⟩
  | x :: l, 1, u, h => by simp [flatC, encC] at h; exact ⟨0, x, rfl, .inr (.inl ⟨rfl, h.symm⟩)⟩
  | x :: l, 2, u, h => by simp [flatC, encC] at h; exact ⟨0, x, rfl, .inr (.inr ⟨rfl, h.symm⟩)⟩
  | x :: l, j + 3, u, h => by
    obtain ⟨i, r, hi, h⟩ := flat_at (l := l) (j := j) (u := u) h
    refine ⟨i + 1, r, by simpa using hi, ?_⟩
    rcases h with ⟨e, h⟩ | ⟨e, h⟩ | ⟨e, h⟩
    · exact .inl ⟨by omega, h⟩
    · exact .inr (.inl ⟨by omega, h⟩)
    · exact .inr (.inr ⟨by omega, h⟩)

section
variable {w w' : World} {A : Option Addr} {ad : Addr} {n k : Nat} {l : List Cl}
theorem ClsAt.nil_ (w : World) (A : Option Addr) : ClsAt w A 0 [] := ⟨rfl, fun h => absurd h (by omega)⟩
theorem ClsAt.take (h : ClsAt w A n l) (hk : k ≤ n) : ClsAt w A k (l.take k) := by
  refine ⟨by rw [List.length_take, h.1]; omega, fun hn => ?_⟩
  obtain ⟨ad, e, hlt, hc⟩ := h.2 (by omega)
  exact ⟨ad, e, hlt, fun i s hs => hc i s (by rw [List.getElem?_take] at hs; split at hs <;> simp_all)⟩
theorem ClsAt.cut (h : ClsAt w A n l) {cap : Nat} (hk : k ≤ n) (hc : n ≤ cap) :
    ClsAt w (if cap = k then A else A.map (·.add (k * 3))) (n - k) (l.drop k) := by
  refine ⟨by rw [List.length_drop, h.1], fun hn => ?_⟩
  obtain ⟨ad, rfl, hlt, hcell⟩ := h.2 (by omega)
  rw [if_neg (by omega)]
  refine ⟨ad.add (k * 3), rfl, by rw [block_of_add]; exact hlt, fun i s hs => ?_⟩
  have hs' : l[k + i]? = some s := by rw [← hs, List.getElem?_drop]
  obtain ⟨c0, c1, c2⟩ := hcell _ s hs'
  rw [add_of_add, add_of_add, add_of_add]
  rw [show k * 3 + i * 3 = (k + i) * 3 by omega, show k * 3 + (i * 3 + 1) = (k + i) * 3 + 1 by omega, show k * 3 + (i * 3 + 2) = (k + i) * 3 + 2 by omega]
  exact ⟨c0, c1, c2⟩
theorem ClsAt.cells (h : ClsAt w (some ad) n l) : ∀ j u, (flatC l)[j]? = some u → w.cell? (ad.add j) = some u := fun j u hu => by
  obtain ⟨i, r, hi, hr⟩ := flat_at hu
  have hn : 0 < n := by have := h.1; have := (List.getElem?_eq_some_iff.1 hi).1; omega
  obtain ⟨ad', e, _, hc⟩ := h.2 hn
  cases e
  obtain ⟨c0, c1, c2⟩ := hc i r hi
  rcases hr with ⟨rfl, rfl⟩ | ⟨rfl, rfl⟩ | ⟨rfl, rfl⟩
  · exact c0
  · exact c1
  · exact c2
theorem ClsAt.of_cells {ad : Addr} (hl : l.length = n) (hlt : 0 < n → ad.block < w.heap.size) (hc : ∀ j u, (flatC l)[j]? = some u → w.cell? (ad.add j) = some u) : ClsAt w (some ad) n l :=
  ⟨hl, fun hn => ⟨ad, rfl, hlt hn, fun _ _ hs => ⟨hc _ _ (flat_get hs).1, hc _ _ (flat_get hs).2.1, hc _ _ (flat_get hs).2.2⟩⟩⟩
end

/-- a row of the call's own -/
theorem own_cls {w : World} {base n : Nat} {e : TypeId} {v : Value} {l : List Cl} (h : w.ownsRow base e 3 v n (flatC l)) :
    ∃ A cap, v = .slice A n cap ∧ n ≤ cap ∧ cap ≤ 9223372036854775807 ∧ ClsAt w A n l := by
  have hl : l.length = n := by have := h.1; rw [flat_len] at this; omega
  rcases h.2 with ⟨rfl, rfl⟩ | ⟨b, cap, cur, rfl, hb, hh, hnc, hcm, _⟩
  · obtain rfl := List.eq_nil_of_length_eq_zero hl
    exact ⟨none, 0, rfl, Nat.le_refl _, by omega, ClsAt.nil_ _ _⟩
  · exact ⟨some ⟨b, 0, none⟩, cap, rfl, hnc, by unfold maxLen at hcm; omega, ClsAt.of_cells hl (fun _ => (Array.getElem?_eq_some_iff.1 hh).1) (h.cells rfl)⟩
theorem cl_info : (Try.prog.info? 28).map (fun i => (i.zero, i.size, i.bytes)) = some (some (.agg #[.int .i64 0, .int .i64 0, .int .u64 0]), 3, 24) := by kernel_rfl
theorem info_parts' {P : Program} {t : TypeId} {z : Option Value} {s b : Nat} (h : (P.info? t).map (fun i => (i.zero, i.size, i.bytes)) = some (z, s, b)) : ∃ i, P.info? t = some i ∧ i.zero = z ∧ i.size = s ∧ i.bytes = b := by
  cases hi : P.info? t with
  | none => rw [hi] at h; cases h
  | some i => rw [hi] at h; simp at h; exact ⟨i, rfl, h.1, h.2.1, h.2.2⟩

section
variable {P : Program} (w : World)
/-- append at claims: onto an own row, of a slice that may be nil -/
theorem run_append_cls (base : Nat) (t ty e : TypeId) (i : TypeInfo) (z : Value) (ht : P.underlying t = some (.slice e)) (hi : P.info? e = some i) (hz : i.zero = some z)
    (hsize : i.size = 3) (hby : i.bytes = 24) (hzs : z.cells.size = 3)
    (v : Value) (n : Nat) (xs : List Cl) (hown : w.ownsRow base e 3 v n (flatC xs))
    (A : Option Addr) (m c : Nat) (news : List Cl) (hr : ClsAt w A m news)
    (h63 : n + m ≤ 1000000) (hbase : base ≤ w.heap.size) :
    ∃ v' w', (Builtin.append_ #[t, t] ty #[v, .slice A m c]).run P w = .ok v' w' ∧ w'.ownsRow base e 3 v' (n + m) (flatC (xs ++ news)) ∧ w.grownBy w' v.ownBlock ∧
      (v'.ownBlock = v.ownBlock ∨ v'.ownBlock = some w.heap.size) := by
  rw [flat_append]
  cases A with
  | none =>
    have hm : m = 0 := by
      rcases Nat.eq_zero_or_pos m with h0 | h0
      · exact h0
      · obtain ⟨ad, h, _⟩ := hr.2 h0
        cases h
    subst hm
    have hn : news = [] := List.eq_nil_of_length_eq_zero hr.1
    subst hn
    refine ⟨v, w, ?_, by simpa [flatC] using hown, World.grownBy.refl w _, .inl rfl⟩
    rcases hown.2 with ⟨rfl, rfl⟩ | ⟨b, cap, cur, rfl, _, _, hnc, _⟩
    · simp [Builtin.append_, run_underlying ht, sizeOf, typeInfo, hi, Builtin.lenOf, Builtin.firstCells]
    · simp [Builtin.append_, run_underlying ht, sizeOf, typeInfo, hi, Builtin.lenOf, Builtin.firstCells, hnc, storeCells]
  | some ad =>
    obtain ⟨v', w', hrun, h2, h3, _, h5⟩ := run_append_own_at (P := P) w base t ty e i z 3 24 ht hi hz hsize hby hzs (by omega) v n (flatC xs) hown ad m c (flatC news) (by rw [flat_len, hr.1]) hr.cells (flat_one _) (by unfold maxLen; omega) (by omega) hbase
    exact ⟨v', w', hrun, h2, h3, h5⟩

theorem wpList_append_cls {ops : Array Oper} {rest : List Oper} {o : Oper} {a : Act} {Q : Exit → Act → World → Prop} (hgd : o.guard = none) (s x : Operand) (t : TypeId)
    (ho : o.op = .call { callee := .builtin .append, args := #[s, x], argTypes := #[t, t] })
    (base : Nat) (e : TypeId) (i : TypeInfo) (z : Value) (ht : P.underlying t = some (.slice e)) (hi : P.info? e = some i) (hz : i.zero = some z)
    (hsize : i.size = 3) (hby : i.bytes = 24) (hzs : z.cells.size = 3)
    (v : Value) (n : Nat) (xs : List Cl) (hs : a.eval s = v) (hown : w.ownsRow base e 3 v n (flatC xs))
    (A : Option Addr) (m c : Nat) (news : List Cl) (hx : a.eval x = .slice A m c) (hr : ClsAt w A m news)
    (h63 : n + m ≤ 1000000) (hbase : base ≤ w.heap.size)
    (h : ∀ v' w', w'.ownsRow base e 3 v' (n + m) (flatC (xs ++ news)) → w.grownBy w' v.ownBlock → (v'.ownBlock = v.ownBlock ∨ v'.ownBlock = some w.heap.size) → wpList P ops Q rest (a.put o.dst v') w') : wpList P ops Q (o :: rest) a w :=
  wpList_plain hgd fun K hK => by
    obtain ⟨v', w', hrun, h2, h3, h4⟩ := run_append_cls (P := P) w base t o.type e i z ht hi hz hsize hby hzs v n xs hown A m c news hr h63 hbase
    unfold Oper.wp execOp
    simp only [ho, resolve, invoke, builtin, Sem.run_bind, Sem.run_pure, Result.andThen_ok, List.map_toArray, List.map_cons, List.map_nil, hs, hx, hrun]
    exact hK _ _ (h v' w' h2 h3 h4)
end
end Go.Proofs.Ytkkjciomgcgdiaa
