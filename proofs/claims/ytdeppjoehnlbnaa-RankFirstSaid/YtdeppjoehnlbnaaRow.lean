/-
  WHAT IS PROVED: append as one step of a region that draws its order, at replicas; a field of an own row's element written; ranks when one replica has more, or one more comes. Conditions: the sizes.
-/
import Derived.Test.YtdeppjoehnlbnaaAnchor
import Derived.Test.YtdeppjoehnlbnaaRight
namespace Go.Proofs.Ytdeppjoehnlbnaa
open Go.RowKit Go.Lib Go.Sort

section
variable {P : Program} (w : World)
theorem step_append_reps {ops : Array Oper} {o : Oper} {a : Act} {K : Act → World → Prop} {Q : Exit → Act → World → Prop} {E : Prop} (hgd : o.guard = none) (s x : Operand) (t : TypeId)
    (ho : o.op = .call { callee := .builtin .append, args := #[s, x], argTypes := #[t, t] })
    (base : Nat) (e : TypeId) (i : TypeInfo) (z : Value) (ht : P.underlying t = some (.slice e)) (hi : P.info? e = some i) (hz : i.zero = some z)
    (hsize : i.size = 2) (hby : i.bytes = 16) (hzs : z.cells.size = 2)
    (v : Value) (n : Nat) (xs : List Rep) (hs : a.eval s = v) (hown : w.ownsRow base e 2 v n (flatR xs))
    (A : Option Addr) (m c : Nat) (news : List Rep) (hx : a.eval x = .slice A m c) (hr : RepsAt w A m news)
    (h63 : n + m ≤ 1000000) (hbase : base ≤ w.heap.size)
    (h : ∀ v' w', w'.ownsRow base e 2 v' (n + m) (flatR (xs ++ news)) → w.grownBy w' v.ownBlock → (v'.ownBlock = v.ownBlock ∨ v'.ownBlock = some w.heap.size) → K (a.put o.dst v') w') :
    if Region.wanted o (yielded ops a.tmps) = true then Oper.wp P o a w K Q else E := by
  have hw : Region.wanted o (yielded ops a.tmps) = true := by simp [Region.wanted, hgd]
  rw [if_pos hw]
  obtain ⟨v', w', hrun, h2, h3, h4⟩ := run_append_reps (P := P) w base t o.type e i z ht hi hz hsize hby hzs v n xs hown A m c news hr h63 hbase
  unfold Oper.wp execOp
  simp only [ho, resolve, invoke, builtin, Sem.run_bind, Sem.run_pure, Result.andThen_ok, List.map_toArray, List.map_cons, List.map_nil, hs, hx, hrun]
  exact h v' w' h2 h3 h4
end

/-- one of an own row's replicas is given another offset -/
theorem own_set {w : World} {base n k : Nat} {e : TypeId} {v : Value} {l : List Rep} {r : Rep} (h : w.ownsRow base e 2 v n (flatR l)) (hr : l[k]? = some r) :
    ∃ ad c, v = .slice (some ad) n c ∧ n ≤ c ∧ c ≤ 9223372036854775807 ∧ base ≤ ad.block ∧ ad.block < w.heap.size ∧
      w.cell? ⟨(ad.add (k * 2)).block, (ad.add (k * 2)).off + 1, none⟩ = some (.int .i64 r.off) ∧ w.frozen? ⟨(ad.add (k * 2)).block, (ad.add (k * 2)).off + 1, none⟩ = false ∧ (ad.add (k * 2)).block = ad.block ∧
      ∀ x, RepsAt (w.setCell ⟨(ad.add (k * 2)).block, (ad.add (k * 2)).off + 1, none⟩ (.int .i64 x)) (some ad) n (l.set k ⟨r.id, x⟩) := by
  have hl : l.length = n := by have := h.1; rw [flat_len] at this; omega
  have hk : k < l.length := (List.getElem?_eq_some_iff.1 hr).1
  rcases h.2 with ⟨_, h0⟩ | ⟨g, cap, cur, rfl, hg, hh, hnc, hcm, hcs, ht⟩
  · omega
  · have hB : Blk w g e cur := hh
    have hcell : ∀ j u, (flatR l)[j]? = some u → cur[j]? = some u := fun j u hu => by
      rw [← ht, List.getElem?_take] at hu
      split at hu
      · simpa using hu
      · cases hu
    have e0 : (⟨g, 0, none⟩ : Addr).add (k * 2) = ⟨g, k * 2, none⟩ := by rw [Go.WideShapes.add_plain, Nat.zero_add]
    refine ⟨⟨g, 0, none⟩, cap, rfl, hnc, by unfold maxLen at hcm; omega, hg, hB.lt, ?_, ?_, by rw [e0], fun x => ?_⟩
    · rw [e0, hB.cell]
      exact hcell _ _ (flat_get hr).2
    · rw [e0]
      exact hB.frozen _
    · rw [e0]
      have hB2 := hB.set_ (k * 2 + 1) (.int .i64 x)
      refine ⟨by simp [hl], fun _ => ⟨_, rfl, hB2.lt, fun i s hs => ?_⟩⟩
      rw [Go.WideShapes.add_plain, Go.WideShapes.add_plain, Nat.zero_add, Nat.zero_add, hB2.cell, hB2.cell]
      have hcur : k * 2 + 1 < cur.size := by have := (List.getElem?_eq_some_iff.1 (flat_get hr).2).1; rw [flat_len] at this; omega
      by_cases hik : i = k
      · subst hik
        rw [List.getElem?_set_self hk] at hs
        cases hs
        refine ⟨?_, ?_⟩
        · rw [Array.getElem?_setIfInBounds_ne (by omega)]
          exact hcell _ _ (flat_get hr).1
        · rw [Array.getElem?_setIfInBounds_self_of_lt hcur]
      · rw [List.getElem?_set_ne (fun e => hik e.symm)] at hs
        rw [Array.getElem?_setIfInBounds_ne (by omega), Array.getElem?_setIfInBounds_ne (by omega)]
        exact ⟨hcell _ _ (flat_get hs).1, hcell _ _ (flat_get hs).2⟩

theorem set_parts {l : List Rep} {k : Nat} {r : Rep} (hr : l[k]? = some r) (x : Rep) : l = l.take k ++ r :: l.drop (k + 1) ∧ l.set k x = l.take k ++ x :: l.drop (k + 1) := by
  obtain ⟨hk, e⟩ := List.getElem?_eq_some_iff.1 hr
  refine ⟨by rw [← e, ← List.drop_eq_getElem_cons hk, List.take_append_drop], ?_⟩
  rw [List.set_eq_take_append_cons_drop, if_pos hk]
theorem cnt_parts (p q : List Rep) (x s : Rep) : cnt (p ++ x :: q) s = cnt p s + (if aheadB x s then 1 else 0) + cnt q s := by
  unfold cnt
  rw [List.countP_append, List.countP_cons]
  omega
theorem cnt_mono {p : List Rep} {s t : Rep} (h : ∀ x, aheadB x s = true → aheadB x t = true) : cnt p s ≤ cnt p t := List.countP_mono_left fun x _ => h x
theorem rise_self {l : List Rep} {k : Nat} {r : Rep} (hr : l[k]? = some r) {d : Int} (hd : 0 ≤ d) : cnt (l.set k ⟨r.id, r.off + d⟩) ⟨r.id, r.off + d⟩ ≤ cnt l r := by
  obtain ⟨e1, e2⟩ := set_parts hr ⟨r.id, r.off + d⟩
  have hm : ∀ x, aheadB x ⟨r.id, r.off + d⟩ = true → aheadB x r = true := fun x h => by rw [ahead_iff] at *; simp at h; omega
  have h3 : cnt l r = _ := (congrArg (fun m => cnt m r) e1).trans (cnt_parts (l.take k) (l.drop (k + 1)) r r)
  rw [e2, cnt_parts, h3, ahead_irr]
  have h1 := cnt_mono (p := l.take k) hm
  have h2 := cnt_mono (p := l.drop (k + 1)) hm
  simp
  omega
theorem rise_other {l : List Rep} {k : Nat} {r s : Rep} (hr : l[k]? = some r) {d : Int} (hd : 0 ≤ d) : cnt l s ≤ cnt (l.set k ⟨r.id, r.off + d⟩) s := by
  obtain ⟨e1, e2⟩ := set_parts hr ⟨r.id, r.off + d⟩
  have h3 : cnt l s = _ := (congrArg (fun m => cnt m s) e1).trans (cnt_parts (l.take k) (l.drop (k + 1)) r s)
  rw [e2, cnt_parts, h3]
  by_cases h : aheadB r s = true
  · have h2 : aheadB ⟨r.id, r.off + d⟩ s = true := by rw [ahead_iff] at *; simp; omega
    simp [h, h2]
  · have h' : aheadB r s = false := by simpa using h
    simp [h']
theorem rise_right {l : List Rep} {k : Nat} {r : Rep} (hr : l[k]? = some r) (h : rightB l = true) {d : Int} (hd : 0 ≤ d) (h2 : d ≤ 281474976710656 - r.off) : rightB (l.set k ⟨r.id, r.off + d⟩) = true := by
  obtain ⟨e1, e2⟩ := set_parts hr ⟨r.id, r.off + d⟩
  rw [right_iff] at *
  obtain ⟨g1, g2, g3⟩ := h
  have hro := ok_iff.1 (g2 r (List.mem_of_getElem? hr))
  refine ⟨by simpa using g1, fun x hx => ?_, ?_⟩
  · rw [e2] at hx
    rcases List.mem_append.1 hx with hx | hx
    · exact g2 x (List.mem_of_mem_take hx)
    · rcases List.mem_cons.1 hx with rfl | hx
      · exact ok_iff.2 ⟨hro.1, hro.2.1, by simp; omega, by simp; omega⟩
      · exact g2 x (List.mem_of_mem_drop hx)
  · have e : ids (l.set k ⟨r.id, r.off + d⟩) = ids l := by
      rw [e2]
      conv => rhs; rw [e1]
      simp [ids]
    rw [e]
    exact g3

theorem more_cnt (l : List Rep) (m s : Rep) : cnt (l ++ [m]) s = cnt l s + (if aheadB m s then 1 else 0) := by
  rw [cnt_parts]
  simp [cnt]
theorem more_self (l : List Rep) (m : Rep) : cnt (l ++ [m]) m = cnt l m := by rw [more_cnt, ahead_irr]; simp
theorem cnt_all {l : List Rep} {m : Rep} (h : ∀ r ∈ l, aheadB r m = true) : cnt l m = l.length := List.countP_eq_length.2 h
theorem cnt_zero {l : List Rep} {r x : Rep} (h : cnt l r = 0) (hx : x ∈ l) : x.off ≤ r.off := by
  have := List.countP_eq_zero.1 h x hx
  have h2 : aheadB x r = false := by simpa using this
  rw [ahead_no] at h2
  omega
end Go.Proofs.Ytdeppjoehnlbnaa
