/-
  WHAT IS PROVED: what an append to one of the document's lists comes to; the contract of its ack. Condition: the block is the document's ballot.
-/
import Derived.Test.YtmjbacmaafbdlaaTwinB
import Derived.Test.YtmjbacmaafbdlaaUntil
import Derived.BigQuiet
namespace Go.Proofs.Ytmjbacmaafbdlaa
open Go.RowKit Go.Lib Go.Maps

/-- on the way: the block's cells, the four rows, what has turned since w -/
structure Mid (w w' : World) (C x : Nat) (F : Nat → Prop) (cs : Array Value) (v : Nat → Value) (l : Nat → List Int) : Prop where
  blk : Blk w' x 31 cs
  rows : Rows4 w' C v l
  turn : Turn w w' F
  inF : ∀ i, i < 4 → ∀ k, (v i).ownBlock = some k → F k ∨ (w.heap.size ≤ k ∧ k < w'.heap.size)
section
variable {w w' w2 : World} {C x j : Nat} {F : Nat → Prop} {T : Int} {s : Bst} {cs : Array Value} {v : Nat → Value} {l : Nat → List Int} {u : Value} {m : List Int}
theorem Mid.below (h : Mid w w' C x F cs v l) (hb : Below w'.heap.size w' w2) : Mid w w2 C x F cs v l :=
  ⟨h.blk.below hb h.blk.lt, h.rows.below hb, h.turn.then_ hb, fun i hi k hk => by
    have hs := hb.size
    rcases h.inF i hi k hk with h1 | h1
    · exact .inl h1
    · exact .inr ⟨h1.1, by omega⟩⟩
theorem Mid.push (h : Mid w w' C x F cs v l) (ho : w2.ownsRow C 3 1 u m.length (zints m)) (hg : w'.grownBy w2 (v j).ownBlock) (hu : u.ownBlock = (v j).ownBlock ∨ u.ownBlock = some w'.heap.size) (hj : j < 4) : Mid w w2 C x F cs (upd v j u) (upd l j m) := by
  have hsw := h.turn.size
  have hsg := hg.size
  have hne : some x ≠ (v j).ownBlock := fun e => row_ne (h.rows.own j hj) h.blk (by decide) x e.symm rfl
  refine ⟨h.blk.grown hg hne, h.rows.put ho hg (by rcases hu with e | e; (· exact .inl e); (· exact .inr fun k hk => by rw [e] at hk; injection hk with hk; omega)) hj, ?_, fun i hi k hk => ?_⟩
  · refine h.turn.trans (Turn.of_grown (F := fun k => (v j).ownBlock = some k) hg (fun k e => e)) (fun i hi e => ?_)
    rcases h.inF j hj i e with h1 | h1
    · exact h1
    · omega
  · by_cases e : i = j
    · subst e
      rw [upd_same] at hk
      have h2 := (ho.lt k hk).2
      rcases hu with hu | hu
      · rw [hu] at hk
        rcases h.inF i hi k hk with h1 | h1
        · exact .inl h1
        · exact .inr ⟨h1.1, h2⟩
      · rw [hu] at hk
        injection hk with hk
        exact .inr ⟨by omega, h2⟩
    · rw [upd_other _ _ e] at hk
      rcases h.inF i hi k hk with h1 | h1
      · exact .inl h1
      · exact .inr ⟨h1.1, by omega⟩
theorem Mid.store (h : Mid w w' C x F cs v l) (hx : F x) (i0 : Nat) (u : Value) : Mid w (w'.setCell ⟨x, i0, none⟩ u) C x F (cs.setIfInBounds i0 u) v l := by
  have k := turn_set w' ⟨x, i0, none⟩ u
  refine ⟨h.blk.set_ i0 u, h.rows.turn k (fun i hi k hk e => ?_), h.turn.trans k (fun i _ e => ?_), fun i hi k hk => ?_⟩
  · have e' : k = x := e
    exact row_ne (h.rows.own i hi) h.blk (by decide) k hk e'
  · have e' : i = x := e
    rw [e']; exact hx
  · have hs : (w'.setCell ⟨x, i0, none⟩ u).heap.size = w'.heap.size := by simp [World.setCell]
    rw [hs]
    exact h.inF i hi k hk
theorem Mid.done {un : Int} {s0 : Bst} (h : Mid w w' C x F #[.bool s.on, .int .i64 s.ep, .int .i64 un, v 0, v 1, v 2, v 3] v l) (ht : Tw w C x F T s0) (h0 : l 0 = s.vs) (h1 : l 1 = s.ys) (h2 : l 2 = s.G.map (·.id)) (h3 : l 3 = s.G.map (·.till)) (h4 : s.on = true → un = s.si + 2 * T) (h5 : Mp.inInt un) (r : Value) :
    DidT C x F T r s w (.returned r) w' := by
  have hs := h.turn.size
  have hc := ht.cle
  refine ⟨rfl, fun k => F k ∨ (w.heap.size ≤ k ∧ k < w'.heap.size), ⟨⟨un, v, l, h.blk, h.rows, h0, h1, h2, h3, h4, h5, h.inF⟩, .inl ht.fx, ?_, ?_⟩, h.turn, ?_⟩
  · rintro i (hi | hi)
    · have := ht.lt i hi; omega
    · omega
  · rintro i (hi | hi)
    · exact ht.lo i hi
    · omega
  · rintro i hi (h1 | h1)
    · exact h1
    · omega
end
theorem step_append_run {P : Program} (w : World) {ops : Array Oper} {o : Oper} {a : Act} {K : Act → World → Prop} {Q : Exit → Act → World → Prop} {E : Prop} (hgd : o.guard = none) (s x : Operand) (t : TypeId)
    (ho : o.op = .call { callee := .builtin .append, args := #[s, x], argTypes := #[t, t] }) (v : Value) (A : Option Addr) (m c : Nat) {v' : Value} {w' : World} (hs : a.eval s = v) (hx : a.eval x = .slice A m c)
    (hrun : (Builtin.append_ #[t, t] o.type #[v, .slice A m c]).run P w = .ok v' w') (h : K (a.put o.dst v') w') : if Region.wanted o (yielded ops a.tmps) = true then Oper.wp P o a w K Q else E := by
  have hw : Region.wanted o (yielded ops a.tmps) = true := by simp [Region.wanted, hgd]
  rw [if_pos hw]
  unfold Oper.wp execOp
  simp only [ho, resolve, invoke, builtin, Sem.run_bind, Sem.run_pure, Result.andThen_ok, List.map_toArray, List.map_cons, List.map_nil, hs, hx, hrun]
  exact h
theorem one_reads (w : World) (x : Int) (g : Nat) (hg : g ≠ w.heap.size) : Reads (w.alloc (.cells #[.int .i64 x] 3)) g (some ⟨w.heap.size, 0, none⟩) 1 (zints [x]) :=
  ⟨rfl, fun _ => ⟨_, rfl, by simp, hg.symm, fun j u hu => cell_one_new w (.int .i64 x) 3 j u (by simpa [zints] using hu)⟩⟩
section
variable (C x : Nat) (F : Nat → Prop) (T : Int) (s : Bst) (w : World) (h : Tw w C x F T s) (hfine : Fine T s) (how ep id now : Int) (A : Option Addr) (n c : Nat)
include h hfine
set_option maxRecDepth 100000 in
set_option maxHeartbeats 4000000 in
theorem tack_any : Calls Try.prog 12 #[.pointer (some ⟨x, 0, none⟩), .agg #[.int .i64 how, .int .i64 ep, .int .i64 id, .int .i64 now, .slice A n c]] w (DidT C x F T (.bool (ackB T s id ep now)) (ackS T s id ep now) w) := by
  have HT : Hid (2 ≤ T ∧ T ≤ 1073741824) := Lib.hid ⟨hfine.t1, hfine.t2⟩
  have HH := Lib.hid h
  have HFX := Lib.hid h.fx
  have HB0 : Hid (Below w.heap.size w (w.alloc (.cells #[.int .i64 how, .int .i64 ep, .int .i64 id, .int .i64 now, .slice A n c] 33))) := Lib.hid ((Below.refl _ _).alloc (Nat.le_refl _) _)
  obtain ⟨un, v, l, h1, h2, h3, h4, h5, h6, h7, h8, h9⟩ := h.ex
  obtain ⟨y, hy⟩ : ∃ y, w.heap.size = y := ⟨_, rfl⟩
  have hxl := h.lt x h.fx
  have hXY : x ≠ y := by omega
  have HLE : Hid (l 0 = s.vs ∧ l 1 = s.ys ∧ l 2 = s.G.map (·.id) ∧ l 3 = s.G.map (·.till) ∧ (s.on = true → un = s.si + 2 * T) ∧ Mp.inInt un) := Lib.hid ⟨h3, h4, h5, h6, h7, h8⟩
  obtain ⟨w1, hw1⟩ : ∃ w1, w.alloc (.cells #[.int .i64 how, .int .i64 ep, .int .i64 id, .int .i64 now, .slice A n c] 33) = w1 := ⟨_, rfl⟩
  have HY : Hid (Blk w1 y 33 #[.int .i64 how, .int .i64 ep, .int .i64 id, .int .i64 now, .slice A n c]) := Lib.hid (by rw [← hw1, ← hy]; exact Blk.new _ _ _)
  have HB1 : Hid (Below w.heap.size w w1) := Lib.hid (by rw [← hw1]; exact HB0.out)
  have HM1 : Hid (Mid w w1 C x F #[.bool s.on, .int .i64 s.ep, .int .i64 un, v 0, v 1, v 2, v 3] v l) := Lib.hid ⟨h1.below HB1.out h1.lt, h2.below HB1.out, Turn.of_below HB1.out F, fun i hi k hk => .inl (h9 i hi k hk)⟩
  have HSZ : Hid (w1.heap.size = y + 1) := Lib.hid (by rw [← hw1, ← hy]; simp)
  have HL16 : Hid (s.vs.length ≤ 16 ∧ s.ys.length ≤ 16) := Lib.hid (by
    have h1 := (right_iff.1 hfine.right).1
    have h2 := hfine.sub.le
    exact ⟨h1, by omega⟩)
  obtain ⟨A0, c0, e0, hc0, hm0, hr0⟩ := HM1.out.rows.read (i := 0) (by omega)
  obtain ⟨A1, c1, e1, hc1, hm1, hr1⟩ := HM1.out.rows.read (i := 1) (by omega)
  rw [h3] at e0 hc0 hr0
  rw [h4] at e1 hc1 hr1
  have HE0 := Lib.hid e0
  have HE1 := Lib.hid e1
  obtain ⟨N0, hN0⟩ : ∃ N, s.vs.length = N := ⟨_, rfl⟩
  obtain ⟨N1, hN1⟩ : ∃ N, s.ys.length = N := ⟨_, rfl⟩
  have HN0 := Lib.hid hN0
  have HN1 := Lib.hid hN1
  have n0l : N0 ≤ 16 := by rw [← hN0]; exact HL16.out.1
  have n1l : N1 ≤ 16 := by rw [← hN1]; exact HL16.out.2
  rw [hN0] at e0 hc0 hr0
  rw [hN1] at e1 hc1 hr1
  obtain ⟨q0, HQ0⟩ : ∃ q, Hid (hasB s.vs id = q) := ⟨_, Lib.hid rfl⟩
  obtain ⟨q1, HQ1⟩ : ∃ q, Hid (hasB s.ys id = q) := ⟨_, Lib.hid rfl⟩
  have HC0 : Hid (∀ k, Calls Try.prog 21 #[.slice A0 N0 c0, .int .i64 id] (w1.drewN k) fun e w' => e = .returned (.bool q0) ∧ w1.drewN k = w') := Lib.hid fun k => by
    rw [← HQ0.out]; exact has_any A0 N0 c0 s.vs id _ _ (by omega) (hr0.below (below_drewN (Below.refl _ _) k))
  have HC1 : Hid (∀ k, Calls Try.prog 21 #[.slice A1 N1 c1, .int .i64 id] (w1.drewN k) fun e w' => e = .returned (.bool q1) ∧ w1.drewN k = w') := Lib.hid fun k => by
    rw [← HQ1.out]; exact has_any A1 N1 c1 s.ys id _ _ (by omega) (hr1.below (below_drewN (Below.refl _ _) k))
  have a1 := HY.out.cell 1
  have a2 := HY.out.cell 2
  have a3 := HY.out.cell 3
  have x0 := HM1.out.blk.cell 0
  have x1 := HM1.out.blk.cell 1
  have x2 := HM1.out.blk.cell 2
  have x3 := HM1.out.blk.cell 3
  have x4 := HM1.out.blk.cell 4
  simp at a1 a2 a3 x0 x1 x2 x3 x4
  rw [e0] at x3
  rw [e1] at x4
  obtain ⟨on, HON⟩ : ∃ on, Hid (s.on = on) := ⟨_, Lib.hid rfl⟩
  rw [HON.out] at x0
  have hd : (on = false ∧ ackO T s id ep now = false) ∨ (on = true ∧ decide (un < now) = true ∧ ackO T s id ep now = false) ∨ (on = true ∧ decide (un < now) = false ∧ (ep != s.ep) = true ∧ ackO T s id ep now = false) ∨ (on = true ∧ decide (un < now) = false ∧ ep = s.ep ∧ q0 = false ∧ ackO T s id ep now = false) ∨ (on = true ∧ decide (un < now) = false ∧ ep = s.ep ∧ q0 = true ∧ q1 = true ∧ ackO T s id ep now = false) ∨ (on = true ∧ decide (un < now) = false ∧ ep = s.ep ∧ q0 = true ∧ q1 = false ∧ ackO T s id ep now = true) := by
    have e : ackO T s id ep now = ((on && lastB T s.si now) && (decide (s.ep = ep) && okG s.vs s.ys id)) := by unfold ackO stB; rw [HON.out]
    have eo : okG s.vs s.ys id = (q0 && !q1) := by rw [← HQ0.out, ← HQ1.out]; unfold okG hasB; by_cases h1 : id ∈ s.vs <;> by_cases h2 : id ∈ s.ys <;> simp [h1, h2]
    rw [e, eo]
    cases on with
    | false => exact .inl ⟨rfl, rfl⟩
    | true =>
      have hun := HLE.out.2.2.2.2.1 HON.out
      unfold lastB
      rw [← hun]
      by_cases hlt : un < now
      · exact .inr (.inl ⟨rfl, decide_eq_true hlt, by rw [decide_eq_false (show ¬ now ≤ un by omega)]; rfl⟩)
      · have hdl := decide_eq_false hlt
        have hdn : decide (now ≤ un) = true := decide_eq_true (by omega)
        rw [hdn]
        by_cases hep : ep = s.ep
        · have hde : decide (s.ep = ep) = true := decide_eq_true hep.symm
          rw [hde]
          cases q0 with
          | false => exact .inr (.inr (.inr (.inl ⟨rfl, hdl, hep, rfl, rfl⟩)))
          | true =>
            cases q1 with
            | true => exact .inr (.inr (.inr (.inr (.inl ⟨rfl, hdl, hep, rfl, rfl, rfl⟩))))
            | false => exact .inr (.inr (.inr (.inr (.inr ⟨rfl, hdl, hep, rfl, rfl, rfl⟩))))
        · have hde : decide (s.ep = ep) = false := decide_eq_false (fun e => hep e.symm)
          exact .inr (.inr (.inl ⟨rfl, hdl, by simpa using hep, by rw [hde]; rfl⟩))
  have HHD := Lib.hid hd
  have hno : ∀ k, ackO T s id ep now = false → DidT C x F T (.bool (ackB T s id ep now)) (ackS T s id ep now) w (.returned (.bool false)) (w1.drewN k) := fun k ho => by
    have e1 : ackB T s id ep now = false := by unfold ackB; rw [ho]; rfl
    have e2 : ackS T s id ep now = s := by unfold ackS; rw [ho]; rfl
    rw [e1, e2]
    exact DidT.same HH.out (below_drewN HB1.out k)
  have HNO := Lib.hid hno
  clear hd hno h h1 h2 h3 h4 h5 h6 h7 h8 h9 hr0 hr1 e0 e1 hN0 hN1
  go_enter Try.func12, Try.ntmps12
  go_wp2
  rcases HHD.out with ⟨rfl, ho⟩ | ⟨rfl, t1, ho⟩ | ⟨rfl, t1, t2, ho⟩ | ⟨rfl, t1, t2, rfl, ho⟩ | ⟨rfl, t1, t2, rfl, rfl, ho⟩ | ⟨rfl, t1, t2, rfl, rfl, ho⟩
  · have HO := Lib.hid ho
    clear ho
    go_quiet (first | (go_at_call 21; with_reducible exact quiet_eq (HC0.out _)) | (go_at_call 21; with_reducible exact quiet_eq (HC1.out _)))
    go_wp2
    go_ret
    exact HNO.out _ HO.out
  · have HO := Lib.hid ho
    clear ho
    go_quiet (first | (go_at_call 21; with_reducible exact quiet_eq (HC0.out _)) | (go_at_call 21; with_reducible exact quiet_eq (HC1.out _)))
    go_wp2
    go_ret
    exact HNO.out _ HO.out
  · have HO := Lib.hid ho
    clear ho
    go_quiet (first | (go_at_call 21; with_reducible exact quiet_eq (HC0.out _)) | (go_at_call 21; with_reducible exact quiet_eq (HC1.out _)))
    go_wp2
    go_ret
    exact HNO.out _ HO.out
  · have HO := Lib.hid ho
    clear ho
    subst t2
    have t2 : (s.ep != s.ep) = false := by simp
    go_quiet (first | (go_at_call 21; with_reducible exact quiet_eq (HC0.out _)) | (go_at_call 21; with_reducible exact quiet_eq (HC1.out _)))
    go_wp2
    go_ret
    exact HNO.out _ HO.out
  · have HO := Lib.hid ho
    clear ho
    subst t2
    have t2 : (s.ep != s.ep) = false := by simp
    go_quiet (first | (go_at_call 21; with_reducible exact quiet_eq (HC0.out _)) | (go_at_call 21; with_reducible exact quiet_eq (HC1.out _)))
    go_wp2
    go_ret
    exact HNO.out _ HO.out
  · have HO := Lib.hid ho
    clear ho
    subst t2
    have t2 : (s.ep != s.ep) = false := by simp
    go_quiet (first | (go_at_call 21; with_reducible exact quiet_eq (HC0.out _)) | (go_at_call 21; with_reducible exact quiet_eq (HC1.out _)))
    have HY3 : Hid (Blk (w1.drewN nq) y 33 #[.int .i64 how, .int .i64 s.ep, .int .i64 id, .int .i64 now, .slice A n c]) := Lib.hid HY.out
    have HM3 := Lib.hid (HM1.out.below (below_drewN (Below.refl _ _) nq))
    have HZ3 : Hid ((w1.drewN nq).heap.size = y + 1) := Lib.hid HSZ.out
    generalize w1.drewN nq = w3 at *
    clear a1 a2 a3 x0 x1 x2 x3 x4
    have HM4 := Lib.hid (HM3.out.below ((below_drewN (Below.refl _ w3) 1).alloc (show w3.heap.size ≤ w3.drew.heap.size from Nat.le_refl _) (.cells #[.int .i64 id] 3)))
    obtain ⟨i0, hi0, hz0, hz1, hz2⟩ := info_parts int_info
    have hown4 := HM4.out.rows.own 1 (by omega)
    rw [HLE.out.2.1, HN1.out, HE1.out, HN1.out] at hown4
    obtain ⟨v5, w5, hrun, hown5, hg5, hu5⟩ := run_append_cells (P := Try.prog) (w3.drew.alloc (.cells #[.int .i64 id] 3)) C 29 29 3 i0 _ 8 Try.underlying29 hi0 hz0 hz1 hz2 rfl _ N1 (zints s.ys) hown4 (w3.heap.size + 1) (some ⟨w3.heap.size, 0, none⟩) 1 1 (zints [id]) (one_reads w3.drew id (w3.heap.size + 1) (by show w3.heap.size + 1 ≠ w3.heap.size; omega)) (zints_oneCell _) (by unfold maxLen; omega) (by omega) (Nat.le_trans HH.out.cle HM4.out.turn.size)
    rw [← zints_append] at hown5
    obtain ⟨A5, c5, rfl, hc5, hm5⟩ := own_slice hown5
    have HRUN := Lib.hid hrun
    have HM5 := Lib.hid (HM4.out.push (j := 1) (u := .slice A5 (N1 + 1) c5) (m := s.ys ++ [id]) (by rw [List.length_append, HN1.out]; exact hown5) (by rw [HE1.out, HN1.out]; exact hg5) (by rw [HE1.out, HN1.out]; exact hu5) (by omega))
    have b2 : w3.cell? ⟨y, 2, none⟩ = some (.int .i64 id) := by have := HY3.out.cell 2; simpa using this
    have z4 : w3.cell? ⟨x, 4, none⟩ = some (.slice A1 N1 c1) := by have := HM3.out.blk.cell 4; rw [HE1.out, HN1.out] at this; simpa using this
    have b2d : w3.drew.cell? ⟨x, 4, none⟩ = some (.slice A1 N1 c1) ∧ w3.drew.cell? ⟨y, 2, none⟩ = some (.int .i64 id) := ⟨z4, b2⟩
    have hyl : y < w3.heap.size := by rw [HZ3.out]; omega
    have hxl3 : x < w3.heap.size := HM3.out.blk.lt
    have b4 : (w3.drew.alloc (.cells #[.int .i64 id] 3)).cell? ⟨x, 4, none⟩ = some (.slice A1 N1 c1) ∧ (w3.drew.alloc (.cells #[.int .i64 id] 3)).cell? ⟨y, 2, none⟩ = some (.int .i64 id) :=
      ⟨(World.cell?_alloc_lt _ _ _ hxl3).trans z4, (World.cell?_alloc_lt _ _ _ hyl).trans b2⟩
    have hne2 : some y ≠ (Value.slice A1 N1 c1).ownBlock := fun e => row_ne hown4 (show Blk (w3.drew.alloc (.cells #[.int .i64 id] 3)) y _ _ from (show Blk w3.drew y _ _ from HY3.out).alloc _) (by decide) y e.symm rfl
    have b5 : w5.cell? ⟨x, 4, none⟩ = some (.slice A1 N1 c1) ∧ w5.cell? ⟨y, 2, none⟩ = some (.int .i64 id) := by
      have hm := HM5.out.blk.cell 4
      rw [HE1.out, HN1.out] at hm
      exact ⟨by simpa using hm, (World.cell?_of_block (hg5.block y (by simp; show y < w3.heap.size + 1; omega) hne2)).trans b4.2⟩
    have HM6 := Lib.hid (HM5.out.store HFX.out 4 (.slice A5 (N1 + 1) c5))
    have f4 : w5.frozen? ⟨x, 4, none⟩ = false := HM5.out.blk.frozen 4
    clear hrun hown4 hown5 hg5 hu5 hne2 hi0 hz0 hz1 hz2
    go_wp2
    refine until_begin (S := fun w' => w'.cell? ⟨x, 4, none⟩ = some (.slice A1 N1 c1) ∧ w'.cell? ⟨y, 2, none⟩ = some (.int .i64 id)) (q := 11) (by kernel_rfl) ?_
    have hHeld := b2d
    refine until_pure (i := 0) (oi := ⟨some 47, _, _, _, _, _⟩) (v := .pointer (some ⟨x, 0, none⟩)) rfl (by kernel_rfl) (by kernel_rfl) (by kernel_rfl) (fun _ _ _ h => h) (by rfl) (Or.inl ⟨by rfl, ?_⟩) (by assumption) ?_
    · (intro w'; go_simp)
    try simp only [Act.put, List.setIfInBounds_toArray, List.set_cons_zero, List.set_cons_succ]
    refine until_pure (i := 1) (oi := ⟨some 48, _, _, _, _, _⟩) (v := .pointer (some ⟨x, 0, none⟩)) rfl (by kernel_rfl) (by kernel_rfl) (by kernel_rfl) (fun _ _ _ h => h) (by rfl) (Or.inl ⟨by rfl, ?_⟩) (by assumption) ?_
    · (intro w'; go_simp)
    try simp only [Act.put, List.setIfInBounds_toArray, List.set_cons_zero, List.set_cons_succ]
    refine until_pure (i := 2) (oi := ⟨some 49, _, _, _, _, _⟩) (v := .pointer (some ⟨x, 0, none⟩)) rfl (by kernel_rfl) (by kernel_rfl) (by kernel_rfl) (fun _ _ _ h => h) (by rfl) (Or.inl ⟨by rfl, ?_⟩) (by assumption) ?_
    · (intro w'; go_simp)
    try simp only [Act.put, List.setIfInBounds_toArray, List.set_cons_zero, List.set_cons_succ]
    refine until_pure (i := 3) (oi := ⟨some 50, _, _, _, _, _⟩) (v := .pointer (some ⟨x, 4, none⟩)) rfl (by kernel_rfl) (by kernel_rfl) (by kernel_rfl) (fun _ _ _ h => h) (by rfl) (Or.inl ⟨by rfl, ?_⟩) (by assumption) ?_
    · (intro w'; go_simp)
    try simp only [Act.put, List.setIfInBounds_toArray, List.set_cons_zero, List.set_cons_succ]
    refine until_load (i := 4) (oi := ⟨some 51, _, _, _, _, _⟩) (v := .slice A1 N1 c1) rfl (by kernel_rfl) (by kernel_rfl) (by kernel_rfl) (fun _ _ _ h => h) (by rfl) 0 (by kernel_rfl) (by kernel_rfl) (Or.inl ⟨by rfl, ?_⟩) (by assumption) ?_
    · (intro w' hSw; obtain ⟨s0, s1⟩ := hSw; go_simp)
    try simp only [Act.put, List.setIfInBounds_toArray, List.set_cons_zero, List.set_cons_succ]
    refine until_pure (i := 5) (oi := ⟨some 52, _, _, _, _, _⟩) (v := .pointer (some ⟨y, 2, none⟩)) rfl (by kernel_rfl) (by kernel_rfl) (by kernel_rfl) (fun _ _ _ h => h) (by rfl) (Or.inl ⟨by rfl, ?_⟩) (by assumption) ?_
    · (intro w'; go_simp)
    try simp only [Act.put, List.setIfInBounds_toArray, List.set_cons_zero, List.set_cons_succ]
    refine until_load (i := 6) (oi := ⟨some 53, _, _, _, _, _⟩) (v := .int .i64 id) rfl (by kernel_rfl) (by kernel_rfl) (by kernel_rfl) (fun _ _ _ h => h) (by rfl) 0 (by kernel_rfl) (by kernel_rfl) (Or.inl ⟨by rfl, ?_⟩) (by assumption) ?_
    · (intro w' hSw; obtain ⟨s0, s1⟩ := hSw; go_simp)
    try simp only [Act.put, List.setIfInBounds_toArray, List.set_cons_zero, List.set_cons_succ]
    refine until_ready (rs := [7]) (by kernel_rfl) (by simp) ?_
    refine AllUntil.cons rfl (by rfl) (fun K hK => ?_) AllUntil.nil
    go_simp
    refine hK.out _ _ b4 (fun hHeld => ?_)
    clear hK K
    try simp only [Act.put, List.setIfInBounds_toArray, List.set_cons_zero, List.set_cons_succ]
    refine until_ready (rs := [8]) (by kernel_rfl) (by simp) ?_
    refine AllUntil.cons rfl (by rfl) (fun K hK => ?_) AllUntil.nil
    refine step_append_run _ (by rfl) (.tmp 51) (.tmp 54) 29 (by rfl) _ _ 1 1 (by rfl) (by rfl) HRUN.out ?_
    refine hK.out _ _ b5 (fun hHeld => ?_)
    clear hK K
    try simp only [Act.put, List.setIfInBounds_toArray]
    refine until_pure (i := 9) (oi := ⟨some 56, _, _, _, _, _⟩) (v := .pointer (some ⟨x, 0, none⟩)) rfl (by kernel_rfl) (by kernel_rfl) (by kernel_rfl) (fun _ _ _ h => h) (by rfl) (Or.inl ⟨by rfl, ?_⟩) (by assumption) ?_
    · (intro w'; go_simp)
    try simp only [Act.put]
    refine until_pure (i := 10) (oi := ⟨some 57, _, _, _, _, _⟩) (v := .pointer (some ⟨x, 4, none⟩)) rfl (by kernel_rfl) (by kernel_rfl) (by kernel_rfl) (fun _ _ _ h => h) (by rfl) (Or.inl ⟨by rfl, ?_⟩) (by assumption) ?_
    · (intro w'; go_simp)
    try simp only [Act.put]
    refine until_ready (rs := [11]) (by kernel_rfl) (by simp) ?_
    refine AllUntil.stop rfl (fun K hK => ?_)
    go_simp
    refine hK.out _ _ ?_
    clear hK K
    try simp only [Act.put, List.setIfInBounds_toArray, List.set_cons_zero, List.set_cons_succ]
    refine wpAny_done (by kernel_rfl) ?_ _
    clear hHeld b2 z4 b2d b4 b5 f4 t1 t2
    generalize hU : Value.slice A5 (N1 + 1) c5 = U at HM6
    have HMF : Hid (Mid w (w5.setCell ⟨x, 4, none⟩ U) C x F #[.bool true, .int .i64 s.ep, .int .i64 un, upd v 1 U 0, upd v 1 U 1, upd v 1 U 2, upd v 1 U 3] (upd v 1 U) (upd l 1 (s.ys ++ [id]))) := Lib.hid (by have := HM6.out; rw [HON.out] at this; exact this)
    generalize w5.setCell ⟨x, 4, none⟩ U = w6 at *
    have x0 := HMF.out.blk.cell 0
    have x3 := HMF.out.blk.cell 3
    have x4 := HMF.out.blk.cell 4
    have g0 : upd v 1 U 0 = .slice A0 N0 c0 := by rw [upd_other _ _ (by omega), HE0.out, HN0.out]
    have g1 : upd v 1 U 1 = .slice A5 (N1 + 1) c5 := by rw [upd_same, ← hU]
    rw [g0, g1] at x3 x4
    simp at x0 x3 x4
    have HG : Hid (winB s.vs (s.ys ++ [id]) = decide (N0 < 2 * (N1 + 1))) := Lib.hid (by unfold winB; rw [List.length_append, HN0.out, HN1.out]; rfl)
    have HB : Hid (ackB T s id s.ep now = decide (N0 < 2 * (N1 + 1)) ∧ ackS T s id s.ep now = ⟨!decide (N0 < 2 * (N1 + 1)), s.ep, s.si, s.vs, s.ys ++ [id], s.G⟩) := Lib.hid (by unfold ackB ackS; rw [HO.out, HG.out]; exact ⟨rfl, rfl⟩)
    clear g0 g1 hU HM6
    obtain ⟨M, hM⟩ : ∃ M, N1 + 1 = M := ⟨_, rfl⟩
    rw [hM] at x4
    have hMl : M ≤ 17 := by omega
    have HFL : Hid (upd l 1 (s.ys ++ [id]) 0 = s.vs ∧ upd l 1 (s.ys ++ [id]) 1 = s.ys ++ [id] ∧ upd l 1 (s.ys ++ [id]) 2 = s.G.map (·.id) ∧ upd l 1 (s.ys ++ [id]) 3 = s.G.map (·.till)) := Lib.hid ⟨HLE.out.1, rfl, HLE.out.2.2.1, HLE.out.2.2.2.1⟩
    have HUN : Hid (un = s.si + 2 * T) := Lib.hid (HLE.out.2.2.2.2.1 HON.out)
    have HMN : Hid (M = N1 + 1) := Lib.hid hM.symm
    clear hM
    have wr1 : IntKind.i64.wrap (2 * (M : Int)) = 2 * (M : Int) := by rw [IntKind.wrap_i64]; omega
    by_cases hw : N0 < 2 * M
    · have q1 : decide ((N0 : Int) < 2 * (M : Int)) = true := by simp; omega
      have HD : Hid (decide (N0 < 2 * M) = true) := Lib.hid (decide_eq_true hw)
      clear hw
      go_wp2
      go_quiet (fail)
      have HM7 := Lib.hid (HMF.out.below (below_drewN (Below.refl _ _) nq))
      generalize w6.drewN nq = w7 at *
      have HM8 := Lib.hid (HM7.out.store HFX.out 0 (.bool false))
      have f0 := HM7.out.blk.frozen 0
      have y0 := HM7.out.blk.cell 0
      simp at y0
      clear x0 x3 x4
      go_wp2
      go_ret
      rw [HB.out.1, HB.out.2, ← HMN.out, HD.out]
      exact Mid.done (s := ⟨false, s.ep, s.si, s.vs, s.ys ++ [id], s.G⟩) HM8.out HH.out HFL.out.1 HFL.out.2.1 HFL.out.2.2.1 HFL.out.2.2.2 (fun h => by cases h) HLE.out.2.2.2.2.2 (.bool true)
    · have q1 : decide ((N0 : Int) < 2 * (M : Int)) = false := by simp; omega
      have HD : Hid (decide (N0 < 2 * M) = false) := Lib.hid (decide_eq_false hw)
      clear hw
      go_wp2
      go_quiet (fail)
      have HM7 := Lib.hid (HMF.out.below (below_drewN (Below.refl _ _) nq))
      go_wp2
      go_ret
      rw [HB.out.1, HB.out.2, ← HMN.out, HD.out]
      exact Mid.done (s := ⟨true, s.ep, s.si, s.vs, s.ys ++ [id], s.G⟩) HM7.out HH.out HFL.out.1 HFL.out.2.1 HFL.out.2.2.1 HFL.out.2.2.2 (fun _ => HUN.out) HLE.out.2.2.2.2.2 (.bool false)
end
end Go.Proofs.Ytmjbacmaafbdlaa
