/-
  WHAT IS PROVED: three rows of ints beside one another, appended to in turn; the document's own step, at each kind of step. Conditions: the sizes; the list is one of peers.
-/
import Derived.Test.YtcphodnenhnalaaTakes
import Derived.Test.YtcphodnenhnalaaPuts
import Derived.Test.YtcphodnenhnalaaSets
namespace Go.Proofs.Ytcphodnenhnalaa
open Go.RowKit Go.Lib Go.Maps

/-! ### a row of ints, one more at its end -/
section
variable {ops : Array Oper} {rest : List Oper} {o : Oper} {a : Act} {Q : Exit → Act → World → Prop}
theorem wpList_snoc (w0 : World) (hgd : o.guard = none) (s x : Operand) (ho : o.op = .call { callee := .builtin .append, args := #[s, x], argTypes := #[37, 37] })
    (v : Value) (B m0 : Nat) (l : List Int) (z : Int) (hs : a.eval s = v) (hown : w0.ownsRow B 3 1 v l.length (zints l)) (hx : a.eval x = .slice (some ⟨m0, 0, none⟩) 1 1) (hm : w0.heap.size = m0) (hl : l.length ≤ 1000) (hB : B ≤ w0.heap.size)
    (h : ∀ v' w', w'.ownsRow B 3 1 v' (l ++ [z]).length (zints (l ++ [z])) → w0.grownBy w' v.ownBlock → (v'.ownBlock = v.ownBlock ∨ ∃ m, v'.ownBlock = some m ∧ w0.heap.size < m) → wpList Try.prog ops Q rest (a.put o.dst v') w') :
    wpList Try.prog ops Q (o :: rest) a (w0.alloc (.cells #[.int .i64 z] 3)) := by
  subst hm
  obtain ⟨i0, hi0, hz0, hz1, hz2⟩ := info_parts int_info
  refine wpList_append_own_at _ hgd s x 37 ho B 3 i0 (.int .i64 0) 1 8 Try.underlying37 hi0 hz0 hz1 hz2 rfl (by decide) v l.length (zints l) hs (hown.alloc _) ⟨w0.heap.size, 0, none⟩ 1 1 [.int .i64 z] hx rfl (by simpa using cell_one_new w0 (.int .i64 z) 3) (by simp [Value.oneCell']) (by unfold maxLen; omega) (by omega) (by simp; omega) ?_
  intro v' w' h1 h2 _ h4
  refine h v' w' ?_ ((World.grownBy_alloc w0 _ _).trans h2) ?_
  · rw [zints_append, List.length_append]; simpa [zints] using h1
  · rcases h4 with h4 | h4
    · exact .inl h4
    · exact .inr ⟨_, h4, by simp⟩
end
def Apart (v u : Value) : Prop := v.ownBlock = none ∨ u.ownBlock = none ∨ v.ownBlock ≠ u.ownBlock
theorem Apart.symm {v u : Value} (h : Apart v u) : Apart u v := by
  rcases h with h | h | h
  · exact .inr (.inl h)
  · exact .inl h
  · exact .inr (.inr h.symm)
theorem Apart.off {v u : Value} (h : Apart v u) : v.ownBlock = none ∨ v.ownBlock ≠ u.ownBlock := by
  rcases h with h | h | h
  · exact .inl h
  · rw [h]; cases v.ownBlock <;> simp
  · exact .inr h
theorem Apart.grown {w0 : World} {v v' u : Value} {B n : Nat} {xs : List Value} (h : Apart v u) (hu : w0.ownsRow B 3 1 u n xs) (hv : v'.ownBlock = v.ownBlock ∨ ∃ m, v'.ownBlock = some m ∧ w0.heap.size < m) : Apart v' u := by
  rcases hv with hv | ⟨m, hv, hm⟩
  · unfold Apart at h ⊢; rw [hv]; exact h
  · refine .inr (.inr fun e => ?_)
    have := (hu.lt m (by rw [← e, hv])).2
    omega
/-- three rows, and a variable of the document's peer type, in blocks of their own above B -/
structure Trio (w : World) (B bx : Nat) (a b c : Value) (x y z : List Int) : Prop where
  ra : w.ownsRow B 3 1 a x.length (zints x)
  rb : w.ownsRow B 3 1 b y.length (zints y)
  rc : w.ownsRow B 3 1 c z.length (zints z)
  ab : Apart a b
  ac : Apart a c
  bc : Apart b c
  oa : a.ownBlock ≠ some bx
  ob : b.ownBlock ≠ some bx
  oc : c.ownBlock ≠ some bx
  low : bx ≤ w.heap.size
section
variable {w w' : World} {B bx : Nat} {a b c v : Value} {x y z : List Int} {u : Int}
theorem Trio.below (h : Trio w B bx a b c x y z) (hb : Below w.heap.size w w') : Trio w' B bx a b c x y z :=
  ⟨own_below h.ra hb, own_below h.rb hb, own_below h.rc hb, h.ab, h.ac, h.bc, h.oa, h.ob, h.oc, Nat.le_trans h.low hb.size⟩
theorem off_new {v v' : Value} {bx n : Nat} (h : v.ownBlock ≠ some bx) (hv : v'.ownBlock = v.ownBlock ∨ ∃ m, v'.ownBlock = some m ∧ n < m) (hn : bx ≤ n) : v'.ownBlock ≠ some bx := by
  rcases hv with hv | ⟨m, hv, hm⟩
  · rw [hv]; exact h
  · rw [hv]; intro e; injection e with e; omega
theorem Trio.snocA (h : Trio w B bx a b c x y z) (h1 : w'.ownsRow B 3 1 v (x ++ [u]).length (zints (x ++ [u]))) (h2 : w.grownBy w' a.ownBlock) (h3 : v.ownBlock = a.ownBlock ∨ ∃ m, v.ownBlock = some m ∧ w.heap.size < m) : Trio w' B bx v b c (x ++ [u]) y z :=
  ⟨h1, h.rb.kept h2 h.ab.symm.off, h.rc.kept h2 h.ac.symm.off, h.ab.grown h.rb h3, h.ac.grown h.rc h3, h.bc, off_new h.oa h3 h.low, h.ob, h.oc, Nat.le_trans h.low h2.size⟩
theorem Trio.snocB (h : Trio w B bx a b c x y z) (h1 : w'.ownsRow B 3 1 v (y ++ [u]).length (zints (y ++ [u]))) (h2 : w.grownBy w' b.ownBlock) (h3 : v.ownBlock = b.ownBlock ∨ ∃ m, v.ownBlock = some m ∧ w.heap.size < m) : Trio w' B bx a v c x (y ++ [u]) z :=
  ⟨h.ra.kept h2 h.ab.off, h1, h.rc.kept h2 h.bc.symm.off, (h.ab.symm.grown h.ra h3).symm, h.ac, h.bc.grown h.rc h3, h.oa, off_new h.ob h3 h.low, h.oc, Nat.le_trans h.low h2.size⟩
theorem Trio.snocC (h : Trio w B bx a b c x y z) (h1 : w'.ownsRow B 3 1 v (z ++ [u]).length (zints (z ++ [u]))) (h2 : w.grownBy w' c.ownBlock) (h3 : v.ownBlock = c.ownBlock ∨ ∃ m, v.ownBlock = some m ∧ w.heap.size < m) : Trio w' B bx a b v x y (z ++ [u]) :=
  ⟨h.ra.kept h2 h.ac.off, h.rb.kept h2 h.bc.off, h1, h.ab, (h.ac.symm.grown h.ra h3).symm, (h.bc.symm.grown h.rb h3).symm, h.oa, h.ob, off_new h.oc h3 h.low, Nat.le_trans h.low h2.size⟩
theorem Trio.move (h : Trio w B bx a b c x y z) : Trio w B w.heap.size a b c x y z :=
  ⟨h.ra, h.rb, h.rc, h.ab, h.ac, h.bc, fun e => by have := (h.ra.lt _ e).2; omega, fun e => by have := (h.rb.lt _ e).2; omega, fun e => by have := (h.rc.lt _ e).2; omega, Nat.le_refl _⟩
theorem Trio.new (w : World) : Trio w w.heap.size w.heap.size (.slice none 0 0) (.slice none 0 0) (.slice none 0 0) [] [] [] :=
  ⟨World.ownsRow_nil _ _ _ _, World.ownsRow_nil _ _ _ _, World.ownsRow_nil _ _ _ _, .inl rfl, .inl rfl, .inl rfl, by simp [Value.ownBlock], by simp [Value.ownBlock], by simp [Value.ownBlock], Nat.le_refl _⟩
end
theorem below_own {W w w' : World} {v : Value} {n : Nat} {xs : List Value} (h : Below W.heap.size W w) (ho : w.ownsRow W.heap.size 3 1 v n xs) (hg : w.grownBy w' v.ownBlock) : Below W.heap.size W w' := h.grown hg h.size (fun j e => (ho.lt j e).1)
/-- a variable of the document's peer type -/
def Px (w : World) (b : Nat) (p : Pr) : Prop := Blk w b 50 #[.int .i64 p.id, .int .i64 p.since, .int .i64 p.last, .bool p.waits]
section
variable {w w' : World} {b : Nat} {p : Pr}
theorem Px.new (w : World) (p : Pr) : Px (w.alloc (.cells #[.int .i64 p.id, .int .i64 p.since, .int .i64 p.last, .bool p.waits] 50)) w.heap.size p := Blk.new _ _ _
theorem Px.kept {row : Option Nat} (h : Px w b p) (hg : w.grownBy w' row) (hne : row ≠ some b) : Px w' b p := Blk.grown h hg (fun e => hne e.symm)
theorem Px.below (h : Px w b p) (hb : Below w.heap.size w w') : Px w' b p := Blk.below h hb (Blk.lt h)
theorem Px.cells (h : Px w b p) : w.cell? ⟨b, 0, none⟩ = some (.int .i64 p.id) ∧ w.cell? ⟨b, 1, none⟩ = some (.int .i64 p.since) ∧ w.cell? ⟨b, 2, none⟩ = some (.int .i64 p.last) ∧ w.cell? ⟨b, 3, none⟩ = some (.bool p.waits) :=
  ⟨Blk.cell h 0, Blk.cell h 1, Blk.cell h 2, Blk.cell h 3⟩
theorem Px.lt (h : Px w b p) : b < w.heap.size := Blk.lt h
end
theorem who_take_yes {L : List Pr} {k : Nat} {p : Pr} {f : Pr → Bool} (hp : L[k]? = some p) (h : f p = true) : whoL (L.take (k + 1)) f = whoL (L.take k) f ++ [p.id] := by rw [take_snoc_ hp, who_snoc_yes h]
theorem who_take_no {L : List Pr} {k : Nat} {p : Pr} {f : Pr → Bool} (hp : L[k]? = some p) (h : f p = false) : whoL (L.take (k + 1)) f = whoL (L.take k) f := by rw [take_snoc_ hp, who_snoc_no h]

/-! ### the document's step, by its kind -/
theorem ping_set {L : List Pr} (hu : Up L) {x t : Int} {p : Pr} (hp : L[posL L x]? = some p) (he : p.id = x) : insL L (pingP (getL L x) t) = L.set (posL L x) (pingP p t) := by
  rw [get_at hu hp he, ins_old hu (by show hasL L p.id = true; rw [he]; exact at_has hp he)]
  show L.set (posL L p.id) _ = _
  rw [he]
theorem pong_set {L : List Pr} (hu : Up L) {x t : Int} {p : Pr} (hp : L[posL L x]? = some p) (he : p.id = x) : insL L (pongP (getL L x) t) = L.set (posL L x) (pongP p t) := by
  rw [get_at hu hp he, ins_old hu (by show hasL L p.id = true; rw [he]; exact at_has hp he)]
  show L.set (posL L p.id) _ = _
  rw [he]
theorem form_ways (xi xt ho m : Int) (h2 : (ho == 2) = false) (hm : m = 10) (h0 : isIdB xi = false ∨ isTimeB xt = false) (q : Bool) :
    (ho = 2 ∧ q = false ∧ m = 0) ∨ ((ho == 2) = false ∧ m = 10 ∧ (xi < 1 ∨ 4294967296 < xi)) ∨ ((ho == 2) = false ∧ m = 10 ∧ 1 ≤ xi ∧ xi ≤ 4294967296 ∧ (xt < 0 ∨ 1099511627776 < xt)) := by
  by_cases h1 : isIdB xi = true
  · have := in_id h1
    rcases h0 with h0 | h0
    · rw [h1] at h0; cases h0
    · exact .inr (.inr ⟨h2, hm, this.1, this.2, out_time h0⟩)
  · exact .inr (.inl ⟨h2, hm, out_id (by simpa using h1)⟩)
section
variable (A : Option Addr) (n c : Nat) (L : List Pr) (xi xt : Int) (w : World) (hn : n ≤ 100) (hnc : n ≤ c) (hcm : c ≤ 9223372036854775807) (hr : PrsAt w A n L) (hu : Up L)
include hn hnc hcm hr hu
theorem step_add : Calls Try.prog 10 #[.slice A n c, vSt ⟨1, xi, xt⟩] w (Back (addL L xi xt) (addE L xi xt) w) := by
  by_cases hc : isIdB xi = true ∧ isTimeB xt = true
  · obtain ⟨i1, i2⟩ := in_id hc.1
    obtain ⟨t1, t2⟩ := in_time hc.2
    cases h3 : hasL L xi
    · by_cases h16 : n = 16
      · have he := addE_full hc.1 hc.2 h3 (by rw [hr.1]; exact h16)
        rw [he, addL_no (by rw [he]; decide)]
        exact step_refuses A n c L 1 xi xt 31 false w hn hnc hcm hr hu h3 i1 i2 t1 t2 (.inr (.inl ⟨rfl, rfl, by simp; omega, rfl⟩))
      · have he := addE_ok hc.1 hc.2 h3 (by rw [hr.1]; exact h16)
        rw [he, addL_ok he]
        exact step_puts A n c L xi xt w hn hnc hcm hr hu h3 i1 i2 t1 t2 h16
    · have he := addE_known hc.1 hc.2 h3
      rw [he, addL_no (by rw [he]; decide)]
      exact step_refuses A n c L 1 xi xt 32 true w hn hnc hcm hr hu h3 i1 i2 t1 t2 (.inl ⟨rfl, rfl, rfl⟩)
  · have h0 : isIdB xi = false ∨ isTimeB xt = false := by
      by_cases h1 : isIdB xi = true
      · exact .inr (by simpa using fun h2 => hc ⟨h1, h2⟩)
      · exact .inl (by simpa using h1)
    have he := addE_form (L := L) h0
    rw [he, addL_no (by rw [he]; decide)]
    exact step_stays A n c L 1 xi xt 10 _ w hn hnc hcm hr hu rfl (form_ways xi xt 1 10 (by decide) rfl h0 _)
theorem step_remove : Calls Try.prog 10 #[.slice A n c, vSt ⟨2, xi, xt⟩] w (Back (delL L xi) (if hasL L xi = true then 1 else 0) w) := by
  cases h3 : hasL L xi
  · rw [del_none h3, if_neg (by decide)]
    exact step_stays A n c L 2 xi xt 0 false w hn hnc hcm hr hu h3 (.inl ⟨rfl, rfl, rfl⟩)
  · rw [if_pos rfl]
    exact step_takes A n c L xi xt w hn hnc hcm hr hu h3
theorem step_ping : Calls Try.prog 10 #[.slice A n c, vSt ⟨3, xi, xt⟩] w (Back (pingL L xi xt) (metE L xi xt) w) := by
  by_cases hc : isIdB xi = true ∧ isTimeB xt = true
  · obtain ⟨i1, i2⟩ := in_id hc.1
    obtain ⟨t1, t2⟩ := in_time hc.2
    cases h3 : hasL L xi
    · have he := metE_none hc.1 hc.2 h3
      rw [he, pingL_no (by rw [he]; decide)]
      exact step_refuses A n c L 3 xi xt 30 false w hn hnc hcm hr hu h3 i1 i2 t1 t2 (.inr (.inr (.inl ⟨rfl, rfl, rfl⟩)))
    · have he := metE_ok hc.1 hc.2 h3
      obtain ⟨p, hp, hid⟩ := has_at hu h3
      rw [he, pingL_ok he, ping_set hu hp hid]
      exact step_pings A n c L xi xt w hn hr hu p hp hid i1 i2 t1 t2
  · have h0 : isIdB xi = false ∨ isTimeB xt = false := by
      by_cases h1 : isIdB xi = true
      · exact .inr (by simpa using fun h2 => hc ⟨h1, h2⟩)
      · exact .inl (by simpa using h1)
    have he := metE_form (L := L) h0
    rw [he, pingL_no (by rw [he]; decide)]
    exact step_stays A n c L 3 xi xt 10 _ w hn hnc hcm hr hu rfl (form_ways xi xt 3 10 (by decide) rfl h0 _)
theorem step_pong : Calls Try.prog 10 #[.slice A n c, vSt ⟨4, xi, xt⟩] w (Back (pongL L xi xt) (metE L xi xt) w) := by
  by_cases hc : isIdB xi = true ∧ isTimeB xt = true
  · obtain ⟨i1, i2⟩ := in_id hc.1
    obtain ⟨t1, t2⟩ := in_time hc.2
    cases h3 : hasL L xi
    · have he := metE_none hc.1 hc.2 h3
      rw [he, pongL_no (by rw [he]; decide)]
      exact step_refuses A n c L 4 xi xt 30 false w hn hnc hcm hr hu h3 i1 i2 t1 t2 (.inr (.inr (.inr ⟨rfl, rfl, rfl⟩)))
    · have he := metE_ok hc.1 hc.2 h3
      obtain ⟨p, hp, hid⟩ := has_at hu h3
      rw [he, pongL_ok he, pong_set hu hp hid]
      exact step_pongs A n c L xi xt w hn hr hu p hp hid i1 i2 t1 t2
  · have h0 : isIdB xi = false ∨ isTimeB xt = false := by
      by_cases h1 : isIdB xi = true
      · exact .inr (by simpa using fun h2 => hc ⟨h1, h2⟩)
      · exact .inl (by simpa using h1)
    have he := metE_form (L := L) h0
    rw [he, pongL_no (by rw [he]; decide)]
    exact step_stays A n c L 4 xi xt 10 _ w hn hnc hcm hr hu rfl (form_ways xi xt 4 10 (by decide) rfl h0 _)
theorem step_rest (ho : Int) (t1 : (ho == 1) = false) (t2 : (ho == 2) = false) (t3 : (ho == 3) = false) (t4 : (ho == 4) = false) : ∃ m : Int, Calls Try.prog 10 #[.slice A n c, vSt ⟨ho, xi, xt⟩] w (Back L m w) := by
  by_cases hc : isIdB xi = true ∧ isTimeB xt = true
  · obtain ⟨i1, i2⟩ := in_id hc.1
    obtain ⟨s1, s2⟩ := in_time hc.2
    exact ⟨0, step_else A n c L ho xi xt _ w hn hr hu rfl i1 i2 s1 s2 t1 t2 t3 t4⟩
  · have h0 : isIdB xi = false ∨ isTimeB xt = false := by
      by_cases h1 : isIdB xi = true
      · exact .inr (by simpa using fun h2 => hc ⟨h1, h2⟩)
      · exact .inl (by simpa using h1)
    exact ⟨10, step_stays A n c L ho xi xt 10 _ w hn hnc hcm hr hu rfl (form_ways xi xt ho 10 t2 rfl h0 _)⟩
end
end Go.Proofs.Ytcphodnenhnalaa
