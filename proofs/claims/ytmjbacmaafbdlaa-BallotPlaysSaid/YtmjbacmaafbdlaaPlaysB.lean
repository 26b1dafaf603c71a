/-
  WHAT IS PROVED: the ballot and the document's own side by side; what the play's tests come to. No condition.
-/
import Derived.Test.YtmjbacmaafbdlaaTgave
import Derived.Test.YtmjbacmaafbdlaaActs
namespace Go.Proofs.Ytmjbacmaafbdlaa
open Go.RowKit Go.Lib Go.Maps

/-- the ballot g at sb, the document's at st, in unlike blocks, all laid behind W -/
structure Pl (W w : World) (g x : Nat) (F FT : Nat → Prop) (T : Int) (sb st : Bst) : Prop where
  b : Bl w W.heap.size g F T sb
  t : Tw w W.heap.size x FT T st
  apart : ∀ i, F i → ¬ FT i
  bel : Below W.heap.size W w
section
variable {W w w' : World} {g x : Nat} {F FT F' : Nat → Prop} {T : Int} {sb st s' : Bst}
theorem Pl.below (h : Pl W w g x F FT T sb st) (k : Below w.heap.size w w') : Pl W w' g x F FT T sb st := ⟨h.b.below k, h.t.below k, h.apart, h.bel.trans (k.mono h.bel.size)⟩
theorem Pl.bal (h : Pl W w g x F FT T sb st) (k : Bl w' W.heap.size g F' T s') (t : Turn w w' F) (u : Subs w F F') : Pl W w' g x F' FT T s' st :=
  ⟨k, h.t.turn t (fun i hi hf => h.apart i hf hi), fun i hi hf => h.apart i (u i (h.t.lt i hf) hi) hf, h.b.go h.bel t⟩
theorem Pl.twin (h : Pl W w g x F FT T sb st) (k : Tw w' W.heap.size x F' T s') (t : Turn w w' FT) (u : Subs w FT F') : Pl W w' g x F F' T sb s' :=
  ⟨h.b.turn t h.apart, k, fun i hi hf => h.apart i hi (u i (h.b.lt i hi) hf), h.bel.trans (t.below h.t.lo h.t.cle)⟩
theorem Pl.new (hb : Bl w W.heap.size g F T Bst.zero) (h : Below W.heap.size W w) : Pl W (w.alloc (.cells #[.bool false, .int .i64 0, .int .i64 0, .slice none 0 0, .slice none 0 0, .slice none 0 0, .slice none 0 0] 31)) g w.heap.size F (fun i => i = w.heap.size) T Bst.zero Bst.zero :=
  ⟨hb.alloc _, Tw.new w W.heap.size T h.size, fun i hi e => by have := hb.lt i hi; omega, h.alloc h.size _⟩
theorem Tw.stop (h : Tw w W.heap.size x FT T st) (r : Value) : DidT W.heap.size x FT T r (stopS st) w (.returned r) (w.setCell ⟨x, 0, none⟩ (.bool false)) := by
  obtain ⟨un, v, l, h1, h2, h3, h4, h5, h6, h7, h8, h9⟩ := h.ex
  have hM : Mid w w W.heap.size x FT #[.bool st.on, .int .i64 st.ep, .int .i64 un, v 0, v 1, v 2, v 3] v l := ⟨h1, h2, Turn.refl w FT, fun i hi k hk => .inl (h9 i hi k hk)⟩
  exact Mid.done (s := stopS st) (un := un) (v := v) (l := l) (hM.store h.fx 0 (.bool false)) h h3 h4 h5 h6 (fun e => by cases e) h8 r
theorem Pl.stop (h : Pl W w g x F FT T sb st) : ∃ F', Pl W (w.setCell ⟨x, 0, none⟩ (.bool false)) g x F F' T sb (stopS st) := by
  obtain ⟨_, F', k, t, u⟩ := h.t.stop (.bool false)
  exact ⟨F', h.twin k t u⟩
/-- what a look at the document's ballot finds -/
theorem Tw.look (h : Tw w W.heap.size x FT T st) : ∃ (un : Int) (A : Option Addr) (c : Nat), w.cell? ⟨x, 0, none⟩ = some (.bool st.on) ∧ w.cell? ⟨x, 1, none⟩ = some (.int .i64 st.ep) ∧ w.cell? ⟨x, 2, none⟩ = some (.int .i64 un) ∧ w.cell? ⟨x, 3, none⟩ = some (.slice A st.vs.length c) ∧
    (st.on = true → un = st.si + 2 * T) ∧ Reads w w.heap.size A st.vs.length (zints st.vs) ∧ st.vs.length ≤ c ∧ c ≤ 9223372036854775807 ∧ w.frozen? ⟨x, 0, none⟩ = false := by
  obtain ⟨un, v, l, h1, h2, h3, h4, h5, h6, h7, h8, h9⟩ := h.ex
  obtain ⟨A, c, e, hc, hm, hr⟩ := h2.read (i := 0) (by omega)
  rw [h3] at e hc hr
  have c0 := h1.cell 0
  have c1 := h1.cell 1
  have c2 := h1.cell 2
  have c3 := h1.cell 3
  simp at c0 c1 c2 c3
  rw [e] at c3
  exact ⟨un, A, c, c0, c1, c2, c3, h7, hr, hc, hm, h1.frozen 0⟩
end
theorem ackS_G {T : Int} {s : Bst} {x ep now : Int} : (ackS T s x ep now).G = s.G := by unfold ackS; split <;> rfl
theorem standS_G {T : Int} {s : Bst} {ep : Int} {vs : List Int} {now : Int} : (standS T s ep vs now).G = s.G := by unfold standS; split <;> rfl
theorem gaveS_G {s : Bst} {m now : Int} : (gaveS s m now).G.length ≤ s.G.length + 1 := by
  unfold gaveS
  split
  · exact putG_le _ _
  · omega
/-- an element of what Voters tells: it is a voter, and greater than the one ahead -/
theorem told_at {vs : List Int} {on : Bool} {k : Nat} {z : Int} (h : (if on = true then sorted vs else [])[k]? = some z) : hasB vs z = true := by
  cases on with
  | false => simp at h
  | true =>
    have h1 : z ∈ sorted vs := List.mem_of_getElem? (by simpa using h)
    unfold hasB
    simpa using mem_sorted.1 h1
theorem told_lt {vs : List Int} {on : Bool} {k : Nat} {y z : Int} (hd : vs.Nodup) (h : (if on = true then sorted vs else [])[k]? = some y) (h2 : (if on = true then sorted vs else [])[k + 1]? = some z) : y < z := by
  cases on with
  | false => simp at h
  | true =>
    simp only [if_true] at h h2
    obtain ⟨h3, rfl⟩ := List.getElem?_eq_some_iff.1 h
    obtain ⟨h4, rfl⟩ := List.getElem?_eq_some_iff.1 h2
    exact List.pairwise_iff_getElem.1 (sorted_lt hd) k (k + 1) h3 h4 (by omega)
theorem told_len {vs : List Int} {on : Bool} : (if on = true then sorted vs else []).length = if on = true then vs.length else 0 := by
  cases on with
  | false => rfl
  | true => simp [sorted_len]
theorem tgave_any (C x : Nat) (F : Nat → Prop) (T : Int) (s : Bst) (w : World) (h : Tw w C x F T s) (m now : Int) (hlen : s.G.length ≤ 1000) : Calls Try.prog 15 #[.pointer (some ⟨x, 0, none⟩), .int .i64 m, .int .i64 now] w (DidT C x F T (.int .i64 (gaveE m now)) (gaveS s m now) w) := by
  by_cases n0 : 1 ≤ m
  · by_cases n1 : m ≤ 4294967296
    · by_cases n2 : 0 ≤ now
      · by_cases n3 : now ≤ 1099511627776
        · exact tgave_in C x F T s w h m now n0 n1 n2 n3 hlen
        · exact tgave_out3 C x F T s w h m now n0 n1 n2 (by omega)
      · exact tgave_out2 C x F T s w h m now n0 n1 (by omega)
    · exact tgave_out1 C x F T s w h m now n0 (by omega)
  · exact tgave_out0 C x F T s w h m now (by omega)
end Go.Proofs.Ytmjbacmaafbdlaa
