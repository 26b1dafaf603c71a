/-
  WHAT IS PROVED: epochs in memory (a box, a slice of them as an argument or as a row); arguments of the types Epochs, []Epochs and []Act. No condition beyond sizes.
-/
import Derived.Test.YtckdibnadokipaaPlain
import Derived.Test.YtckdibnadokipaaInts
import Derived.Deep.Strs
import Derived.OpenShut
import Derived.OpenVars
namespace Go.Proofs.Ytckdibnadokipaa
open Go.RowKit Go.ChangeShapes Go.WideShapes Go.ChangeAt Go.WideElems

def inInt (z : Int) : Prop := -9223372036854775808 ≤ z ∧ z ≤ 9223372036854775807
def Ep.fits (s : Ep) : Prop := inInt s.cur ∧ inInt s.vote ∧ inInt s.conf
/-- an epochs' value -/
abbrev vEp (r : Ep) : Value := .agg #[.int .i64 r.cur, .int .i64 r.vote, .int .i64 r.conf]

/-- a variable of type Epochs -/
def BoxAt (w : World) (b : Nat) (r : Ep) : Prop := w.cell? ⟨b, 0, none⟩ = some (.int .i64 r.cur) ∧ w.cell? ⟨b, 1, none⟩ = some (.int .i64 r.vote) ∧ w.cell? ⟨b, 2, none⟩ = some (.int .i64 r.conf)
theorem BoxAt.new (w : World) (r : Ep) : BoxAt (w.alloc (.cells #[.int .i64 r.cur, .int .i64 r.vote, .int .i64 r.conf] 23)) w.heap.size r := ⟨by simp, by simp, by simp⟩
theorem BoxAt.lt {w : World} {b : Nat} {r : Ep} (h : BoxAt w b r) : b < w.heap.size := lt_of_cell h.1
theorem BoxAt.below {w w' : World} {b : Nat} {r : Ep} (h : BoxAt w b r) (hb : Below w.heap.size w w') : BoxAt w' b r :=
  have hlt := h.lt
  ⟨(hb.cell (p := ⟨b, 0, none⟩) hlt).trans h.1, (hb.cell (p := ⟨b, 1, none⟩) hlt).trans h.2.1, (hb.cell (p := ⟨b, 2, none⟩) hlt).trans h.2.2⟩

/-- the slice value '.slice A n c' holds the epochs l, in a block that is there -/
def EpsAt (w : World) (A : Option Addr) (n : Nat) (l : List Ep) : Prop :=
  l.length = n ∧ (0 < n → ∃ ad, A = some ad ∧ ad.block < w.heap.size ∧ ∀ i s, l[i]? = some s → w.cell? (ad.add (i * 3)) = some (.int .i64 s.cur) ∧ w.cell? (ad.add (i * 3 + 1)) = some (.int .i64 s.vote) ∧ w.cell? (ad.add (i * 3 + 2)) = some (.int .i64 s.conf))
theorem EpsAt.below {w w' : World} {A : Option Addr} {n : Nat} {l : List Ep} (h : EpsAt w A n l) (hb : Below w.heap.size w w') : EpsAt w' A n l :=
  ⟨h.1, fun hn => by
    obtain ⟨ad, e, hlt, hc⟩ := h.2 hn
    refine ⟨ad, e, Nat.lt_of_lt_of_le hlt hb.size, fun i s hs => ?_⟩
    obtain ⟨c0, c1, c2⟩ := hc i s hs
    exact ⟨(hb.cell (by rw [block_of_add]; exact hlt)).trans c0, (hb.cell (by rw [block_of_add]; exact hlt)).trans c1, (hb.cell (by rw [block_of_add]; exact hlt)).trans c2⟩⟩
theorem add_succ (x : Addr) (j : Nat) : x.add (j + 1) = ⟨x.block, x.off + (j + 1), none⟩ := by unfold Addr.add; rw [if_neg (by omega)]
theorem EpsAt.at_ {w : World} {A : Option Addr} {n k : Nat} {l : List Ep} (h : EpsAt w A n l) (hk : k < n) :
    ∃ ad s, A = some ad ∧ l[k]? = some s ∧ ad.block < w.heap.size ∧ w.cell? (ad.add (k * 3)) = some (.int .i64 s.cur) ∧ w.cell? ⟨(ad.add (k * 3)).block, (ad.add (k * 3)).off + 1, none⟩ = some (.int .i64 s.vote) ∧ w.cell? ⟨(ad.add (k * 3)).block, (ad.add (k * 3)).off + 2, none⟩ = some (.int .i64 s.conf) := by
  obtain ⟨ad, e, hlt, hc⟩ := h.2 (by omega)
  have hl : k < l.length := by have := h.1; omega
  obtain ⟨c0, c1, c2⟩ := hc k _ (List.getElem?_eq_getElem hl)
  rw [← add_of_add, add_succ] at c1 c2
  exact ⟨ad, l[k], e, List.getElem?_eq_getElem hl, hlt, c0, c1, c2⟩

/-- a step of a play -/
structure Step where
  how : Int
  n : Int
def Step.fits (s : Step) : Prop := inInt s.how ∧ inInt s.n
def StepsAt (w : World) (A : Option Addr) (n : Nat) (l : List Step) : Prop :=
  l.length = n ∧ (0 < n → ∃ ad, A = some ad ∧ ad.block < w.heap.size ∧ ∀ i s, l[i]? = some s → w.cell? (ad.add (i * 2)) = some (.int .i64 s.how) ∧ w.cell? (ad.add (i * 2 + 1)) = some (.int .i64 s.n))
theorem StepsAt.below {w w' : World} {A : Option Addr} {n : Nat} {l : List Step} (h : StepsAt w A n l) (hb : Below w.heap.size w w') : StepsAt w' A n l :=
  ⟨h.1, fun hn => by
    obtain ⟨ad, e, hlt, hc⟩ := h.2 hn
    refine ⟨ad, e, Nat.lt_of_lt_of_le hlt hb.size, fun i s hs => ?_⟩
    obtain ⟨c0, c1⟩ := hc i s hs
    exact ⟨(hb.cell (by rw [block_of_add]; exact hlt)).trans c0, (hb.cell (by rw [block_of_add]; exact hlt)).trans c1⟩⟩
theorem StepsAt.at_ {w : World} {A : Option Addr} {n k : Nat} {l : List Step} (h : StepsAt w A n l) (hk : k < n) :
    ∃ ad s, A = some ad ∧ l[k]? = some s ∧ ad.block < w.heap.size ∧ w.cell? (ad.add (k * 2)) = some (.int .i64 s.how) ∧ w.cell? ⟨(ad.add (k * 2)).block, (ad.add (k * 2)).off + 1, none⟩ = some (.int .i64 s.n) := by
  obtain ⟨ad, e, hlt, hc⟩ := h.2 (by omega)
  have hl : k < l.length := by have := h.1; omega
  obtain ⟨c0, c1⟩ := hc k _ (List.getElem?_eq_getElem hl)
  rw [← add_of_add, add_succ] at c1
  exact ⟨ad, l[k], e, List.getElem?_eq_getElem hl, hlt, c0, c1⟩

theorem cells_ep : Try.prog.cellsOf 23 = 3 := by kernel_rfl
theorem cells_act : Try.prog.cellsOf 36 = 2 := by kernel_rfl

section
variable {H : Type} {enc : TypeId × Value → H}
theorem open_ep_cells {W : World} {sp : Nat → Bool} {hd : Bool} {fuel : Nat} {cs : List Value} {x : DataW H × List MemPlace} (h : DataW.trod enc Try.prog W 0 sp hd fuel 23 cs = some x) :
    ∃ s : Ep, s.fits ∧ cs = [.int .i64 s.cur, .int .i64 s.vote, .int .i64 s.conf] := by
  obtain ⟨y0, y1, y2, m, _, hl, h0, h1, h2⟩ := Go.Deep.trod_struct3 Try.underlying23 h
  rw [cells_ep] at hl
  match cs, hl with
  | [a, b, c], _ =>
    simp only [cells_int] at h0 h1 h2
    obtain ⟨z0, e0, _, w0⟩ := DataW.trod_int Try.underlying3 h0
    obtain ⟨z1, e1, _, w1⟩ := DataW.trod_int Try.underlying3 h1
    obtain ⟨z2, e2, _, w2⟩ := DataW.trod_int Try.underlying3 h2
    simp at e0 e1 e2
    subst e0; subst e1; subst e2
    exact ⟨⟨z0, z1, z2⟩, ⟨wf_i64 w0, wf_i64 w1, wf_i64 w2⟩, rfl⟩

/-- AN ARGUMENT OF TYPE Epochs -/
theorem open_ep {W : World} {r : Reach} {b0 : Nat} {v : Value} {d : DataW H} {p : List MemPlace}
    (hval : Value.okWide Try.prog W r b0 23 v) (h0 : DataW.Trod enc Try.prog W 0 (fun _ => true) true 23 v d p) :
    ∃ s : Ep, v = vEp s ∧ s.fits := by
  obtain ⟨cs, rfl, _⟩ := okWide_struct Try.underlying23 hval
  obtain ⟨fuel, hf⟩ := h0
  obtain ⟨s, hs, e⟩ := open_ep_cells hf
  refine ⟨s, ?_, hs⟩
  have e' : cs.toList = [.int .i64 s.cur, .int .i64 s.vote, .int .i64 s.conf] := by simpa [Value.cells] using e
  rw [show cs = cs.toList.toArray by simp, e']

/-- AN ARGUMENT OF TYPE []Epochs -/
theorem open_eps {W : World} {r : Reach} {b0 : Nat} {v : Value} {d : DataW H} {p : List MemPlace}
    (hval : Value.okWide Try.prog W r b0 38 v) (h0 : DataW.Trod enc Try.prog W 0 (fun _ => true) true 38 v d p) :
    ∃ (A : Option Addr) (n cap : Nat) (l : List Ep), v = .slice A n cap ∧ l.length = n ∧ n ≤ cap ∧ cap ≤ 9223372036854775807 ∧ EpsAt W A n l ∧ ∀ s ∈ l, s.fits := by
  obtain ⟨a0, len, cap, rfl⟩ := okWide_slice Try.underlying38 hval
  obtain ⟨fuel, hf⟩ := h0
  rcases Go.Deep.open_slice Try.underlying38 hf with ⟨hcs, _⟩ | ⟨a, len', cap', m, q, D, Pl, hcs, _, hl, hm, hmm, _, hx⟩
  · simp [Value.cells] at hcs
    obtain ⟨rfl, rfl, rfl⟩ := hcs
    exact ⟨none, 0, 0, [], rfl, rfl, Nat.le_refl _, by omega, ⟨rfl, fun h => absurd h (by omega)⟩, fun z hz => by cases hz⟩
  · simp [Value.cells] at hcs
    obtain ⟨rfl, rfl, rfl⟩ := hcs
    simp only [if_true] at hmm
    have each : ∀ i, i < len → ∃ s : Ep, s.fits ∧ W.cell? (a.add (i * 3)) = some (.int .i64 s.cur) ∧ W.cell? (a.add (i * 3 + 1)) = some (.int .i64 s.vote) ∧ W.cell? (a.add (i * 3 + 2)) = some (.int .i64 s.conf) := fun i hi => by
      obtain ⟨cs', hc, hd⟩ := hx i (by omega)
      rw [cells_ep] at hc
      obtain ⟨s, hs, rfl⟩ := open_ep_cells hd
      obtain ⟨_, _, hcell⟩ := World.cells?_some hc
      have c0 := hcell 0 (by omega)
      have c1 := hcell 1 (by omega)
      have c2 := hcell 2 (by omega)
      rw [add_of_add] at c0 c1 c2
      exact ⟨s, hs, c0, c1, c2⟩
    have : Inhabited Ep := ⟨Ep.zero⟩
    obtain ⟨g, hg⟩ := Go.Deep.choose_lt each
    refine ⟨some a, len, cap, (List.range len).map g, rfl, by simp, hl, hm, ⟨by simp, fun hn => ⟨a, rfl, ?_, fun i s hs => ?_⟩⟩, fun s hs => ?_⟩
    · have := lt_of_cell (hg 0 hn).2.1
      rwa [block_of_add] at this
    · rw [List.getElem?_map] at hs
      cases hi : (List.range len)[i]? with
      | none => rw [hi] at hs; cases hs
      | some j =>
        rw [hi] at hs
        simp at hs
        have hil : i < len := by
          have := (List.getElem?_eq_some_iff.1 hi).1
          simpa using this
        have hj : j = i := by
          have := (List.getElem?_eq_some_iff.1 hi).2
          simp at this
          exact this.symm
        subst hj; subst hs
        exact (hg j hil).2
    · obtain ⟨j, hj, rfl⟩ := List.mem_map.1 hs
      exact (hg j (by simpa using hj)).1

theorem open_act {W : World} {sp : Nat → Bool} {hd : Bool} {fuel : Nat} {cs : List Value} {x : DataW H × List MemPlace} (h : DataW.trod enc Try.prog W 0 sp hd fuel 36 cs = some x) :
    ∃ s : Step, s.fits ∧ cs = [.int .i64 s.how, .int .i64 s.n] := by
  obtain ⟨y0, y1, m, _, hl, h0, h1⟩ := Go.ChangeShapes.trod_struct2 Try.underlying36 h
  rw [cells_act] at hl
  match cs, hl with
  | [a, b], _ =>
    simp only [cells_int] at h0 h1
    obtain ⟨z0, e0, _, w0⟩ := DataW.trod_int Try.underlying3 h0
    obtain ⟨z1, e1, _, w1⟩ := DataW.trod_int Try.underlying3 h1
    simp at e0 e1
    subst e0; subst e1
    exact ⟨⟨z0, z1⟩, ⟨wf_i64 w0, wf_i64 w1⟩, rfl⟩

/-- AN ARGUMENT OF TYPE []Act -/
theorem open_acts {W : World} {r : Reach} {b0 : Nat} {v : Value} {d : DataW H} {p : List MemPlace}
    (hval : Value.okWide Try.prog W r b0 33 v) (h0 : DataW.Trod enc Try.prog W 0 (fun _ => true) true 33 v d p) :
    ∃ (A : Option Addr) (n cap : Nat) (l : List Step), v = .slice A n cap ∧ l.length = n ∧ n ≤ cap ∧ cap ≤ 9223372036854775807 ∧ StepsAt W A n l ∧ ∀ s ∈ l, s.fits := by
  obtain ⟨a0, len, cap, rfl⟩ := okWide_slice Try.underlying33 hval
  obtain ⟨fuel, hf⟩ := h0
  rcases Go.Deep.open_slice Try.underlying33 hf with ⟨hcs, _⟩ | ⟨a, len', cap', m, q, D, Pl, hcs, _, hl, hm, hmm, _, hx⟩
  · simp [Value.cells] at hcs
    obtain ⟨rfl, rfl, rfl⟩ := hcs
    exact ⟨none, 0, 0, [], rfl, rfl, Nat.le_refl _, by omega, ⟨rfl, fun h => absurd h (by omega)⟩, fun z hz => by cases hz⟩
  · simp [Value.cells] at hcs
    obtain ⟨rfl, rfl, rfl⟩ := hcs
    simp only [if_true] at hmm
    have each : ∀ i, i < len → ∃ s : Step, s.fits ∧ W.cell? (a.add (i * 2)) = some (.int .i64 s.how) ∧ W.cell? (a.add (i * 2 + 1)) = some (.int .i64 s.n) := fun i hi => by
      obtain ⟨cs', hc, hd⟩ := hx i (by omega)
      rw [cells_act] at hc
      obtain ⟨s, hs, rfl⟩ := open_act hd
      obtain ⟨_, _, hcell⟩ := World.cells?_some hc
      have c0 := hcell 0 (by omega)
      have c1 := hcell 1 (by omega)
      rw [add_of_add] at c0 c1
      exact ⟨s, hs, c0, c1⟩
    have : Inhabited Step := ⟨⟨0, 0⟩⟩
    obtain ⟨g, hg⟩ := Go.Deep.choose_lt each
    refine ⟨some a, len, cap, (List.range len).map g, rfl, by simp, hl, hm, ⟨by simp, fun hn => ⟨a, rfl, ?_, fun i s hs => ?_⟩⟩, fun s hs => ?_⟩
    · have := lt_of_cell (hg 0 hn).2.1
      rwa [block_of_add] at this
    · rw [List.getElem?_map] at hs
      cases hi : (List.range len)[i]? with
      | none => rw [hi] at hs; cases hs
      | some j =>
        rw [hi] at hs
        simp at hs
        have hil : i < len := by
          have := (List.getElem?_eq_some_iff.1 hi).1
          simpa using this
        have hj : j = i := by
          have := (List.getElem?_eq_some_iff.1 hi).2
          simp at this
          exact this.symm
        subst hj; subst hs
        exact (hg j hil).2
    · obtain ⟨j, hj, rfl⟩ := List.mem_map.1 hs
      exact (hg j (by simpa using hj)).1
end
end Go.Proofs.Ytckdibnadokipaa
