/-
  WHAT IS PROVED: arguments of type Member and []Act open as members and steps whose numbers fit. No condition.
-/
import Derived.Test.YtfchhlibjhblmaaAnchor
import Derived.Test.YtfchhlibjhblmaaLike
import Derived.OpenShut
import Derived.OpenVars
namespace Go.Proofs.Ytfchhlibjhblmaa
open Go.RowKit Go.ChangeShapes Go.WideShapes Go.ChangeAt Go.WideElems

/-- a step of a play -/
structure St where
  how : Int
  now : Int
  n : Int
  m : Mb
def Mb.fits (p : Mb) : Prop := inInt p.id ∧ inInt p.ma ∧ inInt p.co ∧ inInt p.of_ ∧ inInt p.fa
def St.fits (s : St) : Prop := inInt s.how ∧ inInt s.now ∧ inInt s.n ∧ s.m.fits
def ActsAt (w : World) (A : Option Addr) (n : Nat) (l : List St) : Prop :=
  l.length = n ∧ (0 < n → ∃ ad, A = some ad ∧ ad.block < w.heap.size ∧ ∀ i s, l[i]? = some s → w.cell? (ad.add (i * 8)) = some (.int .i64 s.how) ∧ w.cell? (ad.add (i * 8 + 1)) = some (.int .i64 s.now) ∧ w.cell? (ad.add (i * 8 + 2)) = some (.int .i64 s.n) ∧ w.cell? (ad.add (i * 8 + 3)) = some (.int .i64 s.m.id) ∧ w.cell? (ad.add (i * 8 + 4)) = some (.int .i64 s.m.ma) ∧ w.cell? (ad.add (i * 8 + 5)) = some (.int .i64 s.m.co) ∧ w.cell? (ad.add (i * 8 + 6)) = some (.int .i64 s.m.of_) ∧ w.cell? (ad.add (i * 8 + 7)) = some (.int .i64 s.m.fa))
theorem ActsAt.below {w w' : World} {A : Option Addr} {n : Nat} {l : List St} {B : Nat} (h : ActsAt w A n l) (hB : w.heap.size ≤ B) (hb : Below B w w') : ActsAt w' A n l :=
  ⟨h.1, fun hn => by
    obtain ⟨ad, e, hlt, hc⟩ := h.2 hn
    have hk : ∀ j u, w.cell? (ad.add j) = some u → w'.cell? (ad.add j) = some u := fun j u hu => (hb.cell (by rw [block_of_add]; omega)).trans hu
    refine ⟨ad, e, Nat.lt_of_lt_of_le hlt hb.size, fun i s hs => ?_⟩
    obtain ⟨c0, c1, c2, c3, c4, c5, c6, c7⟩ := hc i s hs
    exact ⟨hk _ _ c0, hk _ _ c1, hk _ _ c2, hk _ _ c3, hk _ _ c4, hk _ _ c5, hk _ _ c6, hk _ _ c7⟩⟩
theorem ActsAt.at_ {w : World} {A : Option Addr} {n k : Nat} {l : List St} (h : ActsAt w A n l) (hk : k < n) :
    ∃ ad s, A = some ad ∧ l[k]? = some s ∧ ad.block < w.heap.size ∧ w.cell? (ad.add (k * 8)) = some (.int .i64 s.how) ∧ w.cell? ⟨(ad.add (k * 8)).block, (ad.add (k * 8)).off + 1, none⟩ = some (.int .i64 s.now) ∧ w.cell? ⟨(ad.add (k * 8)).block, (ad.add (k * 8)).off + 2, none⟩ = some (.int .i64 s.n) ∧ w.cell? ⟨(ad.add (k * 8)).block, (ad.add (k * 8)).off + 3, none⟩ = some (.int .i64 s.m.id) ∧ w.cell? ⟨(ad.add (k * 8)).block, (ad.add (k * 8)).off + 4, none⟩ = some (.int .i64 s.m.ma) ∧ w.cell? ⟨(ad.add (k * 8)).block, (ad.add (k * 8)).off + 5, none⟩ = some (.int .i64 s.m.co) ∧ w.cell? ⟨(ad.add (k * 8)).block, (ad.add (k * 8)).off + 6, none⟩ = some (.int .i64 s.m.of_) ∧ w.cell? ⟨(ad.add (k * 8)).block, (ad.add (k * 8)).off + 7, none⟩ = some (.int .i64 s.m.fa) := by
  obtain ⟨ad, e, hlt, hc⟩ := h.2 (by omega)
  have hl : k < l.length := by have := h.1; omega
  obtain ⟨c0, c1, c2, c3, c4, c5, c6, c7⟩ := hc k _ (List.getElem?_eq_getElem hl)
  rw [← add_of_add, add_succ] at c1 c2 c3 c4 c5 c6 c7
  exact ⟨ad, l[k], e, List.getElem?_eq_getElem hl, hlt, c0, c1, c2, c3, c4, c5, c6, c7⟩
theorem cells_mem : Try.prog.cellsOf 34 = 5 := by kernel_rfl
theorem cells_act : Try.prog.cellsOf 36 = 8 := by kernel_rfl
section
variable {H : Type} {enc : TypeId × Value → H}
theorem trod_struct5 {P : Program} {w : World} {base : Nat} {spare : Nat → Bool} {held : Bool} {t : TypeId} {f0 f1 f2 f3 f4 : Field} {fuel : Nat} {cs : List Value} {x : DataW H × List MemPlace} (ht : P.underlying t = some (.struct #[f0, f1, f2, f3, f4])) (h : DataW.trod enc P w base spare held fuel t cs = some x) :
    ∃ y0 y1 y2 y3 y4 n, cs.length = P.cellsOf t ∧ DataW.trod enc P w base spare held n f0.type ((cs.drop f0.offset).take (P.cellsOf f0.type)) = some y0 ∧
      DataW.trod enc P w base spare held n f1.type ((cs.drop f1.offset).take (P.cellsOf f1.type)) = some y1 ∧ DataW.trod enc P w base spare held n f2.type ((cs.drop f2.offset).take (P.cellsOf f2.type)) = some y2 ∧
      DataW.trod enc P w base spare held n f3.type ((cs.drop f3.offset).take (P.cellsOf f3.type)) = some y3 ∧ DataW.trod enc P w base spare held n f4.type ((cs.drop f4.offset).take (P.cellsOf f4.type)) = some y4 := by
  obtain ⟨xs, n, _, rfl, hl, hlen, hf⟩ := DataW.trod_struct ht h
  match xs, hlen with
  | [y0, y1, y2, y3, y4], _ => exact ⟨y0, y1, y2, y3, y4, n, hl, by simpa using hf 0 f0 rfl, by simpa using hf 1 f1 rfl, by simpa using hf 2 f2 rfl, by simpa using hf 3 f3 rfl, by simpa using hf 4 f4 rfl⟩
theorem open_mem_cells {W : World} {sp : Nat → Bool} {hd : Bool} {fuel : Nat} {cs : List Value} {x : DataW H × List MemPlace} (h : DataW.trod enc Try.prog W 0 sp hd fuel 34 cs = some x) :
    ∃ s : Mb, s.fits ∧ cs = encM s := by
  obtain ⟨y0, y1, y2, y3, y4, m, hl, h0, h1, h2, h3, h4⟩ := trod_struct5 Try.underlying34 h
  rw [cells_mem] at hl
  match cs, hl with
  | [a, b, c, d, e], _ =>
    simp only [cells_int] at h0 h1 h2 h3 h4
    obtain ⟨z0, e0, _, w0⟩ := DataW.trod_int Try.underlying3 h0
    obtain ⟨z1, e1, _, w1⟩ := DataW.trod_int Try.underlying3 h1
    obtain ⟨z2, e2, _, w2⟩ := DataW.trod_int Try.underlying3 h2
    obtain ⟨z3, e3, _, w3⟩ := DataW.trod_int Try.underlying3 h3
    obtain ⟨z4, e4, _, w4⟩ := DataW.trod_int Try.underlying3 h4
    simp at e0 e1 e2 e3 e4
    subst e0; subst e1; subst e2; subst e3; subst e4
    exact ⟨⟨z0, z1, z2, z3, z4⟩, ⟨wf_i64 w0, wf_i64 w1, wf_i64 w2, wf_i64 w3, wf_i64 w4⟩, rfl⟩
/-- AN ARGUMENT OF TYPE Member -/
theorem open_mem {W : World} {r : Reach} {b0 : Nat} {v : Value} {d : DataW H} {p : List MemPlace}
    (hval : Value.okWide Try.prog W r b0 34 v) (h0 : DataW.Trod enc Try.prog W 0 (fun _ => true) true 34 v d p) :
    ∃ s : Mb, v = vM s ∧ s.fits := by
  obtain ⟨cs, rfl, _⟩ := okWide_struct Try.underlying34 hval
  obtain ⟨fuel, hf⟩ := h0
  obtain ⟨s, hs, e⟩ := open_mem_cells hf
  refine ⟨s, ?_, hs⟩
  have e' : cs.toList = encM s := by simpa [Value.cells] using e
  rw [show cs = cs.toList.toArray by simp, e']
  rfl
theorem open_act {W : World} {sp : Nat → Bool} {hd : Bool} {fuel : Nat} {cs : List Value} {x : DataW H × List MemPlace} (h : DataW.trod enc Try.prog W 0 sp hd fuel 36 cs = some x) :
    ∃ s : St, s.fits ∧ cs = [.int .i64 s.how, .int .i64 s.now, .int .i64 s.n, .int .i64 s.m.id, .int .i64 s.m.ma, .int .i64 s.m.co, .int .i64 s.m.of_, .int .i64 s.m.fa] := by
  obtain ⟨y0, y1, y2, y3, m, _, hl, h0, h1, h2, h3⟩ := Go.Joins.trod_struct4 Try.underlying36 h
  rw [cells_act] at hl
  match cs, hl with
  | [a, b, c, d, e, f, g, k], _ =>
    simp only [cells_int, cells_mem] at h0 h1 h2 h3
    obtain ⟨z0, e0, _, w0⟩ := DataW.trod_int Try.underlying3 h0
    obtain ⟨z1, e1, _, w1⟩ := DataW.trod_int Try.underlying3 h1
    obtain ⟨z2, e2, _, w2⟩ := DataW.trod_int Try.underlying3 h2
    obtain ⟨s, hs, e3⟩ := open_mem_cells h3
    simp [encM] at e0 e1 e2 e3
    obtain ⟨e3, e4, e5, e6, e7⟩ := e3
    subst e0; subst e1; subst e2; subst e3; subst e4; subst e5; subst e6; subst e7
    exact ⟨⟨z0, z1, z2, s⟩, ⟨wf_i64 w0, wf_i64 w1, wf_i64 w2, hs⟩, rfl⟩
/-- AN ARGUMENT OF TYPE []Act -/
theorem open_acts {W : World} {r : Reach} {b0 : Nat} {v : Value} {d : DataW H} {p : List MemPlace}
    (hval : Value.okWide Try.prog W r b0 22 v) (h0 : DataW.Trod enc Try.prog W 0 (fun _ => true) true 22 v d p) :
    ∃ (A : Option Addr) (n cap : Nat) (l : List St), v = .slice A n cap ∧ l.length = n ∧ n ≤ cap ∧ cap ≤ 9223372036854775807 ∧ ActsAt W A n l ∧ ∀ s ∈ l, s.fits := by
  obtain ⟨a0, len, cap, rfl⟩ := okWide_slice Try.underlying22 hval
  obtain ⟨fuel, hf⟩ := h0
  rcases Go.Deep.open_slice Try.underlying22 hf with ⟨hcs, _⟩ | ⟨a, len', cap', m, q, D, Pl, hcs, _, hl, hm, hmm, _, hx⟩
  · simp [Value.cells] at hcs
    obtain ⟨rfl, rfl, rfl⟩ := hcs
    exact ⟨none, 0, 0, [], rfl, rfl, Nat.le_refl _, by omega, ⟨rfl, fun h => absurd h (by omega)⟩, fun z hz => by cases hz⟩
  · simp [Value.cells] at hcs
    obtain ⟨rfl, rfl, rfl⟩ := hcs
    simp only [if_true] at hmm
    have each : ∀ i, i < len → ∃ s : St, s.fits ∧ W.cell? (a.add (i * 8)) = some (.int .i64 s.how) ∧ W.cell? (a.add (i * 8 + 1)) = some (.int .i64 s.now) ∧ W.cell? (a.add (i * 8 + 2)) = some (.int .i64 s.n) ∧ W.cell? (a.add (i * 8 + 3)) = some (.int .i64 s.m.id) ∧ W.cell? (a.add (i * 8 + 4)) = some (.int .i64 s.m.ma) ∧ W.cell? (a.add (i * 8 + 5)) = some (.int .i64 s.m.co) ∧ W.cell? (a.add (i * 8 + 6)) = some (.int .i64 s.m.of_) ∧ W.cell? (a.add (i * 8 + 7)) = some (.int .i64 s.m.fa) := fun i hi => by
      obtain ⟨cs', hc, hd⟩ := hx i (by omega)
      rw [cells_act] at hc
      obtain ⟨s, hs, rfl⟩ := open_act hd
      obtain ⟨_, _, hcell⟩ := World.cells?_some hc
      have c0 := hcell 0 (by omega)
      have c1 := hcell 1 (by omega)
      have c2 := hcell 2 (by omega)
      have c3 := hcell 3 (by omega)
      have c4 := hcell 4 (by omega)
      have c5 := hcell 5 (by omega)
      have c6 := hcell 6 (by omega)
      have c7 := hcell 7 (by omega)
      rw [add_of_add] at c0 c1 c2 c3 c4 c5 c6 c7
      exact ⟨s, hs, c0, c1, c2, c3, c4, c5, c6, c7⟩
    have : Inhabited St := ⟨⟨0, 0, 0, ⟨0, 0, 0, 0, 0⟩⟩⟩
    obtain ⟨g, hg⟩ := Go.Deep.choose_lt each
    refine ⟨some a, len, cap, (List.range len).map g, rfl, by simp, hl, hm, ⟨by simp, fun hn => ⟨a, rfl, ?_, fun i s hs => ?_⟩⟩, fun s hs => ?_⟩
    · have := lt_of_cell (hg 0 hn).2.1
      rwa [block_of_add] at this
    · rw [List.getElem?_map] at hs
      cases hi : (List.range len)[i]? with
      | none => rw [hi] at hs; cases hs
      | some j =>
        rw [hi] at hs
        simp at hs
        have hil : i < len := by
          have := (List.getElem?_eq_some_iff.1 hi).1
          simpa using this
        have hj : j = i := by
          have := (List.getElem?_eq_some_iff.1 hi).2
          simp at this
          exact this.symm
        subst hj; subst hs
        exact (hg j hil).2
    · obtain ⟨j, hj, rfl⟩ := List.mem_map.1 hs
      exact (hg j (by simpa using hj)).1
end
end Go.Proofs.Ytfchhlibjhblmaa
