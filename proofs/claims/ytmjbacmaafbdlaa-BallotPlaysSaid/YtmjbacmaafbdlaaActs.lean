/-
  WHAT IS PROVED: arguments of type []Act, each with a list of its own. Condition: none.
-/
import Derived.Test.YtmjbacmaafbdlaaLAgain
import Derived.Deep.Strs
namespace Go.Proofs.Ytmjbacmaafbdlaa
open Go.RowKit Go.ChangeShapes Go.WideShapes Go.ChangeAt Go.WideElems

theorem add_succ (x : Addr) (j : Nat) : x.add (j + 1) = ⟨x.block, x.off + (j + 1), none⟩ := by unfold Addr.add; rw [if_neg (by omega)]
/-- a step -/
structure Ac where
  how : Int
  ep : Int
  id : Int
  now : Int
  a : Option Addr
  n : Nat
  c : Nat
  l : List Int
def Ac.ok (W : World) (r : Ac) : Prop := r.n ≤ r.c ∧ r.c ≤ 9223372036854775807 ∧ Arg W r.a r.n r.l
def Ac.fits (r : Ac) : Prop := Mp.inInt r.how ∧ Mp.inInt r.ep ∧ Mp.inInt r.id ∧ Mp.inInt r.now
/-- the five cells of a step -/
def Ac.at_ (w : World) (p : Addr) (r : Ac) : Prop := w.cell? p = some (.int .i64 r.how) ∧ w.cell? (p.add 1) = some (.int .i64 r.ep) ∧ w.cell? (p.add 2) = some (.int .i64 r.id) ∧ w.cell? (p.add 3) = some (.int .i64 r.now) ∧ w.cell? (p.add 4) = some (.slice r.a r.n r.c)
/-- the slice value '.slice A n c' holds the steps L -/
def ActsAt (W : World) (A : Option Addr) (n : Nat) (L : List Ac) : Prop :=
  L.length = n ∧ (0 < n → ∃ ad, A = some ad ∧ ad.block < W.heap.size ∧ ∀ i (r : Ac), L[i]? = some r → r.at_ W (ad.add (i * 5))) ∧ ∀ r ∈ L, r.ok W
theorem ActsAt.get {W w : World} {A : Option Addr} {n k : Nat} {L : List Ac} (h : ActsAt W A n L) (hb : Below W.heap.size W w) (hk : k < n) :
    ∃ ad r, A = some ad ∧ L[k]? = some r ∧ ad.block < W.heap.size ∧ r.ok W ∧ w.cell? (ad.add (k * 5)) = some (.int .i64 r.how) ∧ w.cell? ⟨(ad.add (k * 5)).block, (ad.add (k * 5)).off + 1, none⟩ = some (.int .i64 r.ep) ∧ w.cell? ⟨(ad.add (k * 5)).block, (ad.add (k * 5)).off + 2, none⟩ = some (.int .i64 r.id) ∧ w.cell? ⟨(ad.add (k * 5)).block, (ad.add (k * 5)).off + 3, none⟩ = some (.int .i64 r.now) ∧ w.cell? ⟨(ad.add (k * 5)).block, (ad.add (k * 5)).off + 4, none⟩ = some (.slice r.a r.n r.c) := by
  obtain ⟨ad, e, hlt, hc⟩ := h.2.1 (by omega)
  have hl : k < L.length := by have := h.1; omega
  have hr := List.getElem?_eq_getElem hl
  obtain ⟨c0, c1, c2, c3, c4⟩ := hc k _ hr
  rw [add_succ] at c1 c2 c3 c4
  have hq : (ad.add (k * 5)).block < W.heap.size := by rw [block_of_add]; exact hlt
  exact ⟨ad, L[k], e, hr, hlt, h.2.2 _ (List.mem_of_getElem? hr), (hb.cell hq).trans c0, (hb.cell (by exact hq)).trans c1, (hb.cell (by exact hq)).trans c2, (hb.cell (by exact hq)).trans c3, (hb.cell (by exact hq)).trans c4⟩
theorem cells_act : Try.prog.cellsOf 33 = 5 := by kernel_rfl
theorem cells_zs : Try.prog.cellsOf 29 = 1 := by kernel_rfl

section
variable {H : Type} {enc : TypeId × Value → H}
theorem trod_struct5 {P : Program} {w : World} {base : Nat} {spare : Nat → Bool} {held : Bool} {t : TypeId} {f0 f1 f2 f3 f4 : Field} {fuel : Nat} {cs : List Value} {x : DataW H × List MemPlace} (ht : P.underlying t = some (.struct #[f0, f1, f2, f3, f4])) (h : DataW.trod enc P w base spare held fuel t cs = some x) :
    ∃ y0 y1 y2 y3 y4 n, cs.length = P.cellsOf t ∧ DataW.trod enc P w base spare held n f0.type ((cs.drop f0.offset).take (P.cellsOf f0.type)) = some y0 ∧
      DataW.trod enc P w base spare held n f1.type ((cs.drop f1.offset).take (P.cellsOf f1.type)) = some y1 ∧ DataW.trod enc P w base spare held n f2.type ((cs.drop f2.offset).take (P.cellsOf f2.type)) = some y2 ∧
      DataW.trod enc P w base spare held n f3.type ((cs.drop f3.offset).take (P.cellsOf f3.type)) = some y3 ∧ DataW.trod enc P w base spare held n f4.type ((cs.drop f4.offset).take (P.cellsOf f4.type)) = some y4 := by
  obtain ⟨xs, n, _, rfl, hl, hlen, hf⟩ := DataW.trod_struct ht h
  match xs, hlen with
  | [y0, y1, y2, y3, y4], _ => exact ⟨y0, y1, y2, y3, y4, n, hl, by simpa using hf 0 f0 rfl, by simpa using hf 1 f1 rfl, by simpa using hf 2 f2 rfl, by simpa using hf 3 f3 rfl, by simpa using hf 4 f4 rfl⟩
theorem open_zcells {W : World} {fuel : Nat} {cs : List Value} {x : DataW H × List MemPlace} (hf : DataW.trod enc Try.prog W 0 (fun _ => true) true fuel 29 cs = some x) :
    ∃ (A : Option Addr) (n cap : Nat) (l : List Int), cs = [.slice A n cap] ∧ n ≤ cap ∧ cap ≤ 9223372036854775807 ∧ Arg W A n l := by
  rcases open_ints Try.underlying29 Try.underlying3 cells_int hf with ⟨hcs, _⟩ | ⟨a, len, cap, zs, hcs, _, hl, hm, hz, _, hcell, hwf⟩
  · exact ⟨none, 0, 0, [], hcs, Nat.le_refl _, by omega, fun g _ => Reads.none_⟩
  · simp only [if_true] at hz
    refine ⟨some a, len, cap, zs.take len, hcs, hl, hm, fun g hg => ⟨by simp [zints]; omega, fun hn => ?_⟩⟩
    have hlt : a.block < W.heap.size := by
      have := lt_of_cell (hcell 0 (by omega))
      rwa [block_of_add] at this
    refine ⟨a, rfl, hlt, by omega, fun j u hu => ?_⟩
    obtain ⟨c, hc, rfl⟩ := zints_at hu
    rw [List.getElem?_take] at hc
    by_cases hj : j < len
    · rw [if_pos hj] at hc
      rw [hcell j (by omega)]
      simp [List.getD, hc]
    · rw [if_neg hj] at hc; cases hc
theorem open_act {W : World} {fuel : Nat} {cs : List Value} {x : DataW H × List MemPlace} (h : DataW.trod enc Try.prog W 0 (fun _ => true) true fuel 33 cs = some x) :
    ∃ r : Ac, r.fits ∧ r.ok W ∧ cs = [.int .i64 r.how, .int .i64 r.ep, .int .i64 r.id, .int .i64 r.now, .slice r.a r.n r.c] := by
  obtain ⟨y0, y1, y2, y3, y4, m, hl, h0, h1, h2, h3, h4⟩ := trod_struct5 Try.underlying33 h
  rw [cells_act] at hl
  match cs, hl with
  | [a, b, c, d, e], _ =>
    simp only [cells_int, cells_zs] at h0 h1 h2 h3 h4
    obtain ⟨z0, e0, _, w0⟩ := DataW.trod_int Try.underlying3 h0
    obtain ⟨z1, e1, _, w1⟩ := DataW.trod_int Try.underlying3 h1
    obtain ⟨z2, e2, _, w2⟩ := DataW.trod_int Try.underlying3 h2
    obtain ⟨z3, e3, _, w3⟩ := DataW.trod_int Try.underlying3 h3
    obtain ⟨A, n, cap, l, e4, hn, hc, hr⟩ := open_zcells h4
    simp at e0 e1 e2 e3 e4
    subst e0; subst e1; subst e2; subst e3; subst e4
    exact ⟨⟨z0, z1, z2, z3, A, n, cap, l⟩, ⟨wf_i64 w0, wf_i64 w1, wf_i64 w2, wf_i64 w3⟩, ⟨hn, hc, hr⟩, rfl⟩

/-- AN ARGUMENT OF TYPE []Act -/
theorem open_acts {W : World} {r : Reach} {b0 : Nat} {v : Value} {d : DataW H} {p : List MemPlace}
    (hval : Value.okWide Try.prog W r b0 22 v) (h0 : DataW.Trod enc Try.prog W 0 (fun _ => true) true 22 v d p) :
    ∃ (A : Option Addr) (n cap : Nat) (l : List Ac), v = .slice A n cap ∧ l.length = n ∧ n ≤ cap ∧ cap ≤ 9223372036854775807 ∧ ActsAt W A n l ∧ ∀ s ∈ l, s.fits := by
  obtain ⟨a0, len, cap, rfl⟩ := okWide_slice Try.underlying22 hval
  obtain ⟨fuel, hf⟩ := h0
  rcases Go.Deep.open_slice Try.underlying22 hf with ⟨hcs, _⟩ | ⟨a, len', cap', m, q, D, Pl, hcs, _, hl, hm, hmm, _, hx⟩
  · simp [Value.cells] at hcs
    obtain ⟨rfl, rfl, rfl⟩ := hcs
    exact ⟨none, 0, 0, [], rfl, rfl, Nat.le_refl _, by omega, ⟨rfl, fun h => absurd h (by omega), fun z hz => by cases hz⟩, fun z hz => by cases hz⟩
  · simp [Value.cells] at hcs
    obtain ⟨rfl, rfl, rfl⟩ := hcs
    simp only [if_true] at hmm
    have each : ∀ i, i < len → ∃ s : Ac, s.fits ∧ s.ok W ∧ s.at_ W (a.add (i * 5)) := fun i hi => by
      obtain ⟨cs', hc, hd⟩ := hx i (by omega)
      rw [cells_act] at hc
      obtain ⟨s, hs, ho, rfl⟩ := open_act hd
      obtain ⟨_, _, hcell⟩ := World.cells?_some hc
      have c0 := hcell 0 (by omega)
      have c1 := hcell 1 (by omega)
      have c2 := hcell 2 (by omega)
      have c3 := hcell 3 (by omega)
      have c4 := hcell 4 (by omega)
      rw [add0] at c0
      exact ⟨s, hs, ho, c0, c1, c2, c3, c4⟩
    have : Inhabited Ac := ⟨⟨0, 0, 0, 0, none, 0, 0, []⟩⟩
    obtain ⟨g, hg⟩ := Go.Deep.choose_lt each
    have hget : ∀ i r, ((List.range len).map g)[i]? = some r → i < len ∧ r = g i := fun i r hs => by
      rw [List.getElem?_map] at hs
      cases hi : (List.range len)[i]? with
      | none => rw [hi] at hs; cases hs
      | some j =>
        rw [hi] at hs
        simp at hs
        have hil : i < len := by
          have := (List.getElem?_eq_some_iff.1 hi).1
          simpa using this
        have hj : j = i := by
          have := (List.getElem?_eq_some_iff.1 hi).2
          simp at this
          exact this.symm
        subst hj
        exact ⟨hil, hs.symm⟩
    refine ⟨some a, len, cap, (List.range len).map g, rfl, by simp, hl, hm, ⟨by simp, fun hn => ⟨a, rfl, ?_, fun i s hs => ?_⟩, fun s hs => ?_⟩, fun s hs => ?_⟩
    · have := lt_of_cell (hg 0 hn).2.2.1
      rwa [block_of_add] at this
    · obtain ⟨hi, rfl⟩ := hget i s hs
      exact (hg i hi).2.2
    · obtain ⟨j, hj, rfl⟩ := List.mem_map.1 hs
      exact (hg j (by simpa using hj)).2.1
    · obtain ⟨j, hj, rfl⟩ := List.mem_map.1 hs
      exact (hg j (by simpa using hj)).1
end
end Go.Proofs.Ytmjbacmaafbdlaa
