/-
  WHAT IS PROVED: an argument of type []Event opens as events whose numbers are there. No condition.
-/
import Derived.Test.YtemokbggchodgaaDoorEvm
import Derived.Test.YtemokbggchodgaaDoorLater
import Derived.Test.YtemokbggchodgaaDoorLaw
import Derived.OpenShut
import Derived.OpenVars
namespace Go.Proofs.YtemokbggchodgaaDoor
open Go.RowKit Go.Lib Go.ChangeShapes Go.WideShapes Go.ChangeAt Go.WideElems

theorem cells_i : Tryd.prog.cellsOf 3 = 1 := by kernel_rfl
theorem cells_is : Tryd.prog.cellsOf 27 = 1 := by kernel_rfl
theorem cells_ev : Tryd.prog.cellsOf 29 = 5 := by kernel_rfl
/-- a row, element by element -/
theorem rows_of {α : Type} {W : World} {a : Addr} {s : Nat} (f : α → List Value) (P : α → Prop) (hf : ∀ x, (f x).length = s) : ∀ (len : Nat), (∀ i, i < len → ∃ x, P x ∧ ∀ k u, (f x)[k]? = some u → W.cell? ((a.add (i * s)).add k) = some u) →
    ∃ l : List α, l.length = len ∧ (∀ x ∈ l, P x) ∧ (l.flatMap f).length = len * s ∧ ∀ j u, (l.flatMap f)[j]? = some u → W.cell? (a.add j) = some u
  | 0, _ => ⟨[], rfl, (fun _ hx => by cases hx), by simp, fun j u hu => by simp at hu⟩
  | len + 1, h => by
    obtain ⟨l, h1, h2, h3, h4⟩ := rows_of f P hf len (fun i hi => h i (by omega))
    obtain ⟨x, hx, hc⟩ := h len (by omega)
    have hfl : (l ++ [x]).flatMap f = l.flatMap f ++ f x := by simp
    refine ⟨l ++ [x], by rw [List.length_append, h1]; rfl, fun y hy => ?_, ?_, fun j u hu => ?_⟩
    · rcases List.mem_append.1 hy with hy | hy
      · exact h2 y hy
      · rw [List.mem_singleton.1 hy]; exact hx
    · rw [hfl, List.length_append, h3, hf, Nat.succ_mul]
    · rw [hfl] at hu
      by_cases hj : j < (l.flatMap f).length
      · rw [List.getElem?_append_left hj] at hu
        exact h4 j u hu
      · rw [List.getElem?_append_right (by omega), h3] at hu
        have := hc _ u hu
        rw [add_of_add] at this
        rw [show len * s + (j - len * s) = j by omega] at this
        exact this
section
variable {H : Type} {enc : TypeId × Value → H}
theorem trod_struct5 {P : Program} {w : World} {base : Nat} {spare : Nat → Bool} {held : Bool} {t : TypeId} {f0 f1 f2 f3 f4 : Field} {fuel : Nat} {cs : List Value} {x : DataW H × List MemPlace} (ht : P.underlying t = some (.struct #[f0, f1, f2, f3, f4])) (h : DataW.trod enc P w base spare held fuel t cs = some x) :
    ∃ y0 y1 y2 y3 y4 n, cs.length = P.cellsOf t ∧ DataW.trod enc P w base spare held n f0.type ((cs.drop f0.offset).take (P.cellsOf f0.type)) = some y0 ∧
      DataW.trod enc P w base spare held n f1.type ((cs.drop f1.offset).take (P.cellsOf f1.type)) = some y1 ∧ DataW.trod enc P w base spare held n f2.type ((cs.drop f2.offset).take (P.cellsOf f2.type)) = some y2 ∧
      DataW.trod enc P w base spare held n f3.type ((cs.drop f3.offset).take (P.cellsOf f3.type)) = some y3 ∧ DataW.trod enc P w base spare held n f4.type ((cs.drop f4.offset).take (P.cellsOf f4.type)) = some y4 := by
  obtain ⟨xs, n, _, rfl, hl, hlen, hf⟩ := DataW.trod_struct ht h
  match xs, hlen with
  | [y0, y1, y2, y3, y4], _ => exact ⟨y0, y1, y2, y3, y4, n, hl, by simpa using hf 0 f0 rfl, by simpa using hf 1 f1 rfl, by simpa using hf 2 f2 rfl, by simpa using hf 3 f3 rfl, by simpa using hf 4 f4 rfl⟩
theorem in_wf {n : Int} (h : (Lit.int .i64 n).wf = true) : inI n := by
  have h1 : IntKind.i64.min = -9223372036854775808 := rfl
  have h2 : IntKind.i64.max = 9223372036854775807 := rfl
  simp only [Lit.wf, Bool.and_eq_true, decide_eq_true_eq] at h
  unfold inI
  omega
theorem open_icells {W : World} {fuel : Nat} {cs : List Value} {x : DataW H × List MemPlace} (hf : DataW.trod enc Tryd.prog W 0 (fun _ => true) true fuel 27 cs = some x) :
    ∃ (A : Option Addr) (n cap : Nat) (l : List Int), cs = [.slice A n cap] ∧ n ≤ cap ∧ cap ≤ 9223372036854775807 ∧ Rd W no 1 A n (zints l) ∧ ∀ v ∈ l, inI v := by
  rcases open_ints Tryd.underlying27 Tryd.underlying3 cells_i hf with ⟨hcs, _⟩ | ⟨a, len, cap, zs, hcs, _, hl, hm, hz, _, hcell, hwf⟩
  · exact ⟨none, 0, 0, [], hcs, Nat.le_refl _, by omega, Rd.nil_ _ _ _ _, fun v hv => by cases hv⟩
  · simp only [if_true] at hz
    refine ⟨some a, len, cap, zs.take len, hcs, hl, hm, ⟨by rw [zints_len, List.length_take]; omega, fun hn => ?_⟩, fun v hv => in_wf (hwf v (List.mem_of_mem_take hv))⟩
    have hlt : a.block < W.heap.size := by
      have := lt_of_cell (hcell 0 (by omega))
      rwa [block_of_add] at this
    refine ⟨a, rfl, hlt, fun f => f, fun j u hu => ?_⟩
    obtain ⟨c, hc, rfl⟩ := zints_at hu
    rw [List.getElem?_take] at hc
    by_cases hj : j < len
    · rw [if_pos hj] at hc
      rw [hcell j (by omega)]
      simp [List.getD, hc]
    · rw [if_neg hj] at hc; cases hc
theorem open_ecells {W : World} {fuel : Nat} {cs : List Value} {x : DataW H × List MemPlace} (h : DataW.trod enc Tryd.prog W 0 (fun _ => true) true fuel 29 cs = some x) :
    ∃ e : Ev, OkE W no e ∧ cs = encE e := by
  obtain ⟨y0, y1, y2, y3, y4, m, hl, h0, h1, h2, h3, h4⟩ := trod_struct5 Tryd.underlying29 h
  rw [cells_ev] at hl
  match cs, hl with
  | [a, b, c, d, e], _ =>
    simp only [cells_i, cells_is] at h0 h1 h2 h3 h4
    obtain ⟨z0, e0, _, w0⟩ := DataW.trod_int Tryd.underlying3 h0
    obtain ⟨z1, e1, _, w1⟩ := DataW.trod_int Tryd.underlying3 h1
    obtain ⟨z2, e2, _, w2⟩ := DataW.trod_int Tryd.underlying3 h2
    obtain ⟨z3, e3, _, w3⟩ := DataW.trod_int Tryd.underlying3 h3
    obtain ⟨A, n, cap, l, e4, hn, hc, hr, hi⟩ := open_icells h4
    simp at e0 e1 e2 e3 e4
    subst e0; subst e1; subst e2; subst e3; subst e4
    exact ⟨⟨z0, z1, z2, z3, A, n, cap, l⟩, ⟨hr, hn, hc, in_wf w0, in_wf w1, in_wf w2, in_wf w3, hi⟩, rfl⟩
/-- A ROW OF ELEMENTS OF s CELLS -/
theorem open_rows {α : Type} {t e : TypeId} {s : Nat} (f : α → List Value) (P : World → α → Prop) (hs : 0 < s) (hf : ∀ x, (f x).length = s) (ht : Tryd.prog.underlying t = some (.slice e)) (hc : Tryd.prog.cellsOf e = s)
    {W : World} (hopen : ∀ {fuel : Nat} {cs : List Value} {x : DataW H × List MemPlace}, DataW.trod enc Tryd.prog W 0 (fun _ => true) true fuel e cs = some x → ∃ y, P W y ∧ cs = f y)
    {r : Reach} {b0 : Nat} {v : Value} {d : DataW H} {p : List MemPlace}
    (hval : Value.okWide Tryd.prog W r b0 t v) (h0 : DataW.Trod enc Tryd.prog W 0 (fun _ => true) true t v d p) :
    ∃ (A : Option Addr) (n cap : Nat) (l : List α), v = .slice A n cap ∧ n ≤ cap ∧ cap ≤ 9223372036854775807 ∧ Rd W no s A n (l.flatMap f) ∧ ∀ x ∈ l, P W x := by
  obtain ⟨a0, len, cap, rfl⟩ := okWide_slice ht hval
  obtain ⟨fuel, hf0⟩ := h0
  rcases Go.Deep.open_slice ht hf0 with ⟨hcs, _⟩ | ⟨a, len', cap', m, q, D, Pl, hcs, _, hl, hm, hmm, _, hx⟩
  · simp [Value.cells] at hcs
    obtain ⟨rfl, rfl, rfl⟩ := hcs
    exact ⟨none, 0, 0, [], rfl, Nat.le_refl _, by omega, Rd.nil_ _ _ _ _, fun z hz => by cases hz⟩
  · simp [Value.cells] at hcs
    obtain ⟨rfl, rfl, rfl⟩ := hcs
    simp only [if_true] at hmm
    obtain ⟨l, h1, h2, h3, h4⟩ := rows_of (W := W) (a := a) f (P W) hf len (fun i hi => by
      obtain ⟨cs', hc', hd⟩ := hx i (by omega)
      rw [hc] at hc'
      obtain ⟨y, hy, e⟩ := hopen hd
      obtain ⟨_, _, hcell⟩ := World.cells?_some hc'
      refine ⟨y, hy, fun k u hu => ?_⟩
      have hk : k < s := by have := (List.getElem?_eq_some_iff.1 hu).1; rw [hf] at this; exact this
      have h5 := hcell k hk
      rw [h5]
      rw [← e] at hu
      simpa using hu)
    refine ⟨some a, len, cap, l, rfl, hl, hm, ⟨h3, fun hn => ⟨a, rfl, ?_, fun f => f, h4⟩⟩, h2⟩
    have hlen : 0 < (l.flatMap f).length := by rw [h3]; exact Nat.mul_pos hn hs
    have := lt_of_cell (h4 0 _ (List.getElem?_eq_getElem hlen))
    rwa [block_of_add] at this
/-- AN ARGUMENT OF TYPE []Event -/
theorem open_events {W : World} {r : Reach} {b0 : Nat} {v : Value} {d : DataW H} {p : List MemPlace}
    (hval : Value.okWide Tryd.prog W r b0 22 v) (h0 : DataW.Trod enc Tryd.prog W 0 (fun _ => true) true 22 v d p) :
    ∃ (A : Option Addr) (n cap : Nat) (l : List Ev), v = .slice A n cap ∧ n ≤ cap ∧ cap ≤ 9223372036854775807 ∧ Rd W no 5 A n (flatE l) ∧ ∀ x ∈ l, OkE W no x :=
  open_rows encE (fun W e => OkE W no e) (by omega) (fun _ => rfl) Tryd.underlying22 cells_ev (fun h => open_ecells h) hval h0
end
end Go.Proofs.YtemokbggchodgaaDoor
