/-
  WHAT IS PROVED: arguments of type Message, []Message, []Act and []int open as messages, steps and numbers whose bytes are there. No condition.
-/
import Derived.Test.YtblmfjndemfkjaaPl
import Derived.Test.YtblmfjndemfkjaaLaw
import Derived.OpenShut
import Derived.OpenVars
namespace Go.Proofs.Ytblmfjndemfkjaa
open Go.RowKit Go.Lib Go.ChangeShapes Go.WideShapes Go.ChangeAt Go.WideElems

def Ms.ok (W : World) (m : Ms) : Prop := Rd W no 1 m.A m.n (bs m.d) ∧ m.n ≤ m.c ∧ m.c ≤ 9223372036854775807
theorem cells_u8 : Try.prog.cellsOf 5 = 1 := by kernel_rfl
theorem cells_i : Try.prog.cellsOf 3 = 1 := by kernel_rfl
theorem cells_bs : Try.prog.cellsOf 27 = 1 := by kernel_rfl
theorem cells_msg : Try.prog.cellsOf 29 = 3 := by kernel_rfl
theorem cells_act : Try.prog.cellsOf 31 = 5 := by kernel_rfl
/-- a row, element by element -/
theorem rows_of {α : Type} {W : World} {a : Addr} {s : Nat} (f : α → List Value) (P : α → Prop) (hf : ∀ x, (f x).length = s) : ∀ (len : Nat), (∀ i, i < len → ∃ x, P x ∧ ∀ k u, (f x)[k]? = some u → W.cell? ((a.add (i * s)).add k) = some u) →
    ∃ l : List α, l.length = len ∧ (∀ x ∈ l, P x) ∧ (l.flatMap f).length = len * s ∧ ∀ j u, (l.flatMap f)[j]? = some u → W.cell? (a.add j) = some u
  | 0, _ => ⟨[], rfl, (fun _ hx => by cases hx), by simp, fun j u hu => by simp at hu⟩
  | len + 1, h => by
    obtain ⟨l, h1, h2, h3, h4⟩ := rows_of f P hf len (fun i hi => h i (by omega))
    obtain ⟨x, hx, hc⟩ := h len (by omega)
    have hfl : (l ++ [x]).flatMap f = l.flatMap f ++ f x := by simp
    refine ⟨l ++ [x], by rw [List.length_append, h1]; rfl, fun y hy => ?_, ?_, fun j u hu => ?_⟩
    · rcases List.mem_append.1 hy with hy | hy
      · exact h2 y hy
      · rw [List.mem_singleton.1 hy]; exact hx
    · rw [hfl, List.length_append, h3, hf, Nat.succ_mul]
    · rw [hfl] at hu
      by_cases hj : j < (l.flatMap f).length
      · rw [List.getElem?_append_left hj] at hu
        exact h4 j u hu
      · rw [List.getElem?_append_right (by omega), h3] at hu
        have := hc _ u hu
        rw [add_of_add] at this
        rw [show len * s + (j - len * s) = j by omega] at this
        exact this
section
variable {H : Type} {enc : TypeId × Value → H}
theorem byte_wf {n : Int} (h : (Lit.int .u8 n).wf = true) : ∃ c : UInt8, n = (c.toNat : Int) := by
  have h1 : IntKind.u8.min = 0 := rfl
  have h2 : IntKind.u8.max = 255 := rfl
  simp only [Lit.wf, Bool.and_eq_true, decide_eq_true_eq] at h
  exact ⟨UInt8.ofNat n.toNat, by simp; omega⟩
theorem bytes_wf : ∀ {zs : List Int}, (∀ n ∈ zs, (Lit.int .u8 n).wf = true) → ∃ l : List UInt8, zs = l.map fun c => (c.toNat : Int)
  | [], _ => ⟨[], rfl⟩
  | z :: zs, h => by
    obtain ⟨c, hc⟩ := byte_wf (h z (by simp))
    obtain ⟨l, hl⟩ := bytes_wf (zs := zs) (fun n hn => h n (by simp [hn]))
    exact ⟨c :: l, by rw [hc, hl]; rfl⟩
theorem open_bcells {W : World} {fuel : Nat} {cs : List Value} {x : DataW H × List MemPlace} (hf : DataW.trod enc Try.prog W 0 (fun _ => true) true fuel 27 cs = some x) :
    ∃ (A : Option Addr) (n cap : Nat) (l : List UInt8), cs = [.slice A n cap] ∧ n ≤ cap ∧ cap ≤ 9223372036854775807 ∧ Rd W no 1 A n (bs l) := by
  rcases open_ints Try.underlying27 Try.underlying5 cells_u8 hf with ⟨hcs, _⟩ | ⟨a, len, cap, zs, hcs, _, hl, hm, hz, _, hcell, hwf⟩
  · exact ⟨none, 0, 0, [], hcs, Nat.le_refl _, by omega, Rd.nil_ _ _ _ _⟩
  · simp only [if_true] at hz
    obtain ⟨l0, hl0⟩ := bytes_wf hwf
    have hn : l0.length = zs.length := by rw [hl0]; simp
    refine ⟨some a, len, cap, l0.take len, hcs, hl, hm, by rw [bs_len, List.length_take]; omega, fun hn => ?_⟩
    have hlt : a.block < W.heap.size := by
      have := lt_of_cell (hcell 0 (by omega))
      rwa [block_of_add] at this
    refine ⟨a, rfl, hlt, fun f => f, fun j u hu => ?_⟩
    obtain ⟨c, hc, rfl⟩ := bs_at hu
    rw [List.getElem?_take] at hc
    by_cases hj : j < len
    · rw [if_pos hj] at hc
      rw [hcell j (by omega), hl0]
      simp [List.getD, hc]
    · rw [if_neg hj] at hc; cases hc
theorem open_mcells {W : World} {fuel : Nat} {cs : List Value} {x : DataW H × List MemPlace} (h : DataW.trod enc Try.prog W 0 (fun _ => true) true fuel 29 cs = some x) :
    ∃ m : Ms, m.ok W ∧ cs = encM m := by
  obtain ⟨y0, y1, y2, m, _, hl, h0, h1, h2⟩ := Go.Deep.trod_struct3 Try.underlying29 h
  rw [cells_msg] at hl
  match cs, hl with
  | [a, b, c], _ =>
    simp only [cells_i, cells_bs] at h0 h1 h2
    obtain ⟨z0, e0, _, w0⟩ := DataW.trod_int Try.underlying3 h0
    obtain ⟨z1, e1, _, w1⟩ := DataW.trod_int Try.underlying3 h1
    obtain ⟨A, n, cap, l, e2, hn, hc, hr⟩ := open_bcells h2
    simp at e0 e1 e2
    subst e0; subst e1; subst e2
    exact ⟨⟨z0, z1, A, n, cap, l⟩, ⟨hr, hn, hc⟩, rfl⟩
/-- AN ARGUMENT OF TYPE Message -/
theorem open_msg {W : World} {r : Reach} {b0 : Nat} {v : Value} {d : DataW H} {p : List MemPlace}
    (hval : Value.okWide Try.prog W r b0 29 v) (h0 : DataW.Trod enc Try.prog W 0 (fun _ => true) true 29 v d p) :
    ∃ m : Ms, v = vM m ∧ m.ok W := by
  obtain ⟨cs, rfl, _⟩ := okWide_struct Try.underlying29 hval
  obtain ⟨fuel, hf⟩ := h0
  obtain ⟨m, hm, e⟩ := open_mcells hf
  refine ⟨m, ?_, hm⟩
  have e' : cs.toList = encM m := by simpa [Value.cells] using e
  rw [show cs = cs.toList.toArray by simp, e']
  rfl
theorem open_acells {W : World} {fuel : Nat} {cs : List Value} {x : DataW H × List MemPlace} (h : DataW.trod enc Try.prog W 0 (fun _ => true) true fuel 31 cs = some x) :
    ∃ a : Ac, a.ok W ∧ cs = encA a := by
  obtain ⟨y0, y1, y2, m, _, hl, h0, h1, h2⟩ := Go.Deep.trod_struct3 Try.underlying31 h
  rw [cells_act] at hl
  match cs, hl with
  | [a, b, c, d, e], _ =>
    simp only [cells_i, cells_msg] at h0 h1 h2
    obtain ⟨z0, e0, _, w0⟩ := DataW.trod_int Try.underlying3 h0
    obtain ⟨z1, e1, _, w1⟩ := DataW.trod_int Try.underlying3 h1
    obtain ⟨s, hs, e2⟩ := open_mcells h2
    simp [encM] at e0 e1 e2
    obtain ⟨e2, e3, e4⟩ := e2
    subst e0; subst e1; subst e2; subst e3; subst e4
    exact ⟨⟨z0, z1, s⟩, hs, rfl⟩
/-- A ROW OF ELEMENTS OF s CELLS -/
theorem open_rows {α : Type} {t e : TypeId} {s : Nat} (f : α → List Value) (P : World → α → Prop) (hs : 0 < s) (hf : ∀ x, (f x).length = s) (ht : Try.prog.underlying t = some (.slice e)) (hc : Try.prog.cellsOf e = s)
    {W : World} (hopen : ∀ {fuel : Nat} {cs : List Value} {x : DataW H × List MemPlace}, DataW.trod enc Try.prog W 0 (fun _ => true) true fuel e cs = some x → ∃ y, P W y ∧ cs = f y)
    {r : Reach} {b0 : Nat} {v : Value} {d : DataW H} {p : List MemPlace}
    (hval : Value.okWide Try.prog W r b0 t v) (h0 : DataW.Trod enc Try.prog W 0 (fun _ => true) true t v d p) :
    ∃ (A : Option Addr) (n cap : Nat) (l : List α), v = .slice A n cap ∧ n ≤ cap ∧ cap ≤ 9223372036854775807 ∧ Rd W no s A n (l.flatMap f) ∧ ∀ x ∈ l, P W x := by
  obtain ⟨a0, len, cap, rfl⟩ := okWide_slice ht hval
  obtain ⟨fuel, hf0⟩ := h0
  rcases Go.Deep.open_slice ht hf0 with ⟨hcs, _⟩ | ⟨a, len', cap', m, q, D, Pl, hcs, _, hl, hm, hmm, _, hx⟩
  · simp [Value.cells] at hcs
    obtain ⟨rfl, rfl, rfl⟩ := hcs
    exact ⟨none, 0, 0, [], rfl, Nat.le_refl _, by omega, Rd.nil_ _ _ _ _, fun z hz => by cases hz⟩
  · simp [Value.cells] at hcs
    obtain ⟨rfl, rfl, rfl⟩ := hcs
    simp only [if_true] at hmm
    obtain ⟨l, h1, h2, h3, h4⟩ := rows_of (W := W) (a := a) f (P W) hf len (fun i hi => by
      obtain ⟨cs', hc', hd⟩ := hx i (by omega)
      rw [hc] at hc'
      obtain ⟨y, hy, e⟩ := hopen hd
      obtain ⟨_, _, hcell⟩ := World.cells?_some hc'
      refine ⟨y, hy, fun k u hu => ?_⟩
      have hk : k < s := by have := (List.getElem?_eq_some_iff.1 hu).1; rw [hf] at this; exact this
      have h5 := hcell k hk
      rw [h5]
      rw [← e] at hu
      simpa using hu)
    refine ⟨some a, len, cap, l, rfl, hl, hm, ⟨h3, fun hn => ⟨a, rfl, ?_, fun f => f, h4⟩⟩, h2⟩
    have hlen : 0 < (l.flatMap f).length := by rw [h3]; exact Nat.mul_pos hn hs
    have := lt_of_cell (h4 0 _ (List.getElem?_eq_getElem hlen))
    rwa [block_of_add] at this
/-- AN ARGUMENT OF TYPE []int -/
theorem open_nums {W : World} {r : Reach} {b0 : Nat} {v : Value} {d : DataW H} {p : List MemPlace}
    (hval : Value.okWide Try.prog W r b0 43 v) (h0 : DataW.Trod enc Try.prog W 0 (fun _ => true) true 43 v d p) :
    ∃ (A : Option Addr) (n cap : Nat) (l : List Int), v = .slice A n cap ∧ n ≤ cap ∧ cap ≤ 9223372036854775807 ∧ Rd W no 1 A n (zints l) := by
  obtain ⟨a0, len, cap, rfl⟩ := okWide_slice Try.underlying43 hval
  obtain ⟨fuel, hf⟩ := h0
  rcases open_ints Try.underlying43 Try.underlying3 cells_i hf with ⟨hcs, _⟩ | ⟨a, len', cap', zs, hcs, _, hl, hm, hz, _, hcell, hwf⟩
  · simp [Value.cells] at hcs
    obtain ⟨rfl, rfl, rfl⟩ := hcs
    exact ⟨none, 0, 0, [], rfl, Nat.le_refl _, by omega, Rd.nil_ _ _ _ _⟩
  · simp [Value.cells] at hcs
    obtain ⟨rfl, rfl, rfl⟩ := hcs
    simp only [if_true] at hz
    refine ⟨some a, len, cap, zs.take len, rfl, hl, hm, by rw [zints_len, List.length_take]; omega, fun hn => ?_⟩
    have hlt : a.block < W.heap.size := by
      have := lt_of_cell (hcell 0 (by omega))
      rwa [block_of_add] at this
    refine ⟨a, rfl, hlt, fun f => f, fun j u hu => ?_⟩
    obtain ⟨c, hc, rfl⟩ := zints_at hu
    rw [List.getElem?_take] at hc
    by_cases hj : j < len
    · rw [if_pos hj] at hc
      rw [hcell j (by omega)]
      simp [List.getD, hc]
    · rw [if_neg hj] at hc; cases hc
end
end Go.Proofs.Ytblmfjndemfkjaa
