/-
  WHAT IS PROVED: how arguments of the types []byte and [][]byte read: as lists of bytes in blocks that were there. Condition: none.
-/
import Derived.Test.YtaaibjibnonlaaaLaw
import Derived.Deep.Matrix
namespace Go.Proofs.Ytaaibjibnonlaaa
open Go.RowKit Go.ChangeShapes Go.WideShapes Go.ChangeAt Go.WideElems

section
variable {H : Type} {enc : TypeId × Value → H} {P : Program}
theorem byte_wf {n : Int} (h : (Lit.int .u8 n).wf = true) : ∃ c : UInt8, n = (c.toNat : Int) := by
  have h1 : IntKind.u8.min = 0 := rfl
  have h2 : IntKind.u8.max = 255 := rfl
  simp only [Lit.wf, Bool.and_eq_true, decide_eq_true_eq] at h
  exact ⟨UInt8.ofNat n.toNat, by simp; omega⟩
theorem bytes_wf : ∀ {zs : List Int}, (∀ n ∈ zs, (Lit.int .u8 n).wf = true) → ∃ l : List UInt8, zs = l.map fun c => (c.toNat : Int)
  | [], _ => ⟨[], rfl⟩
  | z :: zs, h => by
    obtain ⟨c, hc⟩ := byte_wf (h z (by simp))
    obtain ⟨l, hl⟩ := bytes_wf (zs := zs) (fun n hn => h n (by simp [hn]))
    exact ⟨c :: l, by rw [hc, hl]; rfl⟩
theorem lt_of_cell {w : World} {a : Addr} {v : Value} (h : w.cell? a = some v) : a.block < w.heap.size := by
  unfold World.cell? at h
  rcases Nat.lt_or_ge a.block w.heap.size with h' | h'
  · exact h'
  · rw [Array.getElem?_eq_none h'] at h
    cases h

theorem reads_of_ints {W : World} {a : Addr} {len cap : Nat} {zs : List Int} (hl : len ≤ cap) (hz : zs.length = cap) (hwz : ∀ n ∈ zs, (Lit.int .u8 n).wf = true)
    (hcell : ∀ i, i < cap → W.cell? (a.add i) = some (.int .u8 (zs.getD i 0))) : ∃ l : List UInt8, l.length = len ∧ ∀ g, W.heap.size ≤ g → Reads W g (some a) len (bs l) := by
  obtain ⟨l0, hl0⟩ := bytes_wf hwz
  have hl0n : l0.length = cap := by rw [← hz, hl0]; simp
  refine ⟨l0.take len, by simp; omega, fun g hg => ⟨by simp [bs]; omega, fun hn => ?_⟩⟩
  have hlt : a.block < W.heap.size := by
    have := lt_of_cell (hcell 0 (by omega))
    rwa [block_of_add] at this
  refine ⟨a, rfl, hlt, by omega, fun j u hu => ?_⟩
  obtain ⟨c, hc, rfl⟩ := bs_at hu
  rw [List.getElem?_take] at hc
  by_cases hj : j < len
  · rw [if_pos hj] at hc
    rw [hcell j (by omega), hl0]
    simp [List.getD, hc]
  · rw [if_neg hj] at hc; cases hc

/-- AN ARGUMENT OF TYPE []byte -/
theorem open_bytes {t e : TypeId} (ht : P.underlying t = some (.slice e)) (he : P.underlying e = some (.int .u8)) (hc : P.cellsOf e = 1) {W : World} {r : Reach} {b0 : Nat} {v : Value} {d : DataW H} {p : List MemPlace}
    (hval : Value.okWide P W r b0 t v) (h0 : DataW.Trod enc P W 0 (fun _ => true) true t v d p) :
    ∃ (A : Option Addr) (n cap : Nat) (l : List UInt8), v = .slice A n cap ∧ l.length = n ∧ n ≤ cap ∧ cap ≤ 9223372036854775807 ∧ ∀ g, W.heap.size ≤ g → Reads W g A n (bs l) := by
  obtain ⟨a0, len, cap, rfl⟩ := okWide_slice ht hval
  obtain ⟨fuel, hf⟩ := h0
  rcases open_ints ht he hc hf with ⟨hcs, _⟩ | ⟨a, len', cap', zs, hcs, _, hl, hm, hz, _, hcell, hwz⟩
  · simp [Value.cells] at hcs
    obtain ⟨rfl, rfl, rfl⟩ := hcs
    exact ⟨none, 0, 0, [], rfl, rfl, Nat.le_refl _, by omega, fun g _ => Reads.none_⟩
  · simp [Value.cells] at hcs
    obtain ⟨rfl, rfl, rfl⟩ := hcs
    simp only [if_true] at hz
    obtain ⟨l, h1, h2⟩ := reads_of_ints hl hz hwz (fun i hi => hcell i (by omega))
    exact ⟨some a, len, cap, l, rfl, h1, hl, hm, h2⟩

/-- the rows of a slice of byte slices: each reads as a list of bytes -/
def Rows2 (w : World) (g : Nat) (A : Option Addr) (n : Nat) (ls : List (List UInt8)) : Prop :=
  ls.length = n ∧ ∀ k, k < n → ∃ ad A' n' c' l, A = some ad ∧ ls[k]? = some l ∧ ad.block < w.heap.size ∧ ad.block ≠ g ∧ w.cell? (ad.add k) = some (.slice A' n' c') ∧ l.length = n' ∧ n' ≤ c' ∧ c' ≤ 9223372036854775807 ∧ Reads w g A' n' (bs l)

theorem Rows2.only {w w' : World} {g n : Nat} {A : Option Addr} {ls : List (List UInt8)} (h : Rows2 w g A n ls) (hb : w.grownBy w' (some g)) : Rows2 w' g A n ls := by
  refine ⟨h.1, fun k hk => ?_⟩
  obtain ⟨ad, A', n', c', l, e, hl, hlt, hne, hc, h1, h2, h3, h4⟩ := h.2 k hk
  exact ⟨ad, A', n', c', l, e, hl, Nat.lt_of_lt_of_le hlt hb.size, hne, (World.cell?_of_block (hb.block (ad.add k).block (by rw [block_of_add]; exact hlt) (fun e => hne (by rw [block_of_add] at e; injection e)))).trans hc, h1, h2, h3, h4.only hb⟩

/-- AN ARGUMENT OF TYPE [][]byte -/
theorem open_byte_rows {t e q : TypeId} (ht : P.underlying t = some (.slice e)) (he : P.underlying e = some (.slice q)) (hq : P.underlying q = some (.int .u8)) (ce : P.cellsOf e = 1) (cq : P.cellsOf q = 1) {W : World} {r : Reach} {b0 : Nat} {v : Value} {d : DataW H} {p : List MemPlace}
    (hval : Value.okWide P W r b0 t v) (h0 : DataW.Trod enc P W 0 (fun _ => true) true t v d p) :
    ∃ (A : Option Addr) (n cap : Nat) (ls : List (List UInt8)), v = .slice A n cap ∧ n ≤ cap ∧ cap ≤ 9223372036854775807 ∧ ∀ g, W.heap.size ≤ g → Rows2 W g A n ls := by
  obtain ⟨a0, len, cap, rfl⟩ := okWide_slice ht hval
  obtain ⟨fuel, hf⟩ := h0
  rcases Go.Deep.open_int_rows ht he hq ce cq hf with ⟨hcs, _⟩ | ⟨a, len', cap', A, L, C, Z, hcs, _, hl, hm, _, hrows⟩
  · simp [Value.cells] at hcs
    obtain ⟨rfl, rfl, rfl⟩ := hcs
    exact ⟨none, 0, 0, [], rfl, Nat.le_refl _, by omega, fun g _ => ⟨rfl, fun k hk => absurd hk (by omega)⟩⟩
  · simp [Value.cells] at hcs
    obtain ⟨rfl, rfl, rfl⟩ := hcs
    have each : ∀ k, ∃ l : List UInt8, k < len → l.length = L k ∧ ∀ g, W.heap.size ≤ g → Reads W g (A k) (L k) (bs l) := by
      intro k
      by_cases hk : k < len
      · obtain ⟨_, hLC, _, hz, hwz, hnone, hsome⟩ := hrows k (by omega)
        cases hA : A k with
        | none =>
          have := hnone hA
          exact ⟨[], fun _ => ⟨by simp; omega, fun g _ => by rw [show L k = 0 by omega]; exact Reads.none_⟩⟩
        | some a' =>
          obtain ⟨l, h1, h2⟩ := reads_of_ints hLC hz hwz (hsome a' hA).2
          exact ⟨l, fun _ => ⟨h1, h2⟩⟩
      · exact ⟨[], fun h => absurd h hk⟩
    refine ⟨some a, len, cap, (List.range len).map fun k => (each k).choose, rfl, hl, hm, fun g hg => ⟨by simp, fun k hk => ?_⟩⟩
    obtain ⟨hc, hLC, hC, _⟩ := hrows k (by omega)
    have hs := (each k).choose_spec hk
    have hlt : a.block < W.heap.size := by
      have := lt_of_cell hc
      rwa [block_of_add] at this
    exact ⟨a, A k, L k, C k, (each k).choose, rfl, by simp [hk], hlt, by omega, hc, hs.1, hLC, hC, hs.2 g hg⟩
end

theorem cells_u8 : Try.prog.cellsOf 5 = 1 := by kernel_rfl
theorem cells_bytes : Try.prog.cellsOf 22 = 1 := by kernel_rfl
end Go.Proofs.Ytaaibjibnonlaaa
