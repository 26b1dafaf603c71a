/-
  WHAT IS PROVED: how arguments of type []byte read. Condition: none.
-/
import Derived.Test.YtijkdibccgdomaaGreatDoorKLaw
namespace Go.Proofs.YtijkdibccgdomaaGreatDoor.Dsk
open Go.RowKit Go.Lib Go.ChangeShapes Go.WideShapes Go.ChangeAt Go.WideElems

theorem cells_u8 : Tryz.prog.cellsOf 5 = 1 := by kernel_rfl
section
variable {H : Type} {enc : TypeId × Value → H} {P : Program}
theorem byte_wf {n : Int} (h : (Lit.int .u8 n).wf = true) : ∃ c : UInt8, n = (c.toNat : Int) := by
  have h1 : IntKind.u8.min = 0 := rfl
  have h2 : IntKind.u8.max = 255 := rfl
  simp only [Lit.wf, Bool.and_eq_true, decide_eq_true_eq] at h
  exact ⟨UInt8.ofNat n.toNat, by simp; omega⟩
theorem bytes_wf : ∀ {zs : List Int}, (∀ n ∈ zs, (Lit.int .u8 n).wf = true) → ∃ l : List UInt8, zs = l.map fun c => (c.toNat : Int)
  | [], _ => ⟨[], rfl⟩
  | z :: zs, h => by
    obtain ⟨c, hc⟩ := byte_wf (h z (by simp))
    obtain ⟨l, hl⟩ := bytes_wf (zs := zs) (fun n hn => h n (by simp [hn]))
    exact ⟨c :: l, by rw [hc, hl]; rfl⟩
theorem reads_of_ints {W : World} {a : Addr} {len cap : Nat} {zs : List Int} (hl : len ≤ cap) (hz : zs.length = cap) (hwz : ∀ n ∈ zs, (Lit.int .u8 n).wf = true)
    (hcell : ∀ i, i < cap → W.cell? (a.add i) = some (.int .u8 (zs.getD i 0))) : ∃ l : List UInt8, l.length = len ∧ ∀ g, W.heap.size ≤ g → Reads W g (some a) len (bs l) := by
  obtain ⟨l0, hl0⟩ := bytes_wf hwz
  have hl0n : l0.length = cap := by rw [← hz, hl0]; simp
  refine ⟨l0.take len, by simp; omega, fun g hg => ⟨by simp [bs]; omega, fun hn => ?_⟩⟩
  have hlt : a.block < W.heap.size := by
    have := C.lt_of_cell (hcell 0 (by omega))
    rwa [block_of_add] at this
  refine ⟨a, rfl, hlt, by omega, fun j u hu => ?_⟩
  obtain ⟨c, hc, rfl⟩ := bs_at hu
  rw [List.getElem?_take] at hc
  by_cases hj : j < len
  · rw [if_pos hj] at hc
    rw [hcell j (by omega), hl0]
    simp [List.getD, hc]
  · rw [if_neg hj] at hc; cases hc

/-- AN ARGUMENT OF TYPE []byte -/
theorem open_bytes {t e : TypeId} (ht : P.underlying t = some (.slice e)) (he : P.underlying e = some (.int .u8)) (hc : P.cellsOf e = 1) {W : World} {r : Reach} {b0 : Nat} {v : Value} {d : DataW H} {p : List MemPlace}
    (hval : Value.okWide P W r b0 t v) (h0 : DataW.Trod enc P W 0 (fun _ => true) true t v d p) :
    ∃ (A : Option Addr) (n cap : Nat) (l : List UInt8), v = .slice A n cap ∧ l.length = n ∧ n ≤ cap ∧ cap ≤ 9223372036854775807 ∧ ∀ g, W.heap.size ≤ g → Reads W g A n (bs l) := by
  obtain ⟨a0, len, cap, rfl⟩ := okWide_slice ht hval
  obtain ⟨fuel, hf⟩ := h0
  rcases open_ints ht he hc hf with ⟨hcs, _⟩ | ⟨a, len', cap', zs, hcs, _, hl, hm, hz, _, hcell, hwz⟩
  · simp [Value.cells] at hcs
    obtain ⟨rfl, rfl, rfl⟩ := hcs
    exact ⟨none, 0, 0, [], rfl, rfl, Nat.le_refl _, by omega, fun g _ => Reads.none_⟩
  · simp [Value.cells] at hcs
    obtain ⟨rfl, rfl, rfl⟩ := hcs
    simp only [if_true] at hz
    obtain ⟨l, h1, h2⟩ := reads_of_ints hl hz hwz (fun i hi => hcell i (by omega))
    exact ⟨some a, len, cap, l, rfl, h1, hl, hm, h2⟩

end
end Go.Proofs.YtijkdibccgdomaaGreatDoor.Dsk
