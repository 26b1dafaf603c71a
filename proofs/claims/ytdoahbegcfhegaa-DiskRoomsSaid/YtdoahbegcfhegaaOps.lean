/-
  WHAT IS PROVED: arguments of type []Op and []string, read outside of a disk. No condition.
-/
import Derived.Test.YtdoahbegcfhegaaSwaps
import Derived.Deep.Strs
import Derived.OpenShut
import Derived.OpenVars
namespace Go.Proofs.Ytdoahbegcfhegaa
open Go.RowKit Go.Lib Go.ChangeShapes Go.WideShapes Go.ChangeAt Go.WideElems

/-- a step -/
structure Oq where
  kind : Int
  name : List UInt8
  tgt : List UInt8
  data : List UInt8
  n : Int
  keep : List Int
def Oq.fits (o : Oq) : Prop := -9223372036854775808 ≤ o.n ∧ o.n ≤ 9223372036854775807
/-- the cells of a step -/
def Vop (w : World) (F : Nat → Prop) (o : Oq) (cs : List Value) : Prop :=
  ∃ A n c A2 n2 c2, cs = [.int .i64 o.kind, .string (str o.name), .string (str o.tgt), .slice A n c, .int .i64 o.n, .slice A2 n2 c2] ∧ (o.data.length = n ∧ n ≤ c ∧ c ≤ 9223372036854775807 ∧ Rd w F 1 A n (bs o.data)) ∧ (o.keep.length = n2 ∧ n2 ≤ c2 ∧ c2 ≤ 9223372036854775807 ∧ Rd w F 1 A2 n2 (zs o.keep))
theorem Vop.turn {w w' : World} {F F' : Nat → Prop} {o : Oq} {cs : List Value} (h : Vop w F o cs) (hb : Turn w w' F) (hs : Sub w F F') : Vop w' F' o cs := by
  obtain ⟨A, n, c, A2, n2, c2, e, ⟨a1, a2, a3, a4⟩, b1, b2, b3, b4⟩ := h
  exact ⟨A, n, c, A2, n2, c2, e, ⟨a1, a2, a3, a4.turn hb hs⟩, b1, b2, b3, b4.turn hb hs⟩
/-- a slice of steps -/
def OpsAt (w : World) (F : Nat → Prop) (A : Option Addr) (n : Nat) (l : List Oq) : Prop :=
  l.length = n ∧ (0 < n → ∃ ad, A = some ad ∧ ad.block < w.heap.size ∧ ¬ F ad.block ∧ ∀ i o, l[i]? = some o → ∃ cs, Vop w F o cs ∧ ∀ j u, cs[j]? = some u → w.cell? (ad.add (i * 6 + j)) = some u)
theorem OpsAt.turn {w w' : World} {F F' : Nat → Prop} {A : Option Addr} {n : Nat} {l : List Oq} (h : OpsAt w F A n l) (hb : Turn w w' F) (hs : Sub w F F') : OpsAt w' F' A n l :=
  ⟨h.1, fun hn => by
    obtain ⟨ad, e, hlt, hf, hc⟩ := h.2 hn
    refine ⟨ad, e, Nat.lt_of_lt_of_le hlt hb.size, fun f => hf (hs _ hlt f), fun i o hi => ?_⟩
    obtain ⟨cs, hv, hcell⟩ := hc i o hi
    exact ⟨cs, hv.turn hb hs, fun j u hu => (hb.cell (by rw [block_of_add]; exact hlt) (by rw [block_of_add]; exact hf)).trans (hcell j u hu)⟩⟩
theorem add_succ (x : Addr) (j : Nat) : x.add (j + 1) = ⟨x.block, x.off + (j + 1), none⟩ := by unfold Addr.add; rw [if_neg (by omega)]
theorem OpsAt.at_ {w : World} {F : Nat → Prop} {A : Option Addr} {n k : Nat} {l : List Oq} (h : OpsAt w F A n l) (hk : k < n) :
    ∃ ad o A1 n1 c1 A2 n2 c2, A = some ad ∧ l[k]? = some o ∧ (o.data.length = n1 ∧ n1 ≤ c1 ∧ c1 ≤ 9223372036854775807 ∧ Rd w F 1 A1 n1 (bs o.data)) ∧ (o.keep.length = n2 ∧ n2 ≤ c2 ∧ c2 ≤ 9223372036854775807 ∧ Rd w F 1 A2 n2 (zs o.keep)) ∧
      w.cell? (ad.add (k * 6)) = some (.int .i64 o.kind) ∧ w.cell? ⟨(ad.add (k * 6)).block, (ad.add (k * 6)).off + 1, none⟩ = some (.string (str o.name)) ∧ w.cell? ⟨(ad.add (k * 6)).block, (ad.add (k * 6)).off + 2, none⟩ = some (.string (str o.tgt)) ∧
      w.cell? ⟨(ad.add (k * 6)).block, (ad.add (k * 6)).off + 3, none⟩ = some (.slice A1 n1 c1) ∧ w.cell? ⟨(ad.add (k * 6)).block, (ad.add (k * 6)).off + 4, none⟩ = some (.int .i64 o.n) ∧ w.cell? ⟨(ad.add (k * 6)).block, (ad.add (k * 6)).off + 5, none⟩ = some (.slice A2 n2 c2) := by
  obtain ⟨ad, e, hlt, hf, hc⟩ := h.2 (by omega)
  have hl : k < l.length := by have := h.1; omega
  obtain ⟨cs, ⟨A1, n1, c1, A2, n2, c2, rfl, h1, h2⟩, hcell⟩ := hc k _ (List.getElem?_eq_getElem hl)
  have k0 := hcell 0 _ rfl
  have k1 := hcell 1 _ rfl
  have k2 := hcell 2 _ rfl
  have k3 := hcell 3 _ rfl
  have k4 := hcell 4 _ rfl
  have k5 := hcell 5 _ rfl
  rw [← add_of_add, add_succ] at k1 k2 k3 k4 k5
  exact ⟨ad, l[k], A1, n1, c1, A2, n2, c2, e, List.getElem?_eq_getElem hl, h1, h2, k0, k1, k2, k3, k4, k5⟩

theorem cells_op : Try.prog.cellsOf 38 = 6 := by kernel_rfl
theorem cells_str : Try.prog.cellsOf 9 = 1 := by kernel_rfl
theorem cells_bytes : Try.prog.cellsOf 22 = 1 := by kernel_rfl
theorem cells_ints : Try.prog.cellsOf 23 = 1 := by kernel_rfl
section
variable {H : Type} {enc : TypeId × Value → H}
theorem bytes_in {W : World} {fuel : Nat} {c : Value} {x : DataW H × List MemPlace} (h : DataW.trod enc Try.prog W 0 (fun _ => true) true fuel 22 [c] = some x) :
    ∃ (A : Option Addr) (n cap : Nat) (l : List UInt8), c = .slice A n cap ∧ l.length = n ∧ n ≤ cap ∧ cap ≤ 9223372036854775807 ∧ Rd W no 1 A n (bs l) := by
  rcases open_ints Try.underlying22 Try.underlying5 cells_u8 h with ⟨hcs, _⟩ | ⟨a, len, cap, zs, hcs, _, hl, hm, hz, _, hcell, hwz⟩
  · simp at hcs
    subst hcs
    exact ⟨none, 0, 0, [], rfl, rfl, Nat.le_refl _, by omega, Rd.nil_ _ _ _ _⟩
  · simp at hcs
    subst hcs
    simp only [if_true] at hz
    obtain ⟨l, h1, h2⟩ := reads_of_ints hl hz hwz (fun i hi => hcell i (by omega))
    exact ⟨some a, len, cap, l, rfl, h1, hl, hm, Rd.of_reads (h2 _ (Nat.le_refl _))⟩
theorem ints_in {W : World} {fuel : Nat} {c : Value} {x : DataW H × List MemPlace} (h : DataW.trod enc Try.prog W 0 (fun _ => true) true fuel 23 [c] = some x) :
    ∃ (A : Option Addr) (n cap : Nat) (l : List Int), c = .slice A n cap ∧ l.length = n ∧ n ≤ cap ∧ cap ≤ 9223372036854775807 ∧ Rd W no 1 A n (zs l) := by
  rcases open_ints Try.underlying23 Try.underlying3 cells_int h with ⟨hcs, _⟩ | ⟨a, len, cap, xs, hcs, _, hl, hm, hz, _, hcell, _⟩
  · simp at hcs
    subst hcs
    exact ⟨none, 0, 0, [], rfl, rfl, Nat.le_refl _, by omega, Rd.nil_ _ _ _ _⟩
  · simp at hcs
    subst hcs
    simp only [if_true] at hz
    refine ⟨some a, len, cap, xs.take len, rfl, by simp; omega, hl, hm, by rw [zs_len]; simp; omega, fun hn => ?_⟩
    have hlt : a.block < W.heap.size := by
      have := lt_of_cell (hcell 0 (by omega))
      rwa [block_of_add] at this
    refine ⟨a, rfl, hlt, fun f => f, fun j u hu => ?_⟩
    unfold zs at hu
    rw [List.getElem?_map, List.getElem?_take] at hu
    by_cases hj : j < len
    · rw [if_pos hj] at hu
      rw [hcell j (by omega)]
      have hjl : j < xs.length := by omega
      rw [List.getElem?_eq_getElem hjl] at hu
      simp [List.getD, List.getElem?_eq_getElem hjl] at hu ⊢
      exact hu
    · rw [if_neg hj] at hu; cases hu
theorem trod_struct6 {P : Program} {w : World} {base : Nat} {spare : Nat → Bool} {held : Bool} {t : TypeId} {f0 f1 f2 f3 f4 f5 : Field} {fuel : Nat} {cs : List Value} {x : DataW H × List MemPlace} (ht : P.underlying t = some (.struct #[f0, f1, f2, f3, f4, f5])) (h : DataW.trod enc P w base spare held fuel t cs = some x) :
    ∃ y0 y1 y2 y3 y4 y5 n, cs.length = P.cellsOf t ∧ DataW.trod enc P w base spare held n f0.type ((cs.drop f0.offset).take (P.cellsOf f0.type)) = some y0 ∧ DataW.trod enc P w base spare held n f1.type ((cs.drop f1.offset).take (P.cellsOf f1.type)) = some y1 ∧ DataW.trod enc P w base spare held n f2.type ((cs.drop f2.offset).take (P.cellsOf f2.type)) = some y2 ∧ DataW.trod enc P w base spare held n f3.type ((cs.drop f3.offset).take (P.cellsOf f3.type)) = some y3 ∧ DataW.trod enc P w base spare held n f4.type ((cs.drop f4.offset).take (P.cellsOf f4.type)) = some y4 ∧ DataW.trod enc P w base spare held n f5.type ((cs.drop f5.offset).take (P.cellsOf f5.type)) = some y5 := by
  obtain ⟨xs, n, _, _, hl, hlen, hf⟩ := DataW.trod_struct ht h
  match xs, hlen with
  | [y0, y1, y2, y3, y4, y5], _ => exact ⟨y0, y1, y2, y3, y4, y5, n, hl, by simpa using hf 0 f0 rfl, by simpa using hf 1 f1 rfl, by simpa using hf 2 f2 rfl, by simpa using hf 3 f3 rfl, by simpa using hf 4 f4 rfl, by simpa using hf 5 f5 rfl⟩
theorem open_op {W : World} {fuel : Nat} {cs : List Value} {x : DataW H × List MemPlace} (h : DataW.trod enc Try.prog W 0 (fun _ => true) true fuel 38 cs = some x) :
    ∃ o : Oq, o.fits ∧ Vop W no o cs := by
  obtain ⟨y0, y1, y2, y3, y4, y5, m, hl, h0, h1, h2, h3, h4, h5⟩ := trod_struct6 Try.underlying38 h
  rw [cells_op] at hl
  match cs, hl with
  | [a0, a1, a2, a3, a4, a5], _ =>
    simp only [cells_int, cells_str, cells_bytes, cells_ints] at h0 h1 h2 h3 h4 h5
    obtain ⟨z0, e0, _, _⟩ := DataW.trod_int Try.underlying3 h0
    obtain ⟨s1, e1, _, _⟩ := DataW.trod_string Try.underlying9 h1
    obtain ⟨s2, e2, _, _⟩ := DataW.trod_string Try.underlying9 h2
    obtain ⟨A, n, c, l, e3, r1, r2, r3, r4⟩ := bytes_in (c := a3) (by simpa using h3)
    obtain ⟨z4, e4, _, w4⟩ := DataW.trod_int Try.underlying3 h4
    obtain ⟨A2, n2, c2, l2, e5, q1, q2, q3, q4⟩ := ints_in (c := a5) (by simpa using h5)
    simp at e0 e1 e2 e4
    subst e0; subst e1; subst e2; subst e3; subst e4; subst e5
    exact ⟨⟨z0, s1.data.toList, s2.data.toList, l, z4, l2⟩, wf_i64 w4, A, n, c, A2, n2, c2, by rw [← str_data, ← str_data], ⟨r1, r2, r3, r4⟩, q1, q2, q3, q4⟩
/-- AN ARGUMENT OF TYPE []Op -/
theorem open_ops {W : World} {r : Reach} {b0 : Nat} {v : Value} {d : DataW H} {p : List MemPlace}
    (hval : Value.okWide Try.prog W r b0 36 v) (h0 : DataW.Trod enc Try.prog W 0 (fun _ => true) true 36 v d p) :
    ∃ (A : Option Addr) (n cap : Nat) (l : List Oq), v = .slice A n cap ∧ l.length = n ∧ n ≤ cap ∧ cap ≤ 9223372036854775807 ∧ OpsAt W no A n l ∧ ∀ s ∈ l, s.fits := by
  obtain ⟨a0, len, cap, rfl⟩ := okWide_slice Try.underlying36 hval
  obtain ⟨fuel, hf⟩ := h0
  rcases Go.Deep.open_slice Try.underlying36 hf with ⟨hcs, _⟩ | ⟨a, len', cap', m, q, D, Pl, hcs, _, hl, hm, hmm, _, hx⟩
  · simp [Value.cells] at hcs
    obtain ⟨rfl, rfl, rfl⟩ := hcs
    exact ⟨none, 0, 0, [], rfl, rfl, Nat.le_refl _, by omega, ⟨rfl, fun h => absurd h (by omega)⟩, fun z hz => by cases hz⟩
  · simp [Value.cells] at hcs
    obtain ⟨rfl, rfl, rfl⟩ := hcs
    simp only [if_true] at hmm
    have each : ∀ i, i < len → ∃ s : Oq, s.fits ∧ ∃ cs, Vop W no s cs ∧ ∀ j u, cs[j]? = some u → W.cell? (a.add (i * 6 + j)) = some u := fun i hi => by
      obtain ⟨cs', hc, hd⟩ := hx i (by omega)
      rw [cells_op] at hc
      obtain ⟨s, hs, hv⟩ := open_op hd
      obtain ⟨_, _, hcell⟩ := World.cells?_some hc
      refine ⟨s, hs, cs', hv, fun j u hu => ?_⟩
      have hj : j < cs'.length := (List.getElem?_eq_some_iff.1 hu).1
      have := hcell j (by obtain ⟨_, _, _, _, _, _, e, _⟩ := hv; rw [e] at hj; simpa using hj)
      rw [add_of_add] at this
      rw [this, ← hu]
      try (rw [List.getElem?_eq_getElem hj]; simp [List.getD])
    have : Inhabited Oq := ⟨⟨0, [], [], [], 0, []⟩⟩
    obtain ⟨g, hg⟩ := Go.Deep.choose_lt each
    refine ⟨some a, len, cap, (List.range len).map g, rfl, by simp, hl, hm, ⟨by simp, fun hn => ⟨a, rfl, ?_, fun f => f, fun i s hs => ?_⟩⟩, fun s hs => ?_⟩
    · obtain ⟨_, cs, ⟨A, n, c, A2, n2, c2, e, _⟩, hc⟩ := hg 0 hn
      have := lt_of_cell (hc 0 _ (by rw [e]; rfl))
      rwa [block_of_add] at this
    · rw [List.getElem?_map] at hs
      cases hi : (List.range len)[i]? with
      | none => rw [hi] at hs; cases hs
      | some j =>
        rw [hi] at hs
        simp at hs
        have hil : i < len := by
          have := (List.getElem?_eq_some_iff.1 hi).1
          simpa using this
        have hj : j = i := by
          have := (List.getElem?_eq_some_iff.1 hi).2
          simp at this
          exact this.symm
        subst hj; subst hs
        exact (hg j hil).2
    · obtain ⟨j, hj, rfl⟩ := List.mem_map.1 hs
      exact (hg j (by simpa using hj)).1
/-- AN ARGUMENT OF TYPE []string -/
theorem open_texts {W : World} {r : Reach} {b0 : Nat} {v : Value} {d : DataW H} {p : List MemPlace}
    (hval : Value.okWide Try.prog W r b0 41 v) (h0 : DataW.Trod enc Try.prog W 0 (fun _ => true) true 41 v d p) :
    ∃ (A : Option Addr) (n cap : Nat) (l : List (List UInt8)), v = .slice A n cap ∧ l.length = n ∧ n ≤ cap ∧ cap ≤ 9223372036854775807 ∧ Rd W no 1 A n (l.map fun x => .string (str x)) := by
  obtain ⟨a0, len, cap, rfl⟩ := okWide_slice Try.underlying41 hval
  obtain ⟨fuel, hf⟩ := h0
  rcases Go.Deep.open_strs Try.underlying41 Try.underlying9 cells_str hf with ⟨hcs, _⟩ | ⟨a, len', cap', m, Sx, hcs, _, hl, hm, hmm, _, hx⟩
  · simp [Value.cells] at hcs
    obtain ⟨rfl, rfl, rfl⟩ := hcs
    exact ⟨none, 0, 0, [], rfl, rfl, Nat.le_refl _, by omega, Rd.nil_ _ _ _ _⟩
  · simp [Value.cells] at hcs
    obtain ⟨rfl, rfl, rfl⟩ := hcs
    simp only [if_true] at hmm
    refine ⟨some a, len, cap, (List.range len).map fun i => (Sx i).data.toList, rfl, by simp, hl, hm, by simp, fun hn => ⟨a, rfl, ?_, fun f => f, fun j u hu => ?_⟩⟩
    · have := lt_of_cell (hx 0 (by omega)).1
      rwa [block_of_add] at this
    · rw [List.map_map, List.getElem?_map] at hu
      have hj : j < len := by
        cases hr : (List.range len)[j]? with
        | none => rw [hr] at hu; cases hu
        | some k => have := (List.getElem?_eq_some_iff.1 hr).1; simpa using this
      rw [List.getElem?_range hj] at hu
      simp at hu
      rw [(hx j (by omega)).1, ← hu, ← str_data]
end
end Go.Proofs.Ytdoahbegcfhegaa
