/-
  WHAT IS PROVED: arguments of the types Table, Claim and []Claim; a variable of type Claim. No condition.
-/
import Derived.Test.YtkkjciomgcgdiaaTab
namespace Go.Proofs.Ytkkjciomgcgdiaa
open Go.RowKit Go.ChangeShapes Go.WideShapes Go.ChangeAt Go.WideElems

/-- a claim -/
structure Cl where
  id : Int
  ep : Int
  s : Nat
def Cl.fits (c : Cl) : Prop := c.s < 18446744073709551616
abbrev vCl (c : Cl) : Value := .agg #[.int .i64 c.id, .int .i64 c.ep, .int .u64 (c.s : Int)]

/-- a variable of type Claim -/
def Bx (w : World) (b : Nat) (c : Cl) : Prop := Blk w b 28 #[.int .i64 c.id, .int .i64 c.ep, .int .u64 (c.s : Int)]
section
variable {w w' : World} {b : Nat} {r : Cl}
theorem Bx.new (w : World) (r : Cl) : Bx (w.alloc (.cells #[.int .i64 r.id, .int .i64 r.ep, .int .u64 (r.s : Int)] 28)) w.heap.size r := Blk.new _ _ _
theorem Bx.lt (h : Bx w b r) : b < w.heap.size := Blk.lt h
theorem Bx.later (h : Bx w b r) (hb : Below w.heap.size w w') : Bx w' b r := Blk.below h hb h.lt
theorem Bx.alloc (h : Bx w b r) (o : Obj) : Bx (w.alloc o) b r := Blk.alloc h o
theorem Bx.far (h : Bx w b r) {p : Addr} (hp : b ≠ p.block) (u : Value) : Bx (w.setCell p u) b r := Blk.far h hp u
theorem Bx.row_far (h : Bx w b r) {g : Nat} (hg : b ≠ g) (cs : Array Value) : Bx (w.setRow g cs) b r := (setRow_other w g b cs hg).trans h
theorem Bx.box (h : Bx w b r) : w.cell? ⟨b, 0, none⟩ = some (.int .i64 r.id) ∧ w.cell? ⟨b, 1, none⟩ = some (.int .i64 r.ep) ∧ w.cell? ⟨b, 2, none⟩ = some (.int .u64 (r.s : Int)) := ⟨Blk.cell h 0, Blk.cell h 1, Blk.cell h 2⟩
end

theorem add_succ (x : Addr) (j : Nat) : x.add (j + 1) = ⟨x.block, x.off + (j + 1), none⟩ := by unfold Addr.add; rw [if_neg (by omega)]
/-- the slice value '.slice A n c' holds the claims l, in a block that is there -/
def ClsAt (w : World) (A : Option Addr) (n : Nat) (l : List Cl) : Prop :=
  l.length = n ∧ (0 < n → ∃ ad, A = some ad ∧ ad.block < w.heap.size ∧ ∀ i s, l[i]? = some s → w.cell? (ad.add (i * 3)) = some (.int .i64 s.id) ∧ w.cell? (ad.add (i * 3 + 1)) = some (.int .i64 s.ep) ∧ w.cell? (ad.add (i * 3 + 2)) = some (.int .u64 (s.s : Int)))
theorem ClsAt.below {w w' : World} {A : Option Addr} {n : Nat} {l : List Cl} (h : ClsAt w A n l) (hb : Below w.heap.size w w') : ClsAt w' A n l :=
  ⟨h.1, fun hn => by
    obtain ⟨ad, e, hlt, hc⟩ := h.2 hn
    refine ⟨ad, e, Nat.lt_of_lt_of_le hlt hb.size, fun i s hs => ?_⟩
    obtain ⟨c0, c1, c2⟩ := hc i s hs
    exact ⟨(hb.cell (by rw [block_of_add]; exact hlt)).trans c0, (hb.cell (by rw [block_of_add]; exact hlt)).trans c1, (hb.cell (by rw [block_of_add]; exact hlt)).trans c2⟩⟩
theorem ClsAt.at_ {w : World} {A : Option Addr} {n k : Nat} {l : List Cl} (h : ClsAt w A n l) (hk : k < n) :
    ∃ ad s, A = some ad ∧ l[k]? = some s ∧ ad.block < w.heap.size ∧ w.cell? (ad.add (k * 3)) = some (.int .i64 s.id) ∧ w.cell? ⟨(ad.add (k * 3)).block, (ad.add (k * 3)).off + 1, none⟩ = some (.int .i64 s.ep) ∧ w.cell? ⟨(ad.add (k * 3)).block, (ad.add (k * 3)).off + 2, none⟩ = some (.int .u64 (s.s : Int)) := by
  obtain ⟨ad, e, hlt, hc⟩ := h.2 (by omega)
  have hl : k < l.length := by have := h.1; omega
  obtain ⟨c0, c1, c2⟩ := hc k _ (List.getElem?_eq_getElem hl)
  rw [← add_of_add, add_succ] at c1 c2
  exact ⟨ad, l[k], e, List.getElem?_eq_getElem hl, hlt, c0, c1, c2⟩

theorem cells_cl : Try.prog.cellsOf 28 = 3 := by kernel_rfl
theorem cells_tab : Try.prog.cellsOf 24 = 128 := by kernel_rfl
theorem cells_arr : Try.prog.cellsOf 22 = 64 := by kernel_rfl
theorem cells_set : Try.prog.cellsOf 26 = 1 := by kernel_rfl
theorem wf_u64 {z : Int} (h : (Lit.int .u64 z).wf = true) : 0 ≤ z ∧ z ≤ 18446744073709551615 := by
  have e1 : IntKind.u64.min = 0 := by decide
  have e2 : IntKind.u64.max = 18446744073709551615 := by decide
  simp [Lit.wf] at h
  rw [e1, e2] at h
  exact h

section
variable {H : Type} {enc : TypeId × Value → H}
/-- an array of ints -/
theorem open_arr {W : World} {sp : Nat → Bool} {hd : Bool} {fuel : Nat} {cs : List Value} {x : DataW H × List MemPlace} (h : DataW.trod enc Try.prog W 0 sp hd fuel 22 cs = some x) : ∃ f, cs = row f := by
  obtain ⟨xs, m, _, _, hl, hn, hx⟩ := DataW.trod_array Try.underlying22 h
  rw [cells_arr] at hl
  have each : ∀ i, i < 64 → ∃ z : Int, cs[i]? = some (.int .i64 z) := fun i hi => by
    have hi' := hx i hi
    rw [cells_int, Nat.mul_one, List.getElem?_eq_getElem (by omega)] at hi'
    have e : (cs.drop i).take 1 = [cs[i]'(by omega)] := by
      rw [List.drop_eq_getElem_cons (by omega)]; rfl
    rw [e] at hi'
    obtain ⟨z, e0, _, _⟩ := DataW.trod_int Try.underlying3 hi'
    injection e0 with e0
    exact ⟨z, by rw [List.getElem?_eq_getElem (by omega), e0]⟩
  obtain ⟨f, hf⟩ := Go.Deep.choose_lt each
  refine ⟨f, List.ext_getElem? fun i => ?_⟩
  by_cases hi : i < 64
  · rw [hf i hi, row_at f hi]
  · rw [List.getElem?_eq_none (by omega), List.getElem?_eq_none (by rw [row_len]; omega)]

/-- AN ARGUMENT OF TYPE Table -/
theorem open_tab {W : World} {r : Reach} {b0 : Nat} {v : Value} {d : DataW H} {p : List MemPlace}
    (hval : Value.okWide Try.prog W r b0 24 v) (h0 : DataW.Trod enc Try.prog W 0 (fun _ => true) true 24 v d p) :
    ∃ t : Tab, v = .agg (tb t) := by
  obtain ⟨cs, rfl, _⟩ := okWide_struct Try.underlying24 hval
  obtain ⟨fuel, hf⟩ := h0
  obtain ⟨y0, y1, m, _, hl, h0, h1⟩ := Go.ChangeShapes.trod_struct2 Try.underlying24 hf
  rw [cells_tab] at hl
  simp only [cells_arr] at h0 h1
  obtain ⟨f, ef⟩ := open_arr h0
  obtain ⟨g, eg⟩ := open_arr h1
  refine ⟨⟨f, g⟩, ?_⟩
  have e : (Value.agg cs).cells.toList = row f ++ row g := by
    rw [← ef, ← eg, List.drop_zero, List.take_of_length_le (l := ((Value.agg cs).cells.toList.drop 64)) (by rw [List.length_drop, hl]; omega), List.take_append_drop]
  simp only [Value.cells] at e
  show Value.agg cs = .agg (row f ++ row g).toArray
  rw [← e]

theorem open_cl_cells {W : World} {sp : Nat → Bool} {hd : Bool} {fuel : Nat} {cs : List Value} {x : DataW H × List MemPlace} (h : DataW.trod enc Try.prog W 0 sp hd fuel 28 cs = some x) :
    ∃ s : Cl, s.fits ∧ cs = [.int .i64 s.id, .int .i64 s.ep, .int .u64 (s.s : Int)] := by
  obtain ⟨y0, y1, y2, m, _, hl, h0, h1, h2⟩ := Go.Deep.trod_struct3 Try.underlying28 h
  rw [cells_cl] at hl
  match cs, hl with
  | [a, b, c], _ =>
    simp only [cells_int, cells_set] at h0 h1 h2
    obtain ⟨z0, e0, _, _⟩ := DataW.trod_int Try.underlying3 h0
    obtain ⟨z1, e1, _, _⟩ := DataW.trod_int Try.underlying3 h1
    obtain ⟨z2, e2, _, w2⟩ := DataW.trod_int Try.underlying26 h2
    simp at e0 e1 e2
    subst e0; subst e1; subst e2
    obtain ⟨n, rfl⟩ := Int.eq_ofNat_of_zero_le (wf_u64 w2).1
    have := (wf_u64 w2).2
    exact ⟨⟨z0, z1, n⟩, by show n < 18446744073709551616; omega, rfl⟩

/-- AN ARGUMENT OF TYPE Claim -/
theorem open_cl {W : World} {r : Reach} {b0 : Nat} {v : Value} {d : DataW H} {p : List MemPlace}
    (hval : Value.okWide Try.prog W r b0 28 v) (h0 : DataW.Trod enc Try.prog W 0 (fun _ => true) true 28 v d p) :
    ∃ s : Cl, v = vCl s ∧ s.fits := by
  obtain ⟨cs, rfl, _⟩ := okWide_struct Try.underlying28 hval
  obtain ⟨fuel, hf⟩ := h0
  obtain ⟨s, hs, e⟩ := open_cl_cells hf
  refine ⟨s, ?_, hs⟩
  have e' : cs.toList = [.int .i64 s.id, .int .i64 s.ep, .int .u64 (s.s : Int)] := by simpa [Value.cells] using e
  rw [show cs = cs.toList.toArray by simp, e']

/-- AN ARGUMENT OF TYPE Set -/
theorem open_set {W : World} {r : Reach} {b0 : Nat} {v : Value} {d : DataW H} {p : List MemPlace}
    (hval : Value.okWide Try.prog W r b0 26 v) (h0 : DataW.Trod enc Try.prog W 0 (fun _ => true) true 26 v d p) :
    ∃ n : Nat, v = .int .u64 (n : Int) ∧ n < 18446744073709551616 := by
  obtain ⟨z, rfl, rfl, rfl, wz⟩ := open_int Try.underlying26 hval h0
  obtain ⟨n, rfl⟩ := Int.eq_ofNat_of_zero_le (wf_u64 wz).1
  have := (wf_u64 wz).2
  exact ⟨n, rfl, by omega⟩

/-- AN ARGUMENT OF TYPE []Claim -/
theorem open_cls {W : World} {r : Reach} {b0 : Nat} {v : Value} {d : DataW H} {p : List MemPlace}
    (hval : Value.okWide Try.prog W r b0 42 v) (h0 : DataW.Trod enc Try.prog W 0 (fun _ => true) true 42 v d p) :
    ∃ (A : Option Addr) (n cap : Nat) (l : List Cl), v = .slice A n cap ∧ l.length = n ∧ n ≤ cap ∧ cap ≤ 9223372036854775807 ∧ ClsAt W A n l ∧ ∀ s ∈ l, s.fits := by
  obtain ⟨a0, len, cap, rfl⟩ := okWide_slice Try.underlying42 hval
  obtain ⟨fuel, hf⟩ := h0
  rcases Go.Deep.open_slice Try.underlying42 hf with ⟨hcs, _⟩ | ⟨a, len', cap', m, q, D, Pl, hcs, _, hl, hm, hmm, _, hx⟩
  · simp [Value.cells] at hcs
    obtain ⟨rfl, rfl, rfl⟩ := hcs
    exact ⟨none, 0, 0, [], rfl, rfl, Nat.le_refl _, by omega, ⟨rfl, fun h => absurd h (by omega)⟩, fun z hz => by cases hz⟩
  · simp [Value.cells] at hcs
    obtain ⟨rfl, rfl, rfl⟩ := hcs
    simp only [if_true] at hmm
    have each : ∀ i, i < len → ∃ s : Cl, s.fits ∧ W.cell? (a.add (i * 3)) = some (.int .i64 s.id) ∧ W.cell? (a.add (i * 3 + 1)) = some (.int .i64 s.ep) ∧ W.cell? (a.add (i * 3 + 2)) = some (.int .u64 (s.s : Int)) := fun i hi => by
      obtain ⟨cs', hc, hd⟩ := hx i (by omega)
      rw [cells_cl] at hc
      obtain ⟨s, hs, rfl⟩ := open_cl_cells hd
      obtain ⟨_, _, hcell⟩ := World.cells?_some hc
      have c0 := hcell 0 (by omega)
      have c1 := hcell 1 (by omega)
      have c2 := hcell 2 (by omega)
      rw [add_of_add] at c0 c1 c2
      exact ⟨s, hs, c0, c1, c2⟩
    have : Inhabited Cl := ⟨⟨0, 0, 0⟩⟩
    obtain ⟨g, hg⟩ := Go.Deep.choose_lt each
    refine ⟨some a, len, cap, (List.range len).map g, rfl, by simp, hl, hm, ⟨by simp, fun hn => ⟨a, rfl, ?_, fun i s hs => ?_⟩⟩, fun s hs => ?_⟩
    · have := lt_of_cell (hg 0 hn).2.1
      rwa [block_of_add] at this
    · rw [List.getElem?_map] at hs
      cases hi : (List.range len)[i]? with
      | none => rw [hi] at hs; cases hs
      | some j =>
        rw [hi] at hs
        simp at hs
        have hil : i < len := by
          have := (List.getElem?_eq_some_iff.1 hi).1
          simpa using this
        have hj : j = i := by
          have := (List.getElem?_eq_some_iff.1 hi).2
          simp at this
          exact this.symm
        subst hj; subst hs
        exact (hg j hil).2
    · obtain ⟨j, hj, rfl⟩ := List.mem_map.1 hs
      exact (hg j (by simpa using hj)).1
end
end Go.Proofs.Ytkkjciomgcgdiaa
