/-
  WHAT IS PROVED: how arguments that are lists of ints or of bools read behind what the call has done; choices among voters, plain facts. Condition: none.
-/
import Derived.Test.YtacljdpmcndhdaaMaj
namespace Go.Proofs.Ytacljdpmcndhdaa
open Go.RowKit Go.Lib Go.ChangeShapes Go.WideShapes Go.ChangeAt Go.WideElems

/-- an argument of type []int -/
def Arg (W : World) (A : Option Addr) (n : Nat) (l : List Int) : Prop := ∀ g, W.heap.size ≤ g → Reads W g A n (zints l)
theorem Arg.now {W w : World} {A : Option Addr} {n : Nat} {l : List Int} (h : Arg W A n l) (hb : Below W.heap.size W w) : Reads w w.heap.size A n (zints l) := (h _ (Nat.le_refl _)).old hb hb.size
theorem Arg.len {W : World} {A : Option Addr} {n : Nat} {l : List Int} (h : Arg W A n l) : l.length = n := zlen (h _ (Nat.le_refl _))

def bools (l : List Bool) : List Value := l.map fun z => Value.bool z
theorem bools_at {l : List Bool} {k : Nat} {u : Value} (h : (bools l)[k]? = some u) : ∃ z, l[k]? = some z ∧ u = .bool z := by
  unfold bools at h
  rw [List.getElem?_map] at h
  cases hz : l[k]? with
  | none => rw [hz] at h; cases h
  | some z => rw [hz] at h; simp at h; exact ⟨z, rfl, h.symm⟩
def ArgB (W : World) (A : Option Addr) (n : Nat) (l : List Bool) : Prop := ∀ g, W.heap.size ≤ g → Reads W g A n (bools l)
theorem ArgB.now {W w : World} {A : Option Addr} {n : Nat} {l : List Bool} (h : ArgB W A n l) (hb : Below W.heap.size W w) : Reads w w.heap.size A n (bools l) := (h _ (Nat.le_refl _)).old hb hb.size
theorem ArgB.len {W : World} {A : Option Addr} {n : Nat} {l : List Bool} (h : ArgB W A n l) : l.length = n := by have := (h _ (Nat.le_refl _)).1; simpa [bools] using this
theorem cells_bool : Try.prog.cellsOf 4 = 1 := by kernel_rfl

section
variable {H : Type} {enc : TypeId × Value → H}
/-- AN ARGUMENT OF TYPE []bool -/
theorem open_bools {W : World} {r : Reach} {b0 : Nat} {v : Value} {d : DataW H} {p : List MemPlace}
    (hval : Value.okWide Try.prog W r b0 36 v) (h0 : DataW.Trod enc Try.prog W 0 (fun _ => true) true 36 v d p) :
    ∃ (A : Option Addr) (n cap : Nat) (l : List Bool), v = .slice A n cap ∧ n ≤ cap ∧ cap ≤ 9223372036854775807 ∧ ArgB W A n l := by
  obtain ⟨a0, len, cap, rfl⟩ := okWide_slice Try.underlying36 hval
  obtain ⟨fuel, hf⟩ := h0
  rcases Go.Deep.open_slice Try.underlying36 hf with ⟨hcs, _⟩ | ⟨a, len', cap', m, q, D, Pl, hcs, _, hl, hm, hmm, _, hx⟩
  · simp [Value.cells] at hcs
    obtain ⟨rfl, rfl, rfl⟩ := hcs
    exact ⟨none, 0, 0, [], rfl, Nat.le_refl _, by omega, fun g _ => Reads.none_⟩
  · simp [Value.cells] at hcs
    obtain ⟨rfl, rfl, rfl⟩ := hcs
    simp only [if_true] at hmm
    have each : ∀ i, i < len → ∃ x : Bool, W.cell? (a.add i) = some (.bool x) := fun i hi => by
      obtain ⟨cs', hc, hd⟩ := hx i (by omega)
      rw [cells_bool] at hc
      obtain ⟨x, e, _⟩ := DataW.trod_bool Try.underlying4 hd
      subst e
      obtain ⟨_, _, hcell⟩ := World.cells?_some hc
      have c0 := hcell 0 (by omega)
      rw [add_of_add] at c0
      exact ⟨x, by simpa using c0⟩
    obtain ⟨g, hg⟩ := Go.Deep.choose_lt each
    refine ⟨some a, len, cap, (List.range len).map g, rfl, hl, hm, fun b hb => ⟨by simp [bools], fun hn => ⟨a, rfl, ?_, ?_, fun i u hu => ?_⟩⟩⟩
    · have := lt_of_cell (hg 0 hn)
      rwa [block_of_add] at this
    · have := lt_of_cell (hg 0 hn)
      rw [block_of_add] at this
      omega
    · obtain ⟨z, hz, rfl⟩ := bools_at hu
      rw [List.getElem?_map] at hz
      cases hi : (List.range len)[i]? with
      | none => rw [hi] at hz; cases hz
      | some j =>
        rw [hi] at hz
        simp at hz
        have hil : i < len := by
          have := (List.getElem?_eq_some_iff.1 hi).1
          simpa using this
        have hj : j = i := by
          have := (List.getElem?_eq_some_iff.1 hi).2
          simp at this
          exact this.symm
        subst hj; subst hz
        exact hg j hil
end

/-! ### choices among voters -/
theorem zip_at {β : Type} {vs : List Int} {cs : List β} {k : Nat} {v : Int} {x : β} (h1 : vs[k]? = some v) (h2 : cs[k]? = some x) : (vs.zip cs)[k]? = some (v, x) := by
  rw [List.getElem?_zip_eq_some]; exact ⟨h1, h2⟩
theorem zip_fun {β : Type} : ∀ (vs : List Int) (cs : List β) {x : Int} {c d : β}, vs.Nodup → (x, c) ∈ vs.zip cs → (x, d) ∈ vs.zip cs → c = d
  | [], _, _, _, _, _, h, _ => by simp at h
  | _ :: _, [], _, _, _, _, h, _ => by simp at h
  | v :: r, e :: t, x, c, d, hn, h1, h2 => by
    have hr := List.nodup_cons.1 hn
    simp only [List.zip_cons_cons, List.mem_cons, Prod.mk.injEq] at h1 h2
    rcases h1 with ⟨rfl, rfl⟩ | h1 <;> rcases h2 with ⟨h3, h4⟩ | h2
    · exact h4.symm
    · exact absurd (List.of_mem_zip h2).1 hr.1
    · subst h3; exact absurd (List.of_mem_zip h1).1 hr.1
    · exact zip_fun r t hr.2 h1 h2
theorem zip_take {β : Type} (vs : List Int) (cs : List β) (k : Nat) : (vs.zip cs).take k = (vs.take k).zip (cs.take k) := by
  rw [List.zip_eq_zipWith, List.zip_eq_zipWith, List.take_zipWith]
section
variable {β : Type} [DecidableEq β]
/-- of the first k voters those with the choice c -/
def sel (vs : List Int) (cs : List β) (c : β) (k : Nat) : List Int := (((vs.zip cs).take k).filter fun p => decide (p.2 = c)).map (·.1)
theorem sel_zero (vs : List Int) (cs : List β) (c : β) : sel vs cs c 0 = [] := rfl
theorem sel_yes {vs : List Int} {cs : List β} {c : β} {k : Nat} {v : Int} (h1 : vs[k]? = some v) (h2 : cs[k]? = some c) : sel vs cs c (k + 1) = sel vs cs c k ++ [v] := by
  unfold sel; rw [List.take_add_one, zip_at h1 h2]; simp
theorem sel_no {vs : List Int} {cs : List β} {c x : β} {k : Nat} {v : Int} (h1 : vs[k]? = some v) (h2 : cs[k]? = some x) (h : x ≠ c) : sel vs cs c (k + 1) = sel vs cs c k := by
  unfold sel; rw [List.take_add_one, zip_at h1 h2]; simp [h]
theorem sel_past {vs : List Int} {cs : List β} {c : β} {k : Nat} (h : cs.length ≤ k) : sel vs cs c (k + 1) = sel vs cs c k := by
  unfold sel
  rw [List.take_of_length_le (by rw [List.length_zip]; omega), List.take_of_length_le (by rw [List.length_zip]; omega)]
theorem sel_le (vs : List Int) (cs : List β) (c : β) (k : Nat) : (sel vs cs c k).length ≤ k := by
  unfold sel
  rw [List.length_map]
  exact Nat.le_trans (List.length_filter_le _ _) (List.length_take_le _ _)
theorem mem_sel {vs : List Int} {cs : List β} {c : β} {k : Nat} {x : Int} (h : x ∈ sel vs cs c k) : (x, c) ∈ (vs.zip cs).take k := by
  unfold sel at h
  simp only [List.mem_map, List.mem_filter, decide_eq_true_eq] at h
  obtain ⟨p, ⟨h1, h2⟩, rfl⟩ := h
  rw [← h2]; exact h1
theorem sel_sub {vs : List Int} {cs : List β} {c : β} {k : Nat} {x : Int} (h : x ∈ sel vs cs c k) : x ∈ vs.take k := by
  have h1 := mem_sel h
  rw [zip_take] at h1
  exact (List.of_mem_zip h1).1
/-- no voter has two choices -/
theorem sel_apart {vs : List Int} {cs : List β} {c d : β} {k j : Nat} (hn : vs.Nodup) {x : Int} (h1 : x ∈ sel vs cs c k) (h2 : x ∈ sel vs cs d j) : c = d :=
  zip_fun vs cs hn (List.mem_of_mem_take (mem_sel h1)) (List.mem_of_mem_take (mem_sel h2))
theorem fresh_at {vs : List Int} {k : Nat} {v : Int} (hn : vs.Nodup) (h : vs[k]? = some v) : v ∉ vs.take k := by
  intro hm
  have e : vs = vs.take (k + 1) ++ vs.drop (k + 1) := (List.take_append_drop _ _).symm
  rw [e, List.nodup_append, List.take_add_one, h, List.nodup_append] at hn
  exact hn.1.2.2 v hm v (by simp) rfl
theorem sel_fresh {vs : List Int} {cs : List β} {c : β} {k : Nat} {v : Int} (hn : vs.Nodup) (h : vs[k]? = some v) : v ∉ sel vs cs c k := fun hm => fresh_at hn h (sel_sub hm)
theorem sel_maj {vs : List Int} {cs : List β} {c d : β} {k j : Nat} (hr : rightB vs = true) (h1 : majB vs (sel vs cs c k) = true) (h2 : majB vs (sel vs cs d j) = true) : c = d := by
  obtain ⟨x, _, h3, h4⟩ := maj_meet h1 h2
  exact sel_apart (right_iff.1 hr).2.1 h3 h4
end
theorem sel_both (vs : List Int) (cs : List Bool) : ∀ k, (sel vs cs true k).length + (sel vs cs false k).length = min k (min vs.length cs.length)
  | 0 => by simp [sel]
  | k + 1 => by
    have ih := sel_both vs cs k
    by_cases h1 : k < vs.length
    · by_cases h2 : k < cs.length
      · have e1 := List.getElem?_eq_getElem h1
        have e2 := List.getElem?_eq_getElem h2
        generalize hb : cs[k] = b at e2
        cases b
        · rw [sel_yes (c := false) e1 e2, sel_no (c := true) e1 e2 (by decide), List.length_append]; simp; omega
        · rw [sel_yes (c := true) e1 e2, sel_no (c := false) e1 e2 (by decide), List.length_append]; simp; omega
      · rw [sel_past (by omega), sel_past (by omega), ih]; omega
    · have e : ∀ c : Bool, sel vs cs c (k + 1) = sel vs cs c k := fun c => by
        unfold sel
        rw [List.take_of_length_le (by rw [List.length_zip]; omega), List.take_of_length_le (by rw [List.length_zip]; omega)]
      rw [e, e, ih]; omega
end Go.Proofs.Ytacljdpmcndhdaa
