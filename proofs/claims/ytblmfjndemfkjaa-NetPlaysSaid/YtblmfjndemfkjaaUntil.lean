/-
  WHAT IS PROVED: in a region that draws its order an operation may be taken first where its cell is left alone UP TO one operation that waits for it (the first store of an assignment whose right side reads what it writes). For any program. No condition.
-/
import Derived.Test.YtblmfjndemfkjaaBase
import Derived.Deep.RegionHeld
namespace Go.Proofs.Ytblmfjndemfkjaa
open Go

section
variable {P : Program} {ops : Array Oper} {Q : Exit → Act → World → Prop} {md : Region.Mode} {S : World → Prop} {q : Nat}

/-- whatever order is picked, and S holds behind each operation until number q is carried out; behind that nothing is asked -/
def wpUntil (P : Program) (md : Region.Mode) (ops : Array Oper) (Q : Exit → Act → World → Prop) (S : World → Prop) (q : Nat) : Nat → Array Bool → Act → World → Prop
  | 0, done, a, w => Region.ready md ops done = [] ∧ Q .normal a w
  | f + 1, done, a, w => (Region.ready md ops done = [] → Q .normal a w) ∧
    ∀ i ∈ Region.ready md ops done, wpOp P ops Q i (fun a' w' => (i = q → wpAny P md ops Q f (done.setIfInBounds i true) a' w') ∧ (i ≠ q → S w' ∧ wpUntil P md ops Q S q f (done.setIfInBounds i true) a' w')) a w

theorem any_of_until : ∀ (f : Nat) (done : Array Bool) (a : Act) (w : World), wpUntil P md ops Q S q f done a w → wpAny P md ops Q f done a w
  | 0, _, _, _, h => h
  | f + 1, done, a, w, h => ⟨h.1, fun i hi => wpOp_mono (fun a' w' h' => by
      by_cases e : i = q
      · exact h'.1 e
      · exact any_of_until f _ a' w' (h'.2 e).2) (h.2 i hi)⟩

/-- operation i, not yet done, is listed by nothing that is ready -/
theorem not_after {i : Nat} {oj : Oper} {done : Array Bool} (hr : i ∈ Region.ready md ops done) (hall : ∀ e ∈ oj.after, Region.binds md e = true → done.getD e.on false = true) : ∀ e ∈ oj.after, Region.binds md e = true → e.on ≠ i := by
  intro e he hb heq
  have h1 := hall e he hb
  have h0 := (mem_ready.1 hr).1
  rw [heq] at h1
  rcases Nat.lt_or_ge i done.size with h' | h'
  · simp [h'] at h0 h1
    rw [h0] at h1
    cases h1
  · simp [Array.getElem?_eq_none h'] at h1

/-- what is done waited for nothing that isn't -/
def Closed (md : Region.Mode) (ops : Array Oper) (done : Array Bool) : Prop := ∀ j oj, ops[j]? = some oj → done.getD j false = true → ∀ e ∈ oj.after, Region.binds md e = true → done.getD e.on false = true
theorem Closed.next {done : Array Bool} {j : Nat} (h : Closed md ops done) (hj : j ∈ Region.ready md ops done) : Closed md ops (done.setIfInBounds j true) := by
  intro k ok hk hd e he hb
  obtain ⟨_, oj, hoj, hall⟩ := mem_ready.1 hj
  by_cases hjk : j = k
  · subst hjk
    rw [hk] at hoj
    cases hoj
    exact getD_set_true (hall e he hb)
  · rw [getD_set_ne false hjk] at hd
    exact getD_set_true (h k ok hk hd e he hb)
def Waits (md : Region.Mode) (ops : Array Oper) (q i : Nat) : Prop := ∃ oq, ops[q]? = some oq ∧ ∃ e ∈ oq.after, Region.binds md e = true ∧ e.on = i
theorem not_both {i : Nat} {done : Array Bool} (hr : i ∈ Region.ready md ops done) (h : done.getD i false = true) : False := by
  have h0 := (mem_ready.1 hr).1
  rcases Nat.lt_or_ge i done.size with h' | h'
  · simp [h'] at h0 h
    rw [h0] at h
    cases h
  · simp [Array.getElem?_eq_none h'] at h
def Path (md : Region.Mode) (ops : Array Oper) : Nat → List Nat → Nat → Prop
  | q, [], i => Waits md ops q i
  | q, p :: ps, i => Waits md ops q p ∧ Path md ops p ps i
theorem path_done {i : Nat} {done : Array Bool} (hcl : Closed md ops done) : ∀ (ps : List Nat) (q : Nat), (∀ oq, ops[q]? = some oq → ∀ e ∈ oq.after, Region.binds md e = true → done.getD e.on false = true) → Path md ops q ps i → done.getD i false = true
  | [], q, h, hp => by
    obtain ⟨oq, hoq, e, he, hb, rfl⟩ := hp
    exact h oq hoq e he hb
  | p :: ps, q, h, hp => by
    obtain ⟨⟨oq, hoq, e, he, hb, rfl⟩, hp⟩ := hp
    exact path_done hcl ps _ (fun op hop e2 he2 hb2 => hcl _ op hop (h oq hoq e he hb) e2 he2 hb2) hp
/-- what yields under S is taken first, if number q waits for it -/
theorem until_take {i : Nat} {oi : Oper} {v : Value} (hi : ops[i]? = some oi) (hsel : ∀ (j : Nat) (o : Oper) cs b, ops[j]? = some o → o.op ≠ .select cs b)
    (hQ : ∀ c a w, Q (.panic c) (a.put oi.dst v) w → Q (.panic c) a w) (hiq : i ≠ q) (ps : List Nat) (hw : Path md ops q ps i) :
    ∀ (f : Nat) (done : Array Bool) (a : Act) (w : World), Closed md ops done →
      (∀ j oj, ops[j]? = some oj → j ≠ i → done.getD j true = false → (∀ e ∈ oj.after, Region.binds md e = true → e.on ≠ i) → oi.apart ops oj = true) →
      i ∈ Region.ready md ops done → YieldsIf P ops S oi v a → S w →
      wpUntil P md ops Q S q f (done.setIfInBounds i true) (a.put oi.dst v) w → wpUntil P md ops Q S q (f + 1) done a w := by
  intro f
  induction f with
  | zero =>
    intro done a w _ _ hr hy hS H
    refine ⟨fun h => (by rw [h] at hr; cases hr), fun j hj => ?_⟩
    by_cases e : j = i
    · subst e
      exact hy.wpOp hi hS ⟨fun e => absurd e hiq, fun _ => ⟨hS, H⟩⟩
    · have h1 := ready_mono hj e
      rw [H.1] at h1
      cases h1
  | succ f ih =>
    intro done a w hcl hfree hr hy hS H
    refine ⟨fun h => (by rw [h] at hr; cases hr), fun j hj => ?_⟩
    by_cases e : j = i
    · subst e
      exact hy.wpOp hi hS ⟨fun e => absurd e hiq, fun _ => ⟨hS, H⟩⟩
    · have h1 := H.2 j (ready_mono hj e)
      obtain ⟨hjun, oj, hoj, hall⟩ := mem_ready.1 hj
      have hnot := not_after hr hall
      have hjq : j ≠ q := by
        intro e2
        subst e2
        exact not_both hr (path_done hcl ps j (fun oq hoq e3 h3 h4 => by
          rw [hoj] at hoq
          cases hoq
          exact hall e3 h3 h4) hw)
      have h2 := wpOp_putIf hoj (hfree j oj hoj e hjun hnot) (fun cs b => hsel i oi cs b hi) (fun cs b => hsel j oj cs b hoj) hQ hy h1
      have hfree' : ∀ k ok, ops[k]? = some ok → k ≠ i → (done.setIfInBounds j true).getD k true = false → (∀ e ∈ ok.after, Region.binds md e = true → e.on ≠ i) → oi.apart ops ok = true := fun k ok hk hki hun hno => by
        refine hfree k ok hk hki ?_ hno
        by_cases hjk : j = k
        · subst hjk; exact hjun
        · rw [getD_set_ne true hjk] at hun; exact hun
      refine wpOp_mono (fun a' w' h3 => ⟨fun e2 => absurd e2 hjq, fun _ => ⟨(h3.2.2 hjq).1, ih (done.setIfInBounds j true) a' w' (hcl.next hj) hfree' (ready_mono hr (Ne.symm e)) h3.1 (h3.2.2 hjq).1 ?_⟩⟩) h2
      rw [Array.setIfInBounds_comm _ _ e]
      exact (h3.2.2 hjq).2

/-- what yields in any world is taken first -/
theorem until_free {i : Nat} {oi : Oper} {v : Value} (hi : ops[i]? = some oi) (hsel : ∀ (j : Nat) (o : Oper) cs b, ops[j]? = some o → o.op ≠ .select cs b)
    (hQ : ∀ c a w, Q (.panic c) (a.put oi.dst v) w → Q (.panic c) a w) (hiq : i ≠ q) :
    ∀ (f : Nat) (done : Array Bool) (a : Act) (w : World),
      (∀ j oj, ops[j]? = some oj → j ≠ i → done.getD j true = false → (∀ e ∈ oj.after, Region.binds md e = true → e.on ≠ i) → oi.apart ops oj = true) →
      i ∈ Region.ready md ops done → Yields P ops oi v a → S w →
      wpUntil P md ops Q S q f (done.setIfInBounds i true) (a.put oi.dst v) w → wpUntil P md ops Q S q (f + 1) done a w := by
  intro f
  induction f with
  | zero =>
    intro done a w _ hr hy hS H
    refine ⟨fun h => (by rw [h] at hr; cases hr), fun j hj => ?_⟩
    by_cases e : j = i
    · subst e
      exact hy.wpOp hi ⟨fun e => absurd e hiq, fun _ => ⟨hS, H⟩⟩
    · have h1 := ready_mono hj e
      rw [H.1] at h1
      cases h1
  | succ f ih =>
    intro done a w hfree hr hy hS H
    refine ⟨fun h => (by rw [h] at hr; cases hr), fun j hj => ?_⟩
    by_cases e : j = i
    · subst e
      exact hy.wpOp hi ⟨fun e => absurd e hiq, fun _ => ⟨hS, H⟩⟩
    · have h1 := H.2 j (ready_mono hj e)
      obtain ⟨hjun, oj, hoj, hall⟩ := mem_ready.1 hj
      have hnot := not_after hr hall
      have h2 := wpOp_put hoj (hfree j oj hoj e hjun hnot) (fun cs b => hsel i oi cs b hi) (fun cs b => hsel j oj cs b hoj) hQ hy h1
      have hfree' : ∀ k ok, ops[k]? = some ok → k ≠ i → (done.setIfInBounds j true).getD k true = false → (∀ e ∈ ok.after, Region.binds md e = true → e.on ≠ i) → oi.apart ops ok = true := fun k ok hk hki hun hno => by
        refine hfree k ok hk hki ?_ hno
        by_cases hjk : j = k
        · subst hjk; exact hjun
        · rw [getD_set_ne true hjk] at hun; exact hun
      refine wpOp_mono (fun a' w' h3 => ⟨fun e2 => ?_, fun e2 => ⟨(h3.2.2 e2).1, ih (done.setIfInBounds j true) a' w' hfree' (ready_mono hr (Ne.symm e)) h3.1 (h3.2.2 e2).1 ?_⟩⟩) h2
      · refine wpAny_first hi hsel hQ f (done.setIfInBounds j true) a' w' hfree' (ready_mono hr (Ne.symm e)) h3.1 ?_
        rw [Array.setIfInBounds_comm _ _ e]
        exact h3.2.1 e2
      · rw [Array.setIfInBounds_comm _ _ e]
        exact (h3.2.2 e2).2

/-! ### the moves of a walk -/
theorem until_begin {id : Nat} {a : Act} {w : World} (hm : P.follows .mixedOrders = true) (h : wpUntil P .any ops Q S q ops.size (Array.replicate ops.size false) a w.drew) : (Code.region id ops true).wp P Q a w :=
  wp_region_any hm (any_of_until _ _ _ _ h)
def waits (md : Region.Mode) (ops : Array Oper) (q i : Nat) : Bool := match ops[q]? with
  | some oq => oq.after.any fun e => Region.binds md e && e.on == i
  | none => false
theorem waits_spec {i : Nat} (h : waits md ops q i = true) : Waits md ops q i := by
  unfold waits at h
  split at h
  · rename_i oq hoq
    obtain ⟨k, hk, h⟩ := Array.any_eq_true.1 h
    simp only [Bool.and_eq_true, beq_iff_eq] at h
    exact ⟨oq, hoq, _, Array.getElem_mem hk, h.1, h.2⟩
  · cases h
def closedB (md : Region.Mode) (ops : Array Oper) (done : Array Bool) : Bool := (List.range ops.size).all fun j => match ops[j]? with
  | some oj => !done.getD j false || oj.after.all fun e => !Region.binds md e || done.getD e.on false
  | none => true
theorem closed_spec {done : Array Bool} (h : closedB md ops done = true) : Closed md ops done := by
  intro j oj hj hd e he hb
  have hlt : j < ops.size := (Array.getElem?_eq_some_iff.1 hj).1
  have h1 := List.all_eq_true.1 h j (List.mem_range.2 hlt)
  rw [hj] at h1
  simp only [hd, Bool.not_true, Bool.false_or] at h1
  obtain ⟨k, hk, rfl⟩ := Array.mem_iff_getElem.1 he
  have h2 := Array.all_eq_true.1 h1 k hk
  simpa [hb] using h2
def pathB (md : Region.Mode) (ops : Array Oper) : Nat → List Nat → Nat → Bool
  | q, [], i => waits md ops q i
  | q, p :: ps, i => waits md ops q p && pathB md ops p ps i
theorem path_spec {i : Nat} : ∀ (ps : List Nat) (q : Nat), pathB md ops q ps i = true → Path md ops q ps i
  | [], _, h => waits_spec h
  | p :: ps, q, h => by
    obtain ⟨h1, h2⟩ := Bool.and_eq_true_iff.1 h
    exact ⟨waits_spec h1, path_spec ps p h2⟩
theorem until_load {i : Nat} {oi : Oper} {v : Value} {f : Nat} {done : Array Bool} {a : Act} {w : World} (hi : ops[i]? = some oi)
    (hs : Region.noSelect ops = true) (hf : Region.free md ops done i = true) (hr : (Region.ready md ops done).contains i = true)
    (hQ : ∀ c a w, Q (.panic c) (a.put oi.dst v) w → Q (.panic c) a w) (hiq : (i != q) = true) (ps : List Nat) (hw : pathB md ops q ps i = true) (hcl : closedB md ops done = true) (hy : YieldsIf P ops S oi v a) (hS : S w)
    (h : wpUntil P md ops Q S q f (done.setIfInBounds i true) (a.put oi.dst v) w) : wpUntil P md ops Q S q (f + 1) done a w :=
  until_take hi (Region.noSelect_spec hs) hQ (by simpa using hiq) ps (path_spec ps q hw) f done a w (closed_spec hcl) (Region.free_spec hi hf) (by simpa using hr) hy hS h
theorem until_pure {i : Nat} {oi : Oper} {v : Value} {f : Nat} {done : Array Bool} {a : Act} {w : World} (hi : ops[i]? = some oi)
    (hs : Region.noSelect ops = true) (hf : Region.free md ops done i = true) (hr : (Region.ready md ops done).contains i = true)
    (hQ : ∀ c a w, Q (.panic c) (a.put oi.dst v) w → Q (.panic c) a w) (hiq : (i != q) = true) (hy : Yields P ops oi v a) (hS : S w)
    (h : wpUntil P md ops Q S q f (done.setIfInBounds i true) (a.put oi.dst v) w) : wpUntil P md ops Q S q (f + 1) done a w :=
  until_free hi (Region.noSelect_spec hs) hQ (by simpa using hiq) f done a w (Region.free_spec hi hf) (by simpa using hr) hy hS h
/-- each of these comes up next -/
def AllUntil (P : Program) (md : Region.Mode) (ops : Array Oper) (Q : Exit → Act → World → Prop) (S : World → Prop) (q : Nat) (f : Nat) (done : Array Bool) (a : Act) (w : World) (rs : List Nat) : Prop :=
  ∀ i ∈ rs, wpOp P ops Q i (fun a' w' => (i = q → wpAny P md ops Q f (done.setIfInBounds i true) a' w') ∧ (i ≠ q → S w' ∧ wpUntil P md ops Q S q f (done.setIfInBounds i true) a' w')) a w
theorem until_ready {rs : List Nat} {f : Nat} {done : Array Bool} {a : Act} {w : World} (hr : Region.ready md ops done = rs) (hne : rs ≠ []) (h : AllUntil P md ops Q S q f done a w rs) : wpUntil P md ops Q S q (f + 1) done a w :=
  ⟨fun h0 => absurd (hr ▸ h0) hne, hr ▸ h⟩
theorem AllUntil.nil {f : Nat} {done : Array Bool} {a : Act} {w : World} : AllUntil P md ops Q S q f done a w [] := fun _ h => by cases h
theorem AllUntil.cons {f : Nat} {done : Array Bool} {a : Act} {w : World} {i : Nat} {o : Oper} {rs : List Nat} (ho : ops[i]? = some o) (hiq : (i != q) = true)
    (h : ∀ K' : Act → World → Prop, Shut (∀ a w, S w → (S w → wpUntil P md ops Q S q f (done.setIfInBounds i true) a w) → K' a w) → if Region.wanted o (yielded ops a.tmps) = true then Oper.wp P o a w K' Q else K' (a.put o.dst undef) w)
    (hs : AllUntil P md ops Q S q f done a w rs) : AllUntil P md ops Q S q f done a w (i :: rs) := fun j hj => by
  have hne : i ≠ q := by simpa using hiq
  rcases List.mem_cons.1 hj with rfl | hj
  · exact wpOp_step ho (fun K' hK => h K' (fun a w hS hW => hK a w ⟨fun e => absurd e hne, fun _ => ⟨hS, hW hS⟩⟩))
  · exact hs j hj
/-- number q itself: behind it nothing more is asked -/
theorem AllUntil.stop {f : Nat} {done : Array Bool} {a : Act} {w : World} {o : Oper} (ho : ops[q]? = some o)
    (h : ∀ K' : Act → World → Prop, Shut (∀ a w, wpAny P md ops Q f (done.setIfInBounds q true) a w → K' a w) → if Region.wanted o (yielded ops a.tmps) = true then Oper.wp P o a w K' Q else K' (a.put o.dst undef) w) : AllUntil P md ops Q S q f done a w [q] := fun j hj => by
  rcases List.mem_cons.1 hj with rfl | hj
  · exact wpOp_step ho (fun K' hK => h K' (fun a w hW => hK a w ⟨fun _ => hW, fun e => absurd rfl e⟩))
  · cases hj
/-- one alone may come up -/
theorem any_one {i : Nat} {o : Oper} {f : Nat} {done : Array Bool} {a : Act} {w : World} (hr : Region.ready md ops done = [i]) (ho : ops[i]? = some o)
    (h : ∀ K' : Act → World → Prop, Shut (∀ a w, wpAny P md ops Q f (done.setIfInBounds i true) a w → K' a w) → if Region.wanted o (yielded ops a.tmps) = true then Oper.wp P o a w K' Q else K' (a.put o.dst undef) w) : wpAny P md ops Q (f + 1) done a w :=
  ⟨fun h0 => (by rw [hr] at h0; cases h0), fun j hj => by
    rw [hr] at hj
    rcases List.mem_cons.1 hj with rfl | hj
    · exact wpOp_step ho (fun K' hK => h K' (fun a w hW => hK a w hW))
    · cases hj⟩
end
end Go.Proofs.Ytblmfjndemfkjaa
