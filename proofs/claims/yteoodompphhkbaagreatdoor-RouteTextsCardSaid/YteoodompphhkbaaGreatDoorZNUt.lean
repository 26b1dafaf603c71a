/-
  WHAT IS PROVED: in a region that draws its order an operation may be taken first where its cell is left alone UP TO one operation that waits for it (the first store of an assignment whose right side reads what it writes). For any program. No condition.
-/
import Derived.Test.YteoodompphhkbaaGreatDoorRows
import Derived.WalkKit
import Derived.Lib.Hide
import Derived.Deep.RegionHeld
namespace Go.Proofs.YteoodompphhkbaaGreatDoor.Nod
set_option maxRecDepth 100000
open Go

section
variable {P : Program} {ops : Array Oper} {Q : Exit → Act → World → Prop} {md : Region.Mode} {S : World → Prop} {q : Nat}

/-- whatever order is picked, and S holds behind each operation until number q is carried out; behind that nothing is asked -/
def wpUntil (P : Program) (md : Region.Mode) (ops : Array Oper) (Q : Exit → Act → World → Prop) (S : World → Prop) (q : Nat) : Nat → Array Bool → Act → World → Prop
  | 0, done, a, w => Region.ready md ops done = [] ∧ Q .normal a w
  | f + 1, done, a, w => (Region.ready md ops done = [] → Q .normal a w) ∧
    ∀ i ∈ Region.ready md ops done, wpOp P ops Q i (fun a' w' => (i = q → wpAny P md ops Q f (done.setIfInBounds i true) a' w') ∧ (i ≠ q → S w' ∧ wpUntil P md ops Q S q f (done.setIfInBounds i true) a' w')) a w

/-- what is done waited for nothing that isn't -/
def Closed (md : Region.Mode) (ops : Array Oper) (done : Array Bool) : Prop := ∀ j oj, ops[j]? = some oj → done.getD j false = true → ∀ e ∈ oj.after, Region.binds md e = true → done.getD e.on false = true
theorem Closed.next {done : Array Bool} {j : Nat} (h : Closed md ops done) (hj : j ∈ Region.ready md ops done) : Closed md ops (done.setIfInBounds j true) := by
  intro k ok hk hd e he hb
  obtain ⟨_, oj, hoj, hall⟩ := mem_ready.1 hj
  by_cases hjk : j = k
  · subst hjk
    rw [hk] at hoj
    cases hoj
    exact getD_set_true (hall e he hb)
  · rw [getD_set_ne false hjk] at hd
    exact getD_set_true (h k ok hk hd e he hb)
/-! ### the moves of a walk -/
/-- each of these comes up next -/
def AllUntil (P : Program) (md : Region.Mode) (ops : Array Oper) (Q : Exit → Act → World → Prop) (S : World → Prop) (q : Nat) (f : Nat) (done : Array Bool) (a : Act) (w : World) (rs : List Nat) : Prop :=
  ∀ i ∈ rs, wpOp P ops Q i (fun a' w' => (i = q → wpAny P md ops Q f (done.setIfInBounds i true) a' w') ∧ (i ≠ q → S w' ∧ wpUntil P md ops Q S q f (done.setIfInBounds i true) a' w')) a w
theorem AllUntil.nil {f : Nat} {done : Array Bool} {a : Act} {w : World} : AllUntil P md ops Q S q f done a w [] := fun _ h => by cases h
theorem AllUntil.cons {f : Nat} {done : Array Bool} {a : Act} {w : World} {i : Nat} {o : Oper} {rs : List Nat} (ho : ops[i]? = some o) (hiq : (i != q) = true)
    (h : ∀ K' : Act → World → Prop, Shut (∀ a w, S w → (S w → wpUntil P md ops Q S q f (done.setIfInBounds i true) a w) → K' a w) → if Region.wanted o (yielded ops a.tmps) = true then Oper.wp P o a w K' Q else K' (a.put o.dst undef) w)
    (hs : AllUntil P md ops Q S q f done a w rs) : AllUntil P md ops Q S q f done a w (i :: rs) := fun j hj => by
  have hne : i ≠ q := by simpa using hiq
  rcases List.mem_cons.1 hj with rfl | hj
  · exact wpOp_step ho (fun K' hK => h K' (fun a w hS hW => hK a w ⟨fun e => absurd e hne, fun _ => ⟨hS, hW hS⟩⟩))
  · exact hs j hj
/-- number q itself: behind it nothing more is asked -/
theorem AllUntil.stop {f : Nat} {done : Array Bool} {a : Act} {w : World} {o : Oper} (ho : ops[q]? = some o)
    (h : ∀ K' : Act → World → Prop, Shut (∀ a w, wpAny P md ops Q f (done.setIfInBounds q true) a w → K' a w) → if Region.wanted o (yielded ops a.tmps) = true then Oper.wp P o a w K' Q else K' (a.put o.dst undef) w) : AllUntil P md ops Q S q f done a w [q] := fun j hj => by
  rcases List.mem_cons.1 hj with rfl | hj
  · exact wpOp_step ho (fun K' hK => h K' (fun a w hW => hK a w ⟨fun _ => hW, fun e => absurd rfl e⟩))
  · cases hj
end
end Go.Proofs.YteoodompphhkbaaGreatDoor.Nod
