/-
  WHAT IS PROVED: going through a map of reports, and deleting from it meanwhile, at the operations; what is there while some are still to come. Condition: the map is one of reports.
-/
import Derived.Test.YtcacjppdcmghjaaGoes
namespace Go.Proofs.Ytcacjppdcmghjaa
open Go.RowKit Go.Lib Go.Maps

theorem same_kl {r s : Rp} (hr : okRp r) (hs : okRp s) : (kl s.a s.b).sameKey (kl r.a r.b) = decide (s.is r.a r.b) := by
  obtain ⟨r1, r2, _⟩ := ok_in hr
  obtain ⟨s1, s2, _⟩ := ok_in hs
  by_cases h : s.is r.a r.b
  · rw [h.1, h.2, WideAt.sameKey_self (kl_key _ _)]; symm; rw [decide_eq_true_eq]; exact h
  · rw [sameKey_ne (fun e => h (kl_inj s1 s2 r1 r2 e))]
    simp [h]
abbrev struck (left : Lit → Bool) (r : Rp) : Lit → Bool := fun z => left z && !z.sameKey (kl r.a r.b)
/-- what is there while some are still to come -/
def leftL (L : List Rp) (p : Rp → Bool) (left : Lit → Bool) : List Rp := L.filter fun r => !p r || left (kl r.a r.b)
theorem left_start {L : List Rp} {p : Rp → Bool} {left : Lit → Bool} (h : ∀ r ∈ L, left (kl r.a r.b) = true) : leftL L p left = L := by
  unfold leftL
  rw [List.filter_eq_self]
  intro r hr
  simp [h r hr]
theorem left_end {L : List Rp} {p : Rp → Bool} {left : Lit → Bool} (h : ∀ l, left l = false) : leftL L p left = L.filter fun r => !p r := by
  unfold leftL
  refine List.filter_congr fun r _ => ?_
  simp [h]
theorem left_go {L : List Rp} {p : Rp → Bool} {left : Lit → Bool} (hu : Good L) {r : Rp} (hr : r ∈ L) (hp : p r = true) : leftL L p (struck left r) = dropL (leftL L p left) r.a r.b := by
  unfold leftL dropL
  rw [List.filter_filter]
  refine List.filter_congr fun s hs => ?_
  simp only [struck, same_kl (hu.2 r hr) (hu.2 s hs)]
  by_cases h : s.is r.a r.b
  · have := hu.1.eq hs hr h.1 h.2
    subst this
    simp [hp, h]
  · simp [h]
theorem left_stay {L : List Rp} {p : Rp → Bool} {left : Lit → Bool} (hu : Good L) {r : Rp} (hr : r ∈ L) (hp : p r = false) : leftL L p (struck left r) = leftL L p left := by
  unfold leftL
  refine List.filter_congr fun s hs => ?_
  simp only [struck, same_kl (hu.2 r hr) (hu.2 s hs)]
  by_cases h : s.is r.a r.b
  · have := hu.1.eq hs hr h.1 h.2
    subst this
    simp [hp]
  · simp [h]
theorem leftL_good {L : List Rp} (h : Good L) (p : Rp → Bool) (left : Lit → Bool) : Good (leftL L p left) := h.filter _
theorem leftL_sub {L : List Rp} {p : Rp → Bool} {left : Lit → Bool} {r : Rp} (h : r ∈ leftL L p left) : r ∈ L := (List.mem_filter.1 h).1

abbrev Ra (w : World) (b r n : Nat) (D : Dm) (left : Lit → Bool) (cnt : Nat) : Prop :=
  w.ranges Try.prog 56 (plainElem Try.prog 3) b r n D left cnt

section
variable (w : World) {ops : Array Oper} {rest : List Oper} {o : Oper} {a : Act} {Q : Exit → Act → World → Prop}
/-- a step of the range: one of the reports comes, or none is left -/
theorem wpList_next_reports (hg : o.guard = none) (it : Operand) (hop : o.op = Op.next it false) (b r n : Nat) (D : Dm) (left : Lit → Bool) (cnt : Nat) (L : List Rp) (hag : Agr D L)
    (hit : a.eval it = .pointer (some ⟨r, 0, none⟩)) (h : Ra w b r n D left cnt)
    (hDone : (∀ kl, left kl = false) → wpList Try.prog ops Q rest (a.put o.dst (.tuple #[.bool false])) w)
    (hMore : ∀ (s : Rp) (w' : World) (cnt' : Nat), s ∈ L → left (kl s.a s.b) = true → Ra w' b r n D (struck left s) cnt' → cnt' < cnt → w.grownBy w' (some r) → w'.heap.size = w.heap.size →
      (Instr.entry (.pointer (some ⟨r, 0, none⟩))).run Try.prog w' = .ok (.tuple #[vPair s.a s.b, .int .i64 s.t]) w' → wpList Try.prog ops Q rest (a.put o.dst (.tuple #[.bool true, vPair s.a s.b, .int .i64 s.t])) w') :
    wpList Try.prog ops Q (o :: rest) a w := by
  refine wpList_next_ranges w hg it hop 56 keyed _ (fun x : Int × Int => vPair x.1 x.2) (Value.int .i64) (fun key kl hkey => ?_) (fun v y hv => ?_) b r n D left cnt hit h (fun _ => hDone) ?_
  · obtain ⟨x, y, _, _, e, _⟩ := keyOf_inv hkey
    exact ⟨(x, y), e⟩
  · obtain ⟨c, e, _, _⟩ := plainElem_int_inv Try.underlying3 hv
    exact ⟨c, e⟩
  · intro x c k y w' cnt' hkey hlk hv hat hrg hlt hgr hsz hen
    obtain ⟨x1, x2, h1, h2, e, rfl⟩ := keyOf_inv hkey
    simp at e
    obtain ⟨c', ec, rfl, _⟩ := plainElem_int_inv Try.underlying3 hv
    injection ec with _ ec
    subst ec
    have hh := has_true_of_atKey hat
    rw [hag.has_ x1 x2 h1 h2] at hh
    obtain ⟨s, hs, hk⟩ := hasL_iff.1 hh
    have ht : s.t = c := by
      have := (hag.at_ s hs (.lit (.int .i64 0)))
      rw [hk.1, hk.2, hat] at this
      injection this with this
      injection this with _ this
      exact this.symm
    have := hMore s w' cnt' hs
    rw [hk.1, hk.2, ht] at this
    rw [show struck left s = fun z => left z && !z.sameKey (kl x1 x2) by unfold struck; rw [hk.1, hk.2]] at this
    rw [e.1, e.2] at hen
    simp only [e.1, e.2]
    exact this hlk hrg hlt hgr hsz hen
end

/-- delete while the map is gone through, as a step of a region that draws its order -/
theorem step_delete_reports {w : World} {ops : Array Oper} {o : Oper} {a : Act} {K : Act → World → Prop} {Q : Exit → Act → World → Prop} {E : Prop} (hgd : o.guard = none) (m x : Operand)
    (hop : o.op = Op.call { callee := Callee.builtin Builtin.delete, args := #[m, x], argTypes := #[49, 56] })
    (b r n : Nat) (D : Dm) (left : Lit → Bool) (cnt : Nat) (s : Rp) (hs : okRp s) (hm : a.eval m = .map (some b)) (hx : a.eval x = vPair s.a s.b) (h : Ra w b r n D left cnt)
    (hK : ∀ w' cnt', Ra w' b r n (D.del (kl s.a s.b)) (struck left s) cnt' → cnt' ≤ cnt → w.grownBy w' (some b) → K (a.put o.dst (.tuple #[])) w') :
    if Region.wanted o (yielded ops a.tmps) = true then Oper.wp Try.prog o a w K Q else E := by
  have hw : Region.wanted o (yielded ops a.tmps) = true := by simp [Region.wanted, hgd]
  rw [if_pos hw]
  obtain ⟨h1, h2, _⟩ := ok_in hs
  obtain ⟨w', cnt', hrun, r1, r2, r3⟩ := h.drop keyed Try.underlying49 (keyOf_pair h1 h2) o.type
  unfold Oper.wp
  simp [execOp, hop, resolve, invoke, builtin, hm, hx, hrun, Result.andThen]
  exact hK w' cnt' r1 r2 r3.grown
theorem struck_twice (left : Lit → Bool) (r : Rp) : struck (struck left r) r = struck left r := strike_twice left _
end Go.Proofs.Ytcacjppdcmghjaa
