/-
  WHAT IS PROVED: maps from ids to times, as lists of both: look-up, store; plain facts on such lists. No condition beyond the keys' range.
-/
import Derived.Test.YtmjbacmaafbdlaaInts
import Derived.Maps.RangeWalk
import Derived.Maps.OwnOps
namespace Go.Proofs.Ytmjbacmaafbdlaa.Mp
open Go.RowKit Go.Lib Go.Maps

/-- an id and a time -/
structure Bn where
  id : Int
  till : Int
deriving DecidableEq
def inInt (z : Int) : Prop := -9223372036854775808 ≤ z ∧ z ≤ 9223372036854775807
def hasB (B : List Bn) (x : Int) : Bool := B.any fun b => decide (b.id = x)
def unB (B : List Bn) (x : Int) : List Bn := B.filter fun b => !decide (b.id = x)
def putB (B : List Bn) (q : Bn) : List Bn := unB B q.id ++ [q]
def tillB : List Bn → Int → Int
  | [], _ => 0
  | b :: l, x => if b.id = x then b.till else tillB l x
def UpB (B : List Bn) : Prop := B.Pairwise fun p q => p.id ≠ q.id
theorem hasB_iff {B : List Bn} {x : Int} : hasB B x = true ↔ ∃ p ∈ B, p.id = x := by unfold hasB; simp
theorem hasB_no {B : List Bn} {x : Int} : hasB B x = false ↔ ∀ p ∈ B, ¬ p.id = x := by unfold hasB; simp
theorem UpB.eq {B : List Bn} (h : UpB B) {p q : Bn} (hp : p ∈ B) (hq : q ∈ B) (e : p.id = q.id) : p = q := by
  induction B with
  | nil => cases hp
  | cons x l ih =>
    obtain ⟨hx, hl⟩ := List.pairwise_cons.1 h
    rcases List.mem_cons.1 hp with e1 | hp'
    · rcases List.mem_cons.1 hq with f | hq'
      · rw [e1, f]
      · subst e1; exact absurd e (hx q hq')
    · rcases List.mem_cons.1 hq with f | hq'
      · subst f; exact absurd e.symm (hx p hp')
      · exact ih hl hp' hq'
theorem mem_un {B : List Bn} {x : Int} {r : Bn} : r ∈ unB B x ↔ r ∈ B ∧ r.id ≠ x := by unfold unB; simp
theorem UpB.un {B : List Bn} (h : UpB B) (x : Int) : UpB (unB B x) := List.Pairwise.filter _ h
theorem mem_putB {B : List Bn} {q r : Bn} : r ∈ putB B q ↔ (r ∈ B ∧ r.id ≠ q.id) ∨ r = q := by unfold putB; rw [List.mem_append, mem_un]; simp
theorem UpB.put {B : List Bn} (h : UpB B) (q : Bn) : UpB (putB B q) := by
  unfold putB UpB
  rw [List.pairwise_append]
  refine ⟨h.un _, by simp, fun a ha b hb => ?_⟩
  simp at hb
  subst hb
  exact (mem_un.1 ha).2
theorem has_un {B : List Bn} {x y : Int} : hasB (unB B x) y = (hasB B y && !decide (y = x)) := by
  rw [Bool.eq_iff_iff, hasB_iff, Bool.and_eq_true, hasB_iff]
  simp only [Bool.not_eq_true', decide_eq_false_iff_not]
  constructor
  · rintro ⟨p, hp, e⟩
    obtain ⟨h1, h2⟩ := mem_un.1 hp
    exact ⟨⟨p, h1, e⟩, by omega⟩
  · rintro ⟨⟨p, hp, e⟩, h⟩
    exact ⟨p, mem_un.2 ⟨hp, by omega⟩, e⟩
theorem has_putB {B : List Bn} {q : Bn} {y : Int} : hasB (putB B q) y = (hasB B y || decide (q.id = y)) := by
  rw [Bool.eq_iff_iff, hasB_iff, Bool.or_eq_true, hasB_iff, decide_eq_true_eq]
  constructor
  · rintro ⟨p, hp, e⟩
    rcases mem_putB.1 hp with ⟨h, _⟩ | rfl
    · exact .inl ⟨p, h, e⟩
    · exact .inr e
  · rintro (⟨p, hp, e⟩ | e)
    · by_cases hq : p.id = q.id
      · exact ⟨q, mem_putB.2 (.inr rfl), by omega⟩
      · exact ⟨p, mem_putB.2 (.inl ⟨hp, hq⟩), e⟩
    · exact ⟨q, mem_putB.2 (.inr rfl), e⟩
theorem un_none {B : List Bn} {x : Int} (h : hasB B x = false) : unB B x = B := by
  unfold unB
  rw [List.filter_eq_self]
  intro p hp
  simp [hasB_no.1 h p hp]
theorem len_un : ∀ {B : List Bn}, UpB B → ∀ {x : Int}, (unB B x).length + (if hasB B x then 1 else 0) = B.length
  | [], _, x => rfl
  | b :: l, hu, x => by
    obtain ⟨hx, hl⟩ := List.pairwise_cons.1 hu
    have ih := len_un hl (x := x)
    by_cases e : b.id = x
    · have e2 : hasB l x = false := hasB_no.2 fun p hp f => hx p hp (by omega)
      have e1 : hasB (b :: l) x = true := hasB_iff.2 ⟨b, by simp, e⟩
      have e3 : unB (b :: l) x = unB l x := by unfold unB; simp [e]
      rw [e1, e3, un_none e2]
      simp
    · have e2 : hasB (b :: l) x = hasB l x := by unfold hasB; simp [e]
      have e3 : unB (b :: l) x = b :: unB l x := by unfold unB; simp [e]
      rw [e2, e3, List.length_cons, List.length_cons]
      omega
theorem len_putB {B : List Bn} (hu : UpB B) {q : Bn} : (putB B q).length = if hasB B q.id then B.length else B.length + 1 := by
  have := len_un hu (x := q.id)
  unfold putB
  rw [List.length_append]
  cases h : hasB B q.id <;> rw [h] at this <;> simp at this ⊢ <;> omega
theorem till_mem : ∀ {B : List Bn} {x : Int}, hasB B x = true → ∃ p ∈ B, p.id = x ∧ tillB B x = p.till
  | [], _, h => by simp [hasB] at h
  | b :: l, x, h => by
    unfold tillB
    split
    · rename_i e; exact ⟨b, by simp, e, rfl⟩
    · rename_i e
      have : hasB l x = true := by
        obtain ⟨p, hp, e2⟩ := hasB_iff.1 h
        rcases List.mem_cons.1 hp with f | hp'
        · subst f; exact absurd e2 e
        · exact hasB_iff.2 ⟨p, hp', e2⟩
      obtain ⟨p, h1, h2, h3⟩ := till_mem this
      exact ⟨p, List.mem_cons_of_mem _ h1, h2, h3⟩
theorem till_no : ∀ {B : List Bn} {x : Int}, hasB B x = false → tillB B x = 0
  | [], _, _ => rfl
  | b :: l, x, h => by
    have h' := hasB_no.1 h
    unfold tillB
    rw [if_neg (h' b (by simp)), till_no (hasB_no.2 fun p hp => h' p (by simp [hp]))]
abbrev Dm := DataW Unit
theorem keyed : Keyed Try.prog 3 := int_keyed Try.underlying3
theorem wf_of {x : Int} (h : inInt x) : (Lit.int .i64 x).wf = true := WalkArith.wf_i64 h
/-- what an id reads as, as a key -/
def kl (x : Int) : Lit := .int .i64 x
theorem keyOf_int {x : Int} (h : inInt x) : keyOf Try.prog 3 (.int .i64 x) = some (kl x) := keyOf_int_mk Try.underlying3 (wf_of h)
theorem kl_inj {x y : Int} (h : kl x = kl y) : x = y := by unfold kl at h; injection h
theorem kl_key (x : Int) : WideAt.IsKeyLit (kl x) := by simp [kl, WideAt.IsKeyLit]
/-- how a time reads -/
def tiElem (v : Value) : Option (Dm × List MemPlace) :=
  match v with
  | .int .i64 l => some (.lit (.int .i64 l), [])
  | _ => none
theorem tiElem_mk (t : Int) : tiElem (.int .i64 t) = some (.lit (.int .i64 t), []) := rfl
theorem tiElem_of {v : Value} {t : Int} {ps : List MemPlace} (h : tiElem v = some (.lit (.int .i64 t), ps)) : v = .int .i64 t := by
  unfold tiElem at h
  split at h
  · simp at h; rw [h.1]
  · cases h
theorem zero_int (w : World) : (zeroValue 3).run Try.prog w = .ok (.int .i64 0) w := by kernel_rfl

/-! ### a datum and the list of its bans -/
structure Agr (D : Dm) (B : List Bn) : Prop where
  at_ : ∀ p ∈ B, ∀ z, D.atKey (kl p.id) z = .lit (.int .i64 p.till)
  has_ : ∀ x, inInt x → Maps.has D (kl x) = hasB B x
  size : Maps.size D = B.length
theorem agr_nil : Agr (.map []) [] := ⟨fun r hr => (by cases hr), fun a _ => rfl, rfl⟩
theorem Agr.look {D : Dm} {B : List Bn} (h : Agr D B) {x : Int} (hx : inInt x) : D.atKey (kl x) (.lit (.int .i64 0)) = .lit (.int .i64 (tillB B x)) := by
  cases hh : hasB B x
  · rw [atKey_of_not_has (by rw [h.has_ x hx, hh]), till_no hh]
  · obtain ⟨p, h1, h2, h3⟩ := till_mem hh
    have := h.at_ _ h1 (.lit (.int .i64 0))
    rw [h2] at this
    rw [this, h3]
theorem Agr.put {D : Dm} {B : List Bn} (h : Agr D B) (hT : Tidy D) (hu : UpB B) {q : Bn} (hq : inInt q.id) : Agr (D.put (kl q.id) (.lit (.int .i64 q.till))) (putB B q) := by
  refine ⟨fun r hr z => ?_, fun x hx => ?_, ?_⟩
  · rcases mem_putB.1 hr with ⟨h1, h2⟩ | rfl
    · rw [atKey_put_other (fun e => h2 (kl_inj e))]
      exact h.at_ r h1 z
    · exact atKey_put_same hT.isMap (kl_key _) _ _
  · rw [has_putB]
    by_cases e : q.id = x
    · subst e
      rw [has_put_same hT.isMap (kl_key _)]
      simp
    · rw [has_put_other (fun e' => e (kl_inj e').symm), h.has_ x hx]
      simp [e]
  · rw [size_put hT, h.has_ _ hq, h.size, len_putB hu]
theorem Agr.del {D : Dm} {B : List Bn} (h : Agr D B) (hT : Tidy D) (hu : UpB B) {x : Int} (hx : inInt x) : Agr (D.del (kl x)) (unB B x) := by
  refine ⟨fun r hr z => ?_, fun y hy => ?_, ?_⟩
  · obtain ⟨h1, h2⟩ := mem_un.1 hr
    rw [atKey_del_other (fun e => h2 (kl_inj e))]
    exact h.at_ r h1 z
  · rw [has_un]
    by_cases e : y = x
    · subst e
      rw [has_del_same]
      simp
    · rw [has_del_other (fun e' => e (kl_inj e')), h.has_ y hy]
      simp [e]
  · have h1 := size_del (k := kl x) hT
    rw [h.has_ x hx, h.size] at h1
    have h2 := len_un hu (x := x)
    omega

/-- a map of bans in a block -/
def MapAt (w : World) (b : Nat) (B : List Bn) : Prop := ∃ D : Dm, w.ownsMap Try.prog 3 tiElem b B.length D ∧ Agr D B
theorem own_tight {w : World} {b n : Nat} {D : Dm} {R : Value → Option (Dm × List MemPlace)} (h : w.ownsMap Try.prog 3 R b n D) : w.ownsMap Try.prog 3 R b (Maps.size D) D := by
  obtain ⟨es, clock, hb, F, hs, rfl⟩ := h
  exact ⟨es, clock, hb, F, by simp [Maps.size, length_sorted], rfl⟩
theorem map_new (w : World) : MapAt (w.alloc (.map #[] 0)) w.heap.size [] := ⟨.map [], World.ownsMap_made _ _ _ _, agr_nil⟩
section
variable {w w' : World} {b : Nat} {B : List Bn}
theorem MapAt.lt (h : MapAt w b B) : b < w.heap.size := by obtain ⟨D, h, _⟩ := h; exact h.lt
theorem MapAt.kept {row : Option Nat} (h : MapAt w b B) (hg : w.grownBy w' row) (hne : some b ≠ row) : MapAt w' b B := by
  obtain ⟨D, h, r⟩ := h; exact ⟨D, h.kept hg hne, r⟩
theorem MapAt.look_ok (h : MapAt w b B) {x : Int} (hx : inInt x) :
    (Instr.lookup 49 (.map (some b)) (.int .i64 x) true).run Try.prog w = .ok (.tuple #[.int .i64 (tillB B x), .bool (hasB B x)]) w := by
  obtain ⟨D, h, r⟩ := h
  obtain ⟨v, ps, hrun, hv⟩ := h.look_ok keyed Try.underlying49 (zero_int _) (tiElem_mk 0) (keyOf_int hx)
  rw [r.look hx] at hv
  rw [hrun, tiElem_of hv, r.has_ x hx]
theorem MapAt.store (h : MapAt w b B) (hu : UpB B) (hlen : B.length < 1000000) {q : Bn} (hq : inInt q.id) :
    ∃ w', (Instr.mapUpdate 49 (.map (some b)) (.int .i64 q.id) (.int .i64 q.till)).run Try.prog w = .ok () w' ∧ MapAt w' b (putB B q) ∧ w.grownBy w' (some b) := by
  obtain ⟨D, h, r⟩ := h
  obtain ⟨w', hrun, hown, hg⟩ := h.update keyed Try.underlying49 (by unfold maxLen; omega) (keyOf_int hq) (tiElem_mk q.till)
  have hagr := r.put (h.tidy keyed) hu hq
  refine ⟨w', hrun, ⟨_, ?_, hagr⟩, hg⟩
  rw [← hagr.size]
  exact own_tight hown

end
/-- a map lies in no block that holds cells -/
theorem blk_map_ne {w : World} {g b : Nat} {t : TypeId} {cs : Array Value} {B : List Bn} (h : Blk w g t cs) (hs : MapAt w b B) : g ≠ b := by
  intro e
  obtain ⟨D, ⟨es, clock, hh, _⟩, _⟩ := hs
  unfold Blk at h
  rw [e, hh] at h
  cases h
section
variable (w : World) {ops : Array Oper} {rest : List Oper} {o : Oper} {a : Act} {Q : Exit → Act → World → Prop}
theorem wpList_look_ok (hg : o.guard = none) (m x : Operand) (hop : o.op = Op.lookup 49 m x true) (b : Nat) (B : List Bn) (id p : Int) (q : Bool)
    (hm : a.eval m = .map (some b)) (hx : a.eval x = .int .i64 id) (h : MapAt w b B) (hi : inInt id) (hp : tillB B id = p) (hq : hasB B id = q)
    (hK : wpList Try.prog ops Q rest (a.put o.dst (.tuple #[.int .i64 p, .bool q])) w) : wpList Try.prog ops Q (o :: rest) a w := by
  refine wpList_plain hg fun K' hK' => ?_
  have hrun := h.look_ok hi
  rw [hp, hq] at hrun
  unfold Oper.wp
  simp [execOp, hop, hm, hx, hrun, Result.andThen]
  exact hK' _ _ hK
theorem wpList_update_map (hg : o.guard = none) (m x v : Operand) (hop : o.op = Op.mapUpdate 49 m x v) (b : Nat) (B : List Bn) (q : Bn)
    (hm : a.eval m = .map (some b)) (hx : a.eval x = .int .i64 q.id) (hv : a.eval v = .int .i64 q.till) (h : MapAt w b B) (hu : UpB B) (hlen : B.length < 1000000) (hi : inInt q.id)
    (hK : ∀ w', MapAt w' b (putB B q) → w.grownBy w' (some b) → wpList Try.prog ops Q rest (a.put o.dst undef) w') : wpList Try.prog ops Q (o :: rest) a w := by
  refine wpList_plain hg fun K' hK' => ?_
  obtain ⟨w', hrun, r1, r2⟩ := h.store hu hlen hi
  unfold Oper.wp
  simp [execOp, hop, hm, hx, hv, hrun, Result.andThen]
  exact hK' _ _ (hK w' r1 r2)
end
end Go.Proofs.Ytmjbacmaafbdlaa.Mp
