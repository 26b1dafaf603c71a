/-
  WHAT IS PROVED: maps from ids to peers, as lists of peers: look-up, store, delete. No condition beyond the keys' range.
-/
import Derived.Test.YtcphodnenhnalaaPlain
import Derived.Test.YtcphodnenhnalaaInts
import Derived.Maps.RangeWalk
import Derived.Maps.OwnOps
namespace Go.Proofs.Ytcphodnenhnalaa
open Go.RowKit Go.Lib Go.Maps

def inInt (z : Int) : Prop := -9223372036854775808 ≤ z ∧ z ≤ 9223372036854775807
abbrev Dm := DataW Unit
theorem keyed : Keyed Try.prog 3 := int_keyed Try.underlying3
theorem wf_of {x : Int} (h : inInt x) : (Lit.int .i64 x).wf = true := WalkArith.wf_i64 h
/-- what an id reads as, as a key -/
def kl (x : Int) : Lit := .int .i64 x
theorem keyOf_int {x : Int} (h : inInt x) : keyOf Try.prog 3 (.int .i64 x) = some (kl x) := keyOf_int_mk Try.underlying3 (wf_of h)
theorem keyOf_inv {v : Value} {l : Lit} (h : keyOf Try.prog 3 v = some l) : ∃ x, inInt x ∧ v = .int .i64 x ∧ l = kl x := by
  obtain ⟨x, rfl, rfl, hw⟩ := Maps.keyOf_int_inv Try.underlying3 h
  exact ⟨x, wf_i64 hw, rfl, rfl⟩
theorem kl_inj {x y : Int} (h : kl x = kl y) : x = y := by unfold kl at h; injection h
theorem kl_key (x : Int) : WideAt.IsKeyLit (kl x) := by simp [kl, WideAt.IsKeyLit]

/-- a peer as the program's map holds it -/
abbrev vPr (p : Pr) : Value := .agg #[.int .i64 p.last, .bool p.waits, .int .i64 p.since]
def datP (p : Pr) : Dm := .agg [.lit (.int .i64 p.last), .lit (.bool p.waits), .lit (.int .i64 p.since)]
/-- how it reads -/
def prElem (v : Value) : Option (Dm × List MemPlace) :=
  match v with
  | .agg ⟨[.int .i64 l, .bool b, .int .i64 s]⟩ => some (.agg [.lit (.int .i64 l), .lit (.bool b), .lit (.int .i64 s)], [])
  | _ => none
theorem prElem_mk (p : Pr) : prElem (vPr p) = some (datP p, []) := rfl
theorem prElem_inv {v : Value} {z : Dm × List MemPlace} (h : prElem v = some z) : ∃ l b s, v = .agg #[.int .i64 l, .bool b, .int .i64 s] ∧ z = (.agg [.lit (.int .i64 l), .lit (.bool b), .lit (.int .i64 s)], []) := by
  unfold prElem at h
  split at h
  · rename_i l b s
    cases h
    exact ⟨l, b, s, rfl, rfl⟩
  · cases h
theorem prElem_of {v : Value} {p : Pr} {ps : List MemPlace} (h : prElem v = some (datP p, ps)) : v = vPr p := by
  obtain ⟨l, b, s, rfl, hz⟩ := prElem_inv h
  unfold datP at hz
  simp at hz
  obtain ⟨⟨h1, h2, h3⟩, _⟩ := hz
  rw [← h1, ← h2, ← h3]
theorem datP_inv {p : Pr} {l s : Int} {b : Bool} (h : datP p = .agg [.lit (.int .i64 l), .lit (.bool b), .lit (.int .i64 s)]) : p.last = l ∧ p.waits = b ∧ p.since = s := by
  unfold datP at h
  simpa using h
theorem zero_pr (w : World) : (zeroValue 52).run Try.prog w = .ok (.agg #[.int .i64 0, .bool false, .int .i64 0]) w := by kernel_rfl
theorem zero_read : prElem (.agg #[.int .i64 0, .bool false, .int .i64 0]) = some (datP ⟨0, 0, false, 0⟩, []) := rfl

/-! ### a datum and the list of its peers -/
structure Agr (D : Dm) (L : List Pr) : Prop where
  at_ : ∀ p ∈ L, ∀ z, D.atKey (kl p.id) z = datP p
  has_ : ∀ x, inInt x → Maps.has D (kl x) = hasL L x
  size : Maps.size D = L.length
theorem agr_nil : Agr (.map []) [] := ⟨fun r hr => (by cases hr), fun a _ => rfl, rfl⟩
theorem ok_in {p : Pr} (h : okPr p) : inInt p.id := by unfold okPr at h; unfold inInt; omega
theorem Agr.look {D : Dm} {L : List Pr} (h : Agr D L) {x : Int} (hx : inInt x) : D.atKey (kl x) (datP ⟨0, 0, false, 0⟩) = datP (getL L x) := by
  cases hh : hasL L x
  · rw [atKey_of_not_has (by rw [h.has_ x hx, hh]), get_no hh]; rfl
  · obtain ⟨h1, h2⟩ := get_mem hh
    have := h.at_ _ h1 (datP ⟨0, 0, false, 0⟩)
    rwa [h2] at this
theorem Agr.put {D : Dm} {L : List Pr} (h : Agr D L) (hT : Tidy D) (hu : Up L) {q : Pr} (hq : inInt q.id) : Agr (D.put (kl q.id) (datP q)) (insL L q) := by
  refine ⟨fun r hr z => ?_, fun x hx => ?_, ?_⟩
  · rcases (mem_ins hu).1 hr with ⟨h1, h2⟩ | rfl
    · rw [atKey_put_other (fun e => h2 (kl_inj e))]
      exact h.at_ r h1 z
    · exact atKey_put_same hT.isMap (kl_key _) _ _
  · rw [has_ins hu]
    by_cases e : q.id = x
    · subst e
      rw [has_put_same hT.isMap (kl_key _)]
      simp
    · rw [has_put_other (fun e' => e (kl_inj e').symm), h.has_ x hx]
      simp [e]
  · rw [size_put hT, h.has_ _ hq, h.size, len_ins hu]
theorem Agr.del {D : Dm} {L : List Pr} (h : Agr D L) (hT : Tidy D) (hu : Up L) {x : Int} (hx : inInt x) : Agr (D.del (kl x)) (delL L x) := by
  refine ⟨fun r hr z => ?_, fun y hy => ?_, ?_⟩
  · obtain ⟨h1, h2⟩ := mem_del.1 hr
    rw [atKey_del_other (fun e => h2 (kl_inj e))]
    exact h.at_ r h1 z
  · rw [has_del]
    by_cases e : y = x
    · subst e
      rw [has_del_same]
      simp
    · rw [has_del_other (fun e' => e (kl_inj e')), h.has_ y hy]
      simp [e]
  · have h1 := size_del (k := kl x) hT
    rw [h.has_ x hx, h.size] at h1
    have h2 := len_del hu (x := x)
    omega

/-- a map of peers in a block -/
def MapAt (w : World) (b : Nat) (L : List Pr) : Prop := ∃ D : Dm, w.ownsMap Try.prog 3 prElem b L.length D ∧ Agr D L
theorem own_tight {w : World} {b n : Nat} {D : Dm} {R : Value → Option (Dm × List MemPlace)} (h : w.ownsMap Try.prog 3 R b n D) : w.ownsMap Try.prog 3 R b (Maps.size D) D := by
  obtain ⟨es, clock, hb, F, hs, rfl⟩ := h
  exact ⟨es, clock, hb, F, by simp [Maps.size, length_sorted], rfl⟩
theorem map_new (w : World) : MapAt (w.alloc (.map #[] 0)) w.heap.size [] := ⟨.map [], World.ownsMap_made _ _ _ _, agr_nil⟩
section
variable {w w' : World} {b : Nat} {L : List Pr}
theorem MapAt.lt (h : MapAt w b L) : b < w.heap.size := by obtain ⟨D, h, _⟩ := h; exact h.lt
theorem MapAt.kept {row : Option Nat} (h : MapAt w b L) (hg : w.grownBy w' row) (hne : some b ≠ row) : MapAt w' b L := by
  obtain ⟨D, h, r⟩ := h; exact ⟨D, h.kept hg hne, r⟩
theorem MapAt.look_ok (h : MapAt w b L) {x : Int} (hx : inInt x) :
    (Instr.lookup 44 (.map (some b)) (.int .i64 x) true).run Try.prog w = .ok (.tuple #[vPr (getL L x), .bool (hasL L x)]) w := by
  obtain ⟨D, h, r⟩ := h
  obtain ⟨v, ps, hrun, hv⟩ := h.look_ok keyed Try.underlying44 (zero_pr _) zero_read (keyOf_int hx)
  rw [r.look hx] at hv
  rw [hrun, prElem_of hv, r.has_ x hx]
theorem MapAt.look (h : MapAt w b L) {x : Int} (hx : inInt x) :
    (Instr.lookup 44 (.map (some b)) (.int .i64 x) false).run Try.prog w = .ok (vPr (getL L x)) w := by
  obtain ⟨D, h, r⟩ := h
  obtain ⟨v, ps, hrun, hv⟩ := h.lookup keyed Try.underlying44 (zero_pr _) zero_read (keyOf_int hx)
  rw [r.look hx] at hv
  rw [hrun, prElem_of hv]
theorem MapAt.store (h : MapAt w b L) (hu : Up L) (hlen : L.length < 1000) {q : Pr} (hq : inInt q.id) :
    ∃ w', (Instr.mapUpdate 44 (.map (some b)) (.int .i64 q.id) (vPr q)).run Try.prog w = .ok () w' ∧ MapAt w' b (insL L q) ∧ w.grownBy w' (some b) := by
  obtain ⟨D, h, r⟩ := h
  obtain ⟨w', hrun, hown, hg⟩ := h.update keyed Try.underlying44 (by unfold maxLen; omega) (keyOf_int hq) (prElem_mk q)
  have hagr := r.put (h.tidy keyed) hu hq
  refine ⟨w', hrun, ⟨_, ?_, hagr⟩, hg⟩
  rw [← hagr.size]
  exact own_tight hown
theorem MapAt.del (h : MapAt w b L) (hu : Up L) {x : Int} (hx : inInt x) (ty : TypeId) :
    ∃ w', (Builtin.delete_ #[44, 3] ty #[.map (some b), .int .i64 x]).run Try.prog w = .ok (.tuple #[]) w' ∧ MapAt w' b (delL L x) ∧ w.grownBy w' (some b) := by
  obtain ⟨D, h, r⟩ := h
  obtain ⟨w', hrun, hown, hg⟩ := h.drop keyed Try.underlying44 (keyOf_int hx) ty
  have hagr := r.del (h.tidy keyed) hu hx
  refine ⟨w', hrun, ⟨_, ?_, hagr⟩, hg.grown⟩
  rw [← hagr.size]
  exact own_tight hown
end
/-- a map lies in no block that holds cells -/
theorem Blk.map_ne {w : World} {g b : Nat} {t : TypeId} {cs : Array Value} {L : List Pr} (h : Blk w g t cs) (hs : MapAt w b L) : g ≠ b := by
  intro e
  obtain ⟨D, ⟨es, clock, hh, _⟩, _⟩ := hs
  unfold Blk at h
  rw [e, hh] at h
  cases h
theorem cell_map_ne {w : World} {a : Addr} {v : Value} {b : Nat} {L : List Pr} (h : w.cell? a = some v) (hs : MapAt w b L) : a.block ≠ b := by
  intro e
  obtain ⟨D, ⟨es, clock, hh, _⟩, _⟩ := hs
  unfold World.cell? at h
  rw [e, hh] at h
  simp at h
end Go.Proofs.Ytcphodnenhnalaa
