/-
  WHAT IS PROVED: maps from names to files, as lists of files: look-up, store, delete, the names. No condition beyond the names' lengths.
-/
import Derived.Test.YtdoahbegcfhegaaPlain
import Derived.Test.YtdoahbegcfhegaaMem
import Derived.Maps.RangeWalk
import Derived.Maps.OwnOps
import Derived.StringKeys
import Derived.Sort.KeysCollected
namespace Go.Proofs.Ytdoahbegcfhegaa
open Go.RowKit Go.Lib Go.Maps Go.Sort

abbrev Dm := DataW Value
theorem keyed : Keyed Try.prog 9 := string_keyed Try.underlying9
/-- what a name reads as, as a key -/
def kl (x : List UInt8) : Lit := .string x
theorem keyOf_name {x : List UInt8} (h : x.length ≤ 1000) : keyOf Try.prog 9 (.string (str x)) = some (kl x) := by
  have := Go.WideMaps.keyOf_string_mk Try.underlying9 (s := str x) (by rw [str_size]; unfold maxLen; omega)
  rw [this]; rfl
theorem kl_inj {x y : List UInt8} (h : kl x = kl y) : x = y := by unfold kl at h; injection h
theorem kl_key (x : List UInt8) : WideAt.IsKeyLit (kl x) := by simp [kl, WideAt.IsKeyLit]
/-- how a file reads: as it is -/
def fiElem (v : Value) : Option (Dm × List MemPlace) := some (.held v, [])
/-- a file's value -/
abbrev vF (A : Option Addr) (n c : Nat) (s : Bool) : Value := .agg #[.slice A n c, .bool s]
theorem zero_file (w : World) : (zeroValue 53).run Try.prog w = .ok (vF none 0 0 false) w := by kernel_rfl

/-- the value of the file f -/
def Vf (w : World) (F : Nat → Prop) (f : Fl) (v : Value) : Prop := ∃ A n c, v = .agg #[.slice A n c, .bool f.safe] ∧ f.b.length = n ∧ n ≤ c ∧ c ≤ 9223372036854775807 ∧ Rd w F 1 A n (bs f.b)
theorem Vf.turn {w w' : World} {F F' : Nat → Prop} {f : Fl} {v : Value} (h : Vf w F f v) (hb : Turn w w' F) (hs : Sub w F F') : Vf w' F' f v := by
  obtain ⟨A, n, c, e, hl, hc, hm, hr⟩ := h
  exact ⟨A, n, c, e, hl, hc, hm, hr.turn hb hs⟩
theorem Vf.zero (w : World) (F : Nat → Prop) (x : List UInt8) : Vf w F ⟨x, [], false⟩ (vF none 0 0 false) := ⟨none, 0, 0, rfl, rfl, Nat.le_refl _, by omega, Rd.nil_ w F 1 none⟩

/-! ### a datum and the list of its files -/
structure Agr (w : World) (F : Nat → Prop) (D : Dm) (l : List Fl) : Prop where
  at_ : ∀ f ∈ l, ∃ v, (∀ z, D.atKey (kl f.name) z = .held v) ∧ Vf w F f v
  has_ : ∀ x, Maps.has D (kl x) = hasF l x
  size : Maps.size D = l.length
section
variable {w w' : World} {F F' : Nat → Prop} {D : Dm} {l : List Fl}
theorem agr_nil : Agr w F (.map []) [] := ⟨fun r hr => (by cases hr), fun a => rfl, rfl⟩
theorem Agr.turn (h : Agr w F D l) (hb : Turn w w' F) (hs : Sub w F F') : Agr w' F' D l :=
  ⟨fun f hf => by obtain ⟨v, h1, h2⟩ := h.at_ f hf; exact ⟨v, h1, h2.turn hb hs⟩, h.has_, h.size⟩
theorem Agr.look (h : Agr w F D l) (x : List UInt8) : ∃ v, D.atKey (kl x) (.held (vF none 0 0 false)) = .held v ∧ Vf w F (getF l x) v := by
  cases hh : hasF l x
  · exact ⟨_, atKey_of_not_has (by rw [h.has_ x, hh]) _, by rw [getF_none hh]; exact Vf.zero w F x⟩
  · obtain ⟨v, h1, h2⟩ := h.at_ _ (getF_mem hh)
    rw [getF_name] at h1
    exact ⟨v, h1 _, h2⟩
theorem Agr.put (h : Agr w F D l) (hT : Tidy D) (hu : Good l) {q : Fl} {v : Value} (hv : Vf w F q v) : Agr w F (D.put (kl q.name) (.held v)) (putF l q) := by
  refine ⟨fun r hr => ?_, fun x => ?_, ?_⟩
  · rcases mem_putF.1 hr with rfl | ⟨h1, h2⟩
    · exact ⟨v, fun z => atKey_put_same hT.isMap (kl_key _) _ _, hv⟩
    · obtain ⟨v', e1, e2⟩ := h.at_ r h1
      exact ⟨v', fun z => by rw [atKey_put_other (fun e => h2 (kl_inj e))]; exact e1 z, e2⟩
  · rw [has_putF]
    by_cases e : x = q.name
    · subst e
      rw [has_put_same hT.isMap (kl_key _)]
      simp
    · rw [has_put_other (fun e' => e (kl_inj e')), h.has_ x]
      simp [e]
  · rw [size_put hT, h.has_, h.size, len_putF hu]
theorem Agr.del (h : Agr w F D l) (hT : Tidy D) (hu : Good l) (x : List UInt8) : Agr w F (D.del (kl x)) (delF l x) := by
  refine ⟨fun r hr => ?_, fun y => ?_, ?_⟩
  · obtain ⟨h1, h2⟩ := mem_delF.1 hr
    obtain ⟨v', e1, e2⟩ := h.at_ r h1
    exact ⟨v', fun z => by rw [atKey_del_other (fun e => h2 (kl_inj e))]; exact e1 z, e2⟩
  · rw [has_delF]
    by_cases e : y = x
    · subst e
      rw [has_del_same]
      simp
    · rw [has_del_other (fun e' => e (kl_inj e')), h.has_ y]
      simp [e]
  · have h1 := size_del (k := kl x) hT
    rw [h.has_ x, h.size] at h1
    have h2 := len_delF hu (x := x)
    omega
end

/-- a map of files in a block -/
def MapAt (w : World) (F : Nat → Prop) (b : Nat) (l : List Fl) : Prop := ∃ D : Dm, w.ownsMap Try.prog 9 fiElem b l.length D ∧ Agr w F D l
theorem own_tight {w : World} {b n : Nat} {D : Dm} {R : Value → Option (Dm × List MemPlace)} (h : w.ownsMap Try.prog 9 R b n D) : w.ownsMap Try.prog 9 R b (Maps.size D) D := by
  obtain ⟨es, clock, hb, F, hs, rfl⟩ := h
  exact ⟨es, clock, hb, F, by simp [Maps.size, length_sorted], rfl⟩
theorem map_new (w : World) (F : Nat → Prop) : MapAt (w.alloc (.map #[] 0)) F w.heap.size [] := ⟨.map [], World.ownsMap_made _ _ _ _, agr_nil⟩
section
variable {w w' : World} {b : Nat} {F F' : Nat → Prop} {l : List Fl}
theorem MapAt.lt (h : MapAt w F b l) : b < w.heap.size := by obtain ⟨D, h, _⟩ := h; exact h.lt
theorem own_turn_map {n : Nat} {D : Dm} {R : Value → Option (Dm × List MemPlace)} (h : w.ownsMap Try.prog 9 R b n D) (e : w'.heap[b]? = w.heap[b]?) : w'.ownsMap Try.prog 9 R b n D := by
  obtain ⟨es, clock, hb, r⟩ := h
  exact ⟨es, clock, e.trans hb, r⟩
/-- the block stays as it is, and so does what lies outside of F -/
theorem MapAt.kept (h : MapAt w F b l) (hb : Turn w w' F) (hs : Sub w F F') (e : w'.heap[b]? = w.heap[b]?) : MapAt w' F' b l := by
  obtain ⟨D, h1, h2⟩ := h
  exact ⟨D, own_turn_map h1 e, h2.turn hb hs⟩
theorem MapAt.look_ok (h : MapAt w F b l) {x : List UInt8} (hx : x.length ≤ 1000) :
    ∃ v, (Instr.lookup 47 (.map (some b)) (.string (str x)) true).run Try.prog w = .ok (.tuple #[v, .bool (hasF l x)]) w ∧ Vf w F (getF l x) v := by
  obtain ⟨D, h, r⟩ := h
  obtain ⟨v, ps, hrun, hv⟩ := h.look_ok keyed Try.underlying47 (zero_file _) (zp := []) rfl (keyOf_name hx)
  obtain ⟨v', e1, e2⟩ := r.look x
  rw [e1] at hv
  injection hv with hv
  injection hv with hv _
  injection hv with hv
  subst hv
  exact ⟨v, by rw [hrun, r.has_ x], e2⟩
theorem MapAt.look (h : MapAt w F b l) {x : List UInt8} (hx : x.length ≤ 1000) :
    ∃ v, (Instr.lookup 47 (.map (some b)) (.string (str x)) false).run Try.prog w = .ok v w ∧ Vf w F (getF l x) v := by
  obtain ⟨D, h, r⟩ := h
  obtain ⟨v, ps, hrun, hv⟩ := h.lookup keyed Try.underlying47 (zero_file _) (zp := []) rfl (keyOf_name hx)
  obtain ⟨v', e1, e2⟩ := r.look x
  rw [e1] at hv
  injection hv with hv
  injection hv with hv _
  injection hv with hv
  subst hv
  exact ⟨v, hrun, e2⟩
theorem MapAt.store (h : MapAt w F b l) (hF : F b) (hu : Good l) (hlen : l.length < 1000000) {q : Fl} {v : Value} (hq : q.name.length ≤ 1000) (hv : Vf w F q v) :
    ∃ w', (Instr.mapUpdate 47 (.map (some b)) (.string (str q.name)) v).run Try.prog w = .ok () w' ∧ MapAt w' F b (putF l q) ∧ w.grownBy w' (some b) := by
  obtain ⟨D, h, r⟩ := h
  obtain ⟨w', hrun, hown, hg⟩ := h.update keyed Try.underlying47 (by unfold maxLen; omega) (keyOf_name hq) (d := .held v) (ps := []) rfl
  have ht : Turn w w' F := Turn.of_grown hg (fun k e => by injection e with e; rw [← e]; exact hF)
  have hagr := (r.put (h.tidy keyed) hu hv).turn ht (Sub.refl w F)
  refine ⟨w', hrun, ⟨_, ?_, hagr⟩, hg⟩
  rw [← hagr.size]
  exact own_tight hown
theorem MapAt.del (h : MapAt w F b l) (hF : F b) (hu : Good l) {x : List UInt8} (hx : x.length ≤ 1000) (ty : TypeId) :
    ∃ w', (Builtin.delete_ #[47, 9] ty #[.map (some b), .string (str x)]).run Try.prog w = .ok (.tuple #[]) w' ∧ MapAt w' F b (delF l x) ∧ w.grownBy w' (some b) := by
  obtain ⟨D, h, r⟩ := h
  obtain ⟨w', hrun, hown, hg⟩ := h.drop keyed Try.underlying47 (keyOf_name hx) ty
  have ht : Turn w w' F := Turn.of_grown hg.grown (fun k e => by injection e with e; rw [← e]; exact hF)
  have hagr := (r.del (h.tidy keyed) hu x).turn ht (Sub.refl w F)
  refine ⟨w', hrun, ⟨_, ?_, hagr⟩, hg.grown⟩
  rw [← hagr.size]
  exact own_tight hown
end
/-- a map lies in no block that holds cells -/
theorem Blk.map_ne {w : World} {g b : Nat} {t : TypeId} {cs : Array Value} {F : Nat → Prop} {l : List Fl} (h : Blk w g t cs) (hs : MapAt w F b l) : g ≠ b := by
  intro e
  obtain ⟨D, ⟨es, clock, hh, _⟩, _⟩ := hs
  unfold Blk at h
  rw [e, hh] at h
  cases h
end Go.Proofs.Ytdoahbegcfhegaa
