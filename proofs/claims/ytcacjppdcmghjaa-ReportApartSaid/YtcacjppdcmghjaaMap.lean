/-
  WHAT IS PROVED: maps keyed by pairs of ints, as lists of reports: look-up, store, delete, the entries gone through. No condition beyond the keys' range.
-/
import Derived.Test.YtcacjppdcmghjaaMem
import Derived.DeepKeys4
import Derived.Maps.RangeWalk
import Derived.Maps.OwnOps
namespace Go.Proofs.Ytcacjppdcmghjaa
open Go.RowKit Go.Lib Go.Maps

theorem pair_row : (56 : TypeId) < Try.prog.types.size := of_decide_eq_true (by kernel_rfl)
theorem pair_wide : (match Try.prog.underlying 56 with | some (.array _ _) | some (.struct _) => true | _ => false) = true := by rw [Try.underlying56]
theorem keyed : Keyed Try.prog 56 := Keyed.of_law (deep_law_laid laid_ok (m := 2) (by omega) pair_row (by kernel_rfl) pair_wide)
theorem types_two : ∃ d, Try.prog.types.size + 1 = d + 1 + 1 := by
  have h : 0 < Try.prog.types.size := Nat.lt_of_le_of_lt (Nat.zero_le _) pair_row
  obtain ⟨d, hd⟩ := Nat.exists_eq_succ_of_ne_zero (Nat.ne_of_gt h)
  exact ⟨d, by rw [hd]⟩
theorem cells_pair : Try.prog.cellsOf 56 = 2 := by kernel_rfl
theorem keytype_pair : Try.prog.keyType 56 = true := by kernel_rfl

/-- what a pair reads as, as a key -/
def kl (a b : Int) : Lit := .string (keyBytes [.int .i64 a, .int .i64 b])
abbrev vPair (a b : Int) : Value := .agg #[.int .i64 a, .int .i64 b]
theorem wf_of {x : Int} (h : inInt x) : (Lit.int .i64 x).wf = true := WalkArith.wf_i64 h
theorem lits_int (d : Nat) {x : Int} (h : inInt x) : Try.prog.keyLits (d + 1) 3 [.int .i64 x] = some [.int .i64 x] := by
  unfold Program.keyLits
  rw [Try.underlying3]
  simp [wf_of h]
theorem lits_int_inv (d : Nat) {c : Value} {ls : List Lit} (h : Try.prog.keyLits (d + 1) 3 [c] = some ls) : ∃ x, c = .int .i64 x ∧ inInt x ∧ ls = [.int .i64 x] := by
  unfold Program.keyLits at h
  rw [Try.underlying3] at h
  cases c <;> simp at h
  obtain ⟨⟨rfl, hw⟩, rfl⟩ := h
  exact ⟨_, rfl, wf_i64 hw, rfl⟩
theorem keyOf_pair {a b : Int} (ha : inInt a) (hb : inInt b) : keyOf Try.prog 56 (vPair a b) = some (kl a b) := by
  have hf : (vPair a b).formed Try.prog 56 = true := by simp [Value.formed, Try.underlying56, cells_pair]
  have hl : ∀ d, Try.prog.keyLits (d + 1 + 1) 56 [.int .i64 a, .int .i64 b] = some [.int .i64 a, .int .i64 b] := fun d => by
    unfold Program.keyLits
    rw [Try.underlying56]
    simp [cells_pair, cells_int, lits_int d ha, lits_int d hb]
  unfold keyOf
  rw [Try.underlying56]
  simp only [keytype_pair, hf, Bool.and_self, if_true, Value.cells]
  obtain ⟨d, hd⟩ := types_two
  rw [hd, hl d]
  rfl
theorem keyOf_inv {v : Value} {l : Lit} (h : keyOf Try.prog 56 v = some l) : ∃ a b, inInt a ∧ inInt b ∧ v = vPair a b ∧ l = kl a b := by
  unfold keyOf at h
  rw [Try.underlying56] at h
  simp only [keytype_pair, Bool.true_and] at h
  split at h
  · rename_i hf
    obtain ⟨d, hd⟩ := types_two
    rw [hd] at h
    cases v <;> simp [Value.formed, Try.underlying56, cells_pair] at hf
    rename_i cs
    obtain ⟨c0, c1, e⟩ : ∃ c0 c1, cs = #[c0, c1] := by
      match cs, hf with
      | ⟨[c0, c1]⟩, _ => exact ⟨c0, c1, rfl⟩
    subst e
    simp only [Value.cells] at h
    unfold Program.keyLits at h
    rw [Try.underlying56] at h
    cases e0 : Try.prog.keyLits (d + 1) 3 [c0] with
    | none => simp [cells_pair, cells_int, e0] at h
    | some l0 =>
      cases e1 : Try.prog.keyLits (d + 1) 3 [c1] with
      | none => simp [cells_pair, cells_int, e0, e1] at h
      | some l1 =>
        obtain ⟨a, rfl, ha, rfl⟩ := lits_int_inv d e0
        obtain ⟨b, rfl, hb, rfl⟩ := lits_int_inv d e1
        simp [cells_pair, cells_int, e0, e1] at h
        exact ⟨a, b, ha, hb, rfl, h.symm⟩
  · cases h
theorem kl_inj {a b c d : Int} (ha : inInt a) (hb : inInt b) (hc : inInt c) (hd : inInt d) (h : kl a b = kl c d) : a = c ∧ b = d := by
  have := keyed.inj (keyOf_pair ha hb) (h ▸ keyOf_pair hc hd)
  simp at this
  exact this
theorem kl_key (a b : Int) : WideAt.IsKeyLit (kl a b) := by simp [kl, WideAt.IsKeyLit]
theorem zero_int (w : World) : (zeroValue 3).run Try.prog w = .ok (.int .i64 0) w := by kernel_rfl
theorem ok_in {r : Rp} (h : okRp r) : inInt r.a ∧ inInt r.b ∧ inInt r.t := by unfold okRp at h; unfold inInt; omega

/-! ### a datum and the list of its reports -/
abbrev Dm := DataW Unit
structure Agr (D : Dm) (L : List Rp) : Prop where
  at_ : ∀ r ∈ L, ∀ z, D.atKey (kl r.a r.b) z = .lit (.int .i64 r.t)
  has_ : ∀ a b, inInt a → inInt b → Maps.has D (kl a b) = hasL L a b
  size : Maps.size D = L.length
theorem agr_nil : Agr (.map []) [] := ⟨fun r hr => (by cases hr), fun a b _ _ => rfl, rfl⟩
theorem Agr.look {D : Dm} {L : List Rp} (h : Agr D L) (hu : Good L) {a b : Int} (ha : inInt a) (hb : inInt b) : D.atKey (kl a b) (.lit (.int .i64 0)) = .lit (.int .i64 (atL L a b)) := by
  cases hh : hasL L a b
  · rw [atKey_of_not_has (by rw [h.has_ a b ha hb, hh]), atL_no (hasL_no.1 hh)]
  · obtain ⟨r, hr, hk⟩ := hasL_iff.1 hh
    rw [atL_mem hu.1 hr hk, ← hk.1, ← hk.2]
    exact h.at_ r hr _
theorem Agr.put {D : Dm} {L : List Rp} (h : Agr D L) (hT : Tidy D) (hu : Good L) {a b t : Int} (he : noteE a b t = 0) :
    Agr (D.put (kl a b) (.lit (.int .i64 (max (atL L a b) t)))) (putL L a b t) := by
  obtain ⟨ha, hb, ht, _⟩ := noteE_zero he
  have ia : inInt a := by unfold inInt; omega
  have ib : inInt b := by unfold inInt; omega
  have hg := hu.put he
  refine ⟨fun r hr z => ?_, fun c d hc hd => ?_, ?_⟩
  · obtain ⟨ra, rb, _⟩ := ok_in (hg.2 r hr)
    rcases (mem_put hu.1).1 hr with ⟨h1, h2⟩ | ⟨⟨h1, h2⟩, h3⟩
    · rw [atKey_put_other (fun e => h2 (kl_inj ra rb ia ib e))]
      exact h.at_ r h1 z
    · rw [h1, h2, atKey_put_same hT.isMap (kl_key a b), h3]
      split
      · rfl
      · rename_i hn
        rw [atL_no (hasL_no.1 (by simpa using hn)), show max 0 t = t by omega]
  · by_cases e : c = a ∧ d = b
    · obtain ⟨rfl, rfl⟩ := e
      rw [has_put_same hT.isMap (kl_key c d)]
      symm
      rw [hasL_iff]
      refine ⟨⟨c, d, if hasL L c d then max (atL L c d) t else t⟩, (mem_put hu.1).2 (.inr ⟨⟨rfl, rfl⟩, rfl⟩), rfl, rfl⟩
    · rw [has_put_other (fun e' => e (kl_inj hc hd ia ib e')), h.has_ c d hc hd, Bool.eq_iff_iff, hasL_iff, hasL_iff]
      constructor
      · rintro ⟨r, hr, hk⟩
        exact ⟨r, (mem_put hu.1).2 (.inl ⟨hr, fun hk2 => e ⟨hk.1.symm.trans hk2.1, hk.2.symm.trans hk2.2⟩⟩), hk⟩
      · rintro ⟨r, hr, hk⟩
        rcases (mem_put hu.1).1 hr with ⟨h1, _⟩ | ⟨⟨h1, h2⟩, _⟩
        · exact ⟨r, h1, hk⟩
        · exact absurd ⟨hk.1.symm.trans h1, hk.2.symm.trans h2⟩ e
  · rw [size_put hT, h.has_ a b ia ib, h.size, len_put]
/-- those that are not of these two -/
def dropL (L : List Rp) (a b : Int) : List Rp := L.filter fun r => !decide (r.is a b)
theorem mem_drop {L : List Rp} {a b : Int} {r : Rp} : r ∈ dropL L a b ↔ r ∈ L ∧ ¬ r.is a b := by unfold dropL; simp
theorem Agr.del {D : Dm} {L : List Rp} (h : Agr D L) (hT : Tidy D) (hu : Good L) {a b : Int} (ia : inInt a) (ib : inInt b) : Agr (D.del (kl a b)) (dropL L a b) := by
  refine ⟨fun r hr z => ?_, fun c d hc hd => ?_, ?_⟩
  · obtain ⟨h1, h2⟩ := mem_drop.1 hr
    obtain ⟨ra, rb, _⟩ := ok_in (hu.2 r h1)
    rw [atKey_del_other (fun e => h2 (kl_inj ra rb ia ib e))]
    exact h.at_ r h1 z
  · by_cases e : c = a ∧ d = b
    · obtain ⟨rfl, rfl⟩ := e
      rw [has_del_same]
      symm
      rw [hasL_no]
      exact fun r hr => (mem_drop.1 hr).2
    · rw [has_del_other (fun e' => e (kl_inj hc hd ia ib e')), h.has_ c d hc hd, Bool.eq_iff_iff, hasL_iff, hasL_iff]
      constructor
      · rintro ⟨r, hr, hk⟩
        exact ⟨r, mem_drop.2 ⟨hr, fun hk2 => e ⟨hk.1.symm.trans hk2.1, hk.2.symm.trans hk2.2⟩⟩, hk⟩
      · rintro ⟨r, hr, hk⟩
        exact ⟨r, (mem_drop.1 hr).1, hk⟩
  · have h1 := size_del (k := kl a b) hT
    rw [h.has_ a b ia ib, h.size] at h1
    have h2 : (dropL L a b).length + (if hasL L a b then 1 else 0) = L.length := by
      clear h1 h hT
      induction L with
      | nil => rfl
      | cons x l ih =>
        obtain ⟨u1, u2⟩ := List.pairwise_cons.1 hu.1
        have ih := ih ⟨u2, fun r hr => hu.2 r (by simp [hr])⟩
        by_cases hx : x.is a b
        · have e1 : hasL (x :: l) a b = true := hasL_iff.2 ⟨x, by simp, hx⟩
          have e2 : hasL l a b = false := hasL_no.2 fun s hs hk => u1 s hs ⟨hx.1.trans hk.1.symm, hx.2.trans hk.2.symm⟩
          have e3 : dropL (x :: l) a b = dropL l a b := by unfold dropL; simp [hx]
          rw [e2] at ih
          rw [e1, e3]
          simp at ih ⊢
          exact ih
        · have e2 : hasL (x :: l) a b = hasL l a b := by unfold hasL; simp [hx]
          have e3 : dropL (x :: l) a b = x :: dropL l a b := by unfold dropL; simp [hx]
          rw [e2, e3, List.length_cons, List.length_cons]
          omega
    omega

/-- a map of reports in a block -/
def MapAt (w : World) (b : Nat) (L : List Rp) : Prop :=
  ∃ D : Dm, w.ownsMap Try.prog 56 (plainElem Try.prog 3) b L.length D ∧ Agr D L
theorem own_tight {w : World} {b n : Nat} {D : Dm} {R : Value → Option (Dm × List MemPlace)} (h : w.ownsMap Try.prog 56 R b n D) : w.ownsMap Try.prog 56 R b (Maps.size D) D := by
  obtain ⟨es, clock, hb, F, hs, rfl⟩ := h
  exact ⟨es, clock, hb, F, by simp [Maps.size, length_sorted], rfl⟩
theorem map_new (w : World) : MapAt (w.alloc (.map #[] 0)) w.heap.size [] := ⟨.map [], World.ownsMap_made _ _ _ _, agr_nil⟩
section
variable {w w' : World} {b : Nat} {L : List Rp}
theorem MapAt.lt (h : MapAt w b L) : b < w.heap.size := by obtain ⟨D, h, _⟩ := h; exact h.lt
theorem MapAt.kept {row : Option Nat} (h : MapAt w b L) (hg : w.grownBy w' row) (hne : some b ≠ row) : MapAt w' b L := by
  obtain ⟨D, h, r⟩ := h; exact ⟨D, h.kept hg hne, r⟩
theorem MapAt.perm {M : List Rp} (h : MapAt w b L) (hp : L.Perm M) : MapAt w b M := by
  obtain ⟨D, h, r⟩ := h
  refine ⟨D, by rw [← hp.length_eq]; exact h, fun x hx => r.at_ x (hp.mem_iff.2 hx), fun c d hc hd => ?_, r.size.trans hp.length_eq⟩
  rw [r.has_ c d hc hd, Bool.eq_iff_iff, hasL_iff, hasL_iff]
  exact ⟨fun ⟨x, hx, hk⟩ => ⟨x, hp.mem_iff.1 hx, hk⟩, fun ⟨x, hx, hk⟩ => ⟨x, hp.mem_iff.2 hx, hk⟩⟩
theorem MapAt.look (h : MapAt w b L) (hu : Good L) {x y : Int} (hx : inInt x) (hy : inInt y) :
    (Instr.lookup 49 (.map (some b)) (vPair x y) false).run Try.prog w = .ok (.int .i64 (atL L x y)) w := by
  obtain ⟨D, h, r⟩ := h
  obtain ⟨c, hrun, hat, _⟩ := h.lookup_int keyed Try.underlying49 Try.underlying3 (zero_int _) (keyOf_pair hx hy)
  rw [r.look hu hx hy] at hat
  injection hat with hat
  injection hat with _ hat
  rw [hrun, hat]
theorem MapAt.store (h : MapAt w b L) (hu : Good L) (hlen : L.length < maxLen) {x y t : Int} (he : noteE x y t = 0) :
    ∃ w', (Instr.mapUpdate 49 (.map (some b)) (vPair x y) (.int .i64 (max (atL L x y) t))).run Try.prog w = .ok () w' ∧ MapAt w' b (putL L x y t) ∧ w.grownBy w' (some b) := by
  obtain ⟨D, h, r⟩ := h
  obtain ⟨hx, hy, ht, _⟩ := noteE_zero he
  have hm : inInt (max (atL L x y) t) := by
    have h0 : 0 ≤ atL L x y ∧ atL L x y ≤ 1099511627776 := by
      cases hh : hasL L x y
      · rw [atL_no (hasL_no.1 hh)]; omega
      · obtain ⟨s, hs, hk⟩ := hasL_iff.1 hh
        rw [atL_mem hu.1 hs hk]
        exact (hu.2 s hs).2.2
    unfold inInt; omega
  obtain ⟨w', hrun, hown, hg⟩ := h.update keyed Try.underlying49 hlen (keyOf_pair (a := x) (b := y) (by unfold inInt; omega) (by unfold inInt; omega)) (plainElem_int Try.underlying3 (wf_of hm))
  have hagr := r.put (h.tidy keyed) hu he
  refine ⟨w', hrun, ⟨_, ?_, hagr⟩, hg⟩
  rw [← hagr.size]
  exact own_tight hown
theorem MapAt.del (h : MapAt w b L) (hu : Good L) {x y : Int} (hx : inInt x) (hy : inInt y) (ty : TypeId) :
    ∃ w', (Builtin.delete_ #[49, 56] ty #[.map (some b), vPair x y]).run Try.prog w = .ok (.tuple #[]) w' ∧ MapAt w' b (dropL L x y) ∧ w.grownBy w' (some b) := by
  obtain ⟨D, h, r⟩ := h
  obtain ⟨w', hrun, hown, hg⟩ := h.drop keyed Try.underlying49 (keyOf_pair hx hy) ty
  have hagr := r.del (h.tidy keyed) hu hx hy
  refine ⟨w', hrun, ⟨_, ?_, hagr⟩, hg.grown⟩
  rw [← hagr.size]
  exact own_tight hown
end
/-- a map lies in no block that holds cells -/
theorem Blk.map_ne {w : World} {g b : Nat} {t : TypeId} {cs : Array Value} {L : List Rp} (h : Blk w g t cs) (hs : MapAt w b L) : g ≠ b := by
  intro e
  obtain ⟨D, ⟨es, clock, hh, _⟩, _⟩ := hs
  unfold Blk at h
  rw [e, hh] at h
  cases h
end Go.Proofs.Ytcacjppdcmghjaa
