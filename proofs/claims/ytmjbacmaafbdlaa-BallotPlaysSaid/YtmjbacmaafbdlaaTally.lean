/-
  WHAT IS PROVED: contracts of a tally's methods Count, Won, Grant, and of Need. Condition: the block is a tally.
-/
import Derived.Test.YtmjbacmaafbdlaaList
import Derived.Maps.OwnSet
import Derived.Deep.QuietTactic
import Derived.BigQuiet
namespace Go.Proofs.Ytmjbacmaafbdlaa
open Go.RowKit Go.Lib Go.Maps

theorem keyed : Keyed Try.prog 3 := int_keyed Try.underlying3
theorem zero_unit (w : World) : (zeroValue 65).run Try.prog w = .ok (.agg #[]) w := by kernel_rfl

theorem wf_of {x : Int} (h : -9223372036854775808 ≤ x ∧ x ≤ 9223372036854775807) : (Lit.int .i64 x).wf = true := WalkArith.wf_i64 h
theorem keyOf_i64 {x : Int} (h : -9223372036854775808 ≤ x ∧ x ≤ 9223372036854775807) : keyOf Try.prog 3 (.int .i64 x) = some (.int .i64 x) := keyOf_int_mk Try.underlying3 (wf_of h)

/-- a set of ints in a block, as the list of its keys -/
def SetAt (w : World) (b : Nat) (gs : List Int) : Prop :=
  ∃ D : DataW Unit, w.ownsMap Try.prog 3 unitElem b gs.length D ∧ (∀ x, Maps.has D (.int .i64 x) = hasB gs x) ∧ Maps.size D = gs.length

theorem set_new (w : World) : SetAt (w.alloc (.map #[] 0)) w.heap.size [] :=
  ⟨.map [], World.ownsMap_made _ _ _ _, fun x => by simp [Maps.has, hasB], rfl⟩
theorem SetAt.lt {w : World} {b : Nat} {gs : List Int} (h : SetAt w b gs) : b < w.heap.size := by obtain ⟨D, h, _⟩ := h; exact h.lt
theorem SetAt.kept {w w' : World} {b : Nat} {gs : List Int} {row : Option Nat} (h : SetAt w b gs) (hg : w.grownBy w' row) (hne : some b ≠ row) : SetAt w' b gs := by
  obtain ⟨D, h, r⟩ := h; exact ⟨D, h.kept hg hne, r⟩
theorem set_more {w' : World} {b : Nat} {gs : List Int} {x : Int} {D : DataW Unit} (hx : x ∉ gs) (hT : Tidy D)
    (h1 : ∀ x, Maps.has D (.int .i64 x) = hasB gs x) (h2 : Maps.size D = gs.length) (hown : w'.ownsMap Try.prog 3 unitElem b (gs.length + 1) (D.put (.int .i64 x) (.agg []))) : SetAt w' b (gs ++ [x]) := by
  refine ⟨_, by simpa using hown, fun y => ?_, ?_⟩
  · by_cases e : y = x
    · subst e
      rw [has_put_same hT.isMap (by simp [WideAt.IsKeyLit])]
      exact (has_yes (by simp)).symm
    · rw [has_put_other (by intro h; injection h with _ h; exact e h), h1]
      unfold hasB
      simp [e]
  · rw [size_put hT, h1, has_no hx, h2]
    simp
/-- a set lies in no block that holds cells -/
theorem Reads.apart {w : World} {g b n : Nat} {A : Option Addr} {xs : List Value} {gs : List Int} (h : Reads w g A n xs) (hs : SetAt w b gs) : Reads w b A n xs :=
  ⟨h.1, fun hn => by
    obtain ⟨ad, e, hlt, hne, hc⟩ := h.2 hn
    refine ⟨ad, e, hlt, ?_, hc⟩
    intro hb
    have hl : 0 < xs.length := by rw [h.1]; exact hn
    have h0 := hc 0 xs[0] (List.getElem?_eq_getElem hl)
    obtain ⟨D, ⟨es, clock, hh, _⟩, _⟩ := hs
    unfold World.cell? at h0
    rw [block_of_add, hb, hh] at h0
    simp at h0⟩

/-- block g is a tally of the voters vs (as it holds them), of whom gs granted, in the set of block b -/
structure Ty (w : World) (g b : Nat) (vs gs : List Int) : Prop where
  row : ∃ A n c, Blk w g 63 #[.slice A n c, .map (some b)] ∧ Reads w b A n (zints vs) ∧ n ≤ c ∧ c ≤ 9223372036854775807
  set : SetAt w b gs
  ne : g ≠ b
  sub : Sub vs gs
  len : vs.length ≤ 16

theorem Ty.lt {w : World} {g b : Nat} {vs gs : List Int} (h : Ty w g b vs gs) : g < w.heap.size := by
  obtain ⟨A, n, c, h1, _⟩ := h.row; exact h1.lt
theorem Ty.below {w w' : World} {g b : Nat} {vs gs : List Int} (h : Ty w g b vs gs) (hb : Below w.heap.size w w') : Ty w' g b vs gs := by
  obtain ⟨A, n, c, h1, h2, h3, h4⟩ := h.row
  exact ⟨⟨A, n, c, h1.below hb h1.lt, h2.below hb, h3, h4⟩, h.set.kept (only_of_below hb none) (by simp), h.ne, h.sub, h.len⟩
/-- another tally grants: this one stays -/
theorem Ty.other {w w' : World} {g b g' b' : Nat} {vs gs vs' gs' : List Int} (h : Ty w g b vs gs) (h' : Ty w g' b' vs' gs') (hb : b ≠ b') (hg : w.grownBy w' (some b')) : Ty w' g b vs gs := by
  obtain ⟨A, n, c, h1, h2, h3, h4⟩ := h.row
  have hgb : g ≠ b' := by
    intro e
    obtain ⟨D, ⟨es, clock, hh, _⟩, _⟩ := h'.set
    have := h1
    unfold Blk at this
    rw [e, hh] at this
    cases this
  refine ⟨⟨A, n, c, h1.grown hg (by simpa using hgb), ?_, h3, h4⟩, h.set.kept hg (by simpa using hb), h.ne, h.sub, h.len⟩
  have h5 := (h2.apart h'.set).only hg
  have h6 := h.set.kept hg (by simpa using hb)
  exact h5.apart h6

def needZ (n : Int) : Int := if n < 0 then 1 else n / 2 + 1
theorem need_any (n : Int) (w : World) (hn : n ≤ 9223372036854775807) :
    Calls Try.prog 38 #[.int .i64 n] w fun e w' => e = .returned (.int .i64 (needZ n)) ∧ w = w' := by
  by_cases h : n < 0
  · have HX : Hid (needZ n = 1) := if_pos h
    go_enter Try.func38, Try.ntmps38
    go_wp2
    go_ret
    exact ⟨by rw [HX.out]; rfl, rfl⟩
  · have HX : Hid (needZ n = n / 2 + 1) := if_neg h
    have h0 : 0 ≤ n := by omega
    clear h
    go_enter Try.func38, Try.ntmps38
    go_wp2
    go_ret
    exact ⟨by rw [HX.out]; rfl, rfl⟩

theorem count_any (g b : Nat) (vs gs : List Int) (w : World) (h : Ty w g b vs gs) :
    Calls Try.prog 37 #[.pointer (some ⟨g, 0, none⟩)] w fun e w' => e = .returned (.int .i64 (gs.length : Int)) ∧ w = w' := by
  obtain ⟨A, n, c, h1, _, _, _⟩ := h.row
  obtain ⟨D, hown, _, hsz⟩ := h.set
  have c1 := h1.cell 1
  simp at c1
  have HS := Lib.hid hsz
  clear hsz h1 h
  go_enter Try.func37, Try.ntmps37
  go_wp2_with (at_len; refine wpList_len_own _ rfl _ 61 rfl 3 65 Try.underlying61 _ b _ D rfl hown ?_)
  go_ret
  exact ⟨by rw [← HS.out]; rfl, rfl⟩

theorem quiet_eq {P : Program} {f : FuncId} {args : Array Value} {w : World} {n : Nat} {v : Value} (h : Calls P f args (w.drewN n) fun e w' => e = .returned v ∧ w.drewN n = w') : Calls P f args (w.drewN n) fun e w'' => e = .returned v ∧ ∃ m, w'' = w.drewN m :=
  h.mono fun _ _ ⟨he, hm⟩ => ⟨he, n, hm.symm⟩
def wonB (vs gs : List Int) : Bool := decide (vs.length < 2 * gs.length)
/-- a Go bool is handed back; only the place on the tape has turned -/
def Tells (r : Bool) (w : World) (e : Ending) (w' : World) : Prop := e = .returned (.bool r) ∧ ∃ m, w' = w.drewN m

set_option maxHeartbeats 1000000 in
theorem won_any (g b : Nat) (vs gs : List Int) (w : World) (h : Ty w g b vs gs) :
    Calls Try.prog 28 #[.pointer (some ⟨g, 0, none⟩)] w (Tells (wonB vs gs) w) := by
  have hl := h.len
  have hs := h.sub.le
  obtain ⟨A, n, c, h1, h2, _, _⟩ := h.row
  have hlen := zlen h2
  have c0 := h1.cell 0
  simp at c0
  have HC : Hid (∀ m, Calls Try.prog 37 #[.pointer (some ⟨g, 0, none⟩)] (w.drewN m) fun e w' => e = .returned (.int .i64 (gs.length : Int)) ∧ w.drewN m = w') :=
    fun m => count_any g b vs gs _ (h.below (below_drewN (Below.refl _ _) m))
  obtain ⟨q, HN, hq⟩ : ∃ q : Int, Hid (∀ m, Calls Try.prog 38 #[.int .i64 (n : Int)] (w.drewN m) fun e w' => e = .returned (.int .i64 q) ∧ w.drewN m = w') ∧ q = n / 2 + 1 :=
    ⟨needZ n, fun m => need_any n _ (by omega), by unfold needZ; rw [if_neg (by omega)]⟩
  by_cases hw : q ≤ gs.length
  · have HW : Hid (wonB vs gs = true) := by show _ = _; unfold wonB; simp; omega
    clear hlen hq hs hl h1 h2 h
    go_enter Try.func28, Try.ntmps28
    go_wp2
    go_quiet (first | (go_at_call 37; exact quiet_eq (HC.out _)) | (go_at_call 38; exact quiet_eq (HN.out _)))
    go_wp2
    go_ret
    exact ⟨by rw [HW.out]; rfl, _, rfl⟩
  · have HW : Hid (wonB vs gs = false) := by show _ = _; unfold wonB; simp; omega
    have hw2 : decide (q ≤ (gs.length : Int)) = false := by simp; omega
    clear hlen hq hs hl h1 h2 h hw
    go_enter Try.func28, Try.ntmps28
    go_wp2
    go_quiet (first | (go_at_call 37; exact quiet_eq (HC.out _)) | (go_at_call 38; exact quiet_eq (HN.out _)))
    go_wp2
    go_ret
    exact ⟨by rw [HW.out]; rfl, _, rfl⟩

theorem granted_any (g b : Nat) (vs gs : List Int) (x : Int) (w : World) (h : Ty w g b vs gs) (hx : -9223372036854775808 ≤ x ∧ x ≤ 9223372036854775807) :
    Calls Try.prog 36 #[.pointer (some ⟨g, 0, none⟩), .int .i64 x] w (Says (hasB gs x) w) := by
  obtain ⟨A, n, c, h1, _, _, _⟩ := h.row
  obtain ⟨D, hown, hhas, _⟩ := h.set
  have c1 := h1.cell 1
  simp at c1
  have HH := Lib.hid (hhas x)
  clear hhas h1 h
  go_enter Try.func36, Try.ntmps36
  go_wp2_with (at_lookup; refine wpList_lookup_own_unit _ rfl _ _ 61 rfl 3 65 keyed Try.underlying61 (zero_unit _) b _ D rfl hown _ _ rfl (keyOf_i64 hx) ?_; rw [HH.out])
  go_ret
  exact ⟨rfl, (Below.refl _ _).alloc (Nat.le_refl _) _⟩

/-- what Grant does: it tells r, and the tally's granted are then gs' -/
def Did (g b : Nat) (r : Bool) (vs gs' : List Int) (w : World) (e : Ending) (w' : World) : Prop := e = .returned (.bool r) ∧ Ty w' g b vs gs' ∧ w.grownBy w' (some b)

set_option maxHeartbeats 1000000 in
theorem grant_any (g b : Nat) (vs gs : List Int) (x : Int) (w : World) (h : Ty w g b vs gs) (hx : -9223372036854775808 ≤ x ∧ x ≤ 9223372036854775807) :
    Calls Try.prog 27 #[.pointer (some ⟨g, 0, none⟩), .int .i64 x] w (Did g b (okG vs gs x) vs (addG vs gs x) w) := by
  by_cases hg : x ∈ gs
  · have HB := Lib.hid (has_yes hg)
    have HO : Hid (okG vs gs x = false) := by show _ = _; unfold okG; simp [hg]
    have HA := Lib.hid (addG_no HO.out)
    clear hg
    go_enter Try.func27, Try.ntmps27
    go_wp2_with (fail)
    refine (granted_any g b vs gs x _ h hx).mono ?_
    rintro e w1 ⟨rfl, hb1⟩
    rw [HB.out]
    go_wp2
    go_ret
    exact ⟨by rw [HO.out]; rfl, by rw [HA.out]; exact h.below hb1, only_of_below hb1 _⟩
  · have HB := Lib.hid (has_no hg)
    by_cases hv : x ∈ vs
    · have HV := Lib.hid (has_yes hv)
      have HO : Hid (okG vs gs x = true) := by show _ = _; unfold okG; simp [hg, hv]
      have HA := Lib.hid (addG_yes HO.out)
      have HG := Lib.hid hg
      have hsub := h.sub.add x
      rw [HA.out] at hsub
      clear hg hv
      go_enter Try.func27, Try.ntmps27
      go_wp2_with (fail)
      refine (granted_any g b vs gs x _ h hx).mono ?_
      rintro e w1 ⟨rfl, hb1⟩
      rw [HB.out]
      have h1 := h.below hb1
      obtain ⟨A, n, c, h2, h3, h4, h5⟩ := h1.row
      have c0 := h2.cell 0
      have c1 := h2.cell 1
      simp at c0 c1
      go_wp2_with (fail)
      refine (contains_any A n c vs x b _ (by omega) h3).mono ?_
      rintro e w2 ⟨rfl, rfl⟩
      rw [HV.out]
      obtain ⟨D, hown, hhas, hsz⟩ := h1.set
      have HH := Lib.hid hhas
      have HS := Lib.hid hsz
      clear hhas hsz
      have hlen : gs.length < maxLen := by have := h.sub.le; have := h.len; unfold maxLen; omega
      go_wp2_with (at_mapUpdate; refine wpList_mapUpdate_own _ rfl _ _ _ 61 rfl 3 65 keyed Try.underlying61 (unitElem (H := Unit)) b _ D rfl hown hlen _ _ _ rfl rfl (keyOf_i64 hx) _ [] unitElem_mk ?_; intro w3 hown3 hg3)
      go_ret
      have hset := set_more HG.out (hown.tidy keyed) HH.out HS.out hown3
      refine ⟨by rw [HO.out]; rfl, ?_, (only_of_below hb1 _).trans hg3⟩
      rw [HA.out]
      exact ⟨⟨A, n, c, h2.grown hg3 (by have := h.ne; simpa using this), h3.only hg3, h4, h5⟩, hset, h.ne, hsub, h.len⟩
    · have HV := Lib.hid (has_no hv)
      have HO : Hid (okG vs gs x = false) := by show _ = _; unfold okG; simp [hv]
      have HA := Lib.hid (addG_no HO.out)
      clear hg hv
      go_enter Try.func27, Try.ntmps27
      go_wp2_with (fail)
      refine (granted_any g b vs gs x _ h hx).mono ?_
      rintro e w1 ⟨rfl, hb1⟩
      rw [HB.out]
      have h1 := h.below hb1
      obtain ⟨A, n, c, h2, h3, h4, h5⟩ := h1.row
      have c0 := h2.cell 0
      have c1 := h2.cell 1
      simp at c0 c1
      go_wp2_with (fail)
      refine (contains_any A n c vs x b _ (by omega) h3).mono ?_
      rintro e w2 ⟨rfl, rfl⟩
      rw [HV.out]
      go_wp2
      go_ret
      exact ⟨by rw [HO.out]; rfl, by rw [HA.out]; exact h1, only_of_below hb1 _⟩
end Go.Proofs.Ytmjbacmaafbdlaa
