/-
  WHAT IS PROVED: the contract of Set. Condition: the object is a roster.
-/
import Derived.Test.YtfchhlibjhblmaaRight
import Derived.StillTailTactics
namespace Go.Proofs.Ytfchhlibjhblmaa
open Go.RowKit Go.Lib Go.Maps

/-! ### one of an own row's members is written -/
theorem flat_set : ∀ {l : List Mb} {k : Nat} {p p' : Mb} {j : Nat} {u : Value}, l[k]? = some p → j < 5 → encM p' = (encM p).set j u → flatM (l.set k p') = (flatM l).set (k * 5 + j) u
  | [], _, _, _, _, _, h, _, _ => by simp at h
  | x :: l, 0, p, p', j, u, h, hj, he => by
    simp at h; subst h
    show encM p' ++ flatM l = (encM x ++ flatM l).set (0 * 5 + j) u
    rw [Nat.zero_mul, Nat.zero_add, he, List.set_append_left _ _ (by simpa [encM] using hj)]
  | x :: l, k + 1, p, p', j, u, h, hj, he => by
    show encM x ++ flatM (l.set k p') = (encM x ++ flatM l).set ((k + 1) * 5 + j) u
    rw [flat_set (k := k) (by simpa using h) hj he, List.set_append_right _ _ (by simp [encM]; omega)]
    congr 2
    simp [encM]
    omega
theorem own_put {w : World} {base n k c g : Nat} {e : TypeId} {l : List Mb} {p p' : Mb} {j : Nat} {u : Value} (h : w.ownsRow base e 5 (.slice (some ⟨g, 0, none⟩) n c) n (flatM l)) (hr : l[k]? = some p) (hj : j < 5) (he : encM p' = (encM p).set j u) :
    (w.setCell ⟨g, k * 5 + j, none⟩ u).ownsRow base e 5 (.slice (some ⟨g, 0, none⟩) n c) n (flatM (l.set k p')) := by
  rcases h.2 with ⟨h0, _⟩ | ⟨g', cap, cur, h0, hg, hh, hnc, hcm, hcs, ht⟩
  · cases h0
  · injection h0 with h1 h2 h3
    injection h1 with h1
    injection h1 with h1
    subst h1; subst h3
    have hB2 := (show Blk w g e cur from hh).set_ (k * 5 + j) u
    refine ⟨by rw [flatM_len, List.length_set, ← flatM_len]; exact h.1, .inr ⟨g, c, _, rfl, hg, hB2, hnc, hcm, by simpa using hcs, ?_⟩⟩
    rw [flat_set hr hj he, ← ht]
    simp [List.take_set]
theorem own_whole {w : World} {base n k c g : Nat} {e : TypeId} {l : List Mb} {p : Mb} (h : w.ownsRow base e 5 (.slice (some ⟨g, 0, none⟩) n c) n (flatM l)) (hr : l[k]? = some p) (q : Mb) :
    (((((w.setCell ⟨g, k * 5, none⟩ (.int .i64 q.id)).setCell ⟨g, k * 5 + 1, none⟩ (.int .i64 q.ma)).setCell ⟨g, k * 5 + 2, none⟩ (.int .i64 q.co)).setCell ⟨g, k * 5 + 3, none⟩ (.int .i64 q.of_)).setCell ⟨g, k * 5 + 4, none⟩ (.int .i64 q.fa)).ownsRow base e 5 (.slice (some ⟨g, 0, none⟩) n c) n (flatM (l.set k q)) := by
  have hk : k < l.length := (List.getElem?_eq_some_iff.1 hr).1
  have h1 := own_put (p' := ⟨q.id, p.ma, p.co, p.of_, p.fa⟩) (u := .int .i64 q.id) h hr (j := 0) (by omega) rfl
  have h2 := own_put (p := ⟨q.id, p.ma, p.co, p.of_, p.fa⟩) (p' := ⟨q.id, q.ma, p.co, p.of_, p.fa⟩) (u := .int .i64 q.ma) h1 (List.getElem?_set_self hk) (j := 1) (by omega) rfl
  rw [List.set_set] at h2
  have h3 := own_put (p := ⟨q.id, q.ma, p.co, p.of_, p.fa⟩) (p' := ⟨q.id, q.ma, q.co, p.of_, p.fa⟩) (u := .int .i64 q.co) h2 (List.getElem?_set_self hk) (j := 2) (by omega) rfl
  rw [List.set_set] at h3
  have h4 := own_put (p := ⟨q.id, q.ma, q.co, p.of_, p.fa⟩) (p' := ⟨q.id, q.ma, q.co, q.of_, p.fa⟩) (u := .int .i64 q.of_) h3 (List.getElem?_set_self hk) (j := 3) (by omega) rfl
  rw [List.set_set] at h4
  have h5 := own_put (p := ⟨q.id, q.ma, q.co, q.of_, p.fa⟩) (p' := q) (u := .int .i64 q.fa) h4 (List.getElem?_set_self hk) (j := 4) (by omega) rfl
  rw [List.set_set] at h5
  exact h5
theorem own_cells {w : World} {base n k c g : Nat} {e : TypeId} {l : List Mb} {p : Mb} (h : w.ownsRow base e 5 (.slice (some ⟨g, 0, none⟩) n c) n (flatM l)) (hr : l[k]? = some p) :
    (w.cell? ⟨g, k * 5, none⟩ = some (.int .i64 p.id) ∧ w.cell? ⟨g, k * 5 + 1, none⟩ = some (.int .i64 p.ma) ∧ w.cell? ⟨g, k * 5 + 2, none⟩ = some (.int .i64 p.co) ∧ w.cell? ⟨g, k * 5 + 3, none⟩ = some (.int .i64 p.of_) ∧ w.cell? ⟨g, k * 5 + 4, none⟩ = some (.int .i64 p.fa)) ∧ ∀ j, w.frozen? ⟨g, j, none⟩ = false := by
  have hc := h.cells (g := g) rfl
  obtain ⟨f0, f1, f2, f3, f4⟩ := flatM_get hr
  have hz : ∀ j, (⟨g, 0, none⟩ : Addr).add j = ⟨g, j, none⟩ := fun j => by rw [Go.WideShapes.add_plain, Nat.zero_add]
  refine ⟨⟨by rw [← hz]; exact hc _ _ f0, by rw [← hz]; exact hc _ _ f1, by rw [← hz]; exact hc _ _ f2, by rw [← hz]; exact hc _ _ f3, by rw [← hz]; exact hc _ _ f4⟩, fun j => ?_⟩
  rcases h.2 with ⟨h0, _⟩ | ⟨g', cap, cur, h0, hg, hh, _⟩
  · cases h0
  · injection h0 with h1 h2 h3
    injection h1 with h1
    injection h1 with h1
    subst h1
    exact (show Blk w g e cur from hh).frozen _
theorem turn5 (w : World) (b i j k l m : Nat) (x y z u v : Value) : Turn w (((((w.setCell ⟨b, i, none⟩ x).setCell ⟨b, j, none⟩ y).setCell ⟨b, k, none⟩ z).setCell ⟨b, l, none⟩ u).setCell ⟨b, m, none⟩ v) (fun a => a = b) :=
  (((((turn_set w ⟨b, i, none⟩ x).trans (turn_set _ ⟨b, j, none⟩ y) (Sub.refl _ _)).trans (turn_set _ ⟨b, k, none⟩ z) (Sub.refl _ _)).trans (turn_set _ ⟨b, l, none⟩ u) (Sub.refl _ _)).trans (turn_set _ ⟨b, m, none⟩ v) (Sub.refl _ _))
theorem drew_turn {w w' : World} {F : Nat → Prop} (h : Turn w w' F) : Turn w w'.drew F := ⟨h.os, h.tape, h.output, h.size, h.block⟩
theorem own_drew {w : World} {base s n : Nat} {e : TypeId} {v : Value} {xs : List Value} (h : w.ownsRow base e s v n xs) : w.drew.ownsRow base e s v n xs := h
theorem turn_drew {w w' : World} {F : Nat → Prop} (h : Turn w.drew w' F) : Turn w w' F := ⟨h.os, h.tape, h.output, h.size, h.block⟩

/-- what a call of a roster does: it tells n, and the roster is R' then -/
def Did (C g : Nat) (F : Nat → Prop) (n : Int) (R' : Ro) (w : World) (e : Ending) (w' : World) : Prop :=
  e = .returned (.int .i64 n) ∧ ∃ F', Rs w' C g F' R' ∧ Turn w w' F ∧ Sub w F F'
theorem Did.same {C g : Nat} {F : Nat → Prop} {n : Int} {R : Ro} {w w' : World} (h : Rs w C g F R) (hb : Below w.heap.size w w') : Did C g F n R w (.returned (.int .i64 n)) w' :=
  ⟨rfl, F, h.below hb, Turn.of_below hb F, Sub.refl _ _⟩

set_option maxHeartbeats 1000000 in
theorem set_any (C g : Nat) (F : Nat → Prop) (R : Ro) (w : World) (h : Rs w C g F R) (m : Mb) :
    Calls Try.prog 18 #[.pointer (some ⟨g, 0, none⟩), vM m] w (Did C g F (setE R m) (setR R m) w) := by
  have HA := Lib.hid (h.alloc (.cells #[.int .i64 m.id, .int .i64 m.ma, .int .i64 m.co, .int .i64 m.of_, .int .i64 m.fa] 34))
  have HBA : Hid (Below w.heap.size w (w.alloc (.cells #[.int .i64 m.id, .int .i64 m.ma, .int .i64 m.co, .int .i64 m.of_, .int .i64 m.fa] 34))) := Lib.hid ((Below.refl _ _).alloc (Nat.le_refl _) _)
  have HX : Hid (Bx (w.alloc (.cells #[.int .i64 m.id, .int .i64 m.ma, .int .i64 m.co, .int .i64 m.of_, .int .i64 m.fa] 34)) w.heap.size m) := Lib.hid (Bx.new w m rfl)
  have HH := Lib.hid h
  have x0 := HX.out.cells.1
  obtain ⟨q, HQ⟩ : ∃ q, Hid (hasL R.L m.id = q) := ⟨_, Lib.hid rfl⟩
  cases q
  · have HE : Hid (setE R m = 30) := Lib.hid (by unfold setE; rw [HQ.out]; rfl)
    have HR : Hid (setR R m = R) := Lib.hid (by unfold setR; rw [HE.out]; rfl)
    rw [HE.out, HR.out]
    clear h
    go_enter Try.func18, Try.ntmps18
    go_wp2_with (fail)
    refine (place_any C g F R _ HA.out m.id).mono ?_
    rintro e w1 ⟨rfl, hb1⟩
    rw [HQ.out]
    have HB := Lib.hid (HBA.out.trans (hb1.mono HBA.out.size))
    clear hb1
    go_wp2
    go_ret
    exact Did.same HH.out HB.out
  · obtain ⟨r, HRI⟩ : ∃ r, Hid (rightB m = r) := ⟨_, Lib.hid rfl⟩
    cases r
    · have HE : Hid (setE R m = 10) := Lib.hid (by unfold setE; rw [HQ.out, HRI.out]; rfl)
      have HR : Hid (setR R m = R) := Lib.hid (by unfold setR; rw [HE.out]; rfl)
      rw [HE.out, HR.out]
      clear h
      go_enter Try.func18, Try.ntmps18
      go_wp2_with (fail)
      refine (place_any C g F R _ HA.out m.id).mono ?_
      rintro e w1 ⟨rfl, hb1⟩
      rw [HQ.out]
      obtain ⟨a0, a1, a2, a3, a4⟩ := (HX.out.later hb1).cells
      have HB := Lib.hid (HBA.out.trans (hb1.mono HBA.out.size))
      clear hb1
      go_wp2_with (fail)
      refine (right_any m _).mono ?_
      rintro e w2 ⟨rfl, hb2⟩
      rw [HRI.out]
      have HB2 := Lib.hid (HB.out.trans (hb2.mono HB.out.size))
      clear hb2
      go_wp2
      go_ret
      exact Did.same HH.out HB2.out
    · have HE : Hid (setE R m = 0) := Lib.hid (by unfold setE; rw [HQ.out, HRI.out]; rfl)
      have HR : Hid (setR R m = ⟨R.s, R.L.set (posL R.L m.id) m, R.B, R.c⟩) := Lib.hid (by unfold setR; rw [HE.out, ins_old h.good.up HQ.out]; rfl)
      have HG := Lib.hid (h.good.set m)
      rw [HE.out, HR.out]
      rw [HR.out] at HG
      obtain ⟨p, hp, _⟩ := has_at h.good.up HQ.out
      obtain ⟨k, hk⟩ : ∃ k, posL R.L m.id = k := ⟨_, rfl⟩
      rw [hk] at hp HG ⊢
      have HK := Lib.hid hk
      have HP := Lib.hid hp
      clear h hp hk
      go_enter Try.func18, Try.ntmps18
      go_wp2_with (fail)
      refine (place_any C g F R _ HA.out m.id).mono ?_
      rintro e w1 ⟨rfl, hb1⟩
      rw [HQ.out, HK.out]
      have HX1 := Lib.hid (HX.out.later hb1)
      obtain ⟨a0, a1, a2, a3, a4⟩ := HX1.out.cells
      have HB := Lib.hid (HBA.out.trans (hb1.mono HBA.out.size))
      clear hb1
      go_wp2_with (fail)
      refine (right_any m _).mono ?_
      rintro e w2 ⟨rfl, hb2⟩
      rw [HRI.out]
      have HB2 := Lib.hid (HB.out.trans (hb2.mono HB.out.size))
      clear a0 a1 a2 a3 a4
      have HX2 := Lib.hid (HX1.out.later hb2)
      obtain ⟨a0, a1, a2, a3, a4⟩ := HX2.out.cells
      have K2 := Lib.hid (HH.out.below HB2.out)
      obtain ⟨b, A, n, c, hblk, hmap, hown, hn, hnc, hcm, h15, hFb, hsep, hgb, _⟩ := K2.out.open_
      have hkn : k < n := by rw [← hn]; exact (List.getElem?_eq_some_iff.1 HP.out).1
      obtain ⟨gr, rfl⟩ : ∃ gr, A = some ⟨gr, 0, none⟩ := by
        rcases hown.2 with ⟨_, h0⟩ | ⟨gr, _, _, e, _⟩
        · omega
        · injection e with e _ _; exact ⟨gr, e⟩
      have c1 := hblk.cell 1
      simp at c1
      obtain ⟨⟨d0, d1, d2, d3, d4⟩, hfz⟩ := own_cells hown HP.out
      have f0 := hfz (k * 5)
      have f1 := hfz (k * 5 + 1)
      have f2 := hfz (k * 5 + 2)
      have f3 := hfz (k * 5 + 3)
      have f4 := hfz (k * 5 + 4)
      have HW := Lib.hid (own_drew (own_whole hown HP.out m))
      have HT := Lib.hid (drew_turn (turn5 w2 gr (k * 5) (k * 5 + 1) (k * 5 + 2) (k * 5 + 3) (k * 5 + 4) (.int .i64 m.id) (.int .i64 m.ma) (.int .i64 m.co) (.int .i64 m.of_) (.int .i64 m.fa)))
      have HBK := Lib.hid hblk
      have HMP := Lib.hid hmap
      have HSP := Lib.hid (hsep gr rfl)
      have HN := Lib.hid hn
      have HFB := Lib.hid hFb
      clear hb2 hblk hmap hown hn hsep hfz
      go_wp2
      go_still_tail 7, (by kernel_rfl)
      change wpList _ _ _ _ _ w2.drew
      go_wp2
      go_ret
      obtain ⟨s1, s2, s3⟩ := HSP.out
      refine ⟨rfl, F, ⟨⟨b, _, HBK.out.turn HT.out (fun e => s2 e.symm), HMP.out.turn HT.out (fun e => s3 e.symm), ?_, HFB.out, fun i hi => ?_⟩, K2.out.fg, HG.out, fun i hi => Nat.lt_of_lt_of_le (K2.out.lt i hi) HT.out.size, K2.out.lo, K2.out.cb⟩, (Turn.of_below HB2.out F).trans HT.out (fun i _ e => by rw [e]; exact s1), Sub.refl _ _⟩
      · rw [List.length_set, HN.out]
        exact HW.out
      · simp [Value.ownBlock] at hi; rw [← hi]; exact s1
end Go.Proofs.Ytfchhlibjhblmaa
