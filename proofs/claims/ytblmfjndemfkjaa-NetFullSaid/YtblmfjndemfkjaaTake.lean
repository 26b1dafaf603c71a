/-
  WHAT IS PROVED: the contract of Take. Condition: the object is a net.
-/
import Derived.Test.YtblmfjndemfkjaaDelete
namespace Go.Proofs.Ytblmfjndemfkjaa
open Go.RowKit Go.Lib
set_option maxRecDepth 100000

def without (l : List Ms) (i : Nat) : List Ms := l.take i ++ l.drop (i + 1)
theorem without_mem {l : List Ms} {i : Nat} {m : Ms} (h : m ∈ without l i) : m ∈ l := by
  rcases List.mem_append.1 h with h | h
  · exact List.mem_of_mem_take h
  · exact List.mem_of_mem_drop h
theorem without_len {l : List Ms} {i : Nat} (h : i < l.length) : (without l i).length + 1 = l.length := by
  unfold without
  rw [List.length_append, List.length_take, List.length_drop]
  omega
section
variable {w : World} {C n : Nat} {U : Nat → Prop} {l : List Ms} {k : Int}
theorem Nt.cut (h : Nt w C n U l k) {i : Nat} (hi : i < l.length) : ∃ A c, w.cell? ⟨n, 0, none⟩ = some (.slice A l.length c) ∧ l.length ≤ c ∧ c ≤ 9223372036854775807 ∧ n < w.heap.size ∧ (∀ b, (Value.slice A l.length c).ownBlock = some b → b < w.heap.size ∧ ¬ U b) ∧ Rd w no 3 A l.length (flatM l) ∧ ∀ W4, Below w.heap.size w W4 →
    W4.cell? ⟨n, 0, none⟩ = some (.slice A l.length c) ∧ W4.ownsRow 0 29 3 (.slice A l.length c) l.length (flatM l) ∧ ∀ w6 v6,
      w6.ownsRow 0 29 3 v6 (without l i).length (flatM (without l i)) → W4.grownBy w6 (Value.slice A l.length c).ownBlock → (v6.ownBlock = (Value.slice A l.length c).ownBlock ∨ ∃ b, v6.ownBlock = some b ∧ W4.heap.size ≤ b) →
      w6.cell? ⟨n, 0, none⟩ = some (.slice A l.length c) ∧ w6.frozen? ⟨n, 0, none⟩ = false ∧ Nt (w6.setCell ⟨n, 0, none⟩ v6) C n U (without l i) k ∧ Turn w (w6.setCell ⟨n, 0, none⟩ v6) (Vf C U) ∧ ∀ x ∈ l, Good (w6.setCell ⟨n, 0, none⟩ v6) U x := by
  obtain ⟨A, c, hb, ho, hc, hcm, hu, hg, hr⟩ := h.open_
  have hlt := hb.lt
  have c0 := hb.cell 0
  simp at c0
  refine ⟨A, c, c0, hc, hcm, hlt, fun b hb => ⟨(hu b hb).2.2.2, (hu b hb).1⟩, hr, fun W4 hB => ?_⟩
  have hb4 := hb.below hB hlt
  have c4 := hb4.cell 0
  simp at c4
  refine ⟨c4, own_base (own_below ho hB) (Nat.zero_le _), fun w6 v6 ho6 hg6 hv6 => ?_⟩
  have hnn : some n ≠ (Value.slice A l.length c).ownBlock := fun e => (hu n e.symm).2.1 rfl
  have hb6 := hb4.grown hg6 hnn
  have c6 := hb6.cell 0
  simp at c6
  have hs4 := hB.size
  have hs6 := hg6.size
  have t6 : Turn W4 w6 (fun i => (Value.slice A l.length c).ownBlock = some i) := ⟨hg6.os, hg6.tape, hg6.output, hg6.size, fun i hi hn => hg6.block i hi (fun e => hn e.symm)⟩
  have hn6 : ∀ b, v6.ownBlock = some b → b ≠ n ∧ ¬ U b ∧ C ≤ b := fun b e => by
    rcases hv6 with e2 | ⟨b2, e2, h2⟩
    · rw [e] at e2; exact ⟨(hu b e2.symm).2.1, (hu b e2.symm).1, (hu b e2.symm).2.2.1⟩
    · rw [e] at e2; injection e2 with e2
      exact ⟨by omega, fun f => by have := h.lt b f; omega, by have := h.cle; omega⟩
  have t7 : Turn w6 (w6.setCell ⟨n, 0, none⟩ v6) (fun i => i = n) := Turn.set_ v6 rfl
  have hgood : ∀ x ∈ l, Good (w6.setCell ⟨n, 0, none⟩ v6) (fun i => i = n ∨ v6.ownBlock = some i ∨ U i) x := by
    intro x hx
    have h4 : Good W4 (fun i => i = n ∨ (Value.slice A l.length c).ownBlock = some i ∨ U i) x := (hg x hx).below hB
    have h6 : Good w6 (fun i => i = n ∨ v6.ownBlock = some i ∨ U i) x := h4.turn (t6.wide fun i _ f => .inr (.inl f)) (fun i hi f => by
      rcases f with f | f | f
      · exact .inl f
      · rcases hv6 with e2 | ⟨b2, e2, h2⟩
        · exact .inr (.inl (by rw [← e2]; exact f))
        · rw [e2] at f; injection f with f; omega
      · exact .inr (.inr f))
    exact h6.turn (t7.wide fun i _ f => .inl f) (Sub.refl _ _)
  have hown : w6.ownsRow C 29 3 v6 (without l i).length (flatM (without l i)) := by
    refine ⟨ho6.1, ?_⟩
    rcases ho6.2 with hn | ⟨g, cap, cur, e, _, rest⟩
    · exact .inl hn
    · refine .inr ⟨g, cap, cur, e, ?_, rest⟩
      exact (hn6 g (by rw [e]; rfl)).2.2
  refine ⟨c6, hb6.frozen 0, h.next (v := v6) ?_ (own_turn hown t7 (fun b e => (hn6 b e).1)) (fun b e => (hn6 b e).2.1) (fun x hx => hgood x (without_mem hx)) ?_ ?_, ?_, fun x hx => (hgood x hx).weak (fun i _ f => .inr (.inr f))⟩
  · have := hb6.set_ 0 v6
    simpa using this
  · have := t7.size; omega
  · have := without_len hi; have := h.le; omega
  · have a1 : Turn w W4 (Vf C U) := Turn.of_below hB _
    have a2 : Turn W4 w6 (Vf C U) := t6.wide (fun i _ f => ⟨(hu i f).2.2.1, (hu i f).1⟩)
    have a3 : Turn w6 (w6.setCell ⟨n, 0, none⟩ v6) (Vf C U) := t7.wide (fun i _ f => by rw [f]; exact ⟨h.lo, h.nu⟩)
    exact (a1.trans a2 (Sub.refl _ _)).trans a3 (Sub.refl _ _)
end
theorem turn3 (w : World) (b : Nat) (x y z : Value) : Turn w (((w.setCell ⟨b, 0, none⟩ x).setCell ⟨b, 1, none⟩ y).setCell ⟨b, 2, none⟩ z) (fun i => i = b) := by
  have h1 : Turn w (w.setCell ⟨b, 0, none⟩ x) (fun i => i = b) := Turn.set_ x rfl
  have h2 : Turn (w.setCell ⟨b, 0, none⟩ x) ((w.setCell ⟨b, 0, none⟩ x).setCell ⟨b, 1, none⟩ y) (fun i => i = b) := Turn.set_ y rfl
  have h3 : Turn ((w.setCell ⟨b, 0, none⟩ x).setCell ⟨b, 1, none⟩ y) (((w.setCell ⟨b, 0, none⟩ x).setCell ⟨b, 1, none⟩ y).setCell ⟨b, 2, none⟩ z) (fun i => i = b) := Turn.set_ z rfl
  exact (h1.trans h2 (Sub.refl _ _)).trans h3 (Sub.refl _ _)
abbrev zM : Ms := ⟨0, 0, none, 0, 0, []⟩
section
variable (C n : Nat) (U : Nat → Prop) (l : List Ms) (k : Int) (w : World) (h : Nt w C n U l k)
include h
set_option maxHeartbeats 4000000 in
theorem take_no (i : Int) (hi : inB l i = false) : Calls Try.prog 9 #[.pointer (some ⟨n, 0, none⟩), .int .i64 i] w fun e w' => e = .returned (.tuple #[vM zM, .bool false]) ∧ Below w.heap.size w w' := by
  obtain ⟨w1, hw1⟩ : ∃ w1, w.alloc (.cells #[.int .i64 0, .int .i64 0, .slice none 0 0] 29) = w1 := ⟨_, rfl⟩
  have HB1 : Hid (Below w.heap.size w w1) := Lib.hid (by rw [← hw1]; exact (Below.refl _ w).alloc (Nat.le_refl _) _)
  have hx : Bx w1 w.heap.size zM := by rw [← hw1]; exact Bx.new w zM
  have HN1 := Lib.hid (h.below HB1.out)
  have HX := Lib.hid hx
  have HI := Lib.hid hi
  obtain ⟨x0, x1, x2⟩ := hx.cells
  have z0 := hx.fz 0
  have z1 := hx.fz 1
  have z2 := hx.fz 2
  clear h hx hi
  go_enter Try.func9, Try.ntmps9
  go_wp2_with (fail)
  refine (has_any C n U l k _ HN1.out i).mono ?_
  rintro e w0 ⟨rfl, rfl⟩
  rw [HI.out]
  clear hw1
  go_wp2
  exact bodyPost_ret (results_box (p := 4) (u := 5) rfl _ _ w.heap.size zM rfl (HX.out.store zM)) rfl ⟨rfl, below3 HB1.out (Nat.le_refl _) 0 1 2 _ _ _⟩
set_option maxHeartbeats 400000 in
theorem take_yes (i : Nat) (m : Ms) (hi : l[i]? = some m) : Calls Try.prog 9 #[.pointer (some ⟨n, 0, none⟩), .int .i64 (i : Int)] w fun e w' => e = .returned (.tuple #[vM m, .bool true]) ∧ Nt w' C n U (without l i) k ∧ Turn w w' (Vf C U) ∧ Good w' U m := by
  have hil : i < l.length := (List.getElem?_eq_some_iff.1 hi).1
  have HQ : Hid (inB l (i : Int) = true) := Lib.hid (by unfold inB; rw [decide_eq_true]; omega)
  obtain ⟨f, t, A, nn, c, d⟩ := m
  obtain ⟨w1, hw1⟩ : ∃ w1, w.alloc (.cells #[.int .i64 0, .int .i64 0, .slice none 0 0] 29) = w1 := ⟨_, rfl⟩
  have HB1 : Hid (Below w.heap.size w w1) := Lib.hid (by rw [← hw1]; exact (Below.refl _ w).alloc (Nat.le_refl _) _)
  have HX : Hid (Bx w1 w.heap.size zM) := Lib.hid (by rw [← hw1]; exact Bx.new w zM)
  have HS1 : Hid (w1.heap.size = w.heap.size + 1) := Lib.hid (by rw [← hw1]; simp)
  have hn1 : Nt w1 C n (fun i => U i ∨ i = w.heap.size) l k := h.guard HB1.out (fun i f => by rcases f with f | f; exact .inl f; exact .inr ⟨by omega, by have := HS1.out; omega⟩)
  have HUL : Hid (∀ i, U i → i < w.heap.size) := Lib.hid h.lt
  have HCL := Lib.hid h.cle
  have HCN := Lib.hid h.nlt
  have HN1 := Lib.hid hn1
  obtain ⟨A1, c1, hc0, hLc, hcm, hnlt, hub, hr, hp⟩ := hn1.cut hil
  obtain ⟨L, hL⟩ : ∃ L, l.length = L := ⟨_, rfl⟩
  have h5 : l.length ≤ 4096 := h.le
  rw [hL] at hc0 hLc hub hr hp hil h5
  have HLL := Lib.hid hL
  obtain ⟨ad, p, rfl, hp2, hlt, _, e0, e1, e2⟩ := hr.atM hil
  rw [hi] at hp2
  injection hp2 with hp2
  subst hp2
  dsimp only at e0 e1 e2
  have HUB : Hid (∀ x, w.heap.size ≤ x → some x ≠ (Value.slice (some ad) L c1).ownBlock) := Lib.hid (fun x hx e => by
    obtain ⟨h1, h2⟩ := hub x e.symm
    have h3 := HS1.out
    exact h2 (.inr (by omega)))
  have HP := Lib.hid hp
  have HM : Hid ((⟨f, t, A, nn, c, d⟩ : Ms) ∈ l) := Lib.hid (List.mem_of_getElem? hi)
  have HWL : Hid ((without l i).length + 1 = l.length) := Lib.hid (without_len (by rw [hL]; exact hil))
  have k1 : (i : Int) < (L : Int) := by omega
  have hw2 : w.alloc (.cells #[.int .i64 0, .int .i64 0, .slice none 0 0] 29) = w1 := hw1
  clear h hn1 hi hp hr hub hw1
  go_enter Try.func9, Try.ntmps9
  go_wp2_with (fail)
  refine (has_any C n _ l k _ HN1.out (i : Int)).mono ?_
  rintro e w0 ⟨rfl, rfl⟩
  rw [HQ.out]
  clear hw2
  go_wp2_with (fail)
  have hb4 : Below w1.heap.size w1 (w1.alloc (.cells #[.int .i64 f, .int .i64 t, .slice A nn c] 29)) := (Below.refl _ _).alloc (Nat.le_refl _) _
  have bm4 : Bx (w1.alloc (.cells #[.int .i64 f, .int .i64 t, .slice A nn c] 29)) w1.heap.size ⟨f, t, A, nn, c, d⟩ := Bx.new w1 ⟨f, t, A, nn, c, d⟩
  have bx4 : Bx (w1.alloc (.cells #[.int .i64 f, .int .i64 t, .slice A nn c] 29)) w.heap.size zM := Blk.alloc HX.out _
  obtain ⟨c4, ho4, hp4⟩ := HP.out _ hb4
  have hown : (w1.alloc (.cells #[.int .i64 f, .int .i64 t, .slice A nn c] 29)).ownsRow 0 29 3 (.slice (some ad) L c1) l.length (flatM l) := by rw [HLL.out]; exact ho4
  refine (delete_any (.slice (some ad) L c1) l i _ hown (by rw [HLL.out]; omega) (by rw [HLL.out]; exact hil)).mono ?_
  rintro e w6 ⟨v6, rfl, ho6, hg6, hv6⟩
  obtain ⟨g6, f6, h7, t7, hg7⟩ := hp4 w6 v6 ho6 hg6 hv6
  obtain ⟨A6, c6, hv, h61, h62⟩ := own_form ho6
  obtain ⟨N, hN⟩ : ∃ N, (l.take i ++ l.drop (i + 1)).length = N := ⟨_, rfl⟩
  rw [hN] at hv
  subst hv
  clear hN h61 h62
  have bm6 : Bx w6 w1.heap.size ⟨f, t, A, nn, c, d⟩ := Blk.grown bm4 hg6 (HUB.out _ HB1.out.size)
  have bx6 : Bx w6 w.heap.size zM := Blk.grown bx4 hg6 (HUB.out _ (Nat.le_refl _))
  have bm7 : Bx (w6.setCell ⟨n, 0, none⟩ (.slice A6 N c6)) w1.heap.size ⟨f, t, A, nn, c, d⟩ := Blk.far bm6 (by show w1.heap.size ≠ n; have := HB1.out.size; omega) _
  have bx7 : Bx (w6.setCell ⟨n, 0, none⟩ (.slice A6 N c6)) w.heap.size zM := Blk.far bx6 (by show w.heap.size ≠ n; have := HCN.out; omega) _
  obtain ⟨w7, hw7⟩ : ∃ x, w6.setCell ⟨n, 0, none⟩ (.slice A6 N c6) = x := ⟨_, rfl⟩
  rw [hw7] at bm7 bx7 h7 t7 hg7
  obtain ⟨m0, m1, m2⟩ := bm7.cells
  obtain ⟨x0, x1, x2⟩ := bx7.cells
  dsimp only [zM] at m0 m1 m2 x0 x1 x2
  have z0 := bx7.fz 0
  have z1 := bx7.fz 1
  have z2 := bx7.fz 2
  have HX7 := Lib.hid bx7
  have H7 := Lib.hid h7
  have T7 := Lib.hid t7
  have G7 := Lib.hid (hg7 _ HM.out)
  have HSL : Hid (w.heap.size < w7.heap.size) := Lib.hid bx7.lt
  clear hb4 bm4 bx4 c4 ho4 hp4 hown ho6 hg6 hv6 h7 t7 hg7 bm6 bx6 bm7 bx7
  go_wp2
  have t8 := turn3 w7 w.heap.size (.int .i64 f) (.int .i64 t) (.slice A nn c)
  have hbx : Bx (((w7.setCell ⟨w.heap.size, 0, none⟩ (.int .i64 f)).setCell ⟨w.heap.size, 1, none⟩ (.int .i64 t)).setCell ⟨w.heap.size, 2, none⟩ (.slice A nn c)) w.heap.size ⟨f, t, A, nn, c, d⟩ := HX7.out.store ⟨f, t, A, nn, c, d⟩
  obtain ⟨w8, hw8⟩ : ∃ x, (((w7.setCell ⟨w.heap.size, 0, none⟩ (.int .i64 f)).setCell ⟨w.heap.size, 1, none⟩ (.int .i64 t)).setCell ⟨w.heap.size, 2, none⟩ (.slice A nn c)) = x := ⟨_, rfl⟩
  rw [hw8] at hbx t8 ⊢
  refine bodyPost_ret (results_box (p := 4) (u := 5) rfl _ _ w.heap.size ⟨f, t, A, nn, c, d⟩ rfl hbx) rfl ?_
  refine ⟨rfl, ?_, ?_, ?_⟩
  · exact (H7.out.turn (t8.wide fun i _ f => .inr f)).weak (fun i f => .inl f)
  · have a1 : Turn w w1 (Vf C U) := Turn.of_below HB1.out _
    have a2 : Turn w1 w7 (Vf C U) := T7.out.wide (fun i _ f => ⟨f.1, fun g => f.2 (.inl g)⟩)
    have a3 := t8.wide (F := Vf C U) (fun i _ f => ⟨by rw [f]; exact HCL.out, fun g => by have := HUL.out i g; omega⟩)
    exact (a1.trans a2 (Sub.refl _ _)).trans a3 (Sub.refl _ _)
  · exact (G7.out.turn (t8.wide fun i _ f => .inr f) (Sub.refl _ _)).weak (fun i _ f => .inl f)
end
end Go.Proofs.Ytblmfjndemfkjaa
