/-
  WHAT IS PROVED: the contracts of Put and Double. Conditions: the object is a net; the message's bytes are there, at most a million.
-/
import Derived.Test.YtblmfjndemfkjaaPush
namespace Go.Proofs.Ytblmfjndemfkjaa
open Go.RowKit Go.Lib
set_option maxRecDepth 100000

/-- what is put, or not -/
def PutP (w : World) (C n : Nat) (U : Nat → Prop) (l : List Ms) (k : Int) (p : Int × Int × List UInt8) (r : Value) (e : Ending) (w' : World) : Prop :=
  ∃ m, m.pl = p ∧ e = .returned r ∧ Nt w' C n U (l ++ [m]) k ∧ Turn w w' (Vf C U)
theorem plus_one {k : Int} (h0 : 0 ≤ k) (h : k ≤ 1000000) : IntKind.i64.wrap (k + 1) = k + 1 := by rw [IntKind.wrap_i64]; omega
section
variable (C n : Nat) (U : Nat → Prop) (l : List Ms) (k : Int) (w : World) (h : Nt w C n U l k)
include h
set_option maxHeartbeats 4000000 in
theorem put_no (m : Ms) (hf : l.length = 4096) (hk0 : 0 ≤ k) (hk : k ≤ 1000000) : Calls Try.prog 8 #[.pointer (some ⟨n, 0, none⟩), vM m] w (Did w C n U (.int .i64 31) l (k + 1)) := by
  obtain ⟨f, t, A, nn, c, d⟩ := m
  have HW := Lib.hid (plus_one hk0 hk)
  have h1 := h.alloc (.cells #[.int .i64 f, .int .i64 t, .slice A nn c] 29)
  have HT : Hid (Turn w (w.alloc (.cells #[.int .i64 f, .int .i64 t, .slice A nn c] 29)) (Vf C U)) := Lib.hid (Turn.of_below ((Below.refl _ w).alloc (Nat.le_refl _) _) _)
  have HN := Lib.hid h1
  obtain ⟨c1, z1, h7, t7⟩ := h1.lose (k + 1)
  have H7 := Lib.hid h7
  have T7 := Lib.hid t7
  have HB : Hid (decide (4096 ≤ l.length) = true) := Lib.hid (by rw [hf]; rfl)
  have q1 : IntKind.i64.wrap (k + 1) = k + 1 := HW.out
  clear h h1 h7 t7
  go_enter Try.func8, Try.ntmps8
  go_wp2_with (fail)
  refine (full_any C n U l k _ HN.out).mono ?_
  rintro e w1 ⟨rfl, rfl⟩
  rw [HB.out]
  go_wp2
  go_ret
  exact ⟨rfl, H7.out, HT.out.trans T7.out (Sub.refl _ _)⟩
set_option maxHeartbeats 4000000 in
theorem put_yes (m : Ms) (F : Nat → Prop) (hg : Good w F m) (hl : l.length < 4096) : Calls Try.prog 8 #[.pointer (some ⟨n, 0, none⟩), vM m] w (PutP w C n U l k m.pl (.int .i64 0)) := by
  obtain ⟨i0, hi0, hz0, hz1, hz2⟩ := info_parts msg_info
  obtain ⟨f, t, A, nn, c, d⟩ := m
  have HC := Lib.hid h.cle
  have HL := Lib.hid hl
  have HN := Lib.hid h
  obtain ⟨L, hL⟩ : ∃ L, l.length = L := ⟨_, rfl⟩
  obtain ⟨A1, c1, hc0, hLc, hcm, hnlt, hub, hp⟩ := h.push
  rw [hL] at hc0 hLc hp hl hub
  have HU : Hid (∀ x, w.heap.size ≤ x → some x ≠ (Value.slice A1 L c1).ownBlock) := Lib.hid (fun x hx e => by have := hub x e.symm; omega)
  have HLL := Lib.hid hL
  have HP := Lib.hid hp
  have HFB : Hid (decide (4096 ≤ l.length) = false) := Lib.hid (by rw [hL]; simp; omega)
  rw [hL] at HL
  clear hp hub
  obtain ⟨w1, hw1⟩ : ∃ w1, w.alloc (.cells #[.int .i64 f, .int .i64 t, .slice A nn c] 29) = w1 := ⟨_, rfl⟩
  have HB1 : Hid (Below w.heap.size w w1) := Lib.hid (by rw [← hw1]; exact (Below.refl _ w).alloc (Nat.le_refl _) _)
  have HX : Hid (Bx w1 w.heap.size ⟨f, t, A, nn, c, d⟩) := Lib.hid (by rw [← hw1]; exact Bx.new w ⟨f, t, A, nn, c, d⟩)
  have HN1 := Lib.hid (HN.out.below HB1.out)
  have HG : Hid (Good w1.drew F ⟨f, t, A, nn, c, d⟩) := Lib.hid (hg.below HB1.out.drew)
  obtain ⟨cc1, _, _⟩ := HP.out _ HB1.out
  clear h hg hc0
  go_enter Try.func8, Try.ntmps8
  go_wp2_with (fail)
  refine (full_any C n U l k _ HN1.out).mono ?_
  rintro e w0 ⟨rfl, rfl⟩
  rw [HFB.out]
  have b1 : w1.drew.cell? ⟨n, 0, none⟩ = some (.slice A1 L c1) ∧ Bx w1.drew w.heap.size ⟨f, t, A, nn, c, d⟩ := ⟨cc1, HX.out⟩
  clear hw1 cc1
  go_wp2
  refine until_begin (S := fun w' => w'.cell? ⟨n, 0, none⟩ = some (.slice A1 L c1) ∧ Bx w' w.heap.size ⟨f, t, A, nn, c, d⟩) (q := 11) (by kernel_rfl) ?_
  have hHeld := b1
  refine until_pure (i := 0) (oi := ⟨some 14, _, _, _, _, _⟩) (v := .pointer (some ⟨n, 0, none⟩)) rfl (by kernel_rfl) (by kernel_rfl) (by kernel_rfl) (fun _ _ _ h => h) (by rfl) (Or.inl ⟨by rfl, ?_⟩) (by assumption) ?_
  · (intro w'; go_simp)
  try simp only [Act.put, List.setIfInBounds_toArray, List.set_cons_zero, List.set_cons_succ]
  refine until_pure (i := 1) (oi := ⟨some 15, _, _, _, _, _⟩) (v := .pointer (some ⟨n, 0, none⟩)) rfl (by kernel_rfl) (by kernel_rfl) (by kernel_rfl) (fun _ _ _ h => h) (by rfl) (Or.inl ⟨by rfl, ?_⟩) (by assumption) ?_
  · (intro w'; go_simp)
  try simp only [Act.put, List.setIfInBounds_toArray, List.set_cons_zero, List.set_cons_succ]
  refine until_pure (i := 2) (oi := ⟨some 16, _, _, _, _, _⟩) (v := .pointer (some ⟨n, 0, none⟩)) rfl (by kernel_rfl) (by kernel_rfl) (by kernel_rfl) (fun _ _ _ h => h) (by rfl) (Or.inl ⟨by rfl, ?_⟩) (by assumption) ?_
  · (intro w'; go_simp)
  try simp only [Act.put, List.setIfInBounds_toArray, List.set_cons_zero, List.set_cons_succ]
  refine until_pure (i := 3) (oi := ⟨some 17, _, _, _, _, _⟩) (v := .pointer (some ⟨n, 0, none⟩)) rfl (by kernel_rfl) (by kernel_rfl) (by kernel_rfl) (fun _ _ _ h => h) (by rfl) (Or.inl ⟨by rfl, ?_⟩) (by assumption) ?_
  · (intro w'; go_simp)
  try simp only [Act.put, List.setIfInBounds_toArray, List.set_cons_zero, List.set_cons_succ]
  refine until_load (i := 4) (oi := ⟨some 18, _, _, _, _, _⟩) (v := .slice A1 L c1) rfl (by kernel_rfl) (by kernel_rfl) (by kernel_rfl) (fun _ _ _ h => h) (by rfl) [8] (by kernel_rfl) (by kernel_rfl) (Or.inl ⟨by rfl, ?_⟩) (by assumption) ?_
  · (intro w' hSw; obtain ⟨s0, s1⟩ := hSw; go_simp)
  try simp only [Act.put, List.setIfInBounds_toArray, List.set_cons_zero, List.set_cons_succ]
  refine until_load (i := 5) (oi := ⟨some 19, _, _, _, _, _⟩) (v := .agg #[.int .i64 f, .int .i64 t, .slice A nn c]) rfl (by kernel_rfl) (by kernel_rfl) (by kernel_rfl) (fun _ _ _ h => h) (by rfl) [6] (by kernel_rfl) (by kernel_rfl) (Or.inl ⟨by rfl, ?_⟩) (by assumption) ?_
  · (intro w' hSw; obtain ⟨s0, s1⟩ := hSw; obtain ⟨e0, e1, e2⟩ := s1.cells; dsimp only at e0 e1 e2; clear s1; go_simp)
  try simp only [Act.put, List.setIfInBounds_toArray, List.set_cons_zero, List.set_cons_succ]
  refine until_ready (rs := [6]) (by kernel_rfl) (by simp) ?_
  refine AllUntil.cons rfl (by rfl) (fun K hK => ?_) AllUntil.nil
  go_simp
  refine (copied_any ⟨f, t, A, nn, c, d⟩ F _ HG.out).mono ?_
  rintro e w2 ⟨A3, c3, rfl, hc3, hcm3, ho3, hb3⟩
  dsimp only at hc3 ho3 ⊢
  have hB2 := HB1.out.drew.trans (hb3.mono HB1.out.size)
  obtain ⟨c2, _, _⟩ := HP.out _ hB2
  have b2 := (show _ ∧ Bx _ w.heap.size ⟨f, t, A, nn, c, d⟩ from ⟨(HP.out _ hB2).1, Bx.later (show Bx w1.drew w.heap.size ⟨f, t, A, nn, c, d⟩ from HX.out) hb3⟩)
  refine hK.out _ _ b2 (fun hHeld => ?_)
  clear hK K
  try simp only [Act.put, List.setIfInBounds_toArray, List.set_cons_zero, List.set_cons_succ]
  have hm2 : Good w2 (fun i => i < w.heap.size) ⟨f, t, A3, nn, c3, d⟩ := ⟨Rd.of_own ho3 rfl (fun b hb f => by have h1 := (ho3.lt b hb).1; have h2 := HB1.out.size; simp at h1; omega), hc3, hcm3, HG.out.sz⟩
  have HB4 : Hid (Below w.heap.size w (w2.alloc (.cells #[.int .i64 f, .int .i64 t, .slice A3 nn c3] 29))) := Lib.hid (hB2.alloc hB2.size _)
  have HM4 : Hid (Good (w2.alloc (.cells #[.int .i64 f, .int .i64 t, .slice A3 nn c3] 29)) (fun i => i < w.heap.size) ⟨f, t, A3, nn, c3, d⟩) := Lib.hid (hm2.below ((Below.refl _ _).alloc (Nat.le_refl _) _))
  have hR4 : Rd (w2.alloc (.cells #[.int .i64 f, .int .i64 t, .slice A3 nn c3] 29)) no 3 (some ⟨w2.heap.size, 0, none⟩) 1 (encM ⟨f, t, A3, nn, c3, d⟩) := Rd.new w2 no (fun _ f => f.elim) 3 1 #[.int .i64 f, .int .i64 t, .slice A3 nn c3] _ rfl
  obtain ⟨c4, ho4, hp4⟩ := HP.out _ HB4.out
  have HP4 := Lib.hid hp4
  have b4 := (show _ ∧ Bx _ w.heap.size ⟨f, t, A, nn, c, d⟩ from ⟨(HP.out _ HB4.out).1, Bx.later (show Bx w1.drew w.heap.size ⟨f, t, A, nn, c, d⟩ from HX.out) (hb3.alloc hb3.size (.cells #[.int .i64 f, .int .i64 t, .slice A3 nn c3] 29))⟩)
  clear hp4
  refine until_ready (rs := [7]) (by kernel_rfl) (by simp) ?_
  refine AllUntil.cons rfl (by rfl) (fun K hK => ?_) AllUntil.nil
  go_simp
  refine hK.out _ _ b4 (fun hHeld => ?_)
  clear hK K
  try simp only [Act.put, List.setIfInBounds_toArray, List.set_cons_zero, List.set_cons_succ]
  refine until_ready (rs := [8]) (by kernel_rfl) (by simp) ?_
  refine AllUntil.cons rfl (by rfl) (fun K hK => ?_) AllUntil.nil
  refine step_append_rd _ (by rfl) (.tmp 18) (.tmp 21) 26 (by rfl) C 29 i0 _ 3 40 Try.underlying26 hi0 hz0 hz1 hz2 rfl (by omega) (.slice A1 L c1) L (flatM l) (by rfl) ho4 no (some ⟨w2.heap.size, 0, none⟩) 1 1 (encM ⟨f, t, A3, nn, c3, d⟩) (by rfl) hR4 (by intro u hu; simp [encM] at hu; rcases hu with rfl | rfl | rfl <;> rfl) (by unfold maxLen; omega) (by omega) (Nat.le_trans HC.out HB4.out.size) ?_
  intro v6 w6 hown6 hg6 hat6
  obtain ⟨A6, c6, rfl, _, _⟩ := own_form hown6
  obtain ⟨g6, f6, h7, t7⟩ := HP4.out _ _ _ HM4.out HL.out hown6 hg6 hat6
  have b6 := (show _ ∧ Bx w6 w.heap.size ⟨f, t, A, nn, c, d⟩ from ⟨g6, Blk.grown b4.2 hg6 (HU.out _ (Nat.le_refl _))⟩)
  refine hK.out _ _ b6 (fun hHeld => ?_)
  clear hK K
  try simp only [Act.put, List.setIfInBounds_toArray]
  refine until_pure (i := 9) (oi := ⟨some 23, _, _, _, _, _⟩) (v := .pointer (some ⟨n, 0, none⟩)) rfl (by kernel_rfl) (by kernel_rfl) (by kernel_rfl) (fun _ _ _ h => h) (by rfl) (Or.inl ⟨by rfl, ?_⟩) (by assumption) ?_
  · (intro w'; go_simp)
  try simp only [Act.put]
  refine until_pure (i := 10) (oi := ⟨some 24, _, _, _, _, _⟩) (v := .pointer (some ⟨n, 0, none⟩)) rfl (by kernel_rfl) (by kernel_rfl) (by kernel_rfl) (fun _ _ _ h => h) (by rfl) (Or.inl ⟨by rfl, ?_⟩) (by assumption) ?_
  · (intro w'; go_simp)
  try simp only [Act.put]
  refine until_ready (rs := [11]) (by kernel_rfl) (by simp) ?_
  refine AllUntil.stop rfl (fun K hK => ?_)
  have HH7 := Lib.hid h7
  have HT7 := Lib.hid t7
  clear h7 t7
  go_simp
  refine hK.out _ _ ?_
  clear hK K
  try simp only [Act.put, List.setIfInBounds_toArray, List.set_cons_zero, List.set_cons_succ]
  refine wpAny_done (by kernel_rfl) ?_ _
  go_wp2
  go_ret
  exact ⟨⟨f, t, A3, nn, c3, d⟩, rfl, rfl, HH7.out, HT7.out⟩
set_option maxHeartbeats 4000000 in
theorem double_no (i : Int) (hi : inB l i = false ∨ l.length = 4096) : Calls Try.prog 11 #[.pointer (some ⟨n, 0, none⟩), .int .i64 i] w fun e w' => e = .returned (.bool false) ∧ w = w' := by
  have HN := Lib.hid h
  by_cases hq : inB l i = false
  · have HQ := Lib.hid hq
    clear hi h hq
    go_enter Try.func11, Try.ntmps11
    go_wp2_with (fail)
    refine (has_any C n U l k _ HN.out i).mono ?_
    rintro e w1 ⟨rfl, rfl⟩
    rw [HQ.out]
    go_wp2
    go_ret
    exact ⟨rfl, rfl⟩
  · have HQ : Hid (inB l i = true) := Lib.hid (by simpa using hq)
    have HB : Hid (decide (4096 ≤ l.length) = true) := Lib.hid (by rcases hi with h1 | h1; exact absurd h1 hq; rw [h1]; rfl)
    clear hi h hq
    go_enter Try.func11, Try.ntmps11
    go_wp2_with (fail)
    refine (has_any C n U l k _ HN.out i).mono ?_
    rintro e w1 ⟨rfl, rfl⟩
    rw [HQ.out]
    go_wp2_with (fail)
    refine (full_any C n U l k _ HN.out).mono ?_
    rintro e w1 ⟨rfl, rfl⟩
    rw [HB.out]
    go_wp2
    go_ret
    exact ⟨rfl, rfl⟩
set_option maxHeartbeats 4000000 in
theorem double_yes (i : Nat) (m : Ms) (hi : l[i]? = some m) (hl : l.length < 4096) : Calls Try.prog 11 #[.pointer (some ⟨n, 0, none⟩), .int .i64 (i : Int)] w (PutP w C n U l k m.pl (.bool true)) := by
  obtain ⟨i0, hi0, hz0, hz1, hz2⟩ := info_parts msg_info
  have hil : i < l.length := (List.getElem?_eq_some_iff.1 hi).1
  have HQ : Hid (inB l (i : Int) = true) := Lib.hid (by unfold inB; rw [decide_eq_true]; omega)
  obtain ⟨F, hg⟩ : ∃ F, Good w F m := by
    obtain ⟨_, _, _, _, _, _, _, hg, _⟩ := h.open_
    exact ⟨_, hg m (List.mem_of_getElem? hi)⟩
  obtain ⟨f, t, A, nn, c, d⟩ := m
  have HC := Lib.hid h.cle
  have HL := Lib.hid hl
  have HN := Lib.hid h
  obtain ⟨L, hL⟩ : ∃ L, l.length = L := ⟨_, rfl⟩
  obtain ⟨A1, c1, hc0, hLc, hcm, hnlt, hub, hp⟩ := h.push
  rw [hL] at hc0 hLc hp hl hub
  have HU : Hid (∀ x, w.heap.size ≤ x → some x ≠ (Value.slice A1 L c1).ownBlock) := Lib.hid (fun x hx e => by have := hub x e.symm; omega)
  have HLL := Lib.hid hL
  have HP := Lib.hid hp
  have HFB : Hid (decide (4096 ≤ l.length) = false) := Lib.hid (by rw [hL]; simp; omega)
  rw [hL] at HL
  clear hp hub
  have HB1 : Hid (Below w.heap.size w w) := Lib.hid (Below.refl _ _)
  have HG : Hid (Good w.drew F ⟨f, t, A, nn, c, d⟩) := Lib.hid (hg.below HB1.out.drew)
  rw [hL] at hil
  obtain ⟨ad, he, e0, e1, e2, hadl⟩ : ∃ ad, A1 = some ad ∧ w.cell? (ad.add (i * 3)) = some (.int .i64 f) ∧ w.cell? ⟨(ad.add (i * 3)).block, (ad.add (i * 3)).off + 1, none⟩ = some (.int .i64 t) ∧ w.cell? ⟨(ad.add (i * 3)).block, (ad.add (i * 3)).off + 2, none⟩ = some (.slice A nn c) ∧ ad.block < w.heap.size := by
    obtain ⟨A', c', hb', _, _, _, _, _, hr'⟩ := h.open_
    have hh := hb'.cell 0
    simp at hh
    rw [hc0, hL] at hh
    injection hh with hh
    injection hh with h1 h2 h3
    subst h1
    rw [hL] at hr'
    obtain ⟨ad, p, he, hp2, hlt, _, e0, e1, e2⟩ := hr'.atM hil
    rw [hi] at hp2
    injection hp2 with hp2
    subst hp2
    exact ⟨ad, he, e0, e1, e2, hlt⟩
  subst he
  have HE : Hid (∀ w', (Below w.heap.size w w') → w'.cell? (ad.add (i * 3)) = some (.int .i64 f) ∧ w'.cell? ⟨(ad.add (i * 3)).block, (ad.add (i * 3)).off + 1, none⟩ = some (.int .i64 t) ∧ w'.cell? ⟨(ad.add (i * 3)).block, (ad.add (i * 3)).off + 2, none⟩ = some (.slice A nn c)) := Lib.hid (fun w' hb => ⟨(hb.cell (by rw [block_of_add]; exact hadl)).trans e0, (hb.cell (by show (ad.add (i * 3)).block < _; rw [block_of_add]; exact hadl)).trans e1, (hb.cell (by show (ad.add (i * 3)).block < _; rw [block_of_add]; exact hadl)).trans e2⟩)
  clear h hg hi e0 e1 e2
  go_enter Try.func11, Try.ntmps11
  go_wp2_with (fail)
  refine (has_any C n U l k _ HN.out (i : Int)).mono ?_
  rintro e w0 ⟨rfl, rfl⟩
  rw [HQ.out]
  go_wp2_with (fail)
  refine (full_any C n U l k _ HN.out).mono ?_
  rintro e w0 ⟨rfl, rfl⟩
  rw [HFB.out]
  have b1 : w.drew.cell? ⟨n, 0, none⟩ = some (.slice (some ad) L c1) ∧ w.drew.cell? (ad.add (i * 3)) = some (.int .i64 f) ∧ w.drew.cell? ⟨(ad.add (i * 3)).block, (ad.add (i * 3)).off + 1, none⟩ = some (.int .i64 t) ∧ w.drew.cell? ⟨(ad.add (i * 3)).block, (ad.add (i * 3)).off + 2, none⟩ = some (.slice A nn c) := ⟨hc0, HE.out w (Below.refl _ _)⟩
  clear hc0
  have k1 : (0 : Int) ≤ (i : Int) := by omega
  have k2 : (i : Int) < (L : Int) := by omega
  go_wp2
  refine until_begin (S := fun w' => w'.cell? ⟨n, 0, none⟩ = some (.slice (some ad) L c1) ∧ w'.cell? (ad.add (i * 3)) = some (.int .i64 f) ∧ w'.cell? ⟨(ad.add (i * 3)).block, (ad.add (i * 3)).off + 1, none⟩ = some (.int .i64 t) ∧ w'.cell? ⟨(ad.add (i * 3)).block, (ad.add (i * 3)).off + 2, none⟩ = some (.slice A nn c)) (q := 14) (by kernel_rfl) ?_
  have hHeld := b1
  refine until_pure (i := 0) (oi := ⟨some 13, _, _, _, _, _⟩) (v := .pointer (some ⟨n, 0, none⟩)) rfl (by kernel_rfl) (by kernel_rfl) (by kernel_rfl) (fun _ _ _ h => h) (by rfl) (Or.inl ⟨by rfl, ?_⟩) (by assumption) ?_
  · (intro w'; go_simp)
  try simp only [Act.put, List.setIfInBounds_toArray, List.set_cons_zero, List.set_cons_succ]
  refine until_pure (i := 1) (oi := ⟨some 14, _, _, _, _, _⟩) (v := .pointer (some ⟨n, 0, none⟩)) rfl (by kernel_rfl) (by kernel_rfl) (by kernel_rfl) (fun _ _ _ h => h) (by rfl) (Or.inl ⟨by rfl, ?_⟩) (by assumption) ?_
  · (intro w'; go_simp)
  try simp only [Act.put, List.setIfInBounds_toArray, List.set_cons_zero, List.set_cons_succ]
  refine until_pure (i := 2) (oi := ⟨some 15, _, _, _, _, _⟩) (v := .pointer (some ⟨n, 0, none⟩)) rfl (by kernel_rfl) (by kernel_rfl) (by kernel_rfl) (fun _ _ _ h => h) (by rfl) (Or.inl ⟨by rfl, ?_⟩) (by assumption) ?_
  · (intro w'; go_simp)
  try simp only [Act.put, List.setIfInBounds_toArray, List.set_cons_zero, List.set_cons_succ]
  refine until_pure (i := 3) (oi := ⟨some 16, _, _, _, _, _⟩) (v := .pointer (some ⟨n, 0, none⟩)) rfl (by kernel_rfl) (by kernel_rfl) (by kernel_rfl) (fun _ _ _ h => h) (by rfl) (Or.inl ⟨by rfl, ?_⟩) (by assumption) ?_
  · (intro w'; go_simp)
  try simp only [Act.put, List.setIfInBounds_toArray, List.set_cons_zero, List.set_cons_succ]
  refine until_load (i := 4) (oi := ⟨some 17, _, _, _, _, _⟩) (v := .slice (some ad) L c1) rfl (by kernel_rfl) (by kernel_rfl) (by kernel_rfl) (fun _ _ _ h => h) (by rfl) [] (by kernel_rfl) (by kernel_rfl) (Or.inl ⟨by rfl, ?_⟩) (by assumption) ?_
  · (intro w' hSw; obtain ⟨s0, s1⟩ := hSw; go_simp)
  try simp only [Act.put, List.setIfInBounds_toArray, List.set_cons_zero, List.set_cons_succ]
  refine until_pure (i := 5) (oi := ⟨some 18, _, _, _, _, _⟩) (v := .pointer (some ⟨n, 0, none⟩)) rfl (by kernel_rfl) (by kernel_rfl) (by kernel_rfl) (fun _ _ _ h => h) (by rfl) (Or.inl ⟨by rfl, ?_⟩) (by assumption) ?_
  · (intro w'; go_simp)
  try simp only [Act.put, List.setIfInBounds_toArray, List.set_cons_zero, List.set_cons_succ]
  refine until_pure (i := 6) (oi := ⟨some 19, _, _, _, _, _⟩) (v := .pointer (some ⟨n, 0, none⟩)) rfl (by kernel_rfl) (by kernel_rfl) (by kernel_rfl) (fun _ _ _ h => h) (by rfl) (Or.inl ⟨by rfl, ?_⟩) (by assumption) ?_
  · (intro w'; go_simp)
  try simp only [Act.put, List.setIfInBounds_toArray, List.set_cons_zero, List.set_cons_succ]
  refine until_pure (i := 7) (oi := ⟨some 20, _, _, _, _, _⟩) (v := .pointer (some ⟨n, 0, none⟩)) rfl (by kernel_rfl) (by kernel_rfl) (by kernel_rfl) (fun _ _ _ h => h) (by rfl) (Or.inl ⟨by rfl, ?_⟩) (by assumption) ?_
  · (intro w'; go_simp)
  try simp only [Act.put, List.setIfInBounds_toArray, List.set_cons_zero, List.set_cons_succ]
  refine until_load (i := 8) (oi := ⟨some 21, _, _, _, _, _⟩) (v := .slice (some ad) L c1) rfl (by kernel_rfl) (by kernel_rfl) (by kernel_rfl) (fun _ _ _ h => h) (by rfl) [12, 11, 10] (by kernel_rfl) (by kernel_rfl) (Or.inl ⟨by rfl, ?_⟩) (by assumption) ?_
  · (intro w' hSw; obtain ⟨s0, s1⟩ := hSw; go_simp)
  try simp only [Act.put, List.setIfInBounds_toArray, List.set_cons_zero, List.set_cons_succ]
  refine until_pure (i := 9) (oi := ⟨some 22, _, _, _, _, _⟩) (v := .int .i64 (i : Int)) rfl (by kernel_rfl) (by kernel_rfl) (by kernel_rfl) (fun _ _ _ h => h) (by rfl) (Or.inl ⟨by rfl, ?_⟩) (by assumption) ?_
  · (intro w'; go_simp)
  try simp only [Act.put, List.setIfInBounds_toArray, List.set_cons_zero, List.set_cons_succ]
  refine until_pure (i := 10) (oi := ⟨some 23, _, _, _, _, _⟩) (v := .pointer (some (ad.add (i * 3)))) rfl (by kernel_rfl) (by kernel_rfl) (by kernel_rfl) (fun _ _ _ h => h) (by rfl) (Or.inl ⟨by rfl, ?_⟩) (by assumption) ?_
  · (intro w'; go_simp)
  try simp only [Act.put, List.setIfInBounds_toArray, List.set_cons_zero, List.set_cons_succ]
  refine until_load (i := 11) (oi := ⟨some 24, _, _, _, _, _⟩) (v := .agg #[.int .i64 f, .int .i64 t, .slice A nn c]) rfl (by kernel_rfl) (by kernel_rfl) (by kernel_rfl) (fun _ _ _ h => h) (by rfl) [12] (by kernel_rfl) (by kernel_rfl) (Or.inl ⟨by rfl, ?_⟩) (by assumption) ?_
  · (intro w' hSw; obtain ⟨s0, e0, e1, e2⟩ := hSw; go_simp)
  try simp only [Act.put, List.setIfInBounds_toArray, List.set_cons_zero, List.set_cons_succ]
  refine until_ready (rs := [12]) (by kernel_rfl) (by simp) ?_
  refine AllUntil.cons rfl (by rfl) (fun K hK => ?_) AllUntil.nil
  go_simp
  refine (copied_any ⟨f, t, A, nn, c, d⟩ F _ HG.out).mono ?_
  rintro e w2 ⟨A3, c3, rfl, hc3, hcm3, ho3, hb3⟩
  dsimp only at hc3 ho3 ⊢
  have hB2 := HB1.out.drew.trans (hb3.mono HB1.out.size)
  obtain ⟨c2, _, _⟩ := HP.out _ hB2
  have b2 := (show _ ∧ _ from ⟨(HP.out _ hB2).1, HE.out _ hB2⟩)
  refine hK.out _ _ b2 (fun hHeld => ?_)
  clear hK K
  try simp only [Act.put, List.setIfInBounds_toArray, List.set_cons_zero, List.set_cons_succ]
  have hm2 : Good w2 (fun i => i < w.heap.size) ⟨f, t, A3, nn, c3, d⟩ := ⟨Rd.of_own ho3 rfl (fun b hb f => by have h1 := (ho3.lt b hb).1; have h2 := HB1.out.size; simp at h1; omega), hc3, hcm3, HG.out.sz⟩
  have HB4 : Hid (Below w.heap.size w (w2.alloc (.cells #[.int .i64 f, .int .i64 t, .slice A3 nn c3] 29))) := Lib.hid (hB2.alloc hB2.size _)
  have HM4 : Hid (Good (w2.alloc (.cells #[.int .i64 f, .int .i64 t, .slice A3 nn c3] 29)) (fun i => i < w.heap.size) ⟨f, t, A3, nn, c3, d⟩) := Lib.hid (hm2.below ((Below.refl _ _).alloc (Nat.le_refl _) _))
  have hR4 : Rd (w2.alloc (.cells #[.int .i64 f, .int .i64 t, .slice A3 nn c3] 29)) no 3 (some ⟨w2.heap.size, 0, none⟩) 1 (encM ⟨f, t, A3, nn, c3, d⟩) := Rd.new w2 no (fun _ f => f.elim) 3 1 #[.int .i64 f, .int .i64 t, .slice A3 nn c3] _ rfl
  obtain ⟨c4, ho4, hp4⟩ := HP.out _ HB4.out
  have HP4 := Lib.hid hp4
  have b4 := (show _ ∧ _ from ⟨(HP.out _ HB4.out).1, HE.out _ HB4.out⟩)
  clear hp4
  refine until_ready (rs := [13]) (by kernel_rfl) (by simp) ?_
  refine AllUntil.cons rfl (by rfl) (fun K hK => ?_) AllUntil.nil
  go_simp
  refine hK.out _ _ b4 (fun hHeld => ?_)
  clear hK K
  try simp only [Act.put, List.setIfInBounds_toArray, List.set_cons_zero, List.set_cons_succ]
  refine until_ready (rs := [14]) (by kernel_rfl) (by simp) ?_
  refine AllUntil.stop rfl (fun K hK => ?_)
  refine step_append_rd _ (by rfl) (.tmp 17) (.tmp 26) 26 (by rfl) C 29 i0 _ 3 40 Try.underlying26 hi0 hz0 hz1 hz2 rfl (by omega) (.slice (some ad) L c1) L (flatM l) (by rfl) ho4 no (some ⟨w2.heap.size, 0, none⟩) 1 1 (encM ⟨f, t, A3, nn, c3, d⟩) (by rfl) hR4 (by intro u hu; simp [encM] at hu; rcases hu with rfl | rfl | rfl <;> rfl) (by unfold maxLen; omega) (by omega) (Nat.le_trans HC.out HB4.out.size) ?_
  intro v6 w6 hown6 hg6 hat6
  obtain ⟨A6, c6, rfl, _, _⟩ := own_form hown6
  obtain ⟨g6, f6, h7, t7⟩ := HP4.out _ _ _ HM4.out HL.out hown6 hg6 hat6
  have HH7 := Lib.hid h7
  have HT7 := Lib.hid t7
  clear h7 t7
  refine hK.out _ _ ?_
  clear hK K
  try simp only [Act.put, List.setIfInBounds_toArray]
  refine any_one (i := 15) (by kernel_rfl) rfl (fun K hK => ?_)
  go_simp
  refine hK.out _ _ ?_
  clear hK K
  try simp only [Act.put, List.setIfInBounds_toArray]
  refine any_one (i := 16) (by kernel_rfl) rfl (fun K hK => ?_)
  go_simp
  refine hK.out _ _ ?_
  clear hK K
  try simp only [Act.put, List.setIfInBounds_toArray]
  refine any_one (i := 17) (by kernel_rfl) rfl (fun K hK => ?_)
  go_simp
  refine hK.out _ _ ?_
  clear hK K
  try simp only [Act.put, List.setIfInBounds_toArray]
  refine wpAny_done (by kernel_rfl) ?_ _
  go_wp2
  go_ret
  exact ⟨⟨f, t, A3, nn, c3, d⟩, rfl, rfl, HH7.out, HT7.out⟩
end
end Go.Proofs.Ytblmfjndemfkjaa
