/-
  WHAT IS PROVED: contract of made.Packet: the document's packet with the same parts, its section a row of its own. Condition: the section's cells are there, at most a thousand.
-/
import Derived.Test.YtneanlffllejnaaRt
import Derived.Test.YtneanlffllejnaaPack
import Derived.Deep.CutRange
namespace Go.Proofs.Ytneanlffllejnaa
open Go.RowKit Go.Lib

theorem rp_size : (Try.prog.info? 30).map (·.size) = some 11 := by kernel_rfl
theorem rent_lit (w : World) (t : TypeId) (x y : Int) : EsAt (w.alloc (.cells #[.int .i64 x, .int .i64 y] t)) (some ⟨w.heap.size, 0, none⟩) 1 [⟨x, y⟩] := by
  have b := Blk.new w t #[.int .i64 x, .int .i64 y]
  refine EsAt.of_cells rfl (fun _ => by simp) (fun j u hu => ?_)
  have hz : ∀ j, (⟨w.heap.size, 0, none⟩ : Addr).add j = ⟨w.heap.size, j, none⟩ := fun j => by rw [Go.WideShapes.add_plain, Nat.zero_add]
  rw [hz]
  match j, hu with
  | 0, hu => injection hu with hu; rw [← hu]; exact b.cell 0
  | 1, hu => injection hu with hu; rw [← hu]; exact b.cell 1
  | j + 2, hu => simp [flatR, encR] at hu
theorem blk_set' {w : World} {b j : Nat} {t : TypeId} {cs : Array Value} (h : Blk w b t cs) (v : Value) : Blk (w.setCell ⟨b, j, none⟩ v) b t (cs.setIfInBounds j v) := heap_setCell_same w b j cs t v h
theorem own_kept' {w w' : World} {base e size n : Nat} {v : Value} {xs : List Value} (h : w.ownsRow base e size v n xs) {row : Option Nat} (hg : w.grownBy w' row) (hr : ∀ b, row = some b → b < base) : w'.ownsRow base e size v n xs := by
  refine World.ownsRow.kept h hg ?_
  cases hv : v.ownBlock with
  | none => exact .inl rfl
  | some k => exact .inr fun e => by have := (World.ownsRow.lt h k hv).1; have := hr k e.symm; omega
theorem grown_store'' (w : World) (b : Nat) (v0 v1 v2 v3 v4 v5 v6 v7 v8 v9 v10 : Value) : w.grownBy (((((((((((w.setCell ⟨b, 0, none⟩ v0).setCell ⟨b, 1, none⟩ v1).setCell ⟨b, 2, none⟩ v2).setCell ⟨b, 3, none⟩ v3).setCell ⟨b, 4, none⟩ v4).setCell ⟨b, 5, none⟩ v5).setCell ⟨b, 6, none⟩ v6).setCell ⟨b, 7, none⟩ v7).setCell ⟨b, 8, none⟩ v8).setCell ⟨b, 9, none⟩ v9).setCell ⟨b, 10, none⟩ v10) (some b) := by
  have h0 := only_setCell (World.grownBy.refl w (some b)) (p := ⟨b, 0, none⟩) (.inl rfl) v0
  have h1 := only_setCell h0 (p := ⟨b, 1, none⟩) (.inl rfl) v1
  have h2 := only_setCell h1 (p := ⟨b, 2, none⟩) (.inl rfl) v2
  have h3 := only_setCell h2 (p := ⟨b, 3, none⟩) (.inl rfl) v3
  have h4 := only_setCell h3 (p := ⟨b, 4, none⟩) (.inl rfl) v4
  have h5 := only_setCell h4 (p := ⟨b, 5, none⟩) (.inl rfl) v5
  have h6 := only_setCell h5 (p := ⟨b, 6, none⟩) (.inl rfl) v6
  have h7 := only_setCell h6 (p := ⟨b, 7, none⟩) (.inl rfl) v7
  have h8 := only_setCell h7 (p := ⟨b, 8, none⟩) (.inl rfl) v8
  have h9 := only_setCell h8 (p := ⟨b, 9, none⟩) (.inl rfl) v9
  have h10 := only_setCell h9 (p := ⟨b, 10, none⟩) (.inl rfl) v10
  exact h10
theorem takeE_snoc' {l : List En} {k : Nat} {z : En} (h : l[k]? = some z) : l.take (k + 1) = l.take k ++ [z] := by
  rw [List.take_add_one, h]; rfl

theorem fz_all' {w : World} {b : Nat} {t : TypeId} {cs : Array Value} (h : Blk w b t cs) : w.frozen? ⟨b, 0, none⟩ = false ∧ w.frozen? ⟨b, 1, none⟩ = false ∧ w.frozen? ⟨b, 2, none⟩ = false ∧ w.frozen? ⟨b, 3, none⟩ = false ∧ w.frozen? ⟨b, 4, none⟩ = false ∧ w.frozen? ⟨b, 5, none⟩ = false ∧ w.frozen? ⟨b, 6, none⟩ = false ∧ w.frozen? ⟨b, 7, none⟩ = false ∧ w.frozen? ⟨b, 8, none⟩ = false ∧ w.frozen? ⟨b, 9, none⟩ = false ∧ w.frozen? ⟨b, 10, none⟩ = false :=
  ⟨h.frozen 0, h.frozen 1, h.frozen 2, h.frozen 3, h.frozen 4, h.frozen 5, h.frozen 6, h.frozen 7, h.frozen 8, h.frozen 9, h.frozen 10⟩
set_option maxRecDepth 100000 in
set_option maxHeartbeats 4000000 in
theorem made_any (p : Pk) (A : Option Addr) (n cap : Nat) (w : World) (hl : p.sec.length = n) (hE : EsAt w A n p.sec) (hn : n ≤ 1000) :
    Calls Try.prog 11 #[vP p (.slice A n cap)] w fun e w' => ∃ v, e = .returned (vP p v) ∧ w'.ownsRow w.heap.size 49 2 v n (flatR p.sec) ∧ Below w.heap.size w w' := by
  obtain ⟨kind, frm, ep, cf, ma, sl, off, ab, ac, as_, sec⟩ := p
  dsimp only at hl hE
  simp only [vP]
  obtain ⟨i0, hi0, hz0, hz1, hz2⟩ := info_parts ent_info2
  have HI0 := Lib.hid hi0
  have HZ0 := Lib.hid hz0
  have HZ1 := Lib.hid hz1
  have HZ2 := Lib.hid hz2
  clear hi0 hz0 hz1 hz2
  have bp2 := (Blk.new w 26 #[.int .i64 kind, .int .i64 frm, .int .i64 ep, .int .i64 cf, .int .i64 ma, .int .u64 sl, .int .i64 off, .int .i64 ab, .int .i64 ac, .int .u64 as_, .slice A n cap]).alloc (.cells #[.int .i64 0, .int .i64 0, .int .i64 0, .int .i64 0, .int .i64 0, .int .u64 0, .int .i64 0, .int .i64 0, .int .i64 0, .int .u64 0, .slice none 0 0] 30)
  have bp3 := bp2.alloc (.cells #[.int .i64 kind, .int .i64 frm, .int .i64 ep, .int .i64 cf, .int .i64 ma, .int .u64 sl, .int .i64 off, .int .i64 ab, .int .i64 ac, .int .u64 as_, .slice none 0 0] 30)
  have bz3 := (Blk.new (w.alloc (.cells #[.int .i64 kind, .int .i64 frm, .int .i64 ep, .int .i64 cf, .int .i64 ma, .int .u64 sl, .int .i64 off, .int .i64 ab, .int .i64 ac, .int .u64 as_, .slice A n cap] 26)) 30 #[.int .i64 0, .int .i64 0, .int .i64 0, .int .i64 0, .int .i64 0, .int .u64 0, .int .i64 0, .int .i64 0, .int .i64 0, .int .u64 0, .slice none 0 0]).alloc (.cells #[.int .i64 kind, .int .i64 frm, .int .i64 ep, .int .i64 cf, .int .i64 ma, .int .u64 sl, .int .i64 off, .int .i64 ab, .int .i64 ac, .int .u64 as_, .slice none 0 0] 30)
  have bn3 := Blk.new ((w.alloc (.cells #[.int .i64 kind, .int .i64 frm, .int .i64 ep, .int .i64 cf, .int .i64 ma, .int .u64 sl, .int .i64 off, .int .i64 ab, .int .i64 ac, .int .u64 as_, .slice A n cap] 26)).alloc (.cells #[.int .i64 0, .int .i64 0, .int .i64 0, .int .i64 0, .int .i64 0, .int .u64 0, .int .i64 0, .int .i64 0, .int .i64 0, .int .u64 0, .slice none 0 0] 30)) 30 #[.int .i64 kind, .int .i64 frm, .int .i64 ep, .int .i64 cf, .int .i64 ma, .int .u64 sl, .int .i64 off, .int .i64 ab, .int .i64 ac, .int .u64 as_, .slice none 0 0]
  have hB3 : Below w.heap.size w (((w.alloc (.cells #[.int .i64 kind, .int .i64 frm, .int .i64 ep, .int .i64 cf, .int .i64 ma, .int .u64 sl, .int .i64 off, .int .i64 ab, .int .i64 ac, .int .u64 as_, .slice A n cap] 26)).alloc (.cells #[.int .i64 0, .int .i64 0, .int .i64 0, .int .i64 0, .int .i64 0, .int .u64 0, .int .i64 0, .int .i64 0, .int .i64 0, .int .u64 0, .slice none 0 0] 30)).alloc (.cells #[.int .i64 kind, .int .i64 frm, .int .i64 ep, .int .i64 cf, .int .i64 ma, .int .u64 sl, .int .i64 off, .int .i64 ab, .int .i64 ac, .int .u64 as_, .slice none 0 0] 30)) := (((Below.refl _ _).alloc (Nat.le_refl _) _).alloc (by simp) _).alloc (by simp; omega) _
  rw [show (w.alloc (.cells #[.int .i64 kind, .int .i64 frm, .int .i64 ep, .int .i64 cf, .int .i64 ma, .int .u64 sl, .int .i64 off, .int .i64 ab, .int .i64 ac, .int .u64 as_, .slice A n cap] 26)).heap.size = w.heap.size + 1 by simp] at bz3
  rw [show ((w.alloc (.cells #[.int .i64 kind, .int .i64 frm, .int .i64 ep, .int .i64 cf, .int .i64 ma, .int .u64 sl, .int .i64 off, .int .i64 ab, .int .i64 ac, .int .u64 as_, .slice A n cap] 26)).alloc (.cells #[.int .i64 0, .int .i64 0, .int .i64 0, .int .i64 0, .int .i64 0, .int .u64 0, .int .i64 0, .int .i64 0, .int .i64 0, .int .u64 0, .slice none 0 0] 30)).heap.size = w.heap.size + 1 + 1 by simp] at bn3
  obtain ⟨k0, k1, k2, k3, k4, k5, k6, k7, k8, k9, k10⟩ := pk_cells bp2
  go_enter Try.func11, Try.ntmps11
  go_upto_region 2 with (fail)
  obtain ⟨w3, hw3⟩ : ∃ x, (((w.alloc (.cells #[.int .i64 kind, .int .i64 frm, .int .i64 ep, .int .i64 cf, .int .i64 ma, .int .u64 sl, .int .i64 off, .int .i64 ab, .int .i64 ac, .int .u64 as_, .slice A n cap] 26)).alloc (.cells #[.int .i64 0, .int .i64 0, .int .i64 0, .int .i64 0, .int .i64 0, .int .u64 0, .int .i64 0, .int .i64 0, .int .i64 0, .int .u64 0, .slice none 0 0] 30)).alloc (.cells #[.int .i64 kind, .int .i64 frm, .int .i64 ep, .int .i64 cf, .int .i64 ma, .int .u64 sl, .int .i64 off, .int .i64 ab, .int .i64 ac, .int .u64 as_, .slice none 0 0] 30)) = x := ⟨_, rfl⟩
  have hs3 : w3.heap.size = w.heap.size + 3 := by rw [← hw3]; simp
  rw [hw3] at bp3 bz3 bn3 hB3 ⊢
  have BP3 := Lib.hid bp3
  have BZ3 := Lib.hid bz3
  have BN3 := Lib.hid bn3
  have HB3 := Lib.hid hB3
  have HS3 := Lib.hid hs3
  have HE := Lib.hid hE
  have HL := Lib.hid hl
  clear k0 k1 k2 k3 k4 k5 k6 k7 k8 k9 k10 hw3 bp2 bz3 bn3 hB3 hs3 hE hl
  obtain ⟨k0, k1, k2, k3, k4, k5, k6, k7, k8, k9, k10⟩ := pk_cells bp3
  clear bp3
  go_wp2
  clear k0 k1 k2 k3 k4 k5 k6 k7 k8 k9 k10
  go_loopw [5, 30] (fun _ i wr => ∃ k v, k ≤ n ∧ i = .int .i64 k ∧ Below w.heap.size w wr ∧ Below (w.heap.size + 1 + 1) w3 wr ∧ Blk wr (w.heap.size + 1 + 1) 30 #[.int .i64 kind, .int .i64 frm, .int .i64 ep, .int .i64 cf, .int .i64 ma, .int .u64 sl, .int .i64 off, .int .i64 ab, .int .i64 ac, .int .u64 as_, v] ∧ wr.ownsRow w3.heap.size 49 2 v k (flatR (sec.take k))) (fun _ i _ => n - (intOf i).toNat)
  case atStart => exact ⟨0, .slice none 0 0, by omega, rfl, HB3.out, Below.refl _ _, BN3.out, ⟨rfl, .inl ⟨rfl, rfl⟩⟩⟩
  case round =>
    obtain ⟨k, v, hk, rfl, hb, hb3, hbn, hown⟩ := hrel
    have HB := Lib.hid hb
    have HBB := Lib.hid hb3
    have HBN := Lib.hid hbn
    have HO := Lib.hid hown
    have hsz : w.heap.size + 3 ≤ wr.heap.size := by have := hb3.size; have := HS3.out; omega
    clear hb hb3 hbn hown
    by_cases hkn : k < n
    · obtain ⟨ad, x, rfl, hx, hlt, c0, c1⟩ := (HE.out.below HB.out).at_ hkn
      have HX := Lib.hid (takeE_snoc' hx)
      obtain ⟨id, st⟩ := x
      dsimp only at c0 c1 HX
      obtain ⟨A4, c4, rfl, hc4, hcm4, _⟩ := own_reps HO.out
      have bnr := HBN.out.alloc (.cells #[.int .i64 id, .int .i64 st] 48)
      have q10 := bnr.cell 10
      have hHX := HB.out.alloc (show w.heap.size ≤ wr.heap.size by omega) (.cells #[.int .i64 id, .int .i64 st] 48)
      have hHB := HBB.out.alloc (show w.heap.size + 1 + 1 ≤ wr.heap.size by omega) (.cells #[.int .i64 id, .int .i64 st] 48)
      have ho5 : ((wr.alloc (.cells #[.int .i64 id, .int .i64 st] 48)).alloc (.cells #[.int .i64 id, .int .i64 st] 49)).ownsRow w3.heap.size 49 2 (.slice A4 k c4) k (flatR (sec.take k)) := World.ownsRow.alloc (World.ownsRow.alloc HO.out _) _
      have hr5 := rent_lit (wr.alloc (.cells #[.int .i64 id, .int .i64 st] 48)) 49 id st
      have hs5 : w3.heap.size ≤ ((wr.alloc (.cells #[.int .i64 id, .int .i64 st] 48)).alloc (.cells #[.int .i64 id, .int .i64 st] 49)).heap.size := by have := HS3.out; simp; omega
      have hB5 := hHX.alloc (show w.heap.size ≤ (wr.alloc (.cells #[.int .i64 id, .int .i64 st] 48)).heap.size by simp; omega) (.cells #[.int .i64 id, .int .i64 st] 49)
      have hBB5 := hHB.alloc (show w.heap.size + 1 + 1 ≤ (wr.alloc (.cells #[.int .i64 id, .int .i64 st] 48)).heap.size by simp; omega) (.cells #[.int .i64 id, .int .i64 st] 49)
      have bn5 := bnr.alloc (.cells #[.int .i64 id, .int .i64 st] 49)
      have hlow : ∀ b, (Value.slice A4 k c4).ownBlock = some b → w3.heap.size ≤ b := fun b e => (World.ownsRow.lt HO.out b e).1
      have hne : some (w.heap.size + 1 + 1) ≠ (Value.slice A4 k c4).ownBlock := fun e => by have := hlow _ e.symm; have := HS3.out; omega
      have hn6 : k + 1 ≤ 1000000 := by omega
      rw [World.size_alloc] at hr5
      have HB5 := Lib.hid hB5
      have HBB5 := Lib.hid hBB5
      have BN5 := Lib.hid bn5
      clear hx bnr hHX hHB hB5 hBB5 bn5
      go_wp2_with (at_builtin; refine wpList_append_reps _ rfl (.tmp 35) (.tmp 37) 28 rfl w3.heap.size 49 i0 _ Try.underlying28 HI0.out HZ0.out HZ1.out HZ2.out rfl (.slice A4 k c4) k (sec.take k) rfl ho5 (some ⟨wr.heap.size + 1, 0, none⟩) 1 1 [⟨id, st⟩] rfl hr5 hn6 hs5 ?_; intro v6 w6 ho6 hg6 _; rw [← HX.out] at ho6; obtain ⟨A6, c6, rfl, _, _, _⟩ := own_reps ho6; have bn6 := BN5.out.grown hg6 hne; have hcq := bn6.cell 10; have hfq := bn6.frozen 10)
      go_roundw
      case rel =>
        refine ⟨k + 1, .slice A6 (k + 1) c6, by omega, by go_num, ?_, ?_, blk_set' bn6 _, own_kept' ho6 (only_setCell (World.grownBy.refl w6 (some (w.heap.size + 1 + 1))) (p := ⟨w.heap.size + 1 + 1, 10, none⟩) (.inl rfl) (.slice A6 (k + 1) c6)) (fun b e => by injection e with e; have := HS3.out; omega)⟩
        · exact (HB5.out.grown hg6 (Nat.le_trans (by have := HS3.out; omega) hs5) (fun b e => by have := hlow b e; have := HS3.out; omega)).setCell (by show _ ≤ w.heap.size + 1 + 1; omega) _
        · exact (HBB5.out.grown hg6 (Nat.le_trans (by have := HS3.out; omega) hs5) (fun b e => by have := hlow b e; have := HS3.out; omega)).setCell (by show _ ≤ w.heap.size + 1 + 1; omega) _
      case measure => simp [intOf]; omega
    · obtain rfl : n = k := by omega
      have hbn := HBN.out
      obtain ⟨k0, k1, k2, k3, k4, k5, k6, k7, k8, k9, k10⟩ := pk_cells hbn
      have hbz : Blk wr (w.heap.size + 1) 30 #[.int .i64 0, .int .i64 0, .int .i64 0, .int .i64 0, .int .i64 0, .int .u64 0, .int .i64 0, .int .i64 0, .int .i64 0, .int .u64 0, .slice none 0 0] := BZ3.out.below HBB.out (by omega)
      have hT : Hid (sec.take n = sec) := by show _ = _; rw [List.take_of_length_le]; rw [HL.out]; exact Nat.le_refl _
      have hf : ∀ j, wr.frozen? ⟨w.heap.size + 1, j, none⟩ = false := fun j => hbz.frozen j
      obtain ⟨l0, l1, l2, l3, l4, l5, l6, l7, l8, l9, l10⟩ := pk_cells hbz
      obtain ⟨f0, f1, f2, f3, f4, f5, f6, f7, f8, f9, f10⟩ := fz_all' hbz
      have HBZ := Lib.hid hbz
      have HBN2 := Lib.hid hbn
      obtain ⟨A7, c7, rfl, _, _, _⟩ := own_reps HO.out
      have ho14 : (((((((((((wr.setCell ⟨w.heap.size + 1, 0, none⟩ (.int .i64 kind)).setCell ⟨w.heap.size + 1, 1, none⟩ (.int .i64 frm)).setCell ⟨w.heap.size + 1, 2, none⟩ (.int .i64 ep)).setCell ⟨w.heap.size + 1, 3, none⟩ (.int .i64 cf)).setCell ⟨w.heap.size + 1, 4, none⟩ (.int .i64 ma)).setCell ⟨w.heap.size + 1, 5, none⟩ (.int .u64 sl)).setCell ⟨w.heap.size + 1, 6, none⟩ (.int .i64 off)).setCell ⟨w.heap.size + 1, 7, none⟩ (.int .i64 ab)).setCell ⟨w.heap.size + 1, 8, none⟩ (.int .i64 ac)).setCell ⟨w.heap.size + 1, 9, none⟩ (.int .u64 as_)).setCell ⟨w.heap.size + 1, 10, none⟩ (.slice A7 n c7)).ownsRow w.heap.size 49 2 (.slice A7 n c7) n (flatR sec) := by
        have h := own_kept' HO.out (grown_store'' wr (w.heap.size + 1) (.int .i64 kind) (.int .i64 frm) (.int .i64 ep) (.int .i64 cf) (.int .i64 ma) (.int .u64 sl) (.int .i64 off) (.int .i64 ab) (.int .i64 ac) (.int .u64 as_) (.slice A7 n c7)) (fun b e => by injection e with e; have := HS3.out; omega)
        rw [hT.out] at h
        exact row_mono h (by have := HS3.out; omega)
      have HO14 := Lib.hid ho14
      clear hbz hbn hf ho14
      go_wp2
      exact bodyPost_ret (results_cell_row rfl _ _ (w.heap.size + 1) 30 _ (0, 0) _ rfl (pk_store HBZ.out _ _ _ _ _ _ _ _ _ _ _) Try.underlying30 rfl rp_size) rfl ⟨.slice A7 n c7, rfl, HO14.out, below_store HB.out (by omega) _ _ _ _ _ _ _ _ _ _ _⟩
end Go.Proofs.Ytneanlffllejnaa
