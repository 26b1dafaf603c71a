/-
  WHAT IS PROVED: the contract of the document's reader of a line, at a line of a known node. Conditions: a line has at most 100000 bytes; the State lies in a variable, its known ones in a row of its own.
-/
import Derived.Test.YtmjbacmaafbdlaaGreatDoorRLineA
import Derived.OrdersHeld
namespace Go.Proofs.YtmjbacmaafbdlaaGreatDoor.R
set_option maxRecDepth 100000
open Go.RowKit Go.Lib C

theorem rki_info : (Tryz.prog.info? 60).map (fun i => (i.zero, i.size, i.bytes)) = some (some (.agg #[.int .i64 0, .int .i64 0, .int .i64 0]), 3, 24) := by kernel_rfl
set_option maxHeartbeats 2000000 in
theorem line_node (d : Dt) (a : Option Addr) (n cap b base : Nat) (l : List UInt8) (hl : l.length ≤ 100000) (w : World) (hS : RAt w b (mkS d a n cap)) (hb : b < base) (hbase : base ≤ w.heap.size) (hn : n ≤ 100000)
    (hown : w.ownsRow base 60 3 (.slice a n cap) n (flatK d.l)) (hok : (pairsF l nodeN true 0 []).2.2 = true) :
    Calls Tryz.prog 13 #[.pointer (some ⟨b, 0, none⟩), .string (str l), .bool false] w (LineP (lineF d l false) b base w) := by
  have HNEW : Below w.heap.size w (w.alloc (.cells #[.string ⟨#[115, 101, 108, 102]⟩, .string ⟨#[109, 97, 115, 116, 101, 114]⟩, .string ⟨#[99, 117, 114, 114, 101, 110, 116]⟩, .string ⟨#[118, 111, 116, 101]⟩, .string ⟨#[99, 111, 110, 102, 105, 103]⟩] 9)) := (Below.refl _ w).alloc (Nat.le_refl _) _
  have HB0 := Lib.hid HNEW
  have hblt := hS.lt
  have JR := Lib.hid (reads_new w 9 (strV selfN) #[.string ⟨#[115, 101, 108, 102]⟩, .string ⟨#[109, 97, 115, 116, 101, 114]⟩, .string ⟨#[99, 117, 114, 114, 101, 110, 116]⟩, .string ⟨#[118, 111, 116, 101]⟩, .string ⟨#[99, 111, 110, 102, 105, 103]⟩] b w.heap.size 5 rfl rfl rfl (by omega))
  have K0 := Lib.hid (hS.later HNEW)
  have O0 := Lib.hid (own_below hown HNEW)
  have HLOW : Hid (∀ k, (Value.slice a n cap).ownBlock = some k → base ≤ k ∧ k < w.heap.size) := Lib.hid fun k hk => hown.lt k hk
  clear HNEW hown hS
  have HLP := Lib.hid (pairs_len l nodeN true 0 [] hok)
  have HLE := Lib.hid (pairs_le l nodeN true 0 [] (by omega))
  have hz : (str l).size ≤ 100000 := hl
  have hzs : (str l).size = l.length := str_size l
  have C1 := Lib.hid (pairs_at l hl selfN 5 rfl (some ⟨w.heap.size, 0, none⟩) 5 b _ (by decide) (by decide) JR.out)
  obtain ⟨o, HO⟩ : ∃ o, Hid (lineF d l false = o) := ⟨_, Lib.hid rfl⟩
  rw [HO.out]
  obtain ⟨p1, HP1⟩ : ∃ p, Hid (pairsF l selfN true 0 [] = p) := ⟨_, Lib.hid rfl⟩
  rw [HP1.out] at C1
  have HPN : Hid (∀ w g, Reads w g (some ⟨g, 0, none⟩) 0 [] → True) := Lib.hid fun _ _ _ => trivial
  clear HPN
  obtain ⟨p2, HP2⟩ : ∃ p, Hid (pairsF l nodeN true 0 [] = p) := ⟨_, Lib.hid rfl⟩
  rw [HP2.out] at hok HLP HLE
  obtain ⟨zs, en, ok⟩ := p2
  simp only at hok
  subst hok
  have hlen : zs.length = 3 := HLP.out
  obtain ⟨z0, z1, z2, rfl⟩ : ∃ z0 z1 z2, zs = [z0, z1, z2] := match zs, hlen with
    | [p, q, r], _ => ⟨p, q, r, rfl⟩
  have HF : Hid (lineF d l false = if en = l.length then some { d with l := d.l ++ [⟨z0, z1, z2⟩] } else none) := by
    show _ = _
    unfold lineF
    rw [if_neg (by decide), HP2.out]
  go_enter Tryz.func13, Tryz.ntmps13
  go_wp2_with (fail)
  with_reducible refine C1.out.mono ?_
  rintro e w1 ⟨hb1, hcase⟩
  have K1 := Lib.hid (K0.out.later hb1)
  have O1 := Lib.hid (own_below O0.out hb1)
  have HB1 := Lib.hid (HB0.out.trans (hb1.mono HB0.out.size))
  have hbl1 := K1.out.lt
  have hsw := HB1.out.size
  clear hb1 K0 O0 C1 JR HB0
  have HNEW : Below w1.heap.size w1 (w1.alloc (.cells #[.string ⟨#[110, 111, 100, 101]⟩, .string ⟨#[109, 97, 115, 116, 101, 114]⟩, .string ⟨#[99, 111, 110, 102, 105, 103]⟩] 9)) := (Below.refl _ w1).alloc (Nat.le_refl _) _
  have JR := Lib.hid (reads_new w1 9 (strV nodeN) #[.string ⟨#[110, 111, 100, 101]⟩, .string ⟨#[109, 97, 115, 116, 101, 114]⟩, .string ⟨#[99, 111, 110, 102, 105, 103]⟩] b w1.heap.size 3 rfl rfl rfl (by omega))
  have L0 := Lib.hid (K1.out.later HNEW)
  have P0 := Lib.hid (own_below O1.out HNEW)
  have HBA := Lib.hid (HB1.out.trans (HNEW.mono HB1.out.size))
  have C2 := Lib.hid (pairs_at l hl nodeN 3 rfl (some ⟨w1.heap.size, 0, none⟩) 3 b _ (by decide) (by decide) JR.out)
  rw [HP2.out] at C2
  have HBZ : Hid (base ≤ w1.heap.size) := Lib.hid (Nat.le_trans hbase HB1.out.size)
  clear HNEW
  have hgo : ∀ v : Value × Value × Value, True := fun _ => trivial
  clear hgo
  obtain ⟨A0, c0, k0, e0, rfl⟩ : ∃ (v : Value) (k : Int) (q : Bool) (u : Unit), e = .returned (.tuple #[v, .int .i64 k, .bool q]) := by
    rcases hcase with ⟨A1, c1, _, rfl, _⟩ | ⟨_, rfl⟩
    · exact ⟨_, _, _, (), rfl⟩
    · exact ⟨_, _, _, (), rfl⟩
  clear hcase K1 O1 HB1
  go_wp2_with (fail)
  with_reducible refine C2.out.mono ?_
  rintro e w2 ⟨hb2, ⟨A1, c1, -, rfl, hzc, hzm, hrd⟩ | ⟨hx, _⟩⟩
  rotate_left 1
  · cases hx
  have L1 := Lib.hid (L0.out.later hb2)
  have O2 := Lib.hid (own_below P0.out hb2)
  have HB2 := Lib.hid (HBA.out.trans (hb2.mono HBA.out.size))
  have hs2 := hb2.size
  have hsa : (w1.alloc (.cells #[.string ⟨#[110, 111, 100, 101]⟩, .string ⟨#[109, 97, 115, 116, 101, 114]⟩, .string ⟨#[99, 111, 110, 102, 105, 103]⟩] 9)).heap.size = w1.heap.size + 1 := by simp
  have hall : ∀ k, k < w1.heap.size + 1 → Reads w2 k A1 3 (zints [(z0 : Int), z1, z2]) := fun k hk => hrd k (.inr (by rw [hsa]; exact hk))
  clear hrd hb2 L0 P0 HBA C2 JR
  obtain ⟨ad, rfl, hltad, hne, _⟩ := (hall b (by omega)).2 (Nat.succ_pos _)
  have HR1 : Hid (Reads w2 b (some ad) 3 (zints [(z0 : Int), z1, z2])) := Lib.hid (hall b (by omega))
  have hbz := HBZ.out
  have HADN : Hid (∀ k, (Value.slice a n cap).ownBlock = some k → ad.block ≠ k) := Lib.hid fun k hk => by
    have h1 := (HLOW.out k hk).2
    obtain ⟨ad', e, _, h, _⟩ := (hall k (by omega)).2 (Nat.succ_pos _)
    cases e; exact h
  clear hall
  have HC : Hid (∀ w', Reads w' b (some ad) 3 (zints [(z0 : Int), z1, z2]) → w'.cell? ad = some (.int .i64 z0) ∧ w'.cell? ⟨ad.block, ad.off + 1, none⟩ = some (.int .i64 z1) ∧ w'.cell? ⟨ad.block, ad.off + 2, none⟩ = some (.int .i64 z2)) := Lib.hid fun _ h => cells3 h
  simp only [List.length_cons, List.length_nil, Nat.zero_add, Nat.reduceAdd] at hzc ⊢
  obtain ⟨i0, hi0, hz0, hz1, hz2⟩ := info_parts rki_info
  have ho5 : (w2.drew.alloc (.cells #[.int .i64 z0, .int .i64 z1, .int .i64 z2] 60)).ownsRow base 60 3 (.slice a n cap) n (flatK d.l) := World.ownsRow.alloc (show w2.drew.ownsRow _ _ _ _ _ _ from O2.out) _
  have hr5 := KnAt.one w2.drew ⟨z0, z1, z2⟩ 60
  have hs5 : base ≤ (w2.drew.alloc (.cells #[.int .i64 z0, .int .i64 z1, .int .i64 z2] 60)).heap.size := by simp; show base ≤ w2.heap.size + 1; omega
  obtain ⟨v6, w6, hrun, ho6, hg6, hob⟩ := run_append_kn (P := Tryz.prog) (w2.drew.alloc (.cells #[.int .i64 z0, .int .i64 z1, .int .i64 z2] 60)) base 34 34 60 i0 _ Tryz.underlying34 hi0 hz0 hz1 hz2 rfl (.slice a n cap) n _ ho5 (some ⟨w2.heap.size, 0, none⟩) 1 1 [⟨z0, z1, z2⟩] hr5 (by omega) hs5
  obtain ⟨A6, c6, rfl, _, _, _⟩ := own_kn ho6
  have HRUN := Lib.hid hrun
  have hneb : some b ≠ (Value.slice a n cap).ownBlock := fun e => by have := (HLOW.out _ e.symm).1; omega
  have D1 : RAt w2.drew b (mkS d a n cap) := L1.out.drew
  have E1 : RAt (w2.drew.alloc (.cells #[.int .i64 z0, .int .i64 z1, .int .i64 z2] 60)) b (mkS d a n cap) := D1.alloc _
  have P1 : RAt w6 b (mkS d a n cap) := RAt.grown E1 hg6 hneb
  have P3 : Below b w w6 := (((HB2.out.mono (show b ≤ w.heap.size by omega)).drew.alloc (show b ≤ w2.drew.heap.size from Nat.le_of_lt L1.out.lt) (.cells #[.int .i64 z0, .int .i64 z1, .int .i64 z2] 60))).grown hg6 (by simp; have := L1.out.lt; show b ≤ w2.heap.size + 1; omega) (fun k e => by have := (HLOW.out k e).1; omega)
  have X1 := Lib.hid (P1.set5 A6 (n + 1) c6)
  have X3 := Lib.hid (below_set P3 (p := ⟨b, 5, none⟩) (Nat.le_refl _) (.slice A6 (n + 1) c6))
  have XO := Lib.hid (own_set_far ho6 (p := ⟨b, 5, none⟩) hb (.slice A6 (n + 1) c6))
  have q5 := (P1.box).2.2.2.2.2
  have qf := P1.fz
  have d1 : w2.drew.cell? ⟨b, 5, none⟩ = some (.slice a n cap) := D1.box.2.2.2.2.2
  have e1 : (w2.drew.alloc (.cells #[.int .i64 z0, .int .i64 z1, .int .i64 z2] 60)).cell? ⟨b, 5, none⟩ = some (.slice a n cap) := E1.box.2.2.2.2.2
  have e1b : (w2.alloc (.cells #[.int .i64 z0, .int .i64 z1, .int .i64 z2] 60)).drew.cell? ⟨b, 5, none⟩ = some (.slice a n cap) := e1
  have d2 := HC.out _ (reads_drew HR1.out)
  have e2 : _ ∧ _ ∧ _ := HC.out (w2.drew.alloc (.cells #[.int .i64 z0, .int .i64 z1, .int .i64 z2] 60)) ((reads_drew HR1.out).below ((Below.refl _ _).alloc (Nat.le_refl _) _))
  have hfar : ∀ p : Addr, p.block = ad.block → w6.cell? p = (w2.drew.alloc (.cells #[.int .i64 z0, .int .i64 z1, .int .i64 z2] 60)).cell? p := fun p hp => World.cell?_of_block (hg6.block p.block (by rw [hp]; simp; exact Nat.lt_succ_of_lt (show ad.block < w2.heap.size from hltad)) (fun e => HADN.out _ (by rw [← e]) hp.symm))
  have g2 : w6.cell? ad = some (.int .i64 z0) ∧ w6.cell? ⟨ad.block, ad.off + 1, none⟩ = some (.int .i64 z1) ∧ w6.cell? ⟨ad.block, ad.off + 2, none⟩ = some (.int .i64 z2) := ⟨(hfar ad rfl).trans e2.1, (hfar ⟨ad.block, ad.off + 1, none⟩ rfl).trans e2.2.1, (hfar ⟨ad.block, ad.off + 2, none⟩ rfl).trans e2.2.2⟩
  have hf2 : ∀ p : Addr, p.block = ad.block → (w6.setCell ⟨b, 5, none⟩ (.slice A6 (n + 1) c6)).cell? p = w6.cell? p := fun p hp => cell_far w6 (by rw [hp]; exact hne) _
  have h2 : (w6.setCell ⟨b, 5, none⟩ (.slice A6 (n + 1) c6)).cell? ad = some (.int .i64 z0) ∧ (w6.setCell ⟨b, 5, none⟩ (.slice A6 (n + 1) c6)).cell? ⟨ad.block, ad.off + 1, none⟩ = some (.int .i64 z1) ∧ (w6.setCell ⟨b, 5, none⟩ (.slice A6 (n + 1) c6)).cell? ⟨ad.block, ad.off + 2, none⟩ = some (.int .i64 z2) := ⟨(hf2 ad rfl).trans g2.1, (hf2 ⟨ad.block, ad.off + 1, none⟩ rfl).trans g2.2.1, (hf2 ⟨ad.block, ad.off + 2, none⟩ rfl).trans g2.2.2⟩
  have hbw : b < w2.heap.size := L1.out.lt
  have HEQ : Hid ((en = l.length ∧ ((en : Int) == ((str l).size : Int)) = true ∧ o = some { d with l := d.l ++ [⟨z0, z1, z2⟩] }) ∨ (((en : Int) == ((str l).size : Int)) = false ∧ o = none)) := by
    show _ ∨ _
    rw [← HO.out, HF.out]
    by_cases he : en = l.length
    · exact .inl ⟨he, by rw [beq_iff_eq]; omega, if_pos he⟩
    · exact .inr ⟨by rw [beq_eq_false_iff_ne]; omega, if_neg he⟩
  clear hrun hob ho5 hr5 ho6 hg6 P1 P3 D1 E1 hi0 hz0 hz1 hz2 hfar hf2 hneb hs5 hltad hzs
  go_wp2
  refine wp_region_held_drew (S := fun w' => w'.cell? ad = some (.int .i64 z0) ∧ w'.cell? ⟨ad.block, ad.off + 1, none⟩ = some (.int .i64 z1) ∧ w'.cell? ⟨ad.block, ad.off + 2, none⟩ = some (.int .i64 z2)) (by kernel_rfl) d2 (fun hHeld => ?_)
  refine wpAnyH_take (i := 0) (oi := ⟨some 67, _, _, _, _, _⟩) (v := .pointer (some ⟨b, 0, none⟩)) rfl (by kernel_rfl) (by kernel_rfl) (by kernel_rfl) (fun _ _ _ h => h) (Or.inl ⟨by rfl, ?_⟩) (by assumption) ?_
  · (intro w' hSw; obtain ⟨s0, s1, s2⟩ := hSw; go_simp)
  try simp only [Act.put, List.setIfInBounds_toArray, List.set_cons_zero, List.set_cons_succ]
  refine wpAnyH_take (i := 1) (oi := ⟨some 68, _, _, _, _, _⟩) (v := .pointer (some ⟨b, 0, none⟩)) rfl (by kernel_rfl) (by kernel_rfl) (by kernel_rfl) (fun _ _ _ h => h) (Or.inl ⟨by rfl, ?_⟩) (by assumption) ?_
  · (intro w' hSw; obtain ⟨s0, s1, s2⟩ := hSw; go_simp)
  try simp only [Act.put, List.setIfInBounds_toArray, List.set_cons_zero, List.set_cons_succ]
  refine wpAnyH_take (i := 2) (oi := ⟨some 69, _, _, _, _, _⟩) (v := .pointer (some ⟨b, 0, none⟩)) rfl (by kernel_rfl) (by kernel_rfl) (by kernel_rfl) (fun _ _ _ h => h) (Or.inl ⟨by rfl, ?_⟩) (by assumption) ?_
  · (intro w' hSw; obtain ⟨s0, s1, s2⟩ := hSw; go_simp)
  try simp only [Act.put, List.setIfInBounds_toArray, List.set_cons_zero, List.set_cons_succ]
  refine wpAnyH_take (i := 3) (oi := ⟨some 70, _, _, _, _, _⟩) (v := .pointer (some ⟨b, 5, none⟩)) rfl (by kernel_rfl) (by kernel_rfl) (by kernel_rfl) (fun _ _ _ h => h) (Or.inl ⟨by rfl, ?_⟩) (by assumption) ?_
  · (intro w' hSw; obtain ⟨s0, s1, s2⟩ := hSw; go_simp)
  try simp only [Act.put, List.setIfInBounds_toArray, List.set_cons_zero, List.set_cons_succ]
  refine wpAnyH_take (i := 5) (oi := ⟨some 72, _, _, _, _, _⟩) (v := .slice (some ad) 3 c1) rfl (by kernel_rfl) (by kernel_rfl) (by kernel_rfl) (fun _ _ _ h => h) (Or.inl ⟨by rfl, ?_⟩) (by assumption) ?_
  · (intro w' hSw; obtain ⟨s0, s1, s2⟩ := hSw; go_simp)
  try simp only [Act.put, List.setIfInBounds_toArray, List.set_cons_zero, List.set_cons_succ]
  refine wpAnyH_take (i := 6) (oi := ⟨some 73, _, _, _, _, _⟩) (v := .pointer (some ad)) rfl (by kernel_rfl) (by kernel_rfl) (by kernel_rfl) (fun _ _ _ h => h) (Or.inl ⟨by rfl, ?_⟩) (by assumption) ?_
  · (intro w' hSw; obtain ⟨s0, s1, s2⟩ := hSw; go_simp)
  try simp only [Act.put, List.setIfInBounds_toArray, List.set_cons_zero, List.set_cons_succ]
  refine wpAnyH_take (i := 7) (oi := ⟨some 74, _, _, _, _, _⟩) (v := .int .i64 z0) rfl (by kernel_rfl) (by kernel_rfl) (by kernel_rfl) (fun _ _ _ h => h) (Or.inl ⟨by rfl, ?_⟩) (by assumption) ?_
  · (intro w' hSw; obtain ⟨s0, s1, s2⟩ := hSw; go_simp)
  try simp only [Act.put, List.setIfInBounds_toArray, List.set_cons_zero, List.set_cons_succ]
  refine wpAnyH_take (i := 8) (oi := ⟨some 75, _, _, _, _, _⟩) (v := .slice (some ad) 3 c1) rfl (by kernel_rfl) (by kernel_rfl) (by kernel_rfl) (fun _ _ _ h => h) (Or.inl ⟨by rfl, ?_⟩) (by assumption) ?_
  · (intro w' hSw; obtain ⟨s0, s1, s2⟩ := hSw; go_simp)
  try simp only [Act.put, List.setIfInBounds_toArray, List.set_cons_zero, List.set_cons_succ]
  refine wpAnyH_take (i := 9) (oi := ⟨some 76, _, _, _, _, _⟩) (v := .pointer (some ⟨ad.block, ad.off + 1, none⟩)) rfl (by kernel_rfl) (by kernel_rfl) (by kernel_rfl) (fun _ _ _ h => h) (Or.inl ⟨by rfl, ?_⟩) (by assumption) ?_
  · (intro w' hSw; obtain ⟨s0, s1, s2⟩ := hSw; go_simp)
  try simp only [Act.put, List.setIfInBounds_toArray, List.set_cons_zero, List.set_cons_succ]
  refine wpAnyH_take (i := 10) (oi := ⟨some 77, _, _, _, _, _⟩) (v := .int .i64 z1) rfl (by kernel_rfl) (by kernel_rfl) (by kernel_rfl) (fun _ _ _ h => h) (Or.inl ⟨by rfl, ?_⟩) (by assumption) ?_
  · (intro w' hSw; obtain ⟨s0, s1, s2⟩ := hSw; go_simp)
  try simp only [Act.put, List.setIfInBounds_toArray, List.set_cons_zero, List.set_cons_succ]
  refine wpAnyH_take (i := 11) (oi := ⟨some 78, _, _, _, _, _⟩) (v := .slice (some ad) 3 c1) rfl (by kernel_rfl) (by kernel_rfl) (by kernel_rfl) (fun _ _ _ h => h) (Or.inl ⟨by rfl, ?_⟩) (by assumption) ?_
  · (intro w' hSw; obtain ⟨s0, s1, s2⟩ := hSw; go_simp)
  try simp only [Act.put, List.setIfInBounds_toArray, List.set_cons_zero, List.set_cons_succ]
  refine wpAnyH_take (i := 12) (oi := ⟨some 79, _, _, _, _, _⟩) (v := .pointer (some ⟨ad.block, ad.off + 2, none⟩)) rfl (by kernel_rfl) (by kernel_rfl) (by kernel_rfl) (fun _ _ _ h => h) (Or.inl ⟨by rfl, ?_⟩) (by assumption) ?_
  · (intro w' hSw; obtain ⟨s0, s1, s2⟩ := hSw; go_simp)
  try simp only [Act.put, List.setIfInBounds_toArray, List.set_cons_zero, List.set_cons_succ]
  refine wpAnyH_take (i := 13) (oi := ⟨some 80, _, _, _, _, _⟩) (v := .int .i64 z2) rfl (by kernel_rfl) (by kernel_rfl) (by kernel_rfl) (fun _ _ _ h => h) (Or.inl ⟨by rfl, ?_⟩) (by assumption) ?_
  · (intro w' hSw; obtain ⟨s0, s1, s2⟩ := hSw; go_simp)
  try simp only [Act.put, List.setIfInBounds_toArray, List.set_cons_zero, List.set_cons_succ]
  refine wpAnyH_take (i := 14) (oi := ⟨some 81, _, _, _, _, _⟩) (v := .agg #[.int .i64 z0, .int .i64 z1, .int .i64 z2]) rfl (by kernel_rfl) (by kernel_rfl) (by kernel_rfl) (fun _ _ _ h => h) (Or.inl ⟨by rfl, ?_⟩) (by assumption) ?_
  · (intro w' hSw; obtain ⟨s0, s1, s2⟩ := hSw; go_simp)
  try simp only [Act.put, List.setIfInBounds_toArray, List.set_cons_zero, List.set_cons_succ]
  refine wpAnyH_ready (rs := [4, 15]) (by kernel_rfl) (by simp) ?_
  refine AllReadyH.cons rfl (fun K hK => ?_) (AllReadyH.cons rfl (fun K hK => ?_) AllReadyH.nil)
  · go_simp
    refine hK.out _ _ d2 (fun hHeld => ?_)
    clear hK K
    try simp only [Act.put, List.setIfInBounds_toArray, List.set_cons_zero, List.set_cons_succ]
    refine wpAnyH_ready (rs := [15]) (by kernel_rfl) (by simp) ?_
    refine AllReadyH.cons rfl (fun K hK => ?_) AllReadyH.nil
    go_simp
    refine hK.out _ _ e2 (fun hHeld => ?_)
    clear hK K
    try simp only [Act.put, List.setIfInBounds_toArray, List.set_cons_zero, List.set_cons_succ]
    refine wpAnyH_ready (rs := [16]) (by kernel_rfl) (by simp) ?_
    refine AllReadyH.cons rfl (fun K hK => ?_) AllReadyH.nil
    refine step_append_kn _ (by rfl) (.tmp 71) (.tmp 82) 34 (by rfl) _ _ 1 1 (by rfl) (by rfl) HRUN.out ?_
    refine hK.out _ _ g2 (fun hHeld => ?_)
    clear hK K
    try simp only [Act.put, List.setIfInBounds_toArray]
    refine wpAnyH_take (i := 17) (oi := ⟨some 84, _, _, _, _, _⟩) (v := .pointer (some ⟨b, 0, none⟩)) rfl (by kernel_rfl) (by kernel_rfl) (by kernel_rfl) (fun _ _ _ h => h) (Or.inl ⟨by rfl, ?_⟩) (by assumption) ?_
    · (intro w' hSw; obtain ⟨s0, s1, s2⟩ := hSw; go_simp)
    try simp only [Act.put]
    refine wpAnyH_take (i := 18) (oi := ⟨some 85, _, _, _, _, _⟩) (v := .pointer (some ⟨b, 5, none⟩)) rfl (by kernel_rfl) (by kernel_rfl) (by kernel_rfl) (fun _ _ _ h => h) (Or.inl ⟨by rfl, ?_⟩) (by assumption) ?_
    · (intro w' hSw; obtain ⟨s0, s1, s2⟩ := hSw; go_simp)
    try simp only [Act.put]
    refine wpAnyH_ready (rs := [19]) (by kernel_rfl) (by simp) ?_
    refine AllReadyH.cons rfl (fun K hK => ?_) AllReadyH.nil
    go_simp
    refine hK.out _ _ h2 (fun hHeld => ?_)
    clear hK K
    try simp only [Act.put, List.setIfInBounds_toArray, List.set_cons_zero, List.set_cons_succ]
    refine wpAnyH_done (by kernel_rfl) ?_ _
    clear hHeld d1 d2 e1 e1b e2 g2 h2 q5 qf
    rcases HEQ.out with ⟨he, q1, HR⟩ | ⟨q1, HR⟩
    · have HRR := Lib.hid HR
      clear HR he
      go_wp2
      go_ret
      exact ⟨X3.out, { d with l := d.l ++ [⟨z0, z1, z2⟩] }, A6, n + 1, c6, by rw [HRR.out]; rfl, fun x hx => (by rw [HRR.out] at hx; injection hx with hx; exact hx.symm), by omega, X1.out, XO.out⟩
    · have HRR := Lib.hid HR
      clear HR
      go_wp2
      go_ret
      exact ⟨X3.out, { d with l := d.l ++ [⟨z0, z1, z2⟩] }, A6, n + 1, c6, by rw [HRR.out]; rfl, fun x hx => (by rw [HRR.out] at hx; cases hx), by omega, X1.out, XO.out⟩
  · go_simp
    refine hK.out _ _ e2 (fun hHeld => ?_)
    clear hK K
    try simp only [Act.put, List.setIfInBounds_toArray, List.set_cons_zero, List.set_cons_succ]
    refine wpAnyH_ready (rs := [4]) (by kernel_rfl) (by simp) ?_
    refine AllReadyH.cons rfl (fun K hK => ?_) AllReadyH.nil
    go_simp
    refine hK.out _ _ e2 (fun hHeld => ?_)
    clear hK K
    try simp only [Act.put, List.setIfInBounds_toArray, List.set_cons_zero, List.set_cons_succ]
    refine wpAnyH_ready (rs := [16]) (by kernel_rfl) (by simp) ?_
    refine AllReadyH.cons rfl (fun K hK => ?_) AllReadyH.nil
    refine step_append_kn _ (by rfl) (.tmp 71) (.tmp 82) 34 (by rfl) _ _ 1 1 (by rfl) (by rfl) HRUN.out ?_
    refine hK.out _ _ g2 (fun hHeld => ?_)
    clear hK K
    try simp only [Act.put, List.setIfInBounds_toArray]
    refine wpAnyH_take (i := 17) (oi := ⟨some 84, _, _, _, _, _⟩) (v := .pointer (some ⟨b, 0, none⟩)) rfl (by kernel_rfl) (by kernel_rfl) (by kernel_rfl) (fun _ _ _ h => h) (Or.inl ⟨by rfl, ?_⟩) (by assumption) ?_
    · (intro w' hSw; obtain ⟨s0, s1, s2⟩ := hSw; go_simp)
    try simp only [Act.put]
    refine wpAnyH_take (i := 18) (oi := ⟨some 85, _, _, _, _, _⟩) (v := .pointer (some ⟨b, 5, none⟩)) rfl (by kernel_rfl) (by kernel_rfl) (by kernel_rfl) (fun _ _ _ h => h) (Or.inl ⟨by rfl, ?_⟩) (by assumption) ?_
    · (intro w' hSw; obtain ⟨s0, s1, s2⟩ := hSw; go_simp)
    try simp only [Act.put]
    refine wpAnyH_ready (rs := [19]) (by kernel_rfl) (by simp) ?_
    refine AllReadyH.cons rfl (fun K hK => ?_) AllReadyH.nil
    go_simp
    refine hK.out _ _ h2 (fun hHeld => ?_)
    clear hK K
    try simp only [Act.put, List.setIfInBounds_toArray, List.set_cons_zero, List.set_cons_succ]
    refine wpAnyH_done (by kernel_rfl) ?_ _
    clear hHeld d1 d2 e1 e1b e2 g2 h2 q5 qf
    rcases HEQ.out with ⟨he, q1, HR⟩ | ⟨q1, HR⟩
    · have HRR := Lib.hid HR
      clear HR he
      go_wp2
      go_ret
      exact ⟨X3.out, { d with l := d.l ++ [⟨z0, z1, z2⟩] }, A6, n + 1, c6, by rw [HRR.out]; rfl, fun x hx => (by rw [HRR.out] at hx; injection hx with hx; exact hx.symm), by omega, X1.out, XO.out⟩
    · have HRR := Lib.hid HR
      clear HR
      go_wp2
      go_ret
      exact ⟨X3.out, { d with l := d.l ++ [⟨z0, z1, z2⟩] }, A6, n + 1, c6, by rw [HRR.out]; rfl, fun x hx => (by rw [HRR.out] at hx; cases hx), by omega, X1.out, XO.out⟩
end Go.Proofs.YtmjbacmaafbdlaaGreatDoor.R
