/-
  WHAT IS PROVED: what the document's reader of a line comes to; its contract at the first line. Conditions: a line has at most 100000 bytes; the State lies in a variable, its known ones in a row of its own.
-/
import Derived.Test.YtmjbacmaafbdlaaGreatDoorRPairs
import Derived.Test.YtmjbacmaafbdlaaGreatDoorWitha
namespace Go.Proofs.YtmjbacmaafbdlaaGreatDoor.R
set_option maxRecDepth 100000
open Go.RowKit Go.Lib C

theorem pairs_len : ∀ (s : List UInt8) (ws : List (List UInt8)) (f : Bool) (a : Nat) (acc : List Nat), (pairsF s ws f a acc).2.2 = true → (pairsF s ws f a acc).1.length = acc.length + ws.length
  | s, [], f, a, acc, _ => rfl
  | s, w :: ws, f, a, acc, h => by
    rw [pairsF] at h ⊢
    by_cases h1 : f = false ∧ s[a]? ≠ some 32
    · rw [if_pos h1] at h; cases h
    · rw [if_neg h1] at h ⊢
      dsimp only at h ⊢
      generalize (if f = true then a else a + 1) = b at h ⊢
      by_cases h2 : (wordF s b w).2 = false
      · rw [if_pos h2] at h; cases h
      · rw [if_neg h2] at h ⊢
        by_cases h3 : (numF s (wordF s b w).1).2.2 = false
        · rw [if_pos h3] at h; cases h
        · rw [if_neg h3] at h ⊢
          rw [pairs_len s ws _ _ _ h]
          simp; omega
theorem pairs_le : ∀ (s : List UInt8) (ws : List (List UInt8)) (f : Bool) (a : Nat) (acc : List Nat), a ≤ s.length → (pairsF s ws f a acc).2.1 ≤ s.length
  | s, [], f, a, acc, ha => ha
  | s, w :: ws, f, a, acc, ha => by
    rw [pairsF]
    by_cases h1 : f = false ∧ s[a]? ≠ some 32
    · rw [if_pos h1]; exact ha
    · rw [if_neg h1]
      have hb : (if f = true then a else a + 1) ≤ s.length := by
        cases f with
        | true => exact ha
        | false =>
          have h1 : s[a]? = some 32 := by
            by_cases h : s[a]? = some 32
            · exact h
            · exact absurd ⟨rfl, h⟩ h1
          have := (List.getElem?_eq_some_iff.1 h1).1
          show a + 1 ≤ _
          omega
      dsimp only
      generalize (if f = true then a else a + 1) = b at hb ⊢
      by_cases h2 : (wordF s b w).2 = false
      · rw [if_pos h2]; exact hb
      · rw [if_neg h2]
        by_cases h3 : (numF s (wordF s b w).1).2.2 = false
        · rw [if_pos h3]; exact hb
        · rw [if_neg h3]
          exact pairs_le s ws _ _ _ (numF_le s _ (wordF_le s _ w hb))
/-- what a line makes of a State -/
def lineF (d : Dt) (l : List UInt8) (first : Bool) : Option Dt :=
  if first = true then (match pairsF l selfN true 0 [] with
    | ([i, m, c, v, f], e, true) => if e = l.length then some { d with i := i, m := m, c := c, v := v, f := f } else none
    | _ => none)
  else match pairsF l nodeN true 0 [] with
    | ([i, m, c], e, true) => if e = l.length then some { d with l := d.l ++ [⟨i, m, c⟩] } else none
    | _ => match pairsF l slotsN true 0 [] with
      | ([o, p], e, true) => if (l.drop e).take 3 = [32, 58, 32] ∧ (S.refParse (l.drop (e + 3))).isSome = true then some { d with t := ⟨fun i => if i < 64 ∧ (S.refSet (l.drop (e + 3))).testBit i = true then o else d.t.o i, fun i => if i < 64 ∧ (S.refSet (l.drop (e + 3))).testBit i = true then p else d.t.e i⟩ } else none
      | _ => none
/-- whether there is one is handed back; the State has become it, where there is -/
def LineP (o : Option Dt) (b base : Nat) (w : World) (e : Ending) (w' : World) : Prop :=
  Below b w w' ∧ ∃ (d : Dt) (a : Option Addr) (n cap : Nat), e = .returned (.bool o.isSome) ∧ (∀ x, o = some x → x = d) ∧ n ≤ 100001 + 0 * cap ∧ RAt w' b (mkS d a n cap) ∧ w'.ownsRow base 60 3 (.slice a n cap) n (flatK d.l)
theorem _root_.Go.Proofs.YtmjbacmaafbdlaaGreatDoor.RAt.set0 {w : World} {b : Nat} {s : Sv} (h : RAt w b s) (x : Int) : RAt (w.setCell ⟨b, 0, none⟩ (.int .i64 x)) b { s with i := x } := by unfold RAt; rw [← stv_set0]; exact Blk.set_ h 0 _
theorem _root_.Go.Proofs.YtmjbacmaafbdlaaGreatDoor.RAt.set1 {w : World} {b : Nat} {s : Sv} (h : RAt w b s) (x : Int) : RAt (w.setCell ⟨b, 1, none⟩ (.int .i64 x)) b { s with m := x } := by unfold RAt; rw [← stv_set1]; exact Blk.set_ h 1 _
theorem _root_.Go.Proofs.YtmjbacmaafbdlaaGreatDoor.RAt.set2 {w : World} {b : Nat} {s : Sv} (h : RAt w b s) (x : Int) : RAt (w.setCell ⟨b, 2, none⟩ (.int .i64 x)) b { s with c := x } := by unfold RAt; rw [← stv_set2]; exact Blk.set_ h 2 _
theorem _root_.Go.Proofs.YtmjbacmaafbdlaaGreatDoor.RAt.set3 {w : World} {b : Nat} {s : Sv} (h : RAt w b s) (x : Int) : RAt (w.setCell ⟨b, 3, none⟩ (.int .i64 x)) b { s with v := x } := by unfold RAt; rw [← stv_set3]; exact Blk.set_ h 3 _
theorem _root_.Go.Proofs.YtmjbacmaafbdlaaGreatDoor.RAt.set4 {w : World} {b : Nat} {s : Sv} (h : RAt w b s) (x : Int) : RAt (w.setCell ⟨b, 4, none⟩ (.int .i64 x)) b { s with f := x } := by unfold RAt; rw [← stv_set4]; exact Blk.set_ h 4 _
theorem cell_far (w : World) {q p : Addr} (h : q.block ≠ p.block) (u : Value) : (w.setCell p u).cell? q = w.cell? q := World.cell?_of_block (Below.heap_setCell w p u q.block h)
theorem pairs_at (s : List UInt8) (hs : s.length ≤ 100000) (ws : List (List UInt8)) (n : Nat) (hn : ws.length = n) (A : Option Addr) (c g : Nat) (w : World) (hns : n ≤ 10) (hwl : ∀ v ∈ ws, v.length ≤ 100) (hR : Reads w g A n (strV ws)) :
    Calls Tryz.prog 26 #[.string (str s), .slice A n c] w (PairsPost (pairsF s ws true 0 []) w) := by
  subst hn
  exact pairs_any s hs ws A c g w hns hwl hR
theorem own_sets {w : World} {base n k b : Nat} {v : Value} {xs : List Value} {e : TypeId} (h : w.ownsRow base e k v n xs) (hb : b < base) (u0 u1 u2 u3 u4 : Value) : (((((w.setCell ⟨b, 0, none⟩ u0).setCell ⟨b, 1, none⟩ u1).setCell ⟨b, 2, none⟩ u2).setCell ⟨b, 3, none⟩ u3).setCell ⟨b, 4, none⟩ u4).ownsRow base e k v n xs :=
  own_set_far (own_set_far (own_set_far (own_set_far (own_set_far h (p := ⟨b, 0, none⟩) hb u0) (p := ⟨b, 1, none⟩) hb u1) (p := ⟨b, 2, none⟩) hb u2) (p := ⟨b, 3, none⟩) hb u3) (p := ⟨b, 4, none⟩) hb u4

set_option maxHeartbeats 2000000 in
theorem line_first (d : Dt) (a : Option Addr) (n cap b base : Nat) (l : List UInt8) (hl : l.length ≤ 100000) (w : World) (hS : RAt w b (mkS d a n cap)) (hb : b < base) (hn : n ≤ 100000)
    (hown : w.ownsRow base 60 3 (.slice a n cap) n (flatK d.l)) :
    Calls Tryz.prog 13 #[.pointer (some ⟨b, 0, none⟩), .string (str l), .bool true] w (LineP (lineF d l true) b base w) := by
  have HNEW : Below w.heap.size w (w.alloc (.cells #[.string ⟨#[115, 101, 108, 102]⟩, .string ⟨#[109, 97, 115, 116, 101, 114]⟩, .string ⟨#[99, 117, 114, 114, 101, 110, 116]⟩, .string ⟨#[118, 111, 116, 101]⟩, .string ⟨#[99, 111, 110, 102, 105, 103]⟩] 9)) := (Below.refl _ w).alloc (Nat.le_refl _) _
  have HB0 := Lib.hid HNEW
  have hblt := hS.lt
  have JR := Lib.hid (reads_new w 9 (strV selfN) #[.string ⟨#[115, 101, 108, 102]⟩, .string ⟨#[109, 97, 115, 116, 101, 114]⟩, .string ⟨#[99, 117, 114, 114, 101, 110, 116]⟩, .string ⟨#[118, 111, 116, 101]⟩, .string ⟨#[99, 111, 110, 102, 105, 103]⟩] b w.heap.size 5 rfl rfl rfl (by omega))
  have K0 := Lib.hid (hS.later HNEW)
  have O0 := Lib.hid (own_below hown HNEW)
  clear HNEW hown
  have HS := Lib.hid hS
  have HLP := Lib.hid (pairs_len l selfN true 0 [])
  have HLE := Lib.hid (pairs_le l selfN true 0 [] (by omega))
  have hz : (str l).size ≤ 100000 := hl
  have hzs : (str l).size = l.length := str_size l
  have C1 := Lib.hid (pairs_at l hl selfN 5 rfl (some ⟨w.heap.size, 0, none⟩) 5 b _ (by decide) (by decide) JR.out)
  obtain ⟨o, HO⟩ : ∃ o, Hid (lineF d l true = o) := ⟨_, Lib.hid rfl⟩
  rw [HO.out]
  have HF : Hid (lineF d l true = match pairsF l selfN true 0 [] with
    | ([i, m, c, v, f], e, true) => if e = l.length then some { d with i := i, m := m, c := c, v := v, f := f } else none
    | _ => none) := by show _ = _; rfl
  generalize pairsF l selfN true 0 [] = pf at *
  obtain ⟨zs, en, ok⟩ := pf
  clear hS
  go_enter Tryz.func13, Tryz.ntmps13
  go_wp2_with (fail)
  with_reducible refine C1.out.mono ?_
  rintro e w1 ⟨hb1, hcase⟩
  have K1 := Lib.hid (K0.out.later hb1)
  have O1 := Lib.hid (own_below O0.out hb1)
  have HB1 := Lib.hid (HB0.out.trans (hb1.mono HB0.out.size))
  clear hb1 K0 O0 C1 JR
  rcases hcase with ⟨A1, c1, hok, rfl, hzc, hzm, hrd⟩ | ⟨hok, rfl⟩
  · simp only at hok
    subst hok
    have hlen : zs.length = 5 := HLP.out rfl
    obtain ⟨z0, z1, z2, z3, z4, rfl⟩ : ∃ z0 z1 z2 z3 z4, zs = [z0, z1, z2, z3, z4] := match zs, hlen with
      | [p, q, r, s, t], _ => ⟨p, q, r, s, t, rfl⟩
    have hrd0 := hrd b (.inr (Nat.lt_of_lt_of_le hblt HB0.out.size))
    clear hrd
    obtain ⟨ad, rfl, _, hne, _⟩ := hrd0.2 (Nat.succ_pos _)
    obtain ⟨n0, n1, n2, n3, n4⟩ := cells5 (show Reads w1 b (some ad) 5 (zints [(z0 : Int), z1, z2, z3, z4]) from hrd0)
    clear hrd0
    have X0 := K1.out.set0 z0
    have X1 := X0.set1 z1
    have X2 := X1.set2 z2
    have X3 := X2.set3 z3
    have HX4 := Lib.hid (X3.set4 z4)
    have hne' : ad.block ≠ b := hne
    have m1 := (cell_far w1 (q := ⟨ad.block, ad.off + 1, none⟩) (p := ⟨b, 0, none⟩) hne' (.int .i64 z0)).trans n1
    have m2 := (cell_far _ (q := ⟨ad.block, ad.off + 2, none⟩) (p := ⟨b, 1, none⟩) hne' (.int .i64 z1)).trans ((cell_far w1 (q := ⟨ad.block, ad.off + 2, none⟩) (p := ⟨b, 0, none⟩) hne' (.int .i64 z0)).trans n2)
    have m3 := (cell_far _ (q := ⟨ad.block, ad.off + 3, none⟩) (p := ⟨b, 2, none⟩) hne' (.int .i64 z2)).trans ((cell_far _ (q := ⟨ad.block, ad.off + 3, none⟩) (p := ⟨b, 1, none⟩) hne' (.int .i64 z1)).trans ((cell_far w1 (q := ⟨ad.block, ad.off + 3, none⟩) (p := ⟨b, 0, none⟩) hne' (.int .i64 z0)).trans n3))
    have m4 := (cell_far _ (q := ⟨ad.block, ad.off + 4, none⟩) (p := ⟨b, 3, none⟩) hne' (.int .i64 z3)).trans ((cell_far _ (q := ⟨ad.block, ad.off + 4, none⟩) (p := ⟨b, 2, none⟩) hne' (.int .i64 z2)).trans ((cell_far _ (q := ⟨ad.block, ad.off + 4, none⟩) (p := ⟨b, 1, none⟩) hne' (.int .i64 z1)).trans ((cell_far w1 (q := ⟨ad.block, ad.off + 4, none⟩) (p := ⟨b, 0, none⟩) hne' (.int .i64 z0)).trans n4)))
    have O5 := Lib.hid (own_sets O1.out hb (.int .i64 z0) (.int .i64 z1) (.int .i64 z2) (.int .i64 z3) (.int .i64 z4))
    have HB5 := Lib.hid (below_set (below_set (below_set (below_set (below_set (HB1.out.mono (show b ≤ w.heap.size by omega)) (p := ⟨b, 0, none⟩) (Nat.le_refl _) (.int .i64 z0)) (p := ⟨b, 1, none⟩) (Nat.le_refl _) (.int .i64 z1)) (p := ⟨b, 2, none⟩) (Nat.le_refl _) (.int .i64 z2)) (p := ⟨b, 3, none⟩) (Nat.le_refl _) (.int .i64 z3)) (p := ⟨b, 4, none⟩) (Nat.le_refl _) (.int .i64 z4))
    obtain ⟨b0, _, _, _, _, _⟩ := K1.out.box
    obtain ⟨_, b1, _, _, _, _⟩ := X0.box
    obtain ⟨_, _, b2, _, _, _⟩ := X1.box
    obtain ⟨_, _, _, b3, _, _⟩ := X2.box
    obtain ⟨_, _, _, _, b4, _⟩ := X3.box
    have f0 := K1.out.fz 0
    have f1 := X0.fz 1
    have f2 := X1.fz 2
    have f3 := X2.fz 3
    have f4 := X3.fz 4
    clear X0 X1 X2 X3 hne hzc hzm
    have hen : en ≤ l.length := HLE.out
    by_cases he : en = l.length
    · have HR : Hid (o = some { d with i := z0, m := z1, c := z2, v := z3, f := z4 }) := Lib.hid (by rw [← HO.out, HF.out]; exact if_pos he)
      have q1 : ((en : Int) == ((str l).size : Int)) = true := by rw [beq_iff_eq]; omega
      clear HLP HLE HF he hzs hen
      go_wp2
      go_ret
      exact ⟨HB5.out, { d with i := z0, m := z1, c := z2, v := z3, f := z4 }, a, n, cap, by rw [HR.out]; rfl, fun x hx => (by rw [HR.out] at hx; injection hx with hx; exact hx.symm), by omega, HX4.out, O5.out⟩
    · have HR : Hid (o = none) := Lib.hid (by rw [← HO.out, HF.out]; exact if_neg he)
      have q1 : ((en : Int) == ((str l).size : Int)) = false := by rw [beq_eq_false_iff_ne]; omega
      clear HLP HLE HF he hzs hen
      go_wp2
      go_ret
      exact ⟨HB5.out, { d with i := z0, m := z1, c := z2, v := z3, f := z4 }, a, n, cap, by rw [HR.out]; rfl, fun x hx => (by rw [HR.out] at hx; cases hx), by omega, HX4.out, O5.out⟩
  · simp only at hok
    subst hok
    have HR : Hid (o = none) := Lib.hid (by rw [← HO.out, HF.out]; split; (rename_i h; injection h with _ h; injection h with _ h; cases h); rfl)
    clear HLP HLE HF
    go_wp2
    go_ret
    exact ⟨HB1.out.mono (by omega), d, a, n, cap, by rw [HR.out]; rfl, fun x hx => (by rw [HR.out] at hx; cases hx), by omega, K1.out, O1.out⟩
end Go.Proofs.YtmjbacmaafbdlaaGreatDoor.R
