/-
  WHAT IS PROVED: the contract of the document's reader of words with numbers behind them. Condition: a text has at most 100000 bytes.
-/
import Derived.Test.YtmjbacmaafbdlaaGreatDoorRWord
import Derived.Test.YtmjbacmaafbdlaaGreatDoorNums
namespace Go.Proofs.YtmjbacmaafbdlaaGreatDoor.R
set_option maxRecDepth 100000
open Go.RowKit Go.Lib C

theorem wordn_at (s v : List UInt8) (a : Nat) (hs : s.length ≤ 100000) (hv : v.length ≤ 100) (ha : a ≤ s.length) (z : Int) (hz : z = a) (w : World) : Calls Tryz.prog 49 #[.string (str s), .int .i64 z, .string (str v)] w fun e w' =>
    e = .returned (.tuple #[.int .i64 (((wordF s a v).1 : Nat) : Int), .bool (wordF s a v).2]) ∧ Below w.heap.size w w' := by
  subst hz; exact word_any s v a hs hv ha w
theorem numF_le (s : List UInt8) (a : Nat) (ha : a ≤ s.length) : (numF s a).2.1 ≤ s.length := by
  have := (run_le s a).2
  show a + (run s a).length ≤ _
  omega
theorem val_run (s : List UInt8) (a : Nat) : (numF s a).1 < 10000000000000000 := by
  have h := val_lt (run s a) (run_isD s a)
  have h2 : (10 : Nat) ^ (run s a).length ≤ 10 ^ 16 := Nat.pow_le_pow_right (by omega) (run_le s a).1
  have h3 : (10 : Nat) ^ 16 = 10000000000000000 := by decide
  show val (run s a) < _
  omega
def nz (l : List Nat) : List Int := l.map fun (n : Nat) => (n : Int)
/-- how far the reader has come -/
def PGone (s : List UInt8) (ws : List (List UInt8)) (k a : Nat) (acc : List Nat) : Prop := pairsF s ws true 0 [] = pairsF s (ws.drop k) (decide (k = 0)) a acc
theorem pg_start (s : List UInt8) (ws : List (List UInt8)) : PGone s ws 0 0 [] := rfl
theorem pg_end {s : List UInt8} {ws : List (List UInt8)} {a : Nat} {acc : List Nat} (h : PGone s ws ws.length a acc) : pairsF s ws true 0 [] = (acc, a, true) := by
  unfold PGone at h; rw [h, List.drop_length, pairsF]
/-- where a word must begin -/
def bOf (k a : Nat) : Nat := if k = 0 then a else a + 1
theorem pg_blank {s : List UInt8} {ws : List (List UInt8)} {k a : Nat} {acc : List Nat} (h : PGone s ws k a acc) (hk : k < ws.length) (h0 : k ≠ 0) (hs : s[a]? ≠ some 32) : pairsF s ws true 0 [] = ([], a, false) := by
  unfold PGone at h
  rw [h, List.drop_eq_getElem_cons hk, pairsF, if_pos ⟨decide_eq_false h0, hs⟩]
theorem pg_word {s : List UInt8} {ws : List (List UInt8)} {k a : Nat} {acc : List Nat} {n : List UInt8} (h : PGone s ws k a acc) (hn : ws[k]? = some n) (hs : k = 0 ∨ s[a]? = some 32) (hw : (wordF s (bOf k a) n).2 = false) : pairsF s ws true 0 [] = ([], bOf k a, false) := by
  unfold PGone at h
  obtain ⟨hk, e⟩ := List.getElem?_eq_some_iff.1 hn
  unfold bOf at hw ⊢
  rw [h, List.drop_eq_getElem_cons hk, e, pairsF, if_neg (by rintro ⟨g1, g2⟩; rcases hs with h0 | h0; · simp [h0] at g1
                                                             · exact g2 h0)]
  simp only [decide_eq_true_eq]
  rw [if_pos hw]
theorem pg_num {s : List UInt8} {ws : List (List UInt8)} {k a : Nat} {acc : List Nat} {n : List UInt8} (h : PGone s ws k a acc) (hn : ws[k]? = some n) (hs : k = 0 ∨ s[a]? = some 32) (hw : (wordF s (bOf k a) n).2 = true) (hm : (numF s (wordF s (bOf k a) n).1).2.2 = false) : pairsF s ws true 0 [] = ([], bOf k a, false) := by
  unfold PGone at h
  obtain ⟨hk, e⟩ := List.getElem?_eq_some_iff.1 hn
  unfold bOf at hw hm ⊢
  rw [h, List.drop_eq_getElem_cons hk, e, pairsF, if_neg (by rintro ⟨g1, g2⟩; rcases hs with h0 | h0; · simp [h0] at g1
                                                             · exact g2 h0)]
  simp only [decide_eq_true_eq]
  rw [if_neg (by rw [hw]; decide), if_pos hm]
theorem pg_next {s : List UInt8} {ws : List (List UInt8)} {k a : Nat} {acc : List Nat} {n : List UInt8} (h : PGone s ws k a acc) (hn : ws[k]? = some n) (hs : k = 0 ∨ s[a]? = some 32) (hw : (wordF s (bOf k a) n).2 = true) (hm : (numF s (wordF s (bOf k a) n).1).2.2 = true) : PGone s ws (k + 1) (numF s (wordF s (bOf k a) n).1).2.1 (acc ++ [(numF s (wordF s (bOf k a) n).1).1]) := by
  unfold PGone at h ⊢
  obtain ⟨hk, e⟩ := List.getElem?_eq_some_iff.1 hn
  unfold bOf at hw hm ⊢
  rw [h, List.drop_eq_getElem_cons hk, e, pairsF, if_neg (by rintro ⟨g1, g2⟩; rcases hs with h0 | h0; · simp [h0] at g1
                                                             · exact g2 h0)]
  simp only [decide_eq_true_eq]
  rw [if_neg (by rw [hw]; decide), if_neg (by rw [hm]; decide)]
  rfl

/-- numbers, the place behind them, and whether they are there, are handed back -/
def PairsPost (o : List Nat × Nat × Bool) (w : World) (e : Ending) (w' : World) : Prop :=
  Below w.heap.size w w' ∧ ((∃ A c, o.2.2 = true ∧ e = .returned (.tuple #[.slice A o.1.length c, .int .i64 ((o.2.1 : Nat) : Int), .bool true]) ∧ o.1.length ≤ c ∧ c ≤ 9223372036854775807 ∧ ∀ g, w'.heap.size ≤ g ∨ g < w.heap.size → Reads w' g A o.1.length (zints (nz o.1))) ∨ (o.2.2 = false ∧ e = .returned (.tuple #[.slice none 0 0, .int .i64 ((o.2.1 : Nat) : Int), .bool false])))

set_option maxHeartbeats 4000000 in
theorem pairs_any (s : List UInt8) (hs : s.length ≤ 100000) (ws : List (List UInt8)) (A : Option Addr) (c g : Nat) (w : World) (hns : ws.length ≤ 10) (hwl : ∀ v ∈ ws, v.length ≤ 100) (hR : Reads w g A ws.length (strV ws)) :
    Calls Tryz.prog 26 #[.string (str s), .slice A ws.length c] w (PairsPost (pairsF s ws true 0 []) w) := by
  obtain ⟨i0, hi0, hz0, hz1, hz2⟩ := info_parts int_info
  have HI : Hid (Tryz.prog.info? 3 = some i0) := hi0
  have HZ0 := Lib.hid hz0
  have HZ1 := Lib.hid hz1
  have HZ2 := Lib.hid hz2
  have HR := Lib.hid hR
  have HWL := Lib.hid hwl
  have hz : (str s).size ≤ 100000 := hs
  have hz3 : ((str s).size : Int) ≤ 100000 := by omega
  clear hi0 hz0 hz1 hz2 hR hwl
  have HG0 := Lib.hid (pg_start s ws)
  obtain ⟨PF, HPF⟩ : ∃ PF, Hid (pairsF s ws true 0 [] = PF) := ⟨_, Lib.hid rfl⟩
  rw [HPF.out]
  go_enter Tryz.func26, Tryz.ntmps26
  go_wp2
  go_loopw [7, 8, 9] (fun va x i wr => ∃ (k a : Nat) (acc : List Nat), k ≤ ws.length ∧ a ≤ s.length ∧ i = .int .i64 (k : Int) ∧ x = .int .i64 (a : Int) ∧ acc.length = k ∧ Hid (PGone s ws k a acc) ∧ Hid (Below w.heap.size w wr) ∧ Hid (wr.ownsRow w.heap.size 3 1 va k (zints (nz acc)))) (fun _ _ i _ => ws.length - (intOf i).toNat)
  case atStart => exact ⟨0, 0, [], by omega, by omega, rfl, rfl, rfl, HG0, Lib.hid (Below.refl _ _), Lib.hid ⟨rfl, .inl ⟨rfl, rfl⟩⟩⟩
  case round =>
    obtain ⟨k, a, acc, hk, ha, rfl, rfl, hacc, hg, hb, hown⟩ := hrel
    have ha2 : (a : Int) ≤ 100000 := by omega
    by_cases hlt : k < ws.length
    · obtain ⟨ad, u, rfl, hu, hc⟩ := (HR.out.below hb.out).at_ hlt
      obtain ⟨n, hn⟩ : ∃ n, ws[k]? = some n := ⟨_, List.getElem?_eq_getElem hlt⟩
      obtain rfl := strV_at hn hu
      clear hu
      have HN := Lib.hid hn
      have hnl : n.length ≤ 100 := HWL.out n (List.mem_of_getElem? hn)
      clear hn
      have hcase : (k ≠ 0 ∧ s[a]? ≠ some 32) ∨ (k = 0 ∨ (k ≠ 0 ∧ s[a]? = some 32)) := by
        by_cases h0 : k = 0
        · exact .inr (.inl h0)
        · by_cases h1 : s[a]? = some 32
          · exact .inr (.inr ⟨h0, h1⟩)
          · exact .inl ⟨h0, h1⟩
      rcases hcase with ⟨h0, h1⟩ | hrest
      · have HF := Lib.hid (HPF.out.symm.trans (pg_blank hg.out hlt h0 h1))
        have k1 : (0 : Int) < k := by omega
        have hA : decide ((str s).size ≤ a) = true ∨ (decide ((str s).size ≤ a) = false ∧ decide (a < (str s).size) = true ∧ ∃ h : a < (str s).size, (((str s)[a].toNat : Int) != 32) = true) := by
          by_cases h : a < (str s).size
          · refine .inr ⟨decide_eq_false (by omega), decide_eq_true h, h, ?_⟩
            have hsa := S.str_at (t := s) (i := a) h
            rw [hsa] at h1
            have := S.byte_ne (c := (str s)[a]) (k := 32) (fun e => h1 (by rw [e]; rfl))
            rw [bne_iff_ne]; exact this
          · exact .inl (decide_eq_true (by omega))
        clear h0 h1 hg
        rcases hA with g1 | ⟨g1, g2, g3, g4⟩
        · have g5 : ((str s).size : Int) ≤ a := by rw [decide_eq_true_eq] at g1; omega
          go_wp2
          go_ret3
          exact ⟨hb.out, .inr ⟨by rw [HF.out], by rw [HF.out]; rfl⟩⟩
        · have g5 : ¬ ((str s).size : Int) ≤ a := by omega
          go_wp2
          go_ret3
          exact ⟨hb.out, .inr ⟨by rw [HF.out], by rw [HF.out]; rfl⟩⟩
      · obtain ⟨b, HB⟩ : ∃ b : Nat, Hid (b = bOf k a) := ⟨_, Lib.hid rfl⟩
        have hyx : ((b : Int) = a ∧ (k : Int) ≤ 0 ∧ a ≤ s.length) ∨ ((b : Int) = (a : Int) + 1 ∧ (0 : Int) < k ∧ ¬ ((str s).size : Int) ≤ a ∧ decide (a < (str s).size) = true ∧ ∃ h : a < (str s).size, (((str s)[a].toNat : Int) != 32) = false) := by
          have hb1 := HB.out
          unfold bOf at hb1
          rcases hrest with h0 | ⟨h0, h1⟩
          · rw [if_pos h0] at hb1
            exact .inl (by omega)
          · rw [if_neg h0] at hb1
            have hl : a < (str s).size := (List.getElem?_eq_some_iff.1 h1).1
            refine .inr ⟨by omega, by omega, by omega, decide_eq_true hl, hl, ?_⟩
            have hsa := S.str_at (t := s) (i := a) hl
            rw [hsa] at h1
            injection h1 with h1
            rw [h1]; rfl
        have hbl : b ≤ s.length := by
          have : (str s).size = s.length := str_size s
          omega
        have hor : k = 0 ∨ s[a]? = some 32 := hrest.imp id (·.2)
        have HFW : Hid ((wordF s b n).2 = false → PF = ([], b, false)) := Lib.hid (by rw [HB.out, ← HPF.out]; exact pg_word hg.out HN.out hor)
        have HFN : Hid ((wordF s b n).2 = true → (numF s (wordF s b n).1).2.2 = false → PF = ([], b, false)) := Lib.hid (by rw [HB.out, ← HPF.out]; exact pg_num hg.out HN.out hor)
        have HNX : Hid ((wordF s b n).2 = true → (numF s (wordF s b n).1).2.2 = true → PGone s ws (k + 1) (numF s (wordF s b n).1).2.1 (acc ++ [(numF s (wordF s b n).1).1])) := Lib.hid (by rw [HB.out]; exact pg_next hg.out HN.out hor)
        have hwle := wordF_le s b n hbl
        have hnle := numF_le s _ hwle
        clear hrest hor HB hg
        rcases hyx with ⟨y1, y2, -⟩ | ⟨y1, y2, y3, y4, y5, y6⟩
        all_goals
          go_wp2_with (fail)
          refine (wordn_at s n b hs hnl hbl _ (by omega) _).mono ?_
          rintro e w1 ⟨rfl, hb1⟩
          have HB1 := Lib.hid (hb.out.trans (hb1.mono hb.out.size))
          have HO1 := Lib.hid (own_below hown.out hb1)
          clear hb1 hc
          generalize wordF s b n = wf at *
          obtain ⟨wp, wk⟩ := wf
          cases wk with
          | false =>
            have HF := Lib.hid (HFW.out rfl)
            clear HFW HFN HNX hnle
            go_wp2
            go_ret3
            exact ⟨HB1.out, .inr ⟨by rw [HF.out], by rw [HF.out, ← y1]; rfl⟩⟩
          | true =>
            go_wp2_with (fail)
            refine (number_any s wp hs hwle _).mono ?_
            rintro e w2 ⟨rfl, hb2⟩
            have HB2 := Lib.hid (HB1.out.trans (hb2.mono HB1.out.size))
            have HO2 := Lib.hid (own_below HO1.out hb2)
            clear hb2 HO1
            have HFN2 : Hid ((numF s wp).2.2 = false → PF = ([], b, false)) := Lib.hid (HFN.out trivial)
            have HNX2 : Hid ((numF s wp).2.2 = true → PGone s ws (k + 1) (numF s wp).2.1 (acc ++ [(numF s wp).1])) := Lib.hid (HNX.out trivial)
            have hnle2 : (numF s wp).2.1 ≤ s.length := hnle
            clear HFN HNX hnle
            generalize numF s wp = nf at *
            obtain ⟨nv, np, nk⟩ := nf
            cases nk with
            | false =>
              have HF := Lib.hid (HFN2.out rfl)
              clear HFW HFN2 HNX2
              go_wp2
              go_ret3
              exact ⟨HB2.out, .inr ⟨by rw [HF.out], by rw [HF.out, ← y1]; rfl⟩⟩
            | true =>
              have HX := Lib.hid (HNX2.out rfl)
              clear HFW HFN2 HNX2
              have hbs := HB2.out.size
              go_wp2_with (at_builtin; refine wpList_append_own _ rfl _ _ 53 rfl w.heap.size 3 i0 (.int .i64 0) 1 8 Tryz.underlying53 HI.out HZ0.out HZ1.out HZ2.out rfl (by decide) _ _ _ rfl (HO2.out.alloc _) ⟨w2.heap.size, 0, none⟩ 1 1 [.int .i64 (nv : Int)] rfl rfl (cell_one_new _ _ _) (by simp [Value.oneCell']) (by unfold maxLen; omega) (by omega) (by simp; omega) ?_; intro v' w4 hown' hg3 _)
              have HB4 : Hid (Below w.heap.size w w4) := Lib.hid ((HB2.out.alloc hbs _).grown hg3 (by simp; omega) (fun g e => (HO2.out.lt g e).1))
              go_wp2
              go_roundw
              case rel => exact ⟨k + 1, np, acc ++ [nv], by omega, hnle2, by go_num, rfl, by simp; omega, HX, HB4, Lib.hid (by rw [show nz (acc ++ [nv]) = nz acc ++ [(nv : Int)] by simp [nz], zl_append]; simpa [zints] using hown')⟩
              case measure => simp [intOf]; omega
    · obtain rfl : k = ws.length := by omega
      have HX := Lib.hid (HPF.out.symm.trans (pg_end hg.out))
      obtain ⟨A2, c2, rfl, hnc, hcm, hr⟩ := own_reads hown.out
      have HR2 := Lib.hid hr
      have HAC := Lib.hid hacc
      clear hr hg
      go_wp2
      go_ret3
      exact ⟨hb.out, .inl ⟨A2, c2, by rw [HX.out], by rw [HX.out, show (acc, a, true).1.length = ws.length from HAC.out]; rfl, by rw [HX.out, show (acc, a, true).1.length = ws.length from HAC.out]; omega, hcm, fun g hg => by rw [HX.out, show (acc, a, true).1.length = ws.length from HAC.out]; exact HR2.out g hg⟩⟩
end Go.Proofs.YtmjbacmaafbdlaaGreatDoor.R
