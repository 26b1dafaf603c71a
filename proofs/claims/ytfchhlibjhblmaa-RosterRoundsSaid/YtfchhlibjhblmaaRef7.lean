/-
  WHAT IS PROVED: the contract of the document's own Next; all of Add and Forget in one. Conditions: the sizes; the lists lie outside of the blocks F, which are there.
-/
import Derived.Test.YtfchhlibjhblmaaRef6
namespace Go.Proofs.Ytfchhlibjhblmaa
open Go.RowKit Go.Lib Go.Maps

theorem radd_any (R : Ro) (A B : Option Addr) (n c m d : Nat) (F : Nat → Prop) (x t : Int) (w : World) (hn : n ≤ 1000) (hm : m ≤ 100000) (h : Dc w F R A n c B m d) (hu : Up R.L) (hF : ∀ i, F i → i < w.heap.size) :
    Calls Try.prog 13 #[vD R A n c B m d, .int .i64 x, .int .i64 t] w (GivesD F (addR R x t) (addE R x t) w) := by
  by_cases he : addE R x t = 0
  · rw [he]; exact radd_yes R A B n c m d F x t w hn hm h hu hF he
  · rw [addR_no he]
    rcases chk_cases R.s x t with ⟨hc, h1, h2, h3⟩ | ⟨hc, h1⟩ | ⟨hc, h1, h2, h3⟩
    · cases hq : hasL R.L x
      · cases hb : banB R.B x t
        · by_cases h15 : R.L.length = 15
          · rw [addE_full hc hq hb h15]
            have := radd_rest R A B n c m d F x t w hn hm h hu hc hq false hb (.inr ⟨rfl, by rw [← h.l.lenM]; exact h15⟩)
            rwa [if_neg (by decide)] at this
          · exact absurd (addE_ok hc hq hb h15) he
        · rw [addE_ban hc hq hb]
          have := radd_rest R A B n c m d F x t w hn hm h hu hc hq true hb (.inl rfl)
          rwa [if_pos rfl] at this
      · rw [addE_known hc hq]
        exact radd_known R A B n c m d F x t w hn h hu hc hq
    · rw [addE_chk (by rw [hc]; decide), hc]
      exact radd_form R A B n c m d F x t w h hu h1
    · rw [addE_chk (by rw [hc]; decide), hc]
      exact radd_self R A B n c m d F x t w h hu h1 h2 h3
theorem rfor_any (R : Ro) (A B : Option Addr) (n c m d : Nat) (F : Nat → Prop) (x t : Int) (w : World) (hn : n ≤ 1000) (hm : m ≤ 100000) (h : Dc w F R A n c B m d) (hu : Up R.L) (hF : ∀ i, F i → i < w.heap.size) :
    Calls Try.prog 15 #[vD R A n c B m d, .int .i64 x, .int .i64 t] w (GivesD F (forR R x t) (forE R x t) w) := by
  by_cases he : forE R x t = 0
  · rw [he]; exact rfor_yes R A B n c m d F x t w hn hm h hu hF he
  · rw [forR_no he]
    rcases chk_cases R.s x t with ⟨hc, h1, h2, h3⟩ | ⟨hc, h1⟩ | ⟨hc, h1, h2, h3⟩
    · cases hq : hasL R.L x
      · rw [forE_none hc hq]
        exact rfor_none R A B n c m d F x t w hn h hu hc hq
      · exact absurd (forE_ok hc hq) he
    · rw [forE_chk (by rw [hc]; decide), hc]
      exact rfor_form R A B n c m d F x t w h hu h1
    · rw [forE_chk (by rw [hc]; decide), hc]
      exact rfor_self R A B n c m d F x t w h hu h1 h2 h3

theorem Turn.then2 {a b c : World} {F : Nat → Prop} (h : Turn a b F) (k : Below a.heap.size b c) : Turn a c F := ⟨k.os.trans h.os, k.tape.trans h.tape, k.output.trans h.output, Nat.le_trans h.size k.size, fun i hi hn => (k.block i hi).trans (h.block i hi hn)⟩
/-- the document's roster and a list of numbers are handed back -/
def GivesL (F : Nat → Prop) (R' : Ro) (l : List Int) (w : World) (e : Ending) (w' : World) : Prop :=
  ∃ A n c B m d Av k cv, e = .returned (.tuple #[vD R' A n c B m d, .slice Av k cv]) ∧ Dc w' F R' A n c B m d ∧ Rd w' F 1 Av k (zints l) ∧ k ≤ cv ∧ cv ≤ 9223372036854775807 ∧ Below w.heap.size w w'
def lenOf (v : Value) : Nat := match v with | .slice _ k _ => k | _ => 0
set_option maxHeartbeats 4000000 in
theorem rnext_any (R : Ro) (A B : Option Addr) (n c m d : Nat) (F : Nat → Prop) (q x : Int) (w : World) (hn : n ≤ 1000) (h : Dc w F R A n c B m d) (hc9 : R.c ≤ 900000) (hF : ∀ i, F i → i < w.heap.size) :
    Calls Try.prog 19 #[vD R A n c B m d, .int .i64 q, .int .i64 x] w (GivesL F (nextR R q x) (nextL R q x) w) := by
  obtain ⟨i0, hi0, hz0, hz1, hz2⟩ := info_parts int_info
  have HD := Lib.hid h
  have HN0 := Lib.hid h.l.lenM
  have HF := Lib.hid hF
  obtain ⟨hx1, hzz1, hb1⟩ := two_vx w R A n c B m d
  have HX := Lib.hid hx1
  have HZ := Lib.hid hzz1
  have HB := Lib.hid hb1
  clear h hF hx1 hzz1 hb1
  go_enter Try.func19, Try.ntmps19
  go_wp2
  generalize HW : (w.alloc (.cells #[.int .i64 R.s, .slice A n c, .slice B m d, .int .i64 (R.c : Int)] 32)).alloc (.cells #[.int .i64 0, .slice none 0 0, .slice none 0 0, .int .i64 0] 32) = w1 at HX HZ HB ⊢
  clear HW
  go_loopw [8, 9] (fun v i wr => ∃ (k j : Nat) (Av : Option Addr) (cv : Nat), k ≤ n ∧ j ≤ k ∧ i = .int .i64 k ∧ v = .slice Av j cv ∧ cv ≤ 9223372036854775807 ∧ j ≤ cv ∧ (butL (R.L.take k) x).length = j ∧ wr.ownsRow w1.heap.size 3 1 (.slice Av j cv) j (zints (butL (R.L.take k) x)) ∧ Below w1.heap.size w1 wr) (fun _ i _ => n - (intOf i).toNat)
  case atStart => exact ⟨0, 0, none, 0, by omega, by omega, rfl, rfl, by omega, by omega, rfl, World.ownsRow_nil _ _ _ _, Below.refl _ _⟩
  case round =>
    obtain ⟨w3, rfl⟩ : ∃ w3, w3 = wr := ⟨_, rfl⟩
    obtain ⟨k, j, Av, cv, hk, hjk, rfl, rfl, hcv, hjc, hlm, hown, hb⟩ := hrel
    have HB3 := Lib.hid hb
    have HO := Lib.hid hown
    have HM := Lib.hid hlm
    have HD3 := Lib.hid ((HD.out.below (HB.out.trans (hb.mono HB.out.size))).l)
    have HX3 := Lib.hid (HX.out.later hb)
    have HZ3 := Lib.hid (HZ.out.later hb)
    obtain ⟨a0, a1, a2, a3⟩ := HX3.out.cells
    clear hb hown hlm
    by_cases hlt : k < n
    · obtain ⟨ad, p, rfl, hp, hbl, _, d0, d1, d2, d3, d4⟩ := HD3.out.atM hlt
      by_cases hx : p.id = x
      · have HE := Lib.hid (but_no hp hx)
        obtain ⟨pi, pm, pc, po, pf⟩ := p
        simp only at hx d0 d1 d2 d3 d4
        subst hx
        clear hp
        go_wp2
        go_roundw
        case rel => exact ⟨k + 1, j, Av, cv, by omega, by omega, by go_num, rfl, hcv, hjc, by rw [HE.out]; exact HM.out, by rw [HE.out]; exact HO.out, HB3.out⟩
        case measure => simp [intOf]; omega
      · have HE := Lib.hid (but_yes hp hx)
        have t1 : (p.id != x) = true := by simpa using hx
        have HBB : Hid (Below w1.heap.size w1 (w3.alloc (.cells #[.int .i64 p.id] 3))) := Lib.hid (HB3.out.alloc HB3.out.size _)
        have HOB := Lib.hid (HO.out.alloc (.cells #[.int .i64 p.id] 3))
        have HON := Lib.hid (rd_one w3 p.id)
        have HS := HBB.out.size
        clear hp hx
        go_wp2_with (at_builtin; refine wpList_append_rd _ rfl _ _ 43 rfl w1.heap.size 3 i0 _ 1 8 Try.underlying43 hi0 hz0 hz1 hz2 rfl (by omega) (.slice Av j cv) j (zints (butL (R.L.take k) x)) rfl HOB.out no (some ⟨w3.heap.size, 0, none⟩) 1 1 (zints [p.id]) rfl HON.out (zints_one _) (by unfold maxLen; omega) (by omega) HS ?_; intro v4 w4 hown4 hg4 hat4; obtain ⟨A4, c4, rfl, hc4, hcm4⟩ := own_form hown4; have H4 := Lib.hid hown4; have HB4 := Lib.hid (HBB.out.grown hg4 HBB.out.size (fun k hk => (HOB.out.lt k hk).1)); clear hown4 hg4 hat4)
        go_roundw
        case rel => exact ⟨k + 1, j + 1, A4, c4, by omega, by omega, by go_num, rfl, hcm4, hc4, by rw [HE.out, List.length_append, HM.out]; rfl, by rw [HE.out, zints_append]; exact H4.out, HB4.out⟩
        case measure => simp [intOf]; omega
    · obtain rfl : k = n := by omega
      have HT : Hid (R.L.take k = R.L) := Lib.hid (List.take_of_length_le (by rw [HN0.out]; exact Nat.le_refl _))
      have ho7 := HO.out
      have hl7 := HM.out
      rw [HT.out] at ho7 hl7
      obtain ⟨l7, HL7⟩ : ∃ l, Hid (butL R.L x = l) := ⟨_, Lib.hid rfl⟩
      rw [HL7.out] at ho7 hl7
      have HO7 := Lib.hid ho7
      have HLN7 := Lib.hid hl7
      obtain ⟨N, HN⟩ : ∃ N, Hid (numN l7 q = N) := ⟨_, Lib.hid rfl⟩
      have hNl : N ≤ j := by rw [← HN.out, ← hl7]; exact num_le _ _
      have hnc := num_cast l7 q
      rw [HN.out, hl7] at hnc
      have HK1 : Hid (∀ k : Nat, k < N → (k : Int) < q) := Lib.hid (fun k hk => by omega)
      have HK2 : Hid (∀ k : Nat, N ≤ k → k < j → ¬ (k : Int) < q) := Lib.hid (fun k hk hj => by omega)
      have HLN : Hid (nextL R q x = pickL l7 R.c N) := Lib.hid (by unfold nextL; rw [HL7.out, HN.out])
      have HRN : Hid (nextR R q x = ⟨R.s, R.L, R.B, R.c + N⟩) := Lib.hid (by unfold nextR; rw [HL7.out, HN.out])
      have hbase : Hid (w.heap.size + 1 < w1.heap.size) := Lib.hid HZ.out.lt
      clear ho7 hl7 hnc a0 a1 a2 a3 HT
      obtain ⟨a0, a1, a2, a3⟩ := HX3.out.cells
      go_wp2
      go_loopw [10] (fun v wr => ∃ (u : Nat) (Au : Option Addr) (cu : Nat), u ≤ N ∧ v = .slice Au u cu ∧ u ≤ cu ∧ cu ≤ 9223372036854775807 ∧ wr.ownsRow w3.heap.size 3 1 (.slice Au u cu) u (zints (pickL l7 R.c u)) ∧ Vx wr w.heap.size ⟨R.s, R.L, R.B, R.c + u⟩ A k c B m d ∧ Turn w3 wr (fun i => i = w.heap.size)) (fun v _ => N - lenOf v)
      case atStart => exact ⟨0, none, 0, by omega, rfl, by omega, by omega, World.ownsRow_nil _ _ _ _, HX3.out, Turn.refl _ _⟩
      case round =>
        obtain ⟨w5, rfl⟩ : ∃ w5, w5 = wr := ⟨_, rfl⟩
        obtain ⟨u, Au, cu, hu, rfl, huc, hcu, hou, hxu, htu⟩ := hrel
        have HOU := Lib.hid hou
        have HXU := Lib.hid hxu
        have HTU := Lib.hid htu
        have H7 : Hid (Rd w5 no 1 Av j (zints l7)) := Lib.hid (Rd.of_own (own_turn HO7.out htu (fun i hi e => by have := (HO7.out.lt i hi).1; have := hbase.out; omega)) rfl (fun _ _ f => f))
        have HZU := Lib.hid (HZ3.out.turn htu (by omega))
        clear a0 a1 a2 a3
        obtain ⟨a0, a1, a2, a3⟩ := hxu.cells
        have j3 := hxu.fz 3
        obtain ⟨cc, hcc⟩ : ∃ cc, R.c + u = cc := ⟨_, rfl⟩
        simp only [hcc] at a0 a1 a2 a3
        have HCC := Lib.hid hcc
        have hcc9 : cc ≤ 1000000 := by omega
        clear hou hxu htu hcc
        by_cases hlt2 : u < N
        · obtain ⟨y, hy⟩ : ∃ y, cc % j = y := ⟨_, rfl⟩
          have hyj : y < j := by rw [← hy]; exact Nat.mod_lt _ (by omega)
          obtain ⟨ad, z, rfl, hz, hbl, _, d0⟩ := H7.out.atZ hyj
          have t1 := HK1.out u hlt2
          have t1n : u < j := by omega
          have t2 : Int.tmod (cc : Int) (j : Int) = (y : Int) := by rw [Int.tmod_eq_emod_of_nonneg (by omega), ← Int.natCast_emod, hy]
          have t3 : ¬ ((j : Int) = 0) := by omega
          have HPS : Hid (pickL l7 R.c (u + 1) = pickL l7 R.c u ++ [z]) := Lib.hid (by rw [pick_succ, HLN7.out, HCC.out, hy, List.getD_eq_getElem?_getD, hz]; rfl)
          have HTA : Hid (Turn w3 (w5.alloc (.cells #[.int .i64 z] 3)) (fun i => i = w.heap.size)) := Lib.hid (HTU.out.then_ ((Below.refl _ _).alloc (Nat.le_refl _) _))
          have HOA := Lib.hid (HOU.out.alloc (.cells #[.int .i64 z] 3))
          have HON := Lib.hid (rd_one w5 z)
          have HS := HTA.out.size
          have e3 := (HXU.out.later ((Below.refl w5.heap.size w5).alloc (Nat.le_refl _) (.cells #[.int .i64 z] 3)))
          have HE3 := Lib.hid e3
          clear hz hy e3
          go_wp2_with (at_builtin; refine wpList_append_rd _ rfl _ _ 43 rfl w3.heap.size 3 i0 _ 1 8 Try.underlying43 hi0 hz0 hz1 hz2 rfl (by omega) (.slice Au u cu) u (zints (pickL l7 R.c u)) rfl HOA.out no (some ⟨w5.heap.size, 0, none⟩) 1 1 (zints [z]) rfl HON.out (zints_one _) (by unfold maxLen; omega) (by omega) HS ?_; intro v6 w6 ho6 hg6 hat6; obtain ⟨A6, c6, rfl, hc6, hcm6⟩ := own_form ho6; have H6 := Lib.hid ho6; have HB6 : Hid (Below w3.heap.size (w5.alloc (.cells #[.int .i64 z] 3)) w6) := Lib.hid ((Below.refl _ _).mono (Nat.le_refl _) |>.grown hg6 HTA.out.size (fun k hk => (HOA.out.lt k hk).1)); have hltx := HX3.out.lt; have HX6 : Hid (Vx w6 w.heap.size ⟨R.s, R.L, R.B, R.c + u⟩ (A) k c B m d) := Lib.hid (Blk.below HE3.out HB6.out hltx); obtain ⟨_, _, _, b3⟩ := HX6.out.cells; simp only [HCC.out] at b3; have g3 := HX6.out.fz 3; clear ho6 hg6 hat6)
          go_roundw
          case rel =>
            have hts := turn_set w6 ⟨w.heap.size, 3, none⟩ (.int .i64 ((cc : Int) + 1))
            have hbs := hbase.out
            have h13 := HB3.out.size
            refine ⟨u + 1, A6, c6, by omega, rfl, hc6, hcm6, ?_, ?_, ?_⟩
            · rw [HPS.out, zints_append]
              exact own_turn H6.out hts (fun i hi e => by have := (H6.out.lt i hi).1; simp only at e; omega)
            · have := HX6.out.set3 (R.c + (u + 1))
              rw [show ((R.c + (u + 1) : Nat) : Int) = (cc : Int) + 1 by rw [← HCC.out]; omega] at this
              exact this
            · exact (HTA.out.then2 HB6.out).trans hts (Sub.refl _ _)
          case measure => simp [lenOf]; omega
        · obtain rfl : u = N := by omega
          obtain ⟨z0, z1, z2, z3⟩ := HZU.out.cells
          have f0 := HZU.out.fz 0
          have f1 := HZU.out.fz 1
          have f2 := HZU.out.fz 2
          have f3 := HZU.out.fz 3
          have hway : decide ((u : Int) < q) = false ∨ ((u : Int) < q ∧ decide (u < j) = false) := by
            by_cases h1 : (u : Int) < q
            · refine .inr ⟨h1, ?_⟩
              have := HK2.out u (Nat.le_refl _)
              simp only [decide_eq_false_iff_not]
              exact fun h2 => by have h3 := this h2; omega
            · exact .inl (by simpa using h1)
          rcases hway with t1 | ⟨t1, t1n⟩
          all_goals
            go_wp2
            have HTF : Turn w5 ((((w5.setCell ⟨w.heap.size + 1, 0, none⟩ (.int .i64 R.s)).setCell ⟨w.heap.size + 1, 1, none⟩ (.slice A k c)).setCell ⟨w.heap.size + 1, 2, none⟩ (.slice B m d)).setCell ⟨w.heap.size + 1, 3, none⟩ (.int .i64 (cc : Int))) (fun a => a = w.heap.size + 1) := turn4 w5 (w.heap.size + 1) 0 1 2 3 (.int .i64 R.s) (.slice A k c) (.slice B m d) (.int .i64 (cc : Int))
            have hbs := hbase.out
            have h13 := HB3.out.size
            have h35 := HTU.out.size
            have hbw3 : Below w.heap.size w w3 := HB.out.trans (HB3.out.mono HB.out.size)
            have hbw5 : Below w.heap.size w w5 := hbw3.trans (HTU.out.below (C := w.heap.size) (fun i e => by omega) (by omega))
            have hbf := hbw5.trans (HTF.below (C := w.heap.size) (fun i e => by omega) (by omega))
            refine bodyPost_ret (results_rbox (p := 6) (u := 7) rfl _ _ (w.heap.size + 1) ⟨R.s, R.L, R.B, cc⟩ A k c B m d rfl (HZU.out.store ⟨R.s, R.L, R.B, cc⟩ A k c B m d)) rfl ⟨A, k, c, B, m, d, Au, u, cu, by rw [HRN.out, HCC.out]; rfl, ?_, ?_, huc, hcu, hbf⟩
            · rw [HRN.out]
              have := HD.out.below hbf
              exact ⟨this.l, this.b, this.lc, this.lm, this.bc, this.bm⟩
            · rw [HLN.out]
              exact rd_own (own_turn HOU.out HTF (fun i hi e => by have := (HOU.out.lt i hi).1; omega)) HF.out (by omega)
end Go.Proofs.Ytfchhlibjhblmaa
