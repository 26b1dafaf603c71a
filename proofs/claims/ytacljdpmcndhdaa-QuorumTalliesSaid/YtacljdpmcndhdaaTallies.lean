/-
  WHAT IS PROVED: the law QuorumTallies answers true for all arguments, which read behind the call as before it (every tally counts each voter once, and nobody else; it is won just with more than half). No condition beyond those of the given row.
-/
import Derived.Test.YtacljdpmcndhdaaTold
namespace Go.Proofs.Ytacljdpmcndhdaa
open Go.RowKit Go.Lib Go.ChangeShapes Go.WideShapes Go.ChangeAt Go.WideElems

/-- where a tally lies: its voters below block B -/
def Fix (w : World) (g b B : Nat) : Prop := ∃ A n c, Blk w g 42 #[.slice A n c, .map (some b)] ∧ (0 < n → ∀ ad, A = some ad → ad.block < B)
theorem Ty.fix {w : World} {g b : Nat} {vs gs : List Int} (h : Ty w g b vs gs) : Fix w g b w.heap.size := by
  obtain ⟨A, n, c, h1, h2, _⟩ := h.row
  refine ⟨A, n, c, h1, fun hn ad e => ?_⟩
  obtain ⟨ad', e', hlt, _⟩ := h2.2 hn
  rw [e] at e'
  cases e'
  exact hlt
theorem Fix.grown {w w' : World} {g b B : Nat} {row : Option Nat} (h : Fix w g b B) (hg : w.grownBy w' row) (hne : some g ≠ row) : Fix w' g b B := by
  obtain ⟨A, n, c, h1, h2⟩ := h
  exact ⟨A, n, c, h1.grown hg hne, h2⟩
/-- something is written into a block from B on, or made anew -/
theorem Ty.grown {w w' : World} {g b B : Nat} {vs gs : List Int} {row : Option Nat} (h : Ty w g b vs gs) (hf : Fix w g b B) (hgB : g < B) (hbB : b < B) (hg : w.grownBy w' row) (hrow : ∀ r, row = some r → B ≤ r) : Ty w' g b vs gs := by
  obtain ⟨A, n, c, h1, h2, h3, h4⟩ := h.row
  obtain ⟨A', n', c', h5, h6⟩ := hf
  have he : (#[Value.slice A n c, Value.map (some b)] : Array Value) = #[.slice A' n' c', .map (some b)] := by
    unfold Blk at h1 h5
    rw [h1] at h5
    injection h5 with h5
    injection h5
  have he2 : A = A' ∧ n = n' := by simp at he; exact ⟨he.1, he.2.1⟩
  obtain ⟨rfl, rfl⟩ := he2
  have hgr : some g ≠ row := fun e => by have := hrow g e.symm; omega
  have hbr : some b ≠ row := fun e => by have := hrow b e.symm; omega
  refine ⟨⟨A, n, c, h1.grown hg hgr, ⟨h2.1, fun hn => ?_⟩, h3, h4⟩, h.set.kept hg hbr, h.ne, h.sub, h.len⟩
  obtain ⟨ad, e, hlt, hne, hc⟩ := h2.2 hn
  have hB := h6 hn ad e
  refine ⟨ad, e, Nat.lt_of_lt_of_le hlt hg.size, hne, fun j u hu => ?_⟩
  exact (World.cell?_of_block (hg.block (ad.add j).block (by rw [block_of_add]; exact hlt) (fun e => by have := hrow _ e.symm; rw [block_of_add] at this; omega))).trans (hc j u hu)
theorem okG_in {vs gs : List Int} {x : Int} (h1 : x ∈ vs) (h2 : x ∉ gs) : okG (sorted vs) gs x = true ∧ addG (sorted vs) gs x = gs ++ [x] := by
  have h : okG (sorted vs) gs x = true := by rw [okG_sorted]; unfold okG; simp [h1, h2]
  exact ⟨h, addG_yes h⟩
theorem okG_out {vs gs : List Int} {x : Int} (h : x ∉ vs ∨ x ∈ gs) : okG (sorted vs) gs x = false ∧ addG (sorted vs) gs x = gs := by
  have h : okG (sorted vs) gs x = false := by rw [okG_sorted]; unfold okG; rw [decide_eq_false_iff_not]; rintro ⟨a, b⟩; rcases h with h | h; exact h a; exact b h
  exact ⟨h, addG_no h⟩

set_option maxRecDepth 100000 in
set_option maxHeartbeats 1000000 in
theorem tallies_no (A C : Option Addr) (n c m d : Nat) (vs ys : List Int) (W : World) (hnc : n ≤ c) (hc : c ≤ 9223372036854775807) (hn : n ≤ 100) (hm : m ≤ 200) (hra : Arg W A n vs) (hrc : Arg W C m ys) (hys : inInts ys) (HR : Hid (rightB vs = false)) :
    Calls Try.prog 4 #[.slice A n c, .slice C m d] W (Says true W) := by
  have HM := Lib.hid (maj_bad (ys := ys) HR.out)
  go_enter Try.func4, Try.ntmps4
  go_wp2_with (fail)
  refine (anchor_any W).mono ?_
  rintro e w1 ⟨rfl, hb1⟩
  go_wp2_with (fail)
  refine (new_no A n c vs _ _ hnc hc (hra.now hb1) HR).mono ?_
  rintro e w2 ⟨rfl, rfl⟩
  go_wp2_with (fail)
  refine (Right_any A n c vs _ _ hnc hc (hra.now hb1)).mono ?_
  rintro e w2 ⟨rfl, rfl⟩
  rw [HR.out]
  go_wp2_with (fail)
  refine (right_any A n c vs _ _ hnc hc (hra.now hb1)).mono ?_
  rintro e w2 ⟨rfl, rfl⟩
  rw [HR.out]
  go_wp2_with (fail)
  refine (right_any A n c vs _ _ hnc hc (hra.now hb1)).mono ?_
  rintro e w2 ⟨rfl, rfl⟩
  rw [HR.out]
  go_wp2_with (fail)
  refine (maj_any A C n c m d vs ys _ hnc hc (by omega) (hra.now hb1) (hrc.now hb1) hys).mono ?_
  rintro e w3 ⟨rfl, hb3'⟩
  rw [HM.out]
  go_wp2
  go_ret
  exact ⟨rfl, hb1.trans (hb3'.mono hb1.size)⟩

set_option maxRecDepth 100000 in
set_option maxHeartbeats 4000000 in
theorem tallies_in (A C : Option Addr) (n c m d : Nat) (vs ys : List Int) (W : World) (hnc : n ≤ c) (hc : c ≤ 9223372036854775807) (hn : n ≤ 16) (hm : m ≤ 200) (hra : Arg W A n vs) (hrc : Arg W C m ys) (hys : inInts ys) (HR : Hid (rightB vs = true)) :
    Calls Try.prog 4 #[.slice A n c, .slice C m d] W (Says true W) := by
  have HL := Lib.hid hra.len
  have HLC := Lib.hid hrc.len
  have HY := Lib.hid hys
  obtain ⟨i0, hi0, hz0, hz1, hz2⟩ := info_parts int_info
  have HI0 : Hid (Try.prog.info? 3 = some i0) := hi0
  have HZ0 := Lib.hid hz0
  have HZ1 := Lib.hid hz1
  have HZ2 := Lib.hid hz2
  clear hi0 hz0 hz1 hz2
  go_enter Try.func4, Try.ntmps4
  go_wp2_with (fail)
  refine (anchor_any W).mono ?_
  rintro e w1 ⟨rfl, hb1⟩
  go_wp2_with (fail)
  refine (new_yes A n c vs _ _ hnc hc (hra.now hb1) HR).mono ?_
  rintro e w2 ⟨g, b, rfl, h2, hb2', hg2, hgb2⟩
  have hb2 := hb1.trans (hb2'.mono hb1.size)
  have HWb := Lib.hid (Nat.le_trans hb1.size hgb2)
  have HWg := Lib.hid (Nat.le_trans hb1.size hg2)
  have HBb := Lib.hid h2.set.lt
  have HBg := Lib.hid h2.lt
  have HNE := Lib.hid h2.ne
  have hfix := h2.fix
  clear hb1 hb2' hg2 hgb2
  go_wp2_with (fail)
  refine (Right_any A n c vs _ _ hnc hc (hra.now hb2)).mono ?_
  rintro e w3 ⟨rfl, rfl⟩
  rw [HR.out]
  go_wp2_with (fail)
  refine (right_any A n c vs _ _ hnc hc (hra.now hb2)).mono ?_
  rintro e w3 ⟨rfl, rfl⟩
  rw [HR.out]
  go_wp2_with (fail)
  refine (right_any A n c vs _ _ hnc hc (hra.now hb2)).mono ?_
  rintro e w3 ⟨rfl, rfl⟩
  rw [HR.out]
  go_wp2
  obtain ⟨B, HB⟩ : ∃ B, Hid (w2.heap.size = B) := ⟨_, Lib.hid rfl⟩
  have HWB : Hid (W.heap.size ≤ B) := by show _ ≤ _; rw [← HB.out]; exact hb2.size
  have hB0 : B ≤ w2.heap.size := by rw [HB.out]; exact Nat.le_refl _
  rw [HB.out] at HBb HBg hfix
  go_loopw [7, 54] (fun va i wr => ∃ k : Nat, k ≤ m ∧ i = .int .i64 k ∧ Ty wr g b (sorted vs) (gAll (sorted vs) (ys.take k)) ∧ Fix wr g b B ∧ B ≤ wr.heap.size ∧ Below W.heap.size W wr ∧ wr.ownsRow B 3 1 va (gAll (sorted vs) (ys.take k)).length (zints (gAll (sorted vs) (ys.take k)))) (fun _ i _ => m - (intOf i).toNat)
  case atStart => exact ⟨0, by omega, rfl, h2, hfix, hB0, hb2, rfl, .inl ⟨rfl, rfl⟩⟩
  case round =>
    obtain ⟨k, hk, rfl, ht, hf, hBk, hb, hown⟩ := hrel
    have HT := Lib.hid ht
    have HF := Lib.hid hf
    have HBe := Lib.hid hb
    have hgl : (gAll (sorted vs) (ys.take k)).length ≤ 16 := Nat.le_trans ht.sub.le ht.len
    by_cases hlt : k < m
    · obtain ⟨ad, u, rfl, hu, hcell⟩ := (hrc.now hb).at_ hlt
      obtain ⟨z, hz, rfl⟩ := zints_at hu
      have hzb := HY.out z (List.mem_of_getElem? hz)
      have HS : Hid (gAll (sorted vs) (ys.take (k + 1)) = addG (sorted vs) (gAll (sorted vs) (ys.take k)) z) := by show _ = _; rw [takeZ_snoc hz, gAll_snoc]
      have ra := hra.now hb
      clear hu hz ht hf hb
      generalize gAll (sorted vs) (ys.take k) = G at *
      obtain ⟨Ag, cg, rfl, hcg, hcgm⟩ := own_slice hown
      have hrg := own_read hown _ (.inl (Nat.le_refl _))
      have HOW := Lib.hid hown
      have HBK := Lib.hid hBk
      clear hown
      by_cases hv : z ∈ vs
      · have HV := Lib.hid (has_yes hv)
        by_cases hg : z ∈ G
        · have HG := Lib.hid (has_yes hg)
          obtain ⟨ho1, ho2⟩ := okG_out (vs := vs) (gs := G) (x := z) (.inr hg)
          have HO1 := Lib.hid ho1
          have HO2 := Lib.hid ho2
          have HS2 : Hid (G = gAll (sorted vs) (ys.take (k + 1))) := (HS.out.trans HO2.out).symm
          obtain ⟨r, HWN, hd⟩ : ∃ r, Hid (wonB (sorted vs) G = r) ∧ decide ((n : Int) < 2 * (G.length : Int)) = r := ⟨_, Lib.hid (by unfold wonB; rw [sorted_len, HL.out, decide_eq_decide]; (try rw [List.length_append, List.length_singleton]); omega), rfl⟩
          clear ho1 ho2 hv hg
          go_wp2_with (fail)
          refine (has_any A n c vs z _ _ (by omega) ra).mono ?_
          rintro e w4 ⟨rfl, rfl⟩
          rw [HV.out]
          go_wp2_with (fail)
          refine (has_any Ag G.length cg G z _ _ (by omega) hrg).mono ?_
          rintro e w4 ⟨rfl, rfl⟩
          rw [HG.out]
          go_wp2_with (fail)
          refine (grant_any g b _ G z _ HT.out hzb).mono ?_
          rintro e w6 ⟨rfl, t6, g6⟩
          rw [HO1.out]
          rw [HO2.out] at t6
          have T6 := Lib.hid t6
          have F6 := Lib.hid (HF.out.grown g6 (by have := HNE.out; simpa using this))
          have Z6 : Hid (B ≤ w6.heap.size) := Nat.le_trans HBK.out g6.size
          have L6 : Hid (Below W.heap.size W w6) := HBe.out.trans (below_of_only g6 HBe.out.size HWb.out)
          have W6 := Lib.hid (HOW.out.kept g6 (.inr (fun e => by have := (HOW.out.lt b e).1; have := HBb.out; omega)))
          clear t6 g6
          go_wp2_with (fail)
          refine (count_any g b _ _ _ T6.out).mono ?_
          rintro e w7 ⟨rfl, rfl⟩
          go_wp2_with (fail)
          refine (won_any g b _ _ _ T6.out).mono ?_
          rintro e w7 ⟨rfl, q, rfl⟩
          rw [HWN.out]
          have t7 := T6.out.below (below_drewN (Below.refl _ _) q)
          have f7 := F6.out.grown (row := none) (only_drewN (World.grownBy.refl _ _) q) (by simp)
          have l7 := below_drewN L6.out q
          have o7 := own_below W6.out (below_drewN (Below.refl _ _) q)
          have P7 : Hid (Ty (w6.drewN q) g b (sorted vs) (gAll (sorted vs) (ys.take (k + 1))) ∧ Fix (w6.drewN q) g b B ∧ B ≤ (w6.drewN q).heap.size ∧ Below W.heap.size W (w6.drewN q)) := by show _ ∧ _; rw [← HS2.out]; exact ⟨t7, f7, Z6.out, l7⟩
          have O7 := Lib.hid o7
          clear t7 f7 l7 o7
          cases r
          all_goals
            go_wp2
            go_roundw
            case rel => exact ⟨k + 1, by omega, by go_num, P7.out.1, P7.out.2.1, P7.out.2.2.1, P7.out.2.2.2, by rw [← HS2.out]; exact O7.out⟩
            case measure => simp [intOf]; omega
        · have HG := Lib.hid (has_no hg)
          obtain ⟨ho1, ho2⟩ := okG_in (vs := vs) (gs := G) (x := z) hv hg
          have HO1 := Lib.hid ho1
          have HO2 := Lib.hid ho2
          have HS2 : Hid (G ++ [z] = gAll (sorted vs) (ys.take (k + 1))) := (HS.out.trans HO2.out).symm
          have HLG : Hid ((G ++ [z]).length = G.length + 1) := by show _ = _; simp
          obtain ⟨r, HWN, hd⟩ : ∃ r, Hid (wonB (sorted vs) (G ++ [z]) = r) ∧ decide ((n : Int) < 2 * ((G.length : Int) + 1)) = r := ⟨_, Lib.hid (by unfold wonB; rw [sorted_len, HL.out, decide_eq_decide]; (try rw [List.length_append, List.length_singleton]); omega), rfl⟩
          clear ho1 ho2 hv hg
          go_wp2_with (fail)
          refine (has_any A n c vs z _ _ (by omega) ra).mono ?_
          rintro e w4 ⟨rfl, rfl⟩
          rw [HV.out]
          go_wp2_with (fail)
          refine (has_any Ag G.length cg G z _ _ (by omega) hrg).mono ?_
          rintro e w4 ⟨rfl, rfl⟩
          rw [HG.out]
          go_wp2_with (fail)
          refine (grant_any g b _ G z _ HT.out hzb).mono ?_
          rintro e w5 ⟨rfl, t5, g5⟩
          rw [HO1.out]
          rw [HO2.out] at t5
          have T5 := Lib.hid t5
          have F5 := Lib.hid (HF.out.grown g5 (by have := HNE.out; simpa using this))
          have Z5 : Hid (B ≤ w5.heap.size) := Nat.le_trans HBK.out g5.size
          have L5 : Hid (Below W.heap.size W w5) := HBe.out.trans (below_of_only g5 HBe.out.size HWb.out)
          have W5 := Lib.hid (HOW.out.kept g5 (.inr (fun e => by have := (HOW.out.lt b e).1; have := HBb.out; omega)))
          clear t5 g5
          have hz5 := Z5.out
          go_wp2_with (at_builtin; refine wpList_append_own _ rfl _ _ 25 rfl B 3 i0 (.int .i64 0) 1 8 Try.underlying25 HI0.out HZ0.out HZ1.out HZ2.out rfl (by decide) _ _ _ rfl (W5.out.alloc _) ⟨w5.heap.size, 0, none⟩ 1 1 [.int .i64 z] rfl rfl (cell_one_new _ _ _) (by simp [Value.oneCell']) (by unfold maxLen; omega) (by omega) (by simp; omega) ?_; intro v' w6 hown' hg6 _; obtain ⟨A6, c6, rfl, hc6, hc6m⟩ := own_slice hown')
          have hga : w5.grownBy w6 (Value.slice Ag G.length cg).ownBlock := (only_alloc (World.grownBy.refl _ _) _).trans hg6
          have T6 : Hid (Ty w6 g b (sorted vs) (G ++ [z])) := T5.out.grown F5.out HBg.out HBb.out hga (fun r e => (W5.out.lt r e).1)
          have F6 : Hid (Fix w6 g b B) := F5.out.grown hga (fun e => by have := (W5.out.lt g e.symm).1; have := HBg.out; omega)
          have Z6 : Hid (B ≤ w6.heap.size) := Nat.le_trans Z5.out hga.size
          have L6 : Hid (Below W.heap.size W w6) := L5.out.grown hga L5.out.size (fun r e => Nat.le_trans HWB.out (W5.out.lt r e).1)
          have W6 : Hid (w6.ownsRow B 3 1 (.slice A6 (G.length + 1) c6) (G ++ [z]).length (zints (G ++ [z]))) := by show w6.ownsRow _ _ _ _ _ _; rw [HLG.out, zints_append]; simpa [zints] using hown'
          clear hown' hg6 hga hz5
          go_wp2_with (fail)
          refine (count_any g b _ _ _ T6.out).mono ?_
          rintro e w7 ⟨rfl, rfl⟩
          rw [HLG.out]
          go_wp2_with (fail)
          refine (won_any g b _ _ _ T6.out).mono ?_
          rintro e w7 ⟨rfl, q, rfl⟩
          rw [HWN.out]
          have t7 := T6.out.below (below_drewN (Below.refl _ _) q)
          have f7 := F6.out.grown (row := none) (only_drewN (World.grownBy.refl _ _) q) (by simp)
          have l7 := below_drewN L6.out q
          have o7 := own_below W6.out (below_drewN (Below.refl _ _) q)
          have P7 : Hid (Ty (w6.drewN q) g b (sorted vs) (gAll (sorted vs) (ys.take (k + 1))) ∧ Fix (w6.drewN q) g b B ∧ B ≤ (w6.drewN q).heap.size ∧ Below W.heap.size W (w6.drewN q)) := by show _ ∧ _; rw [← HS2.out]; exact ⟨t7, f7, Z6.out, l7⟩
          have O7 := Lib.hid o7
          clear t7 f7 l7 o7
          cases r
          all_goals
            go_wp2
            go_roundw
            case rel => exact ⟨k + 1, by omega, by go_num, P7.out.1, P7.out.2.1, P7.out.2.2.1, P7.out.2.2.2, by rw [← HS2.out]; exact O7.out⟩
            case measure => simp [intOf]; omega
      · have HV := Lib.hid (has_no hv)
        obtain ⟨ho1, ho2⟩ := okG_out (vs := vs) (gs := G) (x := z) (.inl hv)
        have HO1 := Lib.hid ho1
        have HO2 := Lib.hid ho2
        have HS2 : Hid (G = gAll (sorted vs) (ys.take (k + 1))) := (HS.out.trans HO2.out).symm
        obtain ⟨r, HWN, hd⟩ : ∃ r, Hid (wonB (sorted vs) G = r) ∧ decide ((n : Int) < 2 * (G.length : Int)) = r := ⟨_, Lib.hid (by unfold wonB; rw [sorted_len, HL.out, decide_eq_decide]; (try rw [List.length_append, List.length_singleton]); omega), rfl⟩
        clear ho1 ho2 hv
        go_wp2_with (fail)
        refine (has_any A n c vs z _ _ (by omega) ra).mono ?_
        rintro e w4 ⟨rfl, rfl⟩
        rw [HV.out]
        go_wp2_with (fail)
        refine (grant_any g b _ G z _ HT.out hzb).mono ?_
        rintro e w6 ⟨rfl, t6, g6⟩
        rw [HO1.out]
        rw [HO2.out] at t6
        have T6 := Lib.hid t6
        have F6 := Lib.hid (HF.out.grown g6 (by have := HNE.out; simpa using this))
        have Z6 : Hid (B ≤ w6.heap.size) := Nat.le_trans HBK.out g6.size
        have L6 : Hid (Below W.heap.size W w6) := HBe.out.trans (below_of_only g6 HBe.out.size HWb.out)
        have W6 := Lib.hid (HOW.out.kept g6 (.inr (fun e => by have := (HOW.out.lt b e).1; have := HBb.out; omega)))
        clear t6 g6
        go_wp2_with (fail)
        refine (count_any g b _ _ _ T6.out).mono ?_
        rintro e w7 ⟨rfl, rfl⟩
        go_wp2_with (fail)
        refine (won_any g b _ _ _ T6.out).mono ?_
        rintro e w7 ⟨rfl, q, rfl⟩
        rw [HWN.out]
        have t7 := T6.out.below (below_drewN (Below.refl _ _) q)
        have f7 := F6.out.grown (row := none) (only_drewN (World.grownBy.refl _ _) q) (by simp)
        have l7 := below_drewN L6.out q
        have o7 := own_below W6.out (below_drewN (Below.refl _ _) q)
        have P7 : Hid (Ty (w6.drewN q) g b (sorted vs) (gAll (sorted vs) (ys.take (k + 1))) ∧ Fix (w6.drewN q) g b B ∧ B ≤ (w6.drewN q).heap.size ∧ Below W.heap.size W (w6.drewN q)) := by show _ ∧ _; rw [← HS2.out]; exact ⟨t7, f7, Z6.out, l7⟩
        have O7 := Lib.hid o7
        clear t7 f7 l7 o7
        cases r
        all_goals
          go_wp2
          go_roundw
          case rel => exact ⟨k + 1, by omega, by go_num, P7.out.1, P7.out.2.1, P7.out.2.2.1, P7.out.2.2.2, by rw [← HS2.out]; exact O7.out⟩
          case measure => simp [intOf]; omega
    · obtain rfl : k = m := by omega
      have HYS : Hid (ys.take k = ys) := List.take_of_length_le (by rw [HLC.out]; exact Nat.le_refl _)
      rw [HYS.out] at ht hown hgl
      obtain ⟨r, HWN, hd⟩ : ∃ r, Hid (majB vs ys = r) ∧ decide ((n : Int) < 2 * ((gAll (sorted vs) ys).length : Int)) = r := ⟨_, Lib.hid (by rw [← won_maj HR.out]; unfold wonB; rw [sorted_len, HL.out, decide_eq_decide]; omega), rfl⟩
      generalize gAll (sorted vs) ys = G at *
      obtain ⟨Ag, cg, rfl, hcg, hcgm⟩ := own_slice hown
      have HRG : Hid (Reads wr wr.heap.size Ag G.length (zints G)) := own_read hown _ (.inl (Nat.le_refl _))
      have HT2 := Lib.hid ht
      clear ht hown HT
      go_wp2_with (fail)
      refine (maj_any A C n c k d vs ys _ hnc hc (by omega) (hra.now HBe.out) (hrc.now HBe.out) HY.out).mono ?_
      rintro e w3 ⟨rfl, hb3'⟩
      rw [HWN.out]
      have hb3 := HBe.out.trans (hb3'.mono HBe.out.size)
      have t3 := HT2.out.below hb3'
      have r3 := HRG.out.old hb3' hb3'.size
      clear hb hb3' HRG HT2
      cases r
      all_goals
        go_wp2_with (fail)
        refine (told_law g b A Ag n c G.length cg vs G _ t3 HR.out (hra.now hb3) r3).mono ?_
        rintro e w4 ⟨rfl, hb4'⟩
        go_wp2
        go_ret
        exact ⟨rfl, hb3.trans (hb4'.mono hb3.size)⟩

set_option maxHeartbeats 1000000 in
theorem tallies_any (A C : Option Addr) (n c m d : Nat) (vs ys : List Int) (W : World) (hnc : n ≤ c) (hc : c ≤ 9223372036854775807) (hra : Arg W A n vs) (hrc : Arg W C m ys) (hys : inInts ys) :
    Calls Try.prog 4 #[.slice A n c, .slice C m d] W (Says true W) := by
  by_cases h : n ≤ 100 ∧ m ≤ 200
  · by_cases hr : rightB vs = true
    · have h16 := (right_iff.1 hr).1
      rw [hra.len] at h16
      exact tallies_in A C n c m d vs ys W hnc hc h16 h.2 hra hrc hys (Lib.hid hr)
    · exact tallies_no A C n c m d vs ys W hnc hc h.1 h.2 hra hrc hys (Lib.hid (by simpa using hr))
  · have h2 : (100 : Int) < n ∨ ((n : Int) ≤ 100 ∧ (200 : Int) < m) := by omega
    clear h
    rcases h2 with h | ⟨h1, h2⟩
    all_goals
      go_enter Try.func4, Try.ntmps4
      go_wp2_with (fail)
      refine (anchor_any W).mono ?_
      rintro e w1 ⟨rfl, hb1⟩
      go_wp2
      go_ret
      exact ⟨rfl, hb1⟩

theorem tallies_lifted (os : Os) (started : os.Started) (H : Type) (enc : TypeId × Value → H) :
    ReturnsInHanded {} Try.checked os 4 .any (Rows.quorumTalliesSpec.pre6 enc Try.prog Try.f4 Rows.quorumTalliesRow.domain false) (Rows.quorumTalliesSpec.post enc Try.prog Try.f4 false true false false) := by
  refine returnsInHanded_of_change (C := Try.checked) own started (by kernel_rfl) Try.func4
    (ChangeSpec.witness6 (enc := enc) (C := Try.checked) false ⟨#[], #[.slice none 0 0, .slice none 0 0], []⟩ 8 (by kernel_rfl) (by kernel_rfl) (by kernel_rfl) (by kernel_rfl)) ?_
  intro W base args ds gs before hval0 hW _ _
  have hval : ∀ (j : Nat) t v, Try.f4.params[j]? = some t → args[j]? = some v → Value.okWide Try.prog W .any base t v := hval0
  have hW' := hW
  obtain ⟨p, q, hA0, hV, rfl, _, _⟩ := hW
  have hA : DataW.TrodAll enc Try.prog W 0 (fun _ => true) true Try.f4.params.toList args.toList ds p := hA0
  rw [Try.params4] at hA hval
  obtain ⟨v0, vs0, d0, ds0, p0, q0, hargs, rfl, rfl, h0, r0⟩ := trodAll_cons hA
  obtain ⟨v1, vs1, d1, ds1, p1, q1, rfl, rfl, rfl, h1, r1⟩ := trodAll_cons r0
  obtain ⟨rfl, rfl, rfl⟩ := trodAll_nil r1
  obtain rfl : args = #[v0, v1] := by cases args; simp_all
  obtain ⟨rfl, rfl⟩ := trodVars_none hV
  obtain ⟨A0, n0, c0, l0, rfl, hl0, hc0, hm0, hr0, hz0⟩ := open_zints Try.underlying25 Try.underlying3 cells_int (hval 0 25 v0 rfl rfl) h0
  obtain ⟨A1, n1, c1, l1, rfl, hl1, hc1, hm1, hr1, hz1⟩ := open_zints Try.underlying25 Try.underlying3 cells_int (hval 1 25 v1 rfl rfl) h1
  clear hA0
  have hk := tallies_any A0 A1 n0 c0 n1 c1 l0 l1 W hc0 hm0 hr0 hr1 hz1
  exact hk.mono fun e W' ⟨he, hb⟩ => ⟨_, he, law_post laid_ok (by kernel_rfl) rfl Try.underlying4 rfl hW' rfl hb⟩

theorem tallies_holds : Rows.QuorumTalliesSaid :=
  OpenClaim.holds_of_wide 4 Try.f4 rfl rfl rfl rfl rfl rfl rfl ⟨rfl, rfl, rfl, rfl, rfl⟩ rfl rfl rfl rfl rfl (by kernel_rfl) Try.func4 (by kernel_rfl)
    (of_decide_eq_true (by kernel_rfl)) (by unfold Func.isWrapper; first | (rw [if_pos (by decide +kernel)]; kernel_rfl) | (rw [if_neg (by decide +kernel)]; exact ⟨rfl, rfl⟩))
    (fun os started H enc _ => tallies_lifted os started H enc)

end Go.Proofs.Ytacljdpmcndhdaa
