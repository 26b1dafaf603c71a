/-
  WHAT IS PROVED: the law RankFirst answers true for all arguments, which read behind the call as before it (who has more than all others has rank 0; one more that has less changes nobody's rank). No condition beyond those of the given row.
-/
import Derived.Test.YtdeppjoehnlbnaaRow
import Derived.Deep.DeepCutAuto
namespace Go.Proofs.Ytdeppjoehnlbnaa
open Go.RowKit Go.Lib Go.Sort Go.ChangeShapes Go.WideShapes Go.ChangeAt Go.WideElems

theorem one_reps (w : World) (m : Rep) : RepsAt (w.alloc (.cells #[.int .i64 m.id, .int .i64 m.off] 29)) (some ⟨w.heap.size, 0, none⟩) 1 [m] :=
  RepsAt.of_cells rfl (fun _ => by simp) (fun j u hu => by
    rw [Go.WideShapes.add_plain, Nat.zero_add, (Blk.new w _ _).cell j]
    simpa [flatR, encR] using hu)
def allB (l : List Rep) (m : Rep) : Bool := l.all fun r => aheadB r m
theorem allB_snoc {l : List Rep} {k : Nat} {r m : Rep} (hr : l[k]? = some r) : allB (l.take (k + 1)) m = (allB (l.take k) m && aheadB r m) := by
  unfold allB; rw [takeR_snoc hr, List.all_append]; simp
theorem RepsAt.grown {w w' : World} {A : Option Addr} {n : Nat} {l : List Rep} {row : Option Nat} (h : RepsAt w A n l) (hg : w.grownBy w' row) (hne : ∀ ad, A = some ad → some ad.block ≠ row) : RepsAt w' A n l :=
  ⟨h.1, fun hn => by
    obtain ⟨ad, e, hlt, hc⟩ := h.2 hn
    have hb := hg.block ad.block hlt (hne ad e)
    refine ⟨ad, e, Nat.lt_of_lt_of_le hlt hg.size, fun i s hs => ?_⟩
    obtain ⟨c0, c1⟩ := hc i s hs
    exact ⟨(World.cell?_of_block (by rw [block_of_add]; exact hb)).trans c0, (World.cell?_of_block (by rw [block_of_add]; exact hb)).trans c1⟩⟩

set_option maxRecDepth 100000 in
set_option maxHeartbeats 8000000 in
theorem first_main (A : Option Addr) (n c : Nat) (l : List Rep) (mo : Rep) (W : World) (hnc : n ≤ c) (hr : RepsAt W A n l) (hn : n ≤ 15) (h : Hid (rightB l = true)) :
    Calls Try.prog 7 #[.slice A n c, vRep mo] W (Says true W) := by
  obtain ⟨i0, hi0, hz0, hz1, hz2⟩ := info_parts rep_info
  have HI0 : Hid (Try.prog.info? 29 = some i0) := hi0
  have HZ0 := Lib.hid hz0
  have HZ1 := Lib.hid hz1
  have HZ2 := Lib.hid hz2
  have hb0 := below_alloc (Below.refl W.heap.size W) (.cells #[.int .i64 mo.id, .int .i64 mo.off] 29)
  have HR := Lib.hid (hr.below hb0)
  have HBX := Lib.hid (BoxAt.new W mo)
  have HB0 := Lib.hid hb0
  have hn' : decide (15 < (n : Int)) = false := by simp; omega
  clear hi0 hz0 hz1 hz2 hr hb0
  go_enter Try.func7, Try.ntmps7
  go_wp2_with (fail)
  refine (anchor_any _).mono ?_
  rintro e w1 ⟨rfl, hb1⟩
  go_wp2_with (fail)
  refine (right_any A n c l _ hnc (HR.out.below hb1)).mono ?_
  rintro e w2 ⟨rfl, hb2'⟩
  rw [h.out]
  have hb2 := hb1.trans (hb2'.mono hb1.size)
  clear hb1 hb2'
  go_upto_region 5 with (fail)
  go_cut [5] (fun va wx => ∃ A5 c5, va = .slice A5 (n + 1) c5 ∧ n + 1 ≤ c5 ∧ RepsAt wx A5 (n + 1) (l ++ [mo]) ∧ Below (W.alloc (.cells #[.int .i64 mo.id, .int .i64 mo.off] 29)).heap.size (W.alloc (.cells #[.int .i64 mo.id, .int .i64 mo.off] 29)) wx)
  case first =>
    have HW0 : Below w2.heap.size w2 w2.drew := below_drewN (Below.refl _ _) 1
    have HW1 : Below w2.heap.size w2 (w2.drew.alloc (.cells #[] 29)) := below_alloc HW0 _
    have HW2 : Below w2.heap.size w2 ((w2.drew.alloc (.cells #[] 29)).alloc (.cells #[.int .i64 mo.id, .int .i64 mo.off] 29)) := below_alloc HW1 _
    have HW3 : Below w2.heap.size w2 (w2.drew.alloc (.cells #[.int .i64 mo.id, .int .i64 mo.off] 29)) := below_alloc HW0 _
    have HW4 : Below w2.heap.size w2 ((w2.drew.alloc (.cells #[.int .i64 mo.id, .int .i64 mo.off] 29)).alloc (.cells #[] 29)) := below_alloc HW3 _
    have HOWN : Hid ((w2.drew.alloc (.cells #[] 29)).ownsRow w2.heap.size 29 2 (.slice (some ⟨w2.heap.size, 0, none⟩) 0 0) 0 (flatR [])) := World.ownsRow_made w2.drew #[] 0 (Nat.le_refl _) (Nat.zero_le _) rfl
    have HBB : Hid (∀ w', (w2.drew.alloc (.cells #[] 29)).grownBy w' (some w2.heap.size) → Below w2.heap.size w2 w') := fun w' hg => HW1.grown hg HW1.size (fun j e => by injection e with e; omega)
    have HOWN2 : Hid (((w2.drew.alloc (.cells #[] 29)).alloc (.cells #[.int .i64 mo.id, .int .i64 mo.off] 29)).ownsRow w2.heap.size 29 2 (.slice (some ⟨w2.heap.size, 0, none⟩) 0 0) 0 (flatR [])) := (World.ownsRow_made w2.drew #[] 0 (Nat.le_refl _) (Nat.zero_le _) rfl).alloc _
    have HONE : Hid (∀ w', ((w2.drew.alloc (.cells #[] 29)).alloc (.cells #[.int .i64 mo.id, .int .i64 mo.off] 29)).grownBy w' (some w2.heap.size) → RepsAt w' (some ⟨w2.heap.size + 1, 0, none⟩) 1 [mo]) := fun w' hg => by
      have h := one_reps (w2.drew.alloc (.cells #[] 29)) mo
      rw [show (w2.drew.alloc (.cells #[] 29)).heap.size = w2.heap.size + 1 by simp] at h
      exact h.grown hg (fun ad e => by cases e; intro e; injection e with e; simp at e)
    have HBB2 : Hid (∀ w', ((w2.drew.alloc (.cells #[] 29)).alloc (.cells #[.int .i64 mo.id, .int .i64 mo.off] 29)).grownBy w' (some w2.heap.size) → Below w2.heap.size w2 w') := fun w' hg => HW2.grown hg HW2.size (fun j e => by injection e with e; omega)
    have HOWN3 : Hid (((w2.drew.alloc (.cells #[.int .i64 mo.id, .int .i64 mo.off] 29)).alloc (.cells #[] 29)).ownsRow w2.heap.size 29 2 (.slice (some ⟨w2.heap.size + 1, 0, none⟩) 0 0) 0 (flatR [])) := by
      have h : ((w2.drew.alloc (.cells #[.int .i64 mo.id, .int .i64 mo.off] 29)).alloc (.cells #[] 29)).ownsRow w2.heap.size 29 2 (.slice (some ⟨(w2.drew.alloc (.cells #[.int .i64 mo.id, .int .i64 mo.off] 29)).heap.size, 0, none⟩) 0 0) 0 (flatR []) := World.ownsRow_made (w2.drew.alloc (.cells #[.int .i64 mo.id, .int .i64 mo.off] 29)) #[] 0 (by simp) (Nat.zero_le _) rfl
      rwa [show (w2.drew.alloc (.cells #[.int .i64 mo.id, .int .i64 mo.off] 29)).heap.size = w2.heap.size + 1 by simp] at h
    have HONE3 : Hid (∀ w', ((w2.drew.alloc (.cells #[.int .i64 mo.id, .int .i64 mo.off] 29)).alloc (.cells #[] 29)).grownBy w' (some (w2.heap.size + 1)) → RepsAt w' (some ⟨w2.heap.size, 0, none⟩) 1 [mo]) := fun w' hg => by
      have h := (one_reps w2.drew mo).below ((Below.refl _ _).alloc (Nat.le_refl _) (.cells #[] 29))
      exact h.grown hg (fun ad e => by cases e; intro e; injection e with e; simp at e)
    have HBB3 : Hid (∀ w', ((w2.drew.alloc (.cells #[.int .i64 mo.id, .int .i64 mo.off] 29)).alloc (.cells #[] 29)).grownBy w' (some (w2.heap.size + 1)) → Below w2.heap.size w2 w') := fun w' hg => HW4.grown hg HW4.size (fun j e => by injection e with e; omega)
    have HRD : Hid (∀ w', Below w2.heap.size w2 w' → RepsAt w' A n l) := fun w' hb => HR.out.below (hb2.trans (hb.mono hb2.size))
    have HC : Hid (∀ w', Below w2.heap.size w2 w' → w'.cell? ⟨W.heap.size, 0, none⟩ = some (.int .i64 mo.id) ∧ w'.cell? ⟨W.heap.size, 1, none⟩ = some (.int .i64 mo.off)) := fun w' hb => HBX.out.below (hb2.trans (hb.mono hb2.size))
    go_region_held3 (fun w' => w'.cell? ⟨W.heap.size, 0, none⟩ = some (.int .i64 mo.id) ∧ w'.cell? ⟨W.heap.size, 1, none⟩ = some (.int .i64 mo.off)) (first | assumption | exact HC.out _ HW0 | exact HC.out _ HW1 | exact HC.out _ HW2 | exact HC.out _ HW3 | exact HC.out _ HW4 | exact HC.out _ HB4 | exact HC.out _ (below_alloc HB4 _) | exact HC.out _ HB5) (first | ((refine step_append_reps _ (by rfl) (.tmp 29) (.tmp 30) 22 (by rfl) w2.heap.size 29 i0 _ Try.underlying22 HI0.out HZ0.out HZ1.out HZ2.out (by rfl) _ 0 _ (by rfl) HOWN.out A n c l (by rfl) (HRD.out _ HW1) (by omega) HW1.size ?_; intro v4 w4 hown4 hg4 _; simp only [Nat.zero_add, List.nil_append] at hown4; have HO4 := Lib.hid hown4; have HB4 := HBB.out w4 hg4; clear hown4 hg4)) | ((refine step_append_reps _ (by rfl) (.tmp 29) (.tmp 30) 22 (by rfl) w2.heap.size 29 i0 _ Try.underlying22 HI0.out HZ0.out HZ1.out HZ2.out (by rfl) _ 0 _ (by rfl) HOWN2.out A n c l (by rfl) (HRD.out _ HW2) (by omega) HW2.size ?_; intro v4 w4 hown4 hg4 _; simp only [Nat.zero_add, List.nil_append] at hown4; have HO4 := Lib.hid hown4; have HB4 := HBB2.out w4 hg4; have HONE4 := Lib.hid (HONE.out w4 hg4); clear hown4 hg4)) | ((refine step_append_reps _ (by rfl) (.tmp 29) (.tmp 30) 22 (by rfl) w2.heap.size 29 i0 _ Try.underlying22 HI0.out HZ0.out HZ1.out HZ2.out (by rfl) _ 0 _ (by rfl) HOWN3.out A n c l (by rfl) (HRD.out _ HW4) (by omega) HW4.size ?_; intro v4 w4 hown4 hg4 _; simp only [Nat.zero_add, List.nil_append] at hown4; have HO4 := Lib.hid hown4; have HB4 := HBB3.out w4 hg4; have HONE4 := Lib.hid (HONE3.out w4 hg4); clear hown4 hg4)) | ((refine step_append_reps _ (by rfl) (.tmp 31) (.tmp 33) 22 (by rfl) w2.heap.size 29 i0 _ Try.underlying22 HI0.out HZ0.out HZ1.out HZ2.out (by rfl) _ n _ (by rfl) (HO4.out.alloc _) _ 1 1 [mo] (by rfl) (one_reps w4 mo) (by omega) (below_alloc HB4 _).size ?_; intro v5 w5 hown5 hg5 _; have HB5 : Below w2.heap.size w2 w5 := (below_alloc HB4 _).grown hg5 (below_alloc HB4 _).size (fun j e => (HO4.out.lt j e).1); obtain ⟨A5, c5, rfl, hc5, _, hr5⟩ := own_reps hown5; have HR5 := Lib.hid hr5; clear hown5 hg5 hr5)) | ((refine step_append_reps _ (by rfl) (.tmp 31) (.tmp 33) 22 (by rfl) w2.heap.size 29 i0 _ Try.underlying22 HI0.out HZ0.out HZ1.out HZ2.out (by rfl) _ n _ (by rfl) HO4.out _ 1 1 [mo] (by rfl) HONE4.out (by omega) HB4.size ?_; intro v5 w5 hown5 hg5 _; have HB5 : Below w2.heap.size w2 w5 := HB4.grown hg5 HB4.size (fun j e => (HO4.out.lt j e).1); obtain ⟨A5, c5, rfl, hc5, _, hr5⟩ := own_reps hown5; have HR5 := Lib.hid hr5; clear hown5 hg5 hr5)))
  -- behind the region
    all_goals (go_wp2_with fail; go_meet; exact ⟨A5, c5, rfl, hc5, HR5.out, hb2.trans (HB5.mono hb2.size)⟩)
  case rest =>
    obtain ⟨A5, c5, rfl, hc5, hr5, hb5⟩ := hcut
    have HRL := Lib.hid (HR.out.below hb5)
    have HRA := Lib.hid hr5
    have HMO := Lib.hid (HBX.out.below hb5)
    have HBW := Lib.hid (HB0.out.trans (hb5.mono HB0.out.size))
    have HL := Lib.hid HR.out.1
    clear hr5 hb5 hb2 HR HBX HB0 HI0 HZ0 HZ1 HZ2
    cases hra : rightB (l ++ [mo]) with
    | false =>
      have HX := Lib.hid hra
      clear hra
      go_wp2_with (fail)
      refine (right_any A5 (n + 1) c5 _ _ hc5 HRA.out).mono ?_
      rintro e w3 ⟨rfl, hb3⟩
      rw [HX.out]
      go_wp2
      go_ret
      exact ⟨rfl, HBW.out.trans (hb3.mono HBW.out.size)⟩
    | true =>
      have HX := Lib.hid hra
      clear hra
      go_wp2_with (fail)
      refine (right_any A5 (n + 1) c5 _ _ hc5 HRA.out).mono ?_
      rintro e w3 ⟨rfl, hb3⟩
      rw [HX.out]
      go_wp2
      go_loopw [6, 40] (fun v j wr => ∃ i : Nat, i ≤ n ∧ j = .int .i64 i ∧ v = .bool (allB (l.take i) mo) ∧ Below wc.heap.size wc wr) (fun _ j _ => n - (intOf j).toNat)
      case atStart => exact ⟨0, by omega, rfl, rfl, hb3⟩
      case round =>
        obtain ⟨i, hin, rfl, rfl, hb⟩ := hrel
        by_cases hlt : i < n
        · obtain ⟨ad, r, rfl, hr0, _, c0, c1⟩ := (HRL.out.below hb).at_ hlt
          have hbo := below_alloc hb (.cells #[.int .i64 r.id, .int .i64 r.off] 29)
          obtain ⟨b0, b1⟩ := HMO.out.below hbo
          have HBO := Lib.hid hbo
          clear hbo hb
          cases hall : allB (l.take i) mo with
          | true =>
            obtain ⟨q, HQ⟩ : ∃ q, Hid (aheadB r mo = q) := ⟨_, Lib.hid rfl⟩
            have HS : Hid (allB (l.take (i + 1)) mo = q) := by show _ = _; rw [allB_snoc hr0, hall, HQ.out]; rfl
            clear hall hr0
            go_wp2_with (fail)
            refine (ahead_any r mo _).mono ?_
            rintro e w5 ⟨rfl, hb5⟩
            rw [HQ.out]
            have hb6 := HBO.out.trans (hb5.mono HBO.out.size)
            clear hb5
            go_wp2
            go_roundw
            case rel => exact ⟨i + 1, by omega, by go_num, by rw [HS.out], hb6⟩
            case measure => simp [intOf]; omega
          | false =>
            have HS : Hid (allB (l.take (i + 1)) mo = false) := by show _ = _; rw [allB_snoc hr0, hall]; rfl
            clear hall hr0
            go_wp2
            go_roundw
            case rel => exact ⟨i + 1, by omega, by go_num, by rw [HS.out], HBO.out⟩
            case measure => simp [intOf]; omega
        · obtain rfl : i = n := by omega
          obtain ⟨la, hla, HLA⟩ : ∃ la : Bool, allB (l.take i) mo = la ∧ Hid (la = true → ∀ r ∈ l, aheadB r mo = true) := by
            refine ⟨_, rfl, fun hh => ?_⟩
            rw [List.take_of_length_le (by rw [HL.out]; exact Nat.le_refl _)] at hh
            exact List.all_eq_true.1 hh
          rw [hla]
          clear hla hlt hin
          have HSTEP : Hid (∀ s ∈ l, ∃ a b : Nat, Hid (cnt l s = a) ∧ Hid (cnt (l ++ [mo]) s = b) ∧ (b = a ∨ b = a + 1) ∧ (la = true → b = a)) := fun s hs => by
            refine ⟨_, _, Lib.hid rfl, Lib.hid rfl, ?_, fun hh => ?_⟩
            · rw [more_cnt]; split <;> omega
            · rw [more_cnt, ahead_asym (HLA.out hh s hs)]; simp
          obtain ⟨ke, HK, hke⟩ : ∃ ke : Nat, Hid (cnt (l ++ [mo]) mo = ke) ∧ (la = true → ke = i) := ⟨_, Lib.hid rfl, fun hh => by rw [more_self, cnt_all (HLA.out hh), HL.out]⟩
          have HKE := Lib.hid hke
          have hbs := hb
          clear hke hb HLA
          go_wp2
          go_loopw [53] (fun j wr2 => ∃ q : Nat, q ≤ i ∧ j = .int .i64 q ∧ Below wc.heap.size wc wr2) (fun j _ => i - (intOf j).toNat)
          case atStart => exact ⟨0, by omega, rfl, hbs⟩
          case round =>
            clear hbs
            obtain ⟨q, hq, rfl, hb⟩ := hrel
            by_cases hlt : q < i
            · obtain ⟨ad, s, rfl, hs0, _, c0, c1⟩ := (HRL.out.below hb).at_ hlt
              have HB := Lib.hid (below_alloc hb (.cells #[.int .i64 s.id, .int .i64 s.off] 29))
              have HBX : Hid (∀ w2, Below (wr.alloc (.cells #[.int .i64 s.id, .int .i64 s.off] 29)).heap.size (wr.alloc (.cells #[.int .i64 s.id, .int .i64 s.off] 29)) w2 → BoxAt w2 wr.heap.size s ∧ Below wc.heap.size wc w2) := fun w2 h2 => ⟨(BoxAt.new wr s).below h2, HB.out.trans (h2.mono HB.out.size)⟩
              have hsl := List.mem_of_getElem? hs0
              obtain ⟨a, b, HA, HC, hab, hlab⟩ := HSTEP.out s hsl
              have HZ : Hid (a = 0 → ∀ x ∈ l, x.off ≤ s.off) := fun h0 x hx => cnt_zero (by rw [HA.out]; exact h0) hx
              have K1 : Hid (∀ W2, Below wc.heap.size wc W2 → Calls Try.prog 14 #[.slice (some ad) i c, .int .i64 s.id] W2 fun e w' => e = .returned (.tuple #[.int .i64 a, .int .i64 0]) ∧ Below W2.heap.size W2 w') := fun W2 h2 => rank_of (some ad) i c l s a W2 hnc (HRL.out.below h2) h hsl HA
              have K2 : Hid (∀ W2, Below wc.heap.size wc W2 → Calls Try.prog 14 #[.slice A5 (i + 1) c5, .int .i64 s.id] W2 fun e w' => e = .returned (.tuple #[.int .i64 b, .int .i64 0]) ∧ Below W2.heap.size W2 w') := fun W2 h2 => rank_of A5 (i + 1) c5 (l ++ [mo]) s b W2 hc5 (HRA.out.below h2) HX (List.mem_append_left _ hsl) HC
              have ha16 : a ≤ 16 := by have h1 := HA.out; have h2 := cnt_le l s; have h3 := HL.out; omega
              have hcase : (la = true ∧ a = b) ∨ (la = false ∧ decide (b < a) = false ∧ decide ((a : Int) + 1 < (b : Int)) = false) := by
                cases la with
                | true => exact .inl ⟨rfl, (hlab rfl).symm⟩
                | false => exact .inr ⟨rfl, by simp; omega, by simp; omega⟩
              clear hb hs0 hsl hab hlab HA HC
              go_wp2_with (fail)
              refine (K1.out _ HB.out).mono ?_
              rintro e w6 ⟨rfl, hb6⟩
              obtain ⟨⟨b0, b1⟩, hb6'⟩ := HBX.out _ hb6
              clear K1
              go_wp2_with (fail)
              refine (K2.out _ hb6').mono ?_
              rintro e w7 ⟨rfl, hb7'⟩
              have HB7 := Lib.hid (hb6.trans (hb7'.mono hb6.size))
              clear hb7' hb6 hb6' K2 b0 b1 HB
              have HA16 := Lib.hid ha16
              rcases hcase with ⟨rfl, rfl⟩ | ⟨rfl, g1, g2⟩
              all_goals
                go_wp2
                go_loopw [98] (fun j wr3 => ∃ m : Nat, m ≤ i ∧ j = .int .i64 m ∧ Below (wr.alloc (.cells #[.int .i64 s.id, .int .i64 s.off] 29)).heap.size (wr.alloc (.cells #[.int .i64 s.id, .int .i64 s.off] 29)) wr3) (fun j _ => i - (intOf j).toNat)
                case atStart => exact ⟨0, by omega, rfl, HB7.out⟩
                case round =>
                  obtain ⟨m, hm, rfl, hbm⟩ := hrel
                  by_cases hltm : m < i
                  · obtain ⟨ad2, x, hadd, hx0, _, d0, d1⟩ := (HRL.out.below (HBX.out _ hbm).2).at_ hltm
                    cases hadd
                    have hbo := below_alloc hbm (.cells #[.int .i64 x.id, .int .i64 x.off] 29)
                    obtain ⟨b0, b1⟩ := (HBX.out _ hbo).1
                    have HBO := Lib.hid hbo
                    have hz : (a = 0 ∧ decide (s.off < x.off) = false) ∨ (((a : Int) == 0) = false) := by
                      by_cases h0 : a = 0
                      · have := HZ.out h0 x (List.mem_of_getElem? hx0)
                        exact .inl ⟨h0, by simp; omega⟩
                      · exact .inr (by simp; omega)
                    clear hbo hbm hx0
                    rcases hz with ⟨h0, g5⟩ | g5
                    · subst h0
                      go_wp2
                      go_roundw
                      case rel => exact ⟨m + 1, by omega, by go_num, HBO.out⟩
                      case measure => simp [intOf]; omega
                    · go_wp2
                      go_roundw
                      case rel => exact ⟨m + 1, by omega, by go_num, HBO.out⟩
                      case measure => simp [intOf]; omega
                  · obtain rfl : m = i := by omega
                    have HBL := Lib.hid (HBX.out _ hbm).2
                    clear hbm
                    go_wp2
                    go_roundw
                    case rel => exact ⟨q + 1, by omega, by go_num, HBL.out⟩
                    case measure => simp [intOf]; omega
            · obtain rfl : q = i := by omega
              have HBF := Lib.hid (HBW.out.trans (hb.mono HBW.out.size))
              obtain ⟨b0, b1⟩ := HMO.out.below hb
              have K3 : Hid (Calls Try.prog 14 #[.slice A5 (q + 1) c5, .int .i64 mo.id] wr fun e w' => e = .returned (.tuple #[.int .i64 ke, .int .i64 0]) ∧ Below wr.heap.size wr w') := rank_of A5 (q + 1) c5 (l ++ [mo]) mo ke wr hc5 (HRA.out.below hb) HX (by show _ ∈ _; simp) HK
              have hcase : (la = true ∧ ke = q) ∨ la = false := by
                cases la with
                | true => exact .inl ⟨rfl, HKE.out rfl⟩
                | false => exact .inr rfl
              clear hb
              go_wp2_with (fail)
              refine K3.out.mono ?_
              rintro e w6 ⟨rfl, hb6⟩
              clear K3 b0 b1
              have HBG := Lib.hid (HBF.out.trans (hb6.mono HBF.out.size))
              clear hb6
              rcases hcase with ⟨rfl, rfl⟩ | rfl
              all_goals (go_wp2; go_ret; exact ⟨rfl, HBG.out⟩)

set_option maxRecDepth 100000 in
set_option maxHeartbeats 2000000 in
theorem first_long (A : Option Addr) (n c : Nat) (mo : Rep) (W : World) (hn : 15 < n) :
    Calls Try.prog 7 #[.slice A n c, vRep mo] W (Says true W) := by
  have HB0 := Lib.hid (below_alloc (Below.refl W.heap.size W) (.cells #[.int .i64 mo.id, .int .i64 mo.off] 29))
  go_enter Try.func7, Try.ntmps7
  go_wp2_with (fail)
  refine (anchor_any _).mono ?_
  rintro e w1 ⟨rfl, hb1⟩
  go_wp2
  go_ret
  exact ⟨rfl, HB0.out.trans (hb1.mono HB0.out.size)⟩

set_option maxRecDepth 100000 in
set_option maxHeartbeats 2000000 in
theorem first_bad (A : Option Addr) (n c : Nat) (l : List Rep) (mo : Rep) (W : World) (hnc : n ≤ c) (hr : RepsAt W A n l) (hn : n ≤ 15) (h : Hid (rightB l = false)) :
    Calls Try.prog 7 #[.slice A n c, vRep mo] W (Says true W) := by
  have hb0 := below_alloc (Below.refl W.heap.size W) (.cells #[.int .i64 mo.id, .int .i64 mo.off] 29)
  have HR := Lib.hid (hr.below hb0)
  have HB0 := Lib.hid hb0
  have hn' : decide (15 < (n : Int)) = false := by simp; omega
  clear hr hb0
  go_enter Try.func7, Try.ntmps7
  go_wp2_with (fail)
  refine (anchor_any _).mono ?_
  rintro e w1 ⟨rfl, hb1⟩
  go_wp2_with (fail)
  refine (right_any A n c l _ hnc (HR.out.below hb1)).mono ?_
  rintro e w2 ⟨rfl, hb2'⟩
  rw [h.out]
  have HB2 := Lib.hid (HB0.out.trans ((hb1.trans (hb2'.mono hb1.size)).mono HB0.out.size))
  clear hb1 hb2'
  go_wp2
  go_ret
  exact ⟨rfl, HB2.out⟩

theorem first_any (A : Option Addr) (n c : Nat) (l : List Rep) (mo : Rep) (W : World) (hnc : n ≤ c) (hr : RepsAt W A n l) :
    Calls Try.prog 7 #[.slice A n c, vRep mo] W (Says true W) := by
  by_cases hn : n ≤ 15
  · cases h : rightB l with
    | false => exact first_bad A n c l mo W hnc hr hn h
    | true => exact first_main A n c l mo W hnc hr hn h
  · exact first_long A n c mo W (by omega)

theorem first_lifted (os : Os) (started : os.Started) (H : Type) (enc : TypeId × Value → H) :
    ReturnsInHanded {} Try.checked os 7 .any (Rows.rankFirstSpec.pre6 enc Try.prog Try.f7 Rows.rankFirstRow.domain false) (Rows.rankFirstSpec.post enc Try.prog Try.f7 false true false false) := by
  refine returnsInHanded_of_change (C := Try.checked) own started (by kernel_rfl) Try.func7
    (ChangeSpec.witness6 (enc := enc) (C := Try.checked) false ⟨#[], #[.slice none 0 0, .agg #[.int .i64 0, .int .i64 0]], []⟩ 8 (by kernel_rfl) (by kernel_rfl) (by kernel_rfl) (by kernel_rfl)) ?_
  intro W base args ds gs before hval0 hW _ _
  have hval : ∀ (j : Nat) t v, Try.f7.params[j]? = some t → args[j]? = some v → Value.okWide Try.prog W .any base t v := hval0
  have hW' := hW
  obtain ⟨p, q, hA0, hV, rfl, _, _⟩ := hW
  have hA : DataW.TrodAll enc Try.prog W 0 (fun _ => true) true Try.f7.params.toList args.toList ds p := hA0
  rw [Try.params7] at hA hval
  obtain ⟨v0, vs0, d0, ds0, p0, q0, hargs, rfl, rfl, h0, r0⟩ := trodAll_cons hA
  obtain ⟨v1, vs1, d1, ds1, p1, q1, rfl, rfl, rfl, h1, r1⟩ := trodAll_cons r0
  obtain ⟨rfl, rfl, rfl⟩ := trodAll_nil r1
  obtain rfl : args = #[v0, v1] := by cases args; simp_all
  obtain ⟨rfl, rfl⟩ := trodVars_none hV
  obtain ⟨A0, n0, c0, l0, rfl, hl0, hc0, hm0, hr0, hz0⟩ := open_reps (hval 0 22 v0 rfl rfl) h0
  obtain ⟨s1, rfl, hs1⟩ := open_rep (hval 1 29 v1 rfl rfl) h1
  clear hA0
  have hk := first_any A0 n0 c0 l0 s1 W hc0 hr0
  exact hk.mono fun e W' ⟨he, hb⟩ => ⟨_, he, law_post laid_ok (by kernel_rfl) rfl Try.underlying4 rfl hW' rfl hb⟩

theorem first_holds : Rows.RankFirstSaid :=
  OpenClaim.holds_of_wide 7 Try.f7 rfl rfl rfl rfl rfl rfl rfl ⟨rfl, rfl, rfl, rfl, rfl⟩ rfl rfl rfl rfl rfl (by kernel_rfl) Try.func7 (by kernel_rfl)
    (of_decide_eq_true (by kernel_rfl)) (by unfold Func.isWrapper; first | (rw [if_pos (by decide +kernel)]; kernel_rfl) | (rw [if_neg (by decide +kernel)]; exact ⟨rfl, rfl⟩))
    (fun os started H enc _ => first_lifted os started H enc)

end Go.Proofs.Ytdeppjoehnlbnaa
