/-
  WHAT IS PROVED: the contract of the document's reader of a set's text. Condition: the text has at most 100000 bytes.
-/
import Derived.Test.YtogaaomedfpdnaaDoorSRefPlain
import Derived.Test.YtogaaomedfpdnaaDoorSFlags
namespace Go.Proofs.YtogaaomedfpdnaaDoor.S
open Go.RowKit

theorem results_cell_tmp_row {P : Program} {fn : Func} {p u : Tmp} {ty : TypeId} (h : fn.results = #[.cell p ty, .tmp u]) (tmps : Array Value) (w : World) (g : Nat) (t : TypeId) (cs : Array Value) (fr : Nat × Nat) (d : TypeDesc)
    (hp : tmps.getD p undef = .pointer (some ⟨g, 0, none⟩)) (hg : w.heap[g]? = some (.cells cs t fr))
    (hu : P.underlying ty = some d) (hd : (match d with | .struct _ | .array _ _ => true | _ => false) = true) (hi : (P.info? ty).map (·.size) = some cs.size) :
    (results fn tmps).run P w = .ok (.tuple #[.agg cs, tmps.getD u undef]) w := by
  rw [results_cell_tmp h, hp]
  simp [asAddr, run_loadVar_row w g t ty cs fr d hg hu hd hi, Result.andThen]
theorem fl_info2 (s : Nat) : (Tryd.prog.info? 57).map (·.size) = some (fl s).size := by rw [fl_size]; exact arr_size

theorem num_at (t : List UInt8) (x : Nat) (ht : t.length ≤ 100000) (hx : x ≤ t.length) (z : Int) (hz : z = x) (w : World) : Calls Tryd.prog 29 #[.string (str t), .int .i64 z] w fun e w' =>
    e = .returned (.tuple #[.int .i64 (numV t x).1, .int .i64 ((numV t x).2 : Nat)]) ∧ w = w' := by subst hz; exact refnum_any t x ht hx w

/-- what the reader answers -/
def RefPost (t : List UInt8) (w : World) (e : Ending) (w' : World) : Prop := e = .returned (.tuple #[.agg (fl (refSet t)), .bool (refParse t).isSome]) ∧ Below w.heap.size w w'

set_option maxRecDepth 100000 in
set_option maxHeartbeats 8000000 in
theorem refparse_any (t : List UInt8) (ht : t.length ≤ 100000) (w : World) : Calls Tryd.prog 19 #[.string (str t)] w (RefPost t w) := by
  have hz : (str t).size ≤ 100000 := ht
  go_enter Tryd.func19, Tryd.ntmps19
  go_wp2
  go_loopw [5, 6] (fun at_ l wr => ∃ (a least : Nat) (L : List (Nat × Nat)), a ≤ t.length ∧ at_ = .int .i64 a ∧ l = .int .i64 least ∧ least ≤ 65 ∧ Far t a least L ∧ Below w.heap.size w wr ∧ Blk wr w.heap.size 57 (fl 0) ∧ Blk wr (w.heap.size + 1) 57 (fl (setOf L))) (fun at_ _ _ => t.length - (intOf at_).toNat)
  case atStart =>
    exact ⟨0, 0, [], by omega, rfl, rfl, by omega, far_start t, ((Below.refl _ _).alloc (Nat.le_refl _) _).alloc (by simp) _, (blk_new rfl (by kernel_rfl)).alloc _, blk_new (by simp) (by kernel_rfl)⟩
  case round =>
    obtain ⟨a, least, L, ha, rfl, rfl, hle, hfar, hb, hB2, hB4⟩ := hrel
    have hH2 : wr.heap[w.heap.size]? = some (.cells (fl 0) 57 (0, 0)) := hB2
    by_cases hend : t.length ≤ a
    · have hR := far_end hfar hend
      have HP : Hid (RefPost t w (.returned (.tuple #[.agg (fl (setOf L)), .bool true])) (wr.setRow w.heap.size (fl (setOf L)))) := by
        show RefPost _ _ _ _
        exact ⟨by rw [hR, refSet_some hR]; rfl, below_setRow hb (Nat.le_refl _) _⟩
      have hH4 : wr.heap[w.heap.size + 1]? = some (.cells (fl (setOf L)) 57 (0, 0)) := hB4
      have HS := Lib.hid (fl_info2 (setOf L))
      have HO : Hid ((fl 0).size = (fl (setOf L)).size) := by show _ = _; rw [fl_size, fl_size]
      have HC := Lib.hid (fl_cells (setOf L))
      have d1 : decide (a < (str t).size) = false := by rw [decide_eq_false_iff_not, str_size]; omega
      clear hB2 hB4 hfar hR hend
      generalize fl (setOf L) = C at *
      go_wp2_with (first | (refine wpList_load_row rfl 57 (.tmp 4) rfl (w.heap.size + 1) rfl 57 C (0, 0) _ hH4 Tryd.underlying57 rfl HS.out ?_) | (refine wpList_store_row rfl 57 (.tmp 2) (.tmp 71) rfl w.heap.size C rfl rfl 57 (fl 0) hH2 HS.out HO.out HC.out ?_))
      exact bodyPost_ret (results_cell_tmp_row (p := 2) (u := 3) rfl _ _ w.heap.size 57 C (0, 0) _ rfl (setRow_heap wr w.heap.size _ C _ _ hH2) Tryd.underlying57 rfl HS.out) rfl HP.out
    · have hlt : a < t.length := by omega
      have d1 : decide (a < (str t).size) = true := by rw [decide_eq_true_eq]; exact hlt
      have HN : Hid (stepR (decide (a = 0)) (t.drop a) least = none → ∀ C : Array Value, C = fl 0 → ∀ W : World, Below w.heap.size w W → RefPost t w (.returned (.tuple #[.agg C, .bool false])) (W.setRow w.heap.size C)) := by
        show _ → _
        rintro hs C rfl W hW
        have hR := far_no hfar hlt hs
        exact ⟨by rw [hR, refSet_none hR]; rfl, below_setRow hW (Nat.le_refl _) _⟩
      have HG : Hid (∀ p b n, stepR (decide (a = 0)) (t.drop a) least = some (p, b, n) → Far t (a + n) (b + 2) (L ++ [(p, b)]) ∧ 1 ≤ n ∧ a + n ≤ t.length ∧ p ≤ b ∧ b < 64) := fun p b n => far_go hfar hlt
      have HE := Lib.hid (stepR_eq t a least)
      have hsa := str_at (t := t) (i := a) hlt
      have hcase : (a ≠ 0 ∧ t[a]? ≠ some 32) ∨ (a = 0) ∨ (a ≠ 0 ∧ t[a]? = some 32) := by
        by_cases h0 : a = 0
        · exact .inr (.inl h0)
        · by_cases h1 : t[a]? = some 32
          · exact .inr (.inr ⟨h0, h1⟩)
          · exact .inl ⟨h0, h1⟩
      clear hend hfar
      have hrest : (a ≠ 0 ∧ t[a]? ≠ some 32) ∨ (a = 0 ∨ (a ≠ 0 ∧ t[a]? = some 32)) := by
        rcases hcase with h | h | h
        · exact .inl h
        · exact .inr (.inl h)
        · exact .inr (.inr h)
      clear hcase
      rcases hrest with ⟨h0, h1⟩ | hrest
      · have HF := Lib.hid (HN.out (by rw [HE.out, if_pos ⟨h0, h1⟩]))
        have hpos : (0 : Int) < a := by omega
        have hcb : (((str t)[a].toNat : Int) != 32) = true := by
          rw [hsa] at h1
          have := byte_ne (c := (str t)[a]) (k := 32) (fun e => h1 (by rw [e]; rfl))
          rw [bne_iff_ne]; exact this
        clear h0 h1 hsa HN HG HE hB4
        go_wp2_with (refine wpList_store_row rfl 57 (.tmp 2) (.tmp 23) rfl w.heap.size _ rfl rfl 57 (fl 0) hH2 (by kernel_rfl) (by kernel_rfl) (by kernel_rfl) ?_)
        exact bodyPost_ret (results_cell_tmp_row (p := 2) (u := 3) rfl _ _ w.heap.size 57 _ (0, 0) _ rfl (setRow_heap wr w.heap.size _ _ _ _ hH2) Tryd.underlying57 rfl (by kernel_rfl)) rfl (HF.out _ (by kernel_rfl) _ hb)
      · obtain ⟨x, hx⟩ : ∃ x : Nat, x = a + off a := ⟨_, rfl⟩
        have hxl : x ≤ t.length := by unfold off at hx; split at hx <;> omega
        have hyx : ((x : Int) = a ∧ (a : Int) ≤ 0) ∨ ((x : Int) = (a : Int) + 1 ∧ (0 : Int) < a ∧ (((str t)[a].toNat : Int) != 32) = false) := by
          unfold off at hx
          rcases hrest with h0 | ⟨h0, h1⟩
          · rw [if_pos h0] at hx
            exact .inl (by omega)
          · rw [if_neg h0] at hx
            refine .inr ⟨by omega, by omega, ?_⟩
            rw [hsa] at h1
            injection h1 with h1
            rw [h1]; rfl
        have HE2 : Hid (stepR (decide (a = 0)) (t.drop a) least = match numAt (t.drop x) with
            | none => none
            | some (p, n) => if p < least then none else
              if t[x + n]? = some 45 then
                (match numAt (t.drop (x + n + 1)) with
                | none => none
                | some (c, m) => if c ≤ p then none else some (p, c, off a + n + 1 + m))
              else some (p, p, off a + n)) := by
          show _ = _
          rw [HE.out, hx, if_neg (by
            rintro ⟨g1, g2⟩
            rcases hrest with h0 | ⟨_, h1⟩
            · exact g1 h0
            · exact g2 h1)]
          rfl
        clear HE hrest hsa
        cases hA : numAt (t.drop x) with
        | none =>
          have HF := Lib.hid (HN.out (by rw [HE2.out, hA]))
          have HV := Lib.hid (numV_none hA)
          have hneg : (-1 : Int) < least := by omega
          clear hA HE2 HN HG hB4
          rcases hyx with ⟨y1, y2⟩ | ⟨y1, y2, y3⟩
          all_goals
            go_wp2_with (fail)
            refine (num_at t x ht hxl _ (by omega) _).mono ?_
            rintro e1 w1 ⟨rfl, rfl⟩
            rw [HV.out]
            go_wp2_with (refine wpList_store_row rfl 57 (.tmp 2) (.tmp 35) rfl w.heap.size _ rfl rfl 57 (fl 0) hH2 (by kernel_rfl) (by kernel_rfl) (by kernel_rfl) ?_)
            exact bodyPost_ret (results_cell_tmp_row (p := 2) (u := 3) rfl _ _ w.heap.size 57 _ (0, 0) _ rfl (setRow_heap wr w.heap.size _ _ _ _ hH2) Tryd.underlying57 rfl (by kernel_rfl)) rfl (HF.out _ (by kernel_rfl) _ hb)
        | some pn =>
          obtain ⟨p, n⟩ := pn
          obtain ⟨hp64, hn1, hxn⟩ := num_len hA
          have HV := Lib.hid (numV_some hA)
          have HE3 : Hid (stepR (decide (a = 0)) (t.drop a) least = if p < least then none else
              if t[x + n]? = some 45 then
                (match numAt (t.drop (x + n + 1)) with
                | none => none
                | some (c, m) => if c ≤ p then none else some (p, c, off a + n + 1 + m))
              else some (p, p, off a + n)) := by
            show _ = _
            rw [HE2.out, hA]
          clear HE2 hA
          by_cases hpl : p < least
          · have HF := Lib.hid (HN.out (by rw [HE3.out, if_pos hpl]))
            have hd : decide (p < least) = true := decide_eq_true hpl
            clear hpl HE3 HN HG hB4
            rcases hyx with ⟨y1, y2⟩ | ⟨y1, y2, y3⟩
            all_goals
              go_wp2_with (fail)
              refine (num_at t x ht hxl _ (by omega) _).mono ?_
              rintro e1 w1 ⟨rfl, rfl⟩
              rw [HV.out]
              go_wp2_with (refine wpList_store_row rfl 57 (.tmp 2) (.tmp 35) rfl w.heap.size _ rfl rfl 57 (fl 0) hH2 (by kernel_rfl) (by kernel_rfl) (by kernel_rfl) ?_)
              exact bodyPost_ret (results_cell_tmp_row (p := 2) (u := 3) rfl _ _ w.heap.size 57 _ (0, 0) _ rfl (setRow_heap wr w.heap.size _ _ _ _ hH2) Tryd.underlying57 rfl (by kernel_rfl)) rfl (HF.out _ (by kernel_rfl) _ hb)
          · have hd : decide (p < least) = false := decide_eq_false hpl
            obtain ⟨e, he⟩ : ∃ e, e = x + n := ⟨_, rfl⟩
            rw [← he] at HV HE3
            have hel : e ≤ t.length := by omega
            by_cases h45 : t[e]? = some 45
            · have hes : e < (str t).size := by
                rcases Nat.lt_or_ge e t.length with h' | h'
                · exact h'
                · rw [List.getElem?_eq_none h'] at h45; cases h45
              have hbyte : (((str t)[e].toNat : Int) == 45) = true := by
                have := str_at hes
                rw [h45] at this
                injection this with this
                rw [← this]; rfl
              have hed : decide (e < (str t).size) = true := decide_eq_true hes
              have he1 : e + 1 ≤ t.length := hes
              have HE4 : Hid (stepR (decide (a = 0)) (t.drop a) least = match numAt (t.drop (e + 1)) with
                  | none => none
                  | some (c, m) => if c ≤ p then none else some (p, c, off a + n + 1 + m)) := by
                show _ = _
                rw [HE3.out, if_neg hpl, if_pos h45]
              clear HE3 hpl h45
              cases hA2 : numAt (t.drop (e + 1)) with
              | none =>
                have HF := Lib.hid (HN.out (by rw [HE4.out, hA2]))
                have HV2 := Lib.hid (numV_none hA2)
                have hneg : (-1 : Int) ≤ p := by omega
                clear hA2 HE4 HN HG hB4 hxn he hx
                rcases hyx with ⟨y1, y2⟩ | ⟨y1, y2, y3⟩
                all_goals
                  go_wp2_with (fail)
                  refine (num_at t x ht hxl _ (by omega) _).mono ?_
                  rintro e1 w1 ⟨rfl, rfl⟩
                  rw [HV.out]
                  go_wp2_with (fail)
                  refine (num_at t (e + 1) ht he1 _ (by omega) _).mono ?_
                  rintro e2 w2 ⟨rfl, rfl⟩
                  rw [HV2.out]
                  go_wp2_with (refine wpList_store_row rfl 57 (.tmp 2) (.tmp 57) rfl w.heap.size _ rfl rfl 57 (fl 0) hH2 (by kernel_rfl) (by kernel_rfl) (by kernel_rfl) ?_)
                  exact bodyPost_ret (results_cell_tmp_row (p := 2) (u := 3) rfl _ _ w.heap.size 57 _ (0, 0) _ rfl (setRow_heap wr w.heap.size _ _ _ _ hH2) Tryd.underlying57 rfl (by kernel_rfl)) rfl (HF.out _ (by kernel_rfl) _ hb)
              | some cm =>
                obtain ⟨c, m⟩ := cm
                obtain ⟨hc64, hm1, hem⟩ := num_len hA2
                have HV2 := Lib.hid (numV_some hA2)
                by_cases hcp : c ≤ p
                · have HF := Lib.hid (HN.out (by rw [HE4.out, hA2]; simp only; rw [if_pos hcp]))
                  have hdc : decide (c ≤ p) = true := decide_eq_true hcp
                  clear hA2 HE4 HN HG hB4 hxn he hx hcp
                  rcases hyx with ⟨y1, y2⟩ | ⟨y1, y2, y3⟩
                  all_goals
                    go_wp2_with (fail)
                    refine (num_at t x ht hxl _ (by omega) _).mono ?_
                    rintro e1 w1 ⟨rfl, rfl⟩
                    rw [HV.out]
                    go_wp2_with (fail)
                    refine (num_at t (e + 1) ht he1 _ (by omega) _).mono ?_
                    rintro e2 w2 ⟨rfl, rfl⟩
                    rw [HV2.out]
                    go_wp2_with (refine wpList_store_row rfl 57 (.tmp 2) (.tmp 57) rfl w.heap.size _ rfl rfl 57 (fl 0) hH2 (by kernel_rfl) (by kernel_rfl) (by kernel_rfl) ?_)
                    exact bodyPost_ret (results_cell_tmp_row (p := 2) (u := 3) rfl _ _ w.heap.size 57 _ (0, 0) _ rfl (setRow_heap wr w.heap.size _ _ _ _ hH2) Tryd.underlying57 rfl (by kernel_rfl)) rfl (HF.out _ (by kernel_rfl) _ hb)
                · have hdc : decide (c ≤ p) = false := decide_eq_false hcp
                  obtain ⟨hfar2, hs1, hs2, hpb, hb64⟩ := HG.out p c (off a + n + 1 + m) (by rw [HE4.out, hA2]; simp only; rw [if_neg hcp])
                  obtain ⟨f, hf⟩ : ∃ f, f = e + 1 + m := ⟨_, rfl⟩
                  have hfe : a + (off a + n + 1 + m) = f := by omega
                  rw [hfe] at hfar2 hs2
                  rw [← hf] at HV2
                  have HFar := Lib.hid hfar2
                  have HSet := Lib.hid (accR_set L hpb hb64)
                  have hfl : f ≤ t.length := hs2
                  have haf : a < f := by omega
                  clear hA2 HE4 HN HG hcp hfar2 hxn he hx hf hfe hem
                  rcases hyx with ⟨y1, y2⟩ | ⟨y1, y2, y3⟩
                  all_goals
                    go_wp2_with (fail)
                    refine (num_at t x ht hxl _ (by omega) _).mono ?_
                    rintro e1 w1 ⟨rfl, rfl⟩
                    rw [HV.out]
                    go_wp2_with (fail)
                    refine (num_at t (e + 1) ht he1 _ (by omega) _).mono ?_
                    rintro e2 w2 ⟨rfl, rfl⟩
                    rw [HV2.out]
                    go_wp2_with (fail)
                    obtain ⟨wo, rfl⟩ : ∃ wo : World, wo = wr := ⟨_, rfl⟩
                    go_loopw [12] (fun i wq => ∃ j : Nat, p + j ≤ c + 1 ∧ i = .int .i64 ((p + j : Nat) : Int) ∧ Below w.heap.size w wq ∧ Blk wq w.heap.size 57 (fl 0) ∧ Blk wq (w.heap.size + 1) 57 (fl (setOf L ||| accR p j))) (fun i _ => 100 - (intOf i).toNat)
                    case atStart => exact ⟨0, by omega, rfl, hb, hB2, by simpa [accR] using hB4⟩
                    case round =>
                      obtain ⟨j, hj, rfl, hbq, hq2, hq4⟩ := hrel
                      by_cases hjb : p + j ≤ c
                      · have hcc := (hq4.cell (p + j)).trans (fl_at _ (show p + j < 64 by omega))
                        have hcf := hq4.frozen (p + j)
                        have HB : Hid (Blk (wr.setCell ⟨w.heap.size + 1, p + j, none⟩ (.bool true)) (w.heap.size + 1) 57 (fl (setOf L ||| accR p (j + 1)))) := by
                          show Blk _ _ _ _
                          rw [← fl_set (show p + j < 64 by omega) (acc_or_at (setOf L) p j) (fun i hi => acc_or_bit (setOf L) p j i hi)]
                          exact hq4.set_ (p + j) _
                        have HQ2 := Lib.hid (hq2.far (p := ⟨w.heap.size + 1, p + j, none⟩) (by show w.heap.size ≠ w.heap.size + 1; omega) (.bool true))
                        have HBQ := Lib.hid (hbq.setCell (p := ⟨w.heap.size + 1, p + j, none⟩) (Nat.le_succ _) (.bool true))
                        have HJ : Hid (p + (j + 1) = p + j + 1) := rfl
                        have hj64 : p + j < 64 := by omega
                        have hj2 : p + j + 1 ≤ c + 1 := by omega
                        clear hq4 hq2 hbq hj
                        generalize hpj : p + j = q at *
                        have hq0 : (0 : Int) ≤ q := by omega
                        have hq1 : (q : Int) < 64 := by omega
                        have hq3 : decide (q ≤ c) = true := by rw [decide_eq_true_eq]; omega
                        have HPJ := Lib.hid hpj
                        clear hpj
                        go_wp2
                        go_roundw
                        case rel => exact ⟨j + 1, by rw [HJ.out]; exact hj2, by rw [HJ.out]; go_num, HBQ.out, HQ2.out, HB.out⟩
                        case measure => simp [intOf]; omega
                      · obtain rfl : j = c + 1 - p := by omega
                        rw [HSet.out] at hq4
                        have hq3 : decide (p + (c + 1 - p) ≤ c) = false := by rw [decide_eq_false_iff_not]; omega
                        clear hjb hj
                        generalize p + (c + 1 - p) = q at *
                        go_wp2
                        go_roundw
                        case rel => exact ⟨f, c + 2, L ++ [(p, c)], hfl, by rfl, by go_num, by omega, HFar.out, hbq, hq2, hq4⟩
                        case measure => simp [intOf]; omega
            · obtain ⟨hfar2, hs1, hs2, hpb, hb64⟩ := HG.out p p (off a + n) (by rw [HE3.out, if_neg hpl, if_neg h45])
              have hfe : a + (off a + n) = e := by omega
              rw [hfe] at hfar2 hs2
              have HFar := Lib.hid hfar2
              have HSet := Lib.hid (accR_set L hpb hb64)
              have hfl : e ≤ t.length := hs2
              have haf : a < e := by omega
              have hbyte : decide (e < (str t).size) = false ∨ ∃ h : e < (str t).size, decide (e < (str t).size) = true ∧ (((str t)[e].toNat : Int) == 45) = false := by
                by_cases hes : e < (str t).size
                · refine .inr ⟨hes, decide_eq_true hes, ?_⟩
                  have := byte_ne (c := (str t)[e]) (k := 45) (fun ee => h45 (by rw [str_at hes, ee]; rfl))
                  rw [beq_eq_false_iff_ne]; exact this
                · exact .inl (decide_eq_false hes)
              clear HE3 HN HG hfar2 hxn he hx hfe h45 hpl
              rcases hyx with ⟨y1, y2⟩ | ⟨y1, y2, y3⟩ <;> rcases hbyte with hbyte | ⟨hes, hed, hbyte⟩
              all_goals
                go_wp2_with (fail)
                refine (num_at t x ht hxl _ (by omega) _).mono ?_
                rintro e1 w1 ⟨rfl, rfl⟩
                rw [HV.out]
                go_wp2_with (fail)
                obtain ⟨wo, rfl⟩ : ∃ wo : World, wo = wr := ⟨_, rfl⟩
                go_loopw [12] (fun i wq => ∃ j : Nat, p + j ≤ p + 1 ∧ i = .int .i64 ((p + j : Nat) : Int) ∧ Below w.heap.size w wq ∧ Blk wq w.heap.size 57 (fl 0) ∧ Blk wq (w.heap.size + 1) 57 (fl (setOf L ||| accR p j))) (fun i _ => 100 - (intOf i).toNat)
                case atStart => exact ⟨0, by omega, rfl, hb, hB2, by simpa [accR] using hB4⟩
                case round =>
                  obtain ⟨j, hj, rfl, hbq, hq2, hq4⟩ := hrel
                  by_cases hjb : p + j ≤ p
                  · have hcc := (hq4.cell (p + j)).trans (fl_at _ (show p + j < 64 by omega))
                    have hcf := hq4.frozen (p + j)
                    have HB : Hid (Blk (wr.setCell ⟨w.heap.size + 1, p + j, none⟩ (.bool true)) (w.heap.size + 1) 57 (fl (setOf L ||| accR p (j + 1)))) := by
                      show Blk _ _ _ _
                      rw [← fl_set (show p + j < 64 by omega) (acc_or_at (setOf L) p j) (fun i hi => acc_or_bit (setOf L) p j i hi)]
                      exact hq4.set_ (p + j) _
                    have HQ2 := Lib.hid (hq2.far (p := ⟨w.heap.size + 1, p + j, none⟩) (by show w.heap.size ≠ w.heap.size + 1; omega) (.bool true))
                    have HBQ := Lib.hid (hbq.setCell (p := ⟨w.heap.size + 1, p + j, none⟩) (Nat.le_succ _) (.bool true))
                    have HJ : Hid (p + (j + 1) = p + j + 1) := rfl
                    have hj64 : p + j < 64 := by omega
                    have hj2 : p + j + 1 ≤ p + 1 := by omega
                    clear hq4 hq2 hbq hj
                    generalize hpj : p + j = q at *
                    have hq0 : (0 : Int) ≤ q := by omega
                    have hq1 : (q : Int) < 64 := by omega
                    have hq3 : decide (q ≤ p) = true := by rw [decide_eq_true_eq]; omega
                    have HPJ := Lib.hid hpj
                    clear hpj
                    go_wp2
                    go_roundw
                    case rel => exact ⟨j + 1, by rw [HJ.out]; exact hj2, by rw [HJ.out]; go_num, HBQ.out, HQ2.out, HB.out⟩
                    case measure => simp [intOf]; omega
                  · obtain rfl : j = p + 1 - p := by omega
                    rw [HSet.out] at hq4
                    have hq3 : decide (p + (p + 1 - p) ≤ p) = false := by rw [decide_eq_false_iff_not]; omega
                    clear hjb hj
                    generalize p + (p + 1 - p) = q at *
                    go_wp2
                    go_roundw
                    case rel => exact ⟨e, p + 2, L ++ [(p, p)], hfl, by rfl, by go_num, by omega, HFar.out, hbq, hq2, hq4⟩
                    case measure => simp [intOf]; omega
end Go.Proofs.YtogaaomedfpdnaaDoor.S
