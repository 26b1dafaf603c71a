/-
  WHAT IS PROVED: contracts of the document's text of a line and of a law's line. Condition: the key has less than 2^61 bytes.
-/
import Derived.Test.YtogaaomedfpdnaaDoorTx
import Derived.Test.YtogaaomedfpdnaaDoorDg
namespace Go.Proofs.YtogaaomedfpdnaaDoor
set_option maxRecDepth 100000
open Go.RowKit Go.Lib

section
variable {ops : Array Oper} {rest : List Oper} {Q : Act → Prop} {a : Act} {w : World} {dst : Option Tmp} {ty : TypeId} {pos : String} {after : Array Edge} {g : Option (Nat × Bool)} {x : Operand} {b : Nat} {s : Ln}
theorem quiet_ln1 (hx : a.eval x = .pointer (some ⟨b, 0, none⟩)) (hT : Blk w b 26 (lnA s)) (hw : Region.wanted ⟨dst, .load 26 x, ty, pos, after, g⟩ (yielded ops a.tmps) = true)
    (h : wpQuiet Tryd.prog ops (fun w' => ∃ p : Later w, w' = p.now) Q rest (a.put dst (.agg (lnA s)))) : wpQuiet Tryd.prog ops (fun w' => ∃ p : Later w, w' = p.now) Q (⟨dst, .load 26 x, ty, pos, after, g⟩ :: rest) a := by
  unfold wpQuiet
  rw [if_pos hw]
  refine ⟨.agg (lnA s), fun w' hw' => ?_, h⟩
  obtain ⟨p, rfl⟩ := hw'
  unfold Oper.quietAt execOp
  simp only [hx, Instr.loadAt, Instr.sureAddr, Sem.run_bind, Sem.run_pure, Result.andThen_ok, run_loadVar_row p.now b 26 26 (lnA s) (0, 0) _ (hT.below p.below hT.lt) Tryd.underlying26 rfl (ln_size1 s)]
  exact ⟨rfl, rfl⟩
theorem quiet_ln2 (hx : a.eval x = .pointer (some ⟨b, 0, none⟩)) (hT : Blk w b 31 (lnA s)) (hw : Region.wanted ⟨dst, .load 31 x, ty, pos, after, g⟩ (yielded ops a.tmps) = true)
    (h : wpQuiet Tryd.prog ops (fun w' => ∃ p : Later w, w' = p.now) Q rest (a.put dst (.agg (lnA s)))) : wpQuiet Tryd.prog ops (fun w' => ∃ p : Later w, w' = p.now) Q (⟨dst, .load 31 x, ty, pos, after, g⟩ :: rest) a := by
  unfold wpQuiet
  rw [if_pos hw]
  refine ⟨.agg (lnA s), fun w' hw' => ?_, h⟩
  obtain ⟨p, rfl⟩ := hw'
  unfold Oper.quietAt execOp
  simp only [hx, Instr.loadAt, Instr.sureAddr, Sem.run_bind, Sem.run_pure, Result.andThen_ok, run_loadVar_row p.now b 31 31 (lnA s) (0, 0) _ (hT.below p.below hT.lt) Tryd.underlying31 rfl (ln_size2 s)]
  exact ⟨rfl, rfl⟩
end
set_option maxHeartbeats 1000000 in
theorem lawline_any (l : Ln) (w : World) : Calls Tryd.prog 10 #[.agg (lnA l)] w fun e w' => e = .returned (.agg (lnA l)) ∧ Below w.heap.size w w' := by
  have hlv : lnA l = #[.int .i64 l.k, .int .i64 l.i, .int .u64 (l.s : Int), .string (str l.y)] := rfl
  have HB : Hid (∀ o o' : Obj, Below w.heap.size w ((w.alloc o).alloc o')) := Lib.hid fun o o' => ((Below.refl _ w).alloc (Nat.le_refl _) o).alloc (by simp) o'
  have HK : Hid (∀ o : Obj, Blk ((w.alloc o).alloc (.cells (lnA l) 31)) (w.heap.size + 1) 31 (lnA l)) := Lib.hid fun o => by
    have h := Blk.new (w.alloc o) 31 (lnA l)
    have e : (w.alloc o).heap.size = w.heap.size + 1 := by simp
    rw [e] at h
    exact h
  go_enter Tryd.func10, Tryd.ntmps10
  go_wp2
  exact bodyPost_ret (results_cell_row rfl _ _ (w.heap.size + 1) _ (lnA l) (0, 0) _ rfl (HK.out _) Tryd.underlying31 rfl (ln_size2 l)) rfl ⟨rfl, HB.out _ _⟩

def RTextPost (l : Ln) (w : World) (e : Ending) (w' : World) : Prop := Below w.heap.size w w' ∧ ∃ s, e = .returned (.tuple #[.string s, .bool (decide (parseC (writC l) = (l, 0)))]) ∧ (parseC (writC l) = (l, 0) → s = str (writC l))
theorem join3r (a b : List UInt8) : str a ++ (⟨#[32]⟩ ++ str b) = str (a ++ 32 :: b) := by
  have : (⟨#[32]⟩ : ByteArray) = str [32] := rfl
  rw [this, S.str_app, S.str_app]; rfl
theorem digL_len20 {n : Nat} (h : n < 9223372036854775808) : (digL n).length ≤ 20 := by
  refine digL_len 19 n ?_
  have e : (10 : Nat) ^ (19 + 1) = 100000000000000000000 := by decide
  omega
theorem parse_nil : parseC [] = (Ln.zero, 61) := by decide +kernel

set_option maxHeartbeats 2000000 in
theorem rtext_any (l : Ln) (hl : okL l) (w : World) : Calls Tryd.prog 12 #[.agg (lnA l)] w (RTextPost l w) := by
  obtain ⟨hi0, hi1, hs, hy⟩ := hl
  have hlv : lnA l = #[.int .i64 l.k, .int .i64 l.i, .int .u64 (l.s : Int), .string (str l.y)] := rfl
  have HK0 : Hid (Blk (w.alloc (.cells #[.int .i64 l.k, .int .i64 l.i, .int .u64 (l.s : Int), .string (str l.y)] 31)) w.heap.size 31 (lnA l)) := Lib.hid (Blk.new w _ _)
  have HB0 : Hid (Below w.heap.size w (w.alloc (.cells #[.int .i64 l.k, .int .i64 l.i, .int .u64 (l.s : Int), .string (str l.y)] 31))) := Lib.hid ((Below.refl _ w).alloc (Nat.le_refl _) _)
  have HF := Lib.hid (ofK_facts l.k)
  have HM := Lib.hid (ofK_mem l.k)
  have HPR := Lib.hid (parse_range (writC l))
  have hsz2 : (str (S.txt l.s)).size ≤ 192 := S.txt_len hs
  have hsz4 : (str l.y).size ≤ 1152921504606846976 := hy
  have hz4 : (str l.y).size = l.y.length := rfl
  unfold RTextPost
  obtain ⟨R, hR⟩ : ∃ R, writC l = R := ⟨_, rfl⟩
  rw [hR] at HPR
  rw [hR]
  unfold writC at hR
  obtain ⟨q, hq⟩ : ∃ q, decide (parseC R = (l, 0)) = q := ⟨_, rfl⟩
  rw [hq]
  have HQ := Lib.hid hq
  clear hq
  go_enter Tryd.func12, Tryd.ntmps12
  go_wp2_with (fail)
  refine (word_any l.k _).mono ?_
  rintro e1 w1 ⟨rfl, rfl⟩
  generalize ofK l.k = f at *
  rcases HM.out with ⟨hfm, _⟩ | hno
  rotate_left 1
  · subst hno
    have he1 : (str noF.w).toList.isEmpty = true := by rw [str_toList]; rfl
    have he2 : ((str noF.w).toList == []) = true := by rw [str_toList]; rfl
    have HX : Hid (parseC R ≠ (l, 0)) := Lib.hid (by
      rw [← hR]
      show parseC [] ≠ (l, 0)
      rw [parse_nil]
      intro e
      exact absurd (congrArg Prod.snd e) (by simp))
    have HQF : Hid (q = false) := Lib.hid (by rw [← HQ.out]; exact decide_eq_false HX.out)
    clear hR
    go_wp2
    go_ret2
    exact ⟨HB0.out, _, by rw [HQF.out]; rfl, fun h => absurd h HX.out⟩
  have hfn := (firsts_all f hfm).2.2.2.2.1
  obtain ⟨hfa, hfl⟩ := HF.out
  have he1 : (str f.w).toList.isEmpty = false := by rw [str_toList]; cases hw : f.w with
    | nil => exact absurd hw hfn
    | cons x r => rfl
  have he2 : ((str f.w).toList == []) = false := by rw [str_toList]; cases hw : f.w with
    | nil => exact absurd hw hfn
    | cons x r => rfl
  have hsz1 : (str f.w).size ≤ 9 := hfl
  clear hfn hfm HM HF
  have HSM := fun (m : Ln) (W : World) => same_ln2 m l W
  rcases hfa with hfa | hfa | hfa | hfa
  · have HX : Hid (f.w = R) := Lib.hid (by rw [← hR, hfa]; rfl)
    have hRl : R.length ≤ 9 := by rw [← HX.out]; exact hfl
    clear hR
    rw [HX.out] at he1 he2 hsz1 ⊢
    clear HX
    go_wp2_with (fail)
    refine (rparse_any R (by omega) _).mono ?_
    rintro e9 w9 ⟨rfl, hb9⟩
    have K9 := Lib.hid (HK0.out.below hb9 HK0.out.lt)
    have B9 := Lib.hid (HB0.out.trans (hb9.mono HB0.out.size))
    clear hb9
    have HP2 : Hid (parseC R = ((parseC R).1, (parseC R).2)) := Lib.hid rfl
    obtain ⟨m, hm⟩ : ∃ m, (parseC R).1 = m := ⟨_, rfl⟩
    obtain ⟨z, hz⟩ : ∃ z, (parseC R).2 = z := ⟨_, rfl⟩
    rw [hm, hz] at HP2
    rw [hm, hz]
    have hsm := HSM m
    clear hm hz HSM HPR
    have hmv : lnA m = #[.int .i64 m.k, .int .i64 m.i, .int .u64 (m.s : Int), .string (str m.y)] := rfl
    have KM : Hid (Blk (w9.alloc (.cells #[.int .i64 m.k, .int .i64 m.i, .int .u64 (m.s : Int), .string (str m.y)] 31)) w.heap.size 31 (lnA l)) := Lib.hid (K9.out.alloc _)
    have KN : Hid (Blk (w9.alloc (.cells #[.int .i64 m.k, .int .i64 m.i, .int .u64 (m.s : Int), .string (str m.y)] 31)) w9.heap.size 31 (lnA m)) := Lib.hid (Blk.new w9 _ _)
    have BM : Hid (Below w.heap.size w (w9.alloc (.cells #[.int .i64 m.k, .int .i64 m.i, .int .u64 (m.s : Int), .string (str m.y)] 31))) := Lib.hid (B9.out.alloc B9.out.size _)
    clear K9 B9
    have hcase : ((z == 0) = false ∧ q = false) ∨ ((z == 0) = true ∧ decide (m = l) = q) := by
      by_cases hz : z = 0
      · refine .inr ⟨by simpa using hz, ?_⟩
        rw [← HQ.out, HP2.out, hz, Bool.eq_iff_iff]
        simp
      · refine .inl ⟨by simpa using hz, ?_⟩
        rw [← HQ.out]
        refine decide_eq_false fun e => hz ?_
        rw [HP2.out] at e
        exact congrArg Prod.snd e
    clear HP2
    rcases hcase with ⟨q1, hqf⟩ | ⟨q1, hqf⟩
    all_goals
      have HQF := Lib.hid hqf
      clear hqf
      go_wp2_with (fail)
      obtain ⟨wa, hwa⟩ : ∃ wa, w9.alloc (.cells #[.int .i64 m.k, .int .i64 m.i, .int .u64 (m.s : Int), .string (str m.y)] 31) = wa := ⟨_, rfl⟩
      rw [hwa] at KM KN BM ⊢
      clear hwa hlv hmv
      refine wp_region_later (by kernel_rfl) (by kernel_rfl) ?_
      repeat (first | ((with_reducible refine quiet_ln2 (b := w9.heap.size) (s := m) ?_ ?_ ?_ ?_); (rfl); (with_reducible exact KN.out); (rfl); (simp only [Act.put, List.setIfInBounds_toArray, List.set_cons_zero, List.set_cons_succ])) | ((with_reducible refine quiet_ln2 (b := w.heap.size) (s := l) ?_ ?_ ?_ ?_); (rfl); (with_reducible exact KM.out); (rfl); (simp only [Act.put, List.setIfInBounds_toArray, List.set_cons_zero, List.set_cons_succ])) | go_big_quiet_step (fail))
      refine wpQuiet_nil ?_
      intro _ hw'
      obtain ⟨pq, hw''⟩ := hw'
      subst hw''
      have LB := Lib.hid (BM.out.trans (pq.below.mono BM.out.size))
      generalize pq.now = w5 at *
      go_wp2
      go_ret2
      exact ⟨LB.out, str R, by first | (rw [← HQF.out]; rfl) | (rw [HQF.out]; rfl), fun _ => rfl⟩
  · by_cases hneg : l.i < 0
    · have hd : decide (l.i < 0) = true := decide_eq_true hneg
      have HX : Hid (parseC R ≠ (l, 0)) := Lib.hid (fun e => by have := HPR.out.1; rw [e] at this; simp only at this; omega)
      have HQF : Hid (q = false) := Lib.hid (by rw [← HQ.out]; exact decide_eq_false HX.out)
      clear hR
      go_wp2
      go_ret2
      exact ⟨HB0.out, _, by rw [HQF.out]; rfl, fun h => absurd h HX.out⟩
    · have hd : decide (l.i < 0) = false := decide_eq_false hneg
      have HX : Hid (f.w ++ 32 :: digL l.i.toNat = R) := Lib.hid (by rw [← hR, hfa]; show _ = _ ++ 32 :: itL l.i; rw [itL_pos (by omega)]; rfl)
      have hnat : ((l.i.toNat : Nat) : Int) = l.i := Int.toNat_of_nonneg (by omega)
      have HDG := Lib.hid (fun W => rdig_any l.i.toNat (by omega) W)
      rw [hnat] at HDG
      have hdl : (digL l.i.toNat).length ≤ 20 := digL_len20 (by omega)
      have hsz3 : (str (digL l.i.toNat)).size ≤ 20 := hdl
      have hRl : R.length ≤ 30 := by rw [← HX.out]; simp; omega
      clear hR hnat hneg
      generalize digL l.i.toNat = dd at *
      go_wp2_with (fail)
      refine (HDG.out _).mono ?_
      rintro e2 w2 ⟨rfl, hb2⟩
      have K2 := Lib.hid (HK0.out.below hb2 (by simp))
      have B2 := Lib.hid (HB0.out.trans (hb2.mono HB0.out.size))
      have hj := join3r f.w dd
      rw [HX.out] at hj
      clear hb2 HK0 HB0 HDG
      go_wp2_with (fail)
      refine (rparse_any R (by omega) _).mono ?_
      rintro e9 w9 ⟨rfl, hb9⟩
      have K9 := Lib.hid (K2.out.below hb9 K2.out.lt)
      have B9 := Lib.hid (B2.out.trans (hb9.mono B2.out.size))
      clear hb9
      have HP2 : Hid (parseC R = ((parseC R).1, (parseC R).2)) := Lib.hid rfl
      obtain ⟨m, hm⟩ : ∃ m, (parseC R).1 = m := ⟨_, rfl⟩
      obtain ⟨z, hz⟩ : ∃ z, (parseC R).2 = z := ⟨_, rfl⟩
      rw [hm, hz] at HP2
      rw [hm, hz]
      have hsm := HSM m
      clear hm hz HSM HPR
      have hmv : lnA m = #[.int .i64 m.k, .int .i64 m.i, .int .u64 (m.s : Int), .string (str m.y)] := rfl
      have KM : Hid (Blk (w9.alloc (.cells #[.int .i64 m.k, .int .i64 m.i, .int .u64 (m.s : Int), .string (str m.y)] 31)) w.heap.size 31 (lnA l)) := Lib.hid (K9.out.alloc _)
      have KN : Hid (Blk (w9.alloc (.cells #[.int .i64 m.k, .int .i64 m.i, .int .u64 (m.s : Int), .string (str m.y)] 31)) w9.heap.size 31 (lnA m)) := Lib.hid (Blk.new w9 _ _)
      have BM : Hid (Below w.heap.size w (w9.alloc (.cells #[.int .i64 m.k, .int .i64 m.i, .int .u64 (m.s : Int), .string (str m.y)] 31))) := Lib.hid (B9.out.alloc B9.out.size _)
      clear K9 B9
      have hcase : ((z == 0) = false ∧ q = false) ∨ ((z == 0) = true ∧ decide (m = l) = q) := by
        by_cases hz : z = 0
        · refine .inr ⟨by simpa using hz, ?_⟩
          rw [← HQ.out, HP2.out, hz, Bool.eq_iff_iff]
          simp
        · refine .inl ⟨by simpa using hz, ?_⟩
          rw [← HQ.out]
          refine decide_eq_false fun e => hz ?_
          rw [HP2.out] at e
          exact congrArg Prod.snd e
      clear HP2
      rcases hcase with ⟨q1, hqf⟩ | ⟨q1, hqf⟩
      all_goals
        have HQF := Lib.hid hqf
        clear hqf
        go_wp2_with (fail)
        obtain ⟨wa, hwa⟩ : ∃ wa, w9.alloc (.cells #[.int .i64 m.k, .int .i64 m.i, .int .u64 (m.s : Int), .string (str m.y)] 31) = wa := ⟨_, rfl⟩
        rw [hwa] at KM KN BM ⊢
        clear hwa hlv hmv
        refine wp_region_later (by kernel_rfl) (by kernel_rfl) ?_
        repeat (first | ((with_reducible refine quiet_ln2 (b := w9.heap.size) (s := m) ?_ ?_ ?_ ?_); (rfl); (with_reducible exact KN.out); (rfl); (simp only [Act.put, List.setIfInBounds_toArray, List.set_cons_zero, List.set_cons_succ])) | ((with_reducible refine quiet_ln2 (b := w.heap.size) (s := l) ?_ ?_ ?_ ?_); (rfl); (with_reducible exact KM.out); (rfl); (simp only [Act.put, List.setIfInBounds_toArray, List.set_cons_zero, List.set_cons_succ])) | go_big_quiet_step (fail))
        refine wpQuiet_nil ?_
        intro _ hw'
        obtain ⟨pq, hw''⟩ := hw'
        subst hw''
        have LB := Lib.hid (BM.out.trans (pq.below.mono BM.out.size))
        generalize pq.now = w5 at *
        go_wp2
        go_ret2
        exact ⟨LB.out, str R, by first | (rw [← HQF.out]; rfl) | (rw [HQF.out]; rfl), fun _ => rfl⟩
  · have HX : Hid (f.w ++ 32 :: S.txt l.s = R) := Lib.hid (by rw [← hR, hfa]; rfl)
    have hRl : R.length ≤ 210 := by rw [← HX.out]; have : (S.txt l.s).length ≤ 192 := hsz2; simp; omega
    have HFL := Lib.hid (fun W => S.flags_any l.s hs W)
    have HRT := Lib.hid (fun W => S.reftext_any l.s hs W)
    clear hR
    generalize S.fl l.s = C at *
    generalize S.txt l.s = dd at *
    go_wp2_with (fail)
    refine (HFL.out _).mono ?_
    rintro e2 w2 ⟨rfl, hb2⟩
    have K2 := Lib.hid (HK0.out.below hb2 (by simp))
    have B2 := Lib.hid (HB0.out.trans (hb2.mono HB0.out.size))
    clear hb2 HK0 HB0 HFL
    go_wp2_with (fail)
    refine (HRT.out _).mono ?_
    rintro e3 w3 ⟨rfl, hb3⟩
    have K3 := Lib.hid (K2.out.below hb3 K2.out.lt)
    have B3 := Lib.hid (B2.out.trans (hb3.mono B2.out.size))
    have hj := join3r f.w dd
    rw [HX.out] at hj
    clear hb3 K2 B2 HRT
    go_wp2_with (fail)
    refine (rparse_any R (by omega) _).mono ?_
    rintro e9 w9 ⟨rfl, hb9⟩
    have K9 := Lib.hid (K3.out.below hb9 K3.out.lt)
    have B9 := Lib.hid (B3.out.trans (hb9.mono B3.out.size))
    clear hb9
    have HP2 : Hid (parseC R = ((parseC R).1, (parseC R).2)) := Lib.hid rfl
    obtain ⟨m, hm⟩ : ∃ m, (parseC R).1 = m := ⟨_, rfl⟩
    obtain ⟨z, hz⟩ : ∃ z, (parseC R).2 = z := ⟨_, rfl⟩
    rw [hm, hz] at HP2
    rw [hm, hz]
    have hsm := HSM m
    clear hm hz HSM HPR
    have hmv : lnA m = #[.int .i64 m.k, .int .i64 m.i, .int .u64 (m.s : Int), .string (str m.y)] := rfl
    have KM : Hid (Blk (w9.alloc (.cells #[.int .i64 m.k, .int .i64 m.i, .int .u64 (m.s : Int), .string (str m.y)] 31)) w.heap.size 31 (lnA l)) := Lib.hid (K9.out.alloc _)
    have KN : Hid (Blk (w9.alloc (.cells #[.int .i64 m.k, .int .i64 m.i, .int .u64 (m.s : Int), .string (str m.y)] 31)) w9.heap.size 31 (lnA m)) := Lib.hid (Blk.new w9 _ _)
    have BM : Hid (Below w.heap.size w (w9.alloc (.cells #[.int .i64 m.k, .int .i64 m.i, .int .u64 (m.s : Int), .string (str m.y)] 31))) := Lib.hid (B9.out.alloc B9.out.size _)
    clear K9 B9
    have hcase : ((z == 0) = false ∧ q = false) ∨ ((z == 0) = true ∧ decide (m = l) = q) := by
      by_cases hz : z = 0
      · refine .inr ⟨by simpa using hz, ?_⟩
        rw [← HQ.out, HP2.out, hz, Bool.eq_iff_iff]
        simp
      · refine .inl ⟨by simpa using hz, ?_⟩
        rw [← HQ.out]
        refine decide_eq_false fun e => hz ?_
        rw [HP2.out] at e
        exact congrArg Prod.snd e
    clear HP2
    rcases hcase with ⟨q1, hqf⟩ | ⟨q1, hqf⟩
    all_goals
      have HQF := Lib.hid hqf
      clear hqf
      go_wp2_with (fail)
      obtain ⟨wa, hwa⟩ : ∃ wa, w9.alloc (.cells #[.int .i64 m.k, .int .i64 m.i, .int .u64 (m.s : Int), .string (str m.y)] 31) = wa := ⟨_, rfl⟩
      rw [hwa] at KM KN BM ⊢
      clear hwa hlv hmv
      refine wp_region_later (by kernel_rfl) (by kernel_rfl) ?_
      repeat (first | ((with_reducible refine quiet_ln2 (b := w9.heap.size) (s := m) ?_ ?_ ?_ ?_); (rfl); (with_reducible exact KN.out); (rfl); (simp only [Act.put, List.setIfInBounds_toArray, List.set_cons_zero, List.set_cons_succ])) | ((with_reducible refine quiet_ln2 (b := w.heap.size) (s := l) ?_ ?_ ?_ ?_); (rfl); (with_reducible exact KM.out); (rfl); (simp only [Act.put, List.setIfInBounds_toArray, List.set_cons_zero, List.set_cons_succ])) | go_big_quiet_step (fail))
      refine wpQuiet_nil ?_
      intro _ hw'
      obtain ⟨pq, hw''⟩ := hw'
      subst hw''
      have LB := Lib.hid (BM.out.trans (pq.below.mono BM.out.size))
      generalize pq.now = w5 at *
      go_wp2
      go_ret2
      exact ⟨LB.out, str R, by first | (rw [← HQF.out]; rfl) | (rw [HQF.out]; rfl), fun _ => rfl⟩
  · by_cases hbig : 8192 < l.y.length
    · have hd : decide ((8192 : Int) < (l.y.length : Int)) = true := decide_eq_true (by omega)
      have HX : Hid (parseC R ≠ (l, 0)) := Lib.hid (fun e => by have := HPR.out.2.2.2.2; rw [e] at this; simp only at this; omega)
      have HQF : Hid (q = false) := Lib.hid (by rw [← HQ.out]; exact decide_eq_false HX.out)
      clear hR
      go_wp2
      go_ret2
      exact ⟨HB0.out, _, by rw [HQF.out]; rfl, fun h => absurd h HX.out⟩
    · have hd : decide ((8192 : Int) < (l.y.length : Int)) = false := decide_eq_false (by omega)
      have HX : Hid (f.w ++ 32 :: l.y = R) := Lib.hid (by rw [← hR, hfa]; rfl)
      have hRl : R.length ≤ 8202 := by rw [← HX.out]; simp; omega
      have hj := join3r f.w l.y
      rw [HX.out] at hj
      clear hR
      go_wp2_with (fail)
      refine (rparse_any R (by omega) _).mono ?_
      rintro e9 w9 ⟨rfl, hb9⟩
      have K9 := Lib.hid (HK0.out.below hb9 HK0.out.lt)
      have B9 := Lib.hid (HB0.out.trans (hb9.mono HB0.out.size))
      clear hb9
      have HP2 : Hid (parseC R = ((parseC R).1, (parseC R).2)) := Lib.hid rfl
      obtain ⟨m, hm⟩ : ∃ m, (parseC R).1 = m := ⟨_, rfl⟩
      obtain ⟨z, hz⟩ : ∃ z, (parseC R).2 = z := ⟨_, rfl⟩
      rw [hm, hz] at HP2
      rw [hm, hz]
      have hsm := HSM m
      clear hm hz HSM HPR
      have hmv : lnA m = #[.int .i64 m.k, .int .i64 m.i, .int .u64 (m.s : Int), .string (str m.y)] := rfl
      have KM : Hid (Blk (w9.alloc (.cells #[.int .i64 m.k, .int .i64 m.i, .int .u64 (m.s : Int), .string (str m.y)] 31)) w.heap.size 31 (lnA l)) := Lib.hid (K9.out.alloc _)
      have KN : Hid (Blk (w9.alloc (.cells #[.int .i64 m.k, .int .i64 m.i, .int .u64 (m.s : Int), .string (str m.y)] 31)) w9.heap.size 31 (lnA m)) := Lib.hid (Blk.new w9 _ _)
      have BM : Hid (Below w.heap.size w (w9.alloc (.cells #[.int .i64 m.k, .int .i64 m.i, .int .u64 (m.s : Int), .string (str m.y)] 31))) := Lib.hid (B9.out.alloc B9.out.size _)
      clear K9 B9
      have hcase : ((z == 0) = false ∧ q = false) ∨ ((z == 0) = true ∧ decide (m = l) = q) := by
        by_cases hz : z = 0
        · refine .inr ⟨by simpa using hz, ?_⟩
          rw [← HQ.out, HP2.out, hz, Bool.eq_iff_iff]
          simp
        · refine .inl ⟨by simpa using hz, ?_⟩
          rw [← HQ.out]
          refine decide_eq_false fun e => hz ?_
          rw [HP2.out] at e
          exact congrArg Prod.snd e
      clear HP2
      rcases hcase with ⟨q1, hqf⟩ | ⟨q1, hqf⟩
      all_goals
        have HQF := Lib.hid hqf
        clear hqf
        go_wp2_with (fail)
        obtain ⟨wa, hwa⟩ : ∃ wa, w9.alloc (.cells #[.int .i64 m.k, .int .i64 m.i, .int .u64 (m.s : Int), .string (str m.y)] 31) = wa := ⟨_, rfl⟩
        rw [hwa] at KM KN BM ⊢
        clear hwa hlv hmv
        refine wp_region_later (by kernel_rfl) (by kernel_rfl) ?_
        repeat (first | ((with_reducible refine quiet_ln2 (b := w9.heap.size) (s := m) ?_ ?_ ?_ ?_); (rfl); (with_reducible exact KN.out); (rfl); (simp only [Act.put, List.setIfInBounds_toArray, List.set_cons_zero, List.set_cons_succ])) | ((with_reducible refine quiet_ln2 (b := w.heap.size) (s := l) ?_ ?_ ?_ ?_); (rfl); (with_reducible exact KM.out); (rfl); (simp only [Act.put, List.setIfInBounds_toArray, List.set_cons_zero, List.set_cons_succ])) | go_big_quiet_step (fail))
        refine wpQuiet_nil ?_
        intro _ hw'
        obtain ⟨pq, hw''⟩ := hw'
        subst hw''
        have LB := Lib.hid (BM.out.trans (pq.below.mono BM.out.size))
        generalize pq.now = w5 at *
        go_wp2
        go_ret2
        exact ⟨LB.out, str R, by first | (rw [← HQF.out]; rfl) | (rw [HQF.out]; rfl), fun _ => rfl⟩
end Go.Proofs.YtogaaomedfpdnaaDoor
