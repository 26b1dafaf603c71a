/-
  WHAT IS PROVED: Clash answers the first two that won by the same voters. Conditions: the events are there, at most 1000, of at most 30 voters; the library's table of powers is laid.
-/
import Derived.Test.YtemokbggchodgaaDoorText
import Derived.Test.YtemokbggchodgaaDoorPo
import Derived.Test.YtemokbggchodgaaDoorLater
import Derived.Carry
import Derived.Deep.RegionHeld
import Derived.Deep.CutRange
import Derived.Deep.CutBlock
import Derived.Laws.ResultCell
import Derived.Laws.CopyOwn
import Derived.Deep.WholeRow
namespace Go.Proofs.YtemokbggchodgaaDoor
open Go.RowKit Go.Lib
set_option maxRecDepth 100000

theorem blk_row {w : World} {b : Nat} {t : TypeId} {cs : Array Value} (h : Blk w b t cs) (cs' : Array Value) : Blk (w.setRow b cs') b t cs' := setRow_heap w b _ _ _ _ h
set_option maxHeartbeats 8000000 in
theorem clash_any (w : World) (F : Nat → Prop) (A : Option Addr) (N c : Nat) (l : List Ev) (hr : Rd w F 5 A N (flatE l)) (hg : ∀ e ∈ l, OkE w F e) (hN : N ≤ 1000) (hn30 : ∀ e ∈ l, e.n ≤ 30) (hE : Env w) :
    Calls Tryd.prog 7 #[.slice A N c] w fun e w' => e = .returned (.tuple #[.int .i64 (ansA l N), .int .i64 (ansB l N)]) ∧ Below w.heap.size w w' := by
  have HR := Lib.hid hr
  have HL := Lib.hid hr.lenE
  have HG := Lib.hid hg
  have HN30 := Lib.hid hn30
  have HE := Lib.hid hE
  obtain ⟨w0, hw0⟩ : ∃ x, w.alloc (.map #[] 0) = x := ⟨_, rfl⟩
  have HB0 : Hid (Below w.heap.size w w0) := Lib.hid (by rw [← hw0]; exact (Below.refl _ _).alloc (Nat.le_refl _) _)
  have HS0 : Hid (Po.MapAt w0 w.heap.size 0 (fP (l.take 0))) := Lib.hid (by rw [← hw0]; exact (Po.map_new w).wide (Nat.le_refl _) (fun _ _ => rfl))
  obtain ⟨g, hgs⟩ : ∃ g, w.heap.size = g := ⟨_, rfl⟩
  rw [hgs] at HS0
  have HGS := Lib.hid hgs
  obtain ⟨X, hX⟩ : ∃ x, ansA l N = x := ⟨_, rfl⟩
  obtain ⟨Y, hY⟩ : ∃ x, ansB l N = x := ⟨_, rfl⟩
  have HX := Lib.hid hX
  have HY := Lib.hid hY
  rw [hX, hY]
  clear hr hg hX hY hn30 hE
  have hmm := @run_makeMap Tryd.prog
  go_enter Tryd.func7, Tryd.ntmps7
  go_wp2
  go_loopw [13] (fun i wr => ∃ (k : Nat), k ≤ N ∧ i = .int .i64 k ∧ Po.MapAt wr g k (fP (l.take k)) ∧ Below w.heap.size w wr ∧ ∀ i, i < k → cl l i = false) (fun i _ => N - (RowKit.intOf i).toNat)
  case atStart => exact ⟨0, by omega, rfl, HS0.out, HB0.out, fun i hi => by omega⟩
  case round =>
    obtain ⟨w3, rfl⟩ : ∃ w3, w3 = wr := ⟨_, rfl⟩
    obtain ⟨k, hk, rfl, hs3, hb3, hno⟩ := hrel
    have HS3 := Lib.hid hs3
    have HB3 := Lib.hid hb3
    have HNO := Lib.hid hno
    clear hs3 hno
    by_cases hlt : k < N
    · obtain ⟨ad, e, rfl, he, hbl, _, c0, c1, c2, c3, c4⟩ := (HR.out.below hb3).atE hlt
      have hge := HG.out e (List.mem_of_getElem? he)
      have hel := hge.len
      have hn30 := HN30.out e (List.mem_of_getElem? he)
      have HGE := Lib.hid (hge.below hb3)
      have HM := Lib.hid (fP_more he)
      have HKE : Hid (∀ q, l[k]? = some q → q = e) := Lib.hid (fun q hq => by rw [he] at hq; injection hq with hq; exact hq.symm)
      have HW := Lib.hid (fP_win he)
      have HCN := Lib.hid (clash_none he)
      have HCS : Hid (∀ {a : Nat} {o : Ev}, (e.kind == 3) = true → fP (l.take k) e.epoch (tx e.who) = some a → l[a]? = some o → o.by_ = e.by_ → cl l k = false) := Lib.hid (fun h3 h ho hby => clash_same he h3 HNO.out h ho hby)
      have HCO : Hid (∀ {a : Nat} {o : Ev}, (e.kind == 3) = true → fP (l.take k) e.epoch (tx e.who) = some a → l[a]? = some o → o.by_ ≠ e.by_ → ansB l N = (k : Int) ∧ ansA l N = (a : Int)) := Lib.hid (fun h3 h ho hby => clash_other hlt HL.out he h3 HNO.out h ho hby)
      obtain ⟨ek, eb, ea, ee, eA, en, ec, ew⟩ := e
      dsimp only at c0 c1 c2 c3 c4 hel hn30
      obtain ⟨w4, hw4⟩ : ∃ x, w3.alloc (.cells #[.int .i64 ek, .int .i64 eb, .int .i64 ea, .int .i64 ee, .slice eA en ec] 29) = x := ⟨_, rfl⟩
      have hb4 : Below w3.heap.size w3 w4 := by rw [← hw4]; exact (Below.refl _ _).alloc (Nat.le_refl _) _
      have hx4 : Bx w4 w3.heap.size ⟨ek, eb, ea, ee, eA, en, ec, ew⟩ := by rw [← hw4]; exact Bx.new w3 ⟨ek, eb, ea, ee, eA, en, ec, ew⟩
      obtain ⟨x0, x1, x2, x3, x4⟩ := hx4.cells
      dsimp only at x0 x1 x2 x3 x4
      have hb14 := hb3.trans (hb4.mono hb3.size)
      have HB4 := Lib.hid hb14
      have HS4 := Lib.hid (HS3.out.below hb4)
      have hge4 := HGE.out.below hb4
      have HIW : Hid (∀ v ∈ ew, inI v) := Lib.hid hge4.iw
      have HI3 : Hid (inI ee) := Lib.hid hge4.i3
      have HRW : Hid (∀ w', Below w4.heap.size w4 w' → Rd w' no 1 eA en (zints ew)) := Lib.hid (fun w' hb => (hge4.rd.no_).below hb)
      have HEV : Hid (∀ w', Below w4.heap.size w4 w' → Env w') := Lib.hid (fun w' hb => (HE.out.below hb14).below hb)
      have HTX : Hid (Po.okT (tx ew)) := Lib.hid (by
        have h1 := tx_len hge4.iw
        unfold Po.okT
        dsimp only at h1
        rw [hel] at h1
        omega)
      have HX4 := Lib.hid hx4
      have X3 := Lib.hid x3
      have X4 := Lib.hid x4
      clear he hbl hb4 hge hge4 hel hx4
      by_cases h3 : ek = 3
      · have e3 : (ek != 3) = false := by simpa using h3
        have E3 : Hid ((ek == 3) = true) := Lib.hid (by simpa using h3)
        clear h3 hb14
        go_upto_region 6 with (fail)
        go_cut [7] from 21 to 26 (fun q7 wx => ∃ bm, q7 = .pointer (some ⟨bm, 0, none⟩) ∧ Blk wx bm 39 #[.int .i64 ee, .string (str (tx ew))] ∧ Below w4.heap.size w4 wx)
        case first =>
          refine wp_region_held_drew (S := fun w' => Below w4.heap.size w4 w') (by kernel_rfl) ((Below.refl _ _).drew) (fun hHeld => ?_)
          refine wpAnyH_take (i := 0) (oi := ⟨some 21, _, _, _, _, _⟩) (v := .pointer (some ⟨w3.heap.size, 3, none⟩)) rfl (by kernel_rfl) (by kernel_rfl) (by kernel_rfl) (fun _ _ _ h => h) (Or.inl ⟨by rfl, ?_⟩) (by assumption) ?_
          · (intro w' _; skip; go_simp)
          try simp only [Act.put, List.setIfInBounds_toArray, List.set_cons_zero, List.set_cons_succ]
          refine wpAnyH_take (i := 1) (oi := ⟨some 22, _, _, _, _, _⟩) (v := .int .i64 ee) rfl (by kernel_rfl) (by kernel_rfl) (by kernel_rfl) (fun _ _ _ h => h) (Or.inl ⟨by rfl, ?_⟩) (by assumption) ?_
          · (intro w' hw'; have hc := (hw'.cell (lt_of_cell X3.out)).trans X3.out; clear hw'; go_simp)
          try simp only [Act.put, List.setIfInBounds_toArray, List.set_cons_zero, List.set_cons_succ]
          refine wpAnyH_take (i := 2) (oi := ⟨some 23, _, _, _, _, _⟩) (v := .pointer (some ⟨w3.heap.size, 4, none⟩)) rfl (by kernel_rfl) (by kernel_rfl) (by kernel_rfl) (fun _ _ _ h => h) (Or.inl ⟨by rfl, ?_⟩) (by assumption) ?_
          · (intro w' _; skip; go_simp)
          try simp only [Act.put, List.setIfInBounds_toArray, List.set_cons_zero, List.set_cons_succ]
          refine wpAnyH_take (i := 3) (oi := ⟨some 24, _, _, _, _, _⟩) (v := .slice eA en ec) rfl (by kernel_rfl) (by kernel_rfl) (by kernel_rfl) (fun _ _ _ h => h) (Or.inl ⟨by rfl, ?_⟩) (by assumption) ?_
          · (intro w' hw'; have hc := (hw'.cell (lt_of_cell X4.out)).trans X4.out; clear hw'; go_simp)
          try simp only [Act.put, List.setIfInBounds_toArray, List.set_cons_zero, List.set_cons_succ]
          refine wpAnyH_ready (rs := [4, 6]) (by kernel_rfl) (by simp) ?_
          refine AllReadyH.cons (o := ⟨some 25, _, _, _, _, _⟩) rfl (fun KK hK => ?_) (AllReadyH.cons (o := ⟨some 7, _, _, _, _, _⟩) rfl (fun KK hK => ?_) AllReadyH.nil)
          · go_simp
            refine (textof_any _ no eA en ec ew (HRW.out _ hHeld) HIW.out (by omega) (HEV.out _ hHeld)).mono ?_
            rintro e w5 ⟨rfl, hb⟩
            refine hK.out _ _ (hHeld.trans (hb.mono hHeld.size)) (fun hHeld => ?_)
            clear hK KK hb
            try simp only [Act.put, List.setIfInBounds_toArray, List.set_cons_zero, List.set_cons_succ]
            refine wpAnyH_take (i := 5) (oi := ⟨some 26, _, _, _, _, _⟩) (v := .agg #[.int .i64 ee, .string (str (tx ew))]) rfl (by kernel_rfl) (by kernel_rfl) (by kernel_rfl) (fun _ _ _ h => h) (Or.inl ⟨by rfl, ?_⟩) (by assumption) ?_
            · (intro w' _; skip; go_simp)
            try simp only [Act.put, List.setIfInBounds_toArray, List.set_cons_zero, List.set_cons_succ]
            refine wpAnyH_ready (rs := [6]) (by kernel_rfl) (by simp) ?_
            refine AllReadyH.cons (o := ⟨some 7, _, _, _, _, _⟩) rfl (fun KK hK => ?_) AllReadyH.nil
            rw [if_pos (by rfl)]
            go_simp
            have hSz := hHeld.size
            have hBo := Blk.new w5 39 #[.int .i64 0, .string ByteArray.empty]
            refine hK.out _ _ (hHeld.alloc hHeld.size _) (fun hHeld2 => ?_)
            clear hK KK
            try simp only [Act.put, List.setIfInBounds_toArray, List.set_cons_zero, List.set_cons_succ]
            refine wpAnyH_ready (rs := [7]) (by kernel_rfl) (by simp) ?_
            refine AllReadyH.cons (o := ⟨none, _, _, _, _, _⟩) rfl (fun KK hK => ?_) AllReadyH.nil
            rw [if_pos (by rfl)]
            refine wp_store_row 39 (.tmp 7) (.tmp 26) rfl (w5.heap.size) #[.int .i64 ee, .string (str (tx ew))] rfl rfl _ #[.int .i64 0, .string ByteArray.empty] hBo (by kernel_rfl) rfl (by simp [Value.oneCell']) ?_
            have hBn := blk_row hBo #[.int .i64 ee, .string (str (tx ew))]
            refine hK.out _ _ (below_setRow hHeld2 hSz _) (fun hHeld9 => ?_)
            clear hK KK
            simp only [Act.put]
            refine wpAnyH_done (by kernel_rfl) ?_ _
            apply_assumption
            go_meet
            exact ⟨_, rfl, hBn, hHeld9⟩

          · rw [if_pos (by rfl)]
            go_simp
            have hSz : w4.heap.size ≤ w4.heap.size := Nat.le_refl _
            have hBo : Blk (w4.drew.alloc (.cells #[.int .i64 0, .string ByteArray.empty] 39)) w4.heap.size 39 #[.int .i64 0, .string ByteArray.empty] := Blk.new w4.drew 39 #[.int .i64 0, .string ByteArray.empty]
            refine hK.out _ _ (hHeld.alloc hHeld.size _) (fun hHeld2 => ?_)
            clear hK KK
            try simp only [Act.put, List.setIfInBounds_toArray, List.set_cons_zero, List.set_cons_succ]
            refine wpAnyH_ready (rs := [4]) (by kernel_rfl) (by simp) ?_
            refine AllReadyH.cons (o := ⟨some 25, _, _, _, _, _⟩) rfl (fun KK hK => ?_) AllReadyH.nil
            go_simp
            refine (textof_any _ no eA en ec ew (HRW.out _ hHeld2) HIW.out (by omega) (HEV.out _ hHeld2)).mono ?_
            rintro e w5 ⟨rfl, hb⟩
            have hBp := hBo.below hb (by show w4.heap.size < (w4.drew.alloc _).heap.size; simp)
            refine hK.out _ _ (hHeld2.trans (hb.mono hHeld2.size)) (fun hHeld3 => ?_)
            clear hK KK hb
            try simp only [Act.put, List.setIfInBounds_toArray, List.set_cons_zero, List.set_cons_succ]
            refine wpAnyH_take (i := 5) (oi := ⟨some 26, _, _, _, _, _⟩) (v := .agg #[.int .i64 ee, .string (str (tx ew))]) rfl (by kernel_rfl) (by kernel_rfl) (by kernel_rfl) (fun _ _ _ h => h) (Or.inl ⟨by rfl, ?_⟩) (by assumption) ?_
            · (intro w' _; skip; go_simp)
            try simp only [Act.put, List.setIfInBounds_toArray, List.set_cons_zero, List.set_cons_succ]
            refine wpAnyH_ready (rs := [7]) (by kernel_rfl) (by simp) ?_
            refine AllReadyH.cons (o := ⟨none, _, _, _, _, _⟩) rfl (fun KK hK => ?_) AllReadyH.nil
            rw [if_pos (by rfl)]
            refine wp_store_row 39 (.tmp 7) (.tmp 26) rfl (w4.heap.size) #[.int .i64 ee, .string (str (tx ew))] rfl rfl _ #[.int .i64 0, .string ByteArray.empty] hBp (by kernel_rfl) rfl (by simp [Value.oneCell']) ?_
            have hBn := blk_row hBp #[.int .i64 ee, .string (str (tx ew))]
            refine hK.out _ _ (below_setRow hHeld3 hSz _) (fun hHeld9 => ?_)
            clear hK KK
            simp only [Act.put]
            refine wpAnyH_done (by kernel_rfl) ?_ _
            apply_assumption
            go_meet
            exact ⟨_, rfl, hBn, hHeld9⟩
        case rest =>
          obtain ⟨bm, rfl, hbm, hbc⟩ := hcut
          have y0 := hbm.cell 0
          have y1 := hbm.cell 1
          simp at y0 y1
          have HBM := Lib.hid hbm
          have HBC := Lib.hid (HB4.out.trans (hbc.mono HB4.out.size))
          have HSC := Lib.hid (HS4.out.below hbc)
          have HXC := Lib.hid (HX4.out.later hbc)
          have HRC := Lib.hid ((HR.out.below hb3).below ((show Below w3.heap.size w3 w4 by rw [← hw4]; exact (Below.refl _ _).alloc (Nat.le_refl _) _).trans (hbc.mono (by rw [← hw4]; simp))))
          clear hbm hbc x0 x1 x2 x3 x4 hb3 c0 c1 c2 c3 c4 hw4
          obtain ⟨x0, x1, x2, x3, x4⟩ := HXC.out.cells
          dsimp only at x0 x1 x2 x3 x4
          cases hf : fP (l.take k) ee (tx ew) with
          | none =>
            have HF := Lib.hid hf
            have HCL : Hid (cl l k = false) := Lib.hid (HCN.out E3.out hf)
            have hki : inI (k : Int) := by unfold inI; omega
            clear hf
            go_wp2_with (first | (at_lookup; refine Po.wpList_look_no HSC.out rfl _ _ rfl rfl HI3.out HTX.out rfl HF.out ?_) | (at_mapUpdate; refine Po.wpList_store HSC.out (by unfold maxLen; omega) rfl _ _ _ rfl rfl HI3.out HTX.out rfl rfl hki ?_; intro w7 hs7 hg7; have HS7 := Lib.hid hs7; have HB7 : Hid (Below w.heap.size w w7) := Lib.hid (HBC.out.grown hg7 HBC.out.size (fun k hk => by injection hk with hk; omega)); clear hs7 hg7))
            go_roundw
            case rel => exact ⟨k + 1, by omega, by go_num, HS7.out.wide (by omega) (fun x t => by
              rw [HM.out]
              unfold pollB
              have h9 := E3.out
              dsimp only
              rw [h9, Bool.true_and]
              by_cases hc : ee = x ∧ tx ew = t
              · obtain ⟨rfl, rfl⟩ := hc
                rw [if_pos ⟨rfl, rfl⟩, HF.out]
                simp
              · rw [if_neg hc]
                have : ((ee == x) && (tx ew == t)) = false := by
                  rw [Bool.eq_false_iff]
                  intro hh
                  simp only [Bool.and_eq_true, beq_iff_eq] at hh
                  exact hc hh
                rw [this]
                simp), HB7.out, (fun i hi => by
              by_cases hik : i = k
              · rw [hik]; exact HCL.out
              · exact HNO.out i (by omega))⟩
            case measure => simp [RowKit.intOf]; omega
          | some a =>
            obtain ⟨hak, o, ho, _, _⟩ := fP_some hf
            have HF := Lib.hid hf
            have HOO := Lib.hid ho
            obtain ⟨ad', o', had, ho', _, _, _, d1, _, _, _⟩ := HRC.out.atE (k := a) (by omega)
            injection had with had
            subst had
            obtain rfl : o = o' := by rw [ho] at ho'; injection ho'
            obtain ⟨ok, ob, oa, oe, oA, on, oc, ow⟩ := o
            dsimp only at d1
            have ha0 : (0 : Int) ≤ (a : Int) := by omega
            have haN : (a : Int) < (N : Int) := by omega
            clear hf ho ho'
            by_cases hby : ob = eb
            · have HCL : Hid (cl l k = false) := Lib.hid (HCS.out E3.out HF.out HOO.out hby)
              have t1 : (ob != eb) = false := by simpa using hby
              clear hby
              go_wp2_with (at_lookup; refine Po.wpList_look_yes HSC.out rfl _ _ rfl rfl HI3.out HTX.out rfl HF.out ?_)
              go_quiet (fail)
              have HB8 := Lib.hid (below_drewN HBC.out nq)
              have HS8 : Hid (Po.MapAt (wc.drewN nq) g k (fP (l.take k))) := Lib.hid (HSC.out.below (below_drewN (Below.refl _ _) nq))
              go_wp2
              go_roundw
              case rel => exact ⟨k + 1, by omega, by go_num, HS8.out.wide (by omega) (fun x t => by
                rw [HM.out]
                unfold pollB
                have h9 := E3.out
                dsimp only
                rw [h9, Bool.true_and]
                by_cases hc : ((ee == x) && (tx ew == t)) = true
                · simp only [Bool.and_eq_true, beq_iff_eq] at hc
                  obtain ⟨rfl, rfl⟩ := hc
                  rw [HF.out]
                  rfl
                · rw [if_neg hc]
                  simp), HB8.out, (fun i hi => by
                by_cases hik : i = k
                · rw [hik]; exact HCL.out
                · exact HNO.out i (by omega))⟩
              case measure => simp [RowKit.intOf]; omega
            · obtain ⟨hB, hA⟩ := HCO.out E3.out HF.out HOO.out hby
              have t1 : (ob != eb) = true := by simpa using hby
              have HBB := Lib.hid (HY.out.symm.trans hB)
              have HAA := Lib.hid (HX.out.symm.trans hA)
              clear hby hA hB
              go_wp2_with (at_lookup; refine Po.wpList_look_yes HSC.out rfl _ _ rfl rfl HI3.out HTX.out rfl HF.out ?_)
              go_quiet (fail)
              have HB8 := Lib.hid (below_drewN HBC.out nq)
              go_wp2
              go_ret2
              exact ⟨by rw [HAA.out, HBB.out]; rfl, (by have h := HB8.out; first | exact h | (rw [hgs] at h; exact h))⟩
      · have e3 : (ek != 3) = true := by simpa using h3
        have E3 : Hid ((ek == 3) = false) := Lib.hid (by simpa using h3)
        have HCL : Hid (cl l k = false) := Lib.hid (by
          have h0 := HW.out E3.out
          unfold cl
          cases hg : l[k]? with
          | none => rfl
          | some q =>
            show ((l.take k).any fun o => clB o q) = false
            have hq : q = ⟨ek, eb, ea, ee, eA, en, ec, ew⟩ := HKE.out q hg
            rw [Bool.eq_false_iff]
            intro hh
            rw [List.any_eq_true] at hh
            obtain ⟨o, _, ho⟩ := hh
            unfold clB at ho
            rw [hq] at ho
            dsimp only at ho
            rw [E3.out] at ho
            cases ho)
        clear h3 hb14
        go_wp2
        go_roundw
        case rel => exact ⟨k + 1, by omega, by go_num, HS4.out.wide (by omega) (fun x t => (HW.out E3.out x t).symm), HB4.out, (fun i hi => by
          by_cases hik : i = k
          · rw [hik]; exact HCL.out
          · exact HNO.out i (by omega))⟩
        case measure => simp [RowKit.intOf]; omega
    · obtain rfl : k = N := by omega
      obtain ⟨hB, hA⟩ := ans_miss HNO.out
      have HBB := Lib.hid (HY.out.symm.trans hB)
      have HAA := Lib.hid (HX.out.symm.trans hA)
      clear hA hB hb3
      go_wp2
      go_ret2
      exact ⟨by rw [HAA.out, HBB.out]; rfl, (by have h := HB3.out; first | exact h | (rw [hgs] at h; exact h))⟩
end Go.Proofs.YtemokbggchodgaaDoor
