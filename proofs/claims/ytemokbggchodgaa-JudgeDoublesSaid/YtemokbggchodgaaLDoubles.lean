/-
  WHAT IS PROVED: the law JudgeDoubles answers true for all arguments. Condition: the events are there.
-/
import Derived.Test.YtemokbggchodgaaAnchor
import Derived.Deep.RegionHeld3
import Derived.Deep.CutRange
import Derived.Deep.CutBlock
namespace Go.Proofs.Ytemokbggchodgaa
open Go.RowKit Go.Lib
set_option maxRecDepth 100000

theorem ev_info : (Try.prog.info? 27).map (fun i => (i.zero, i.size, i.bytes)) = some (some (.agg #[.int .i64 0, .int .i64 0, .int .i64 0, .int .i64 0, .slice none 0 0]), 5, 56) := by kernel_rfl
theorem ev_size (e : Ev) : (Try.prog.info? 27).map (·.size) = some (encE e).length := by kernel_rfl
theorem run_loadE (w : World) (p : Addr) (e : Ev) (h : ∀ j u, (encE e)[j]? = some u → w.cell? (p.add j) = some u) : (loadVar 27 p).run Try.prog w = .ok (vE e) w := by
  have hl : (loadCells p 5).run Try.prog w = .ok (encE e).toArray w := run_loadCells_list (P := Try.prog) w p (encE e) h
  have hi := ev_size e
  cases hq : Try.prog.info? 27 with
  | none => simp [hq] at hi
  | some i =>
    have hs : i.size = (encE e).length := by simpa [hq] using hi
    simp [loadVar, sizeOf, typeInfo, hq, hs, hl, Result.andThen, encE]
theorem yields_ev {ops : Array Oper} {S : World → Prop} {a : Act} {dst : Option Tmp} {ty : TypeId} {pos : String} {after : Array Edge} {x : Operand} {p : Addr} {e : Ev} (hx : a.eval x = .pointer (some p)) (hS : ∀ w, S w → ∀ j u, (encE e)[j]? = some u → w.cell? (p.add j) = some u) :
    YieldsIf Try.prog ops S ⟨dst, .load 27 x, ty, pos, after, none⟩ (vE e) a :=
  .inl ⟨rfl, fun w hw => by
    unfold execOp
    simp only [hx, Instr.loadAt, Instr.sureAddr, Sem.run_bind, Sem.run_pure, Result.andThen_ok, run_loadE w p e (hS w hw)]⟩
theorem own_lo {w : World} {base s n : Nat} {e : TypeId} {v : Value} {xs : List Value} (h : w.ownsRow base e s v n xs) {k : Nat} (hk : v.ownBlock = some k) : base ≤ k := by
  rcases h.2 with ⟨rfl, _⟩ | ⟨b, cap, cur, rfl, hb, _⟩
  · simp [Value.ownBlock] at hk
  · simp [Value.ownBlock] at hk; omega
theorem rd_one {w : World} {b : Nat} {e : Ev} (h : Blk w b 27 (rowE e)) : Rd w no 5 (some ⟨b, 0, none⟩) 1 (flatE [e]) :=
  ⟨rfl, fun _ => ⟨_, rfl, h.lt, fun f => f, fun j u hu => by
    rw [Go.WideShapes.add_plain, Nat.zero_add, h.cell j]
    have h1 : flatE [e] = encE e := by simp [flatE]
    rw [h1] at hu
    simpa [encE] using hu⟩⟩
theorem twice_more {l : List Ev} {e : Ev} {m : Nat} (h : l[m]? = some e) :
    (actB e = true → ∃ k : Nat, k ≤ l.length ∧ firstF (hitT (l ++ [e])) (l.length + 1) 0 = (k : Int)) ∧ (actB e = false → firstF (hitT (l ++ [e])) (l.length + 1) 0 = firstF (hitT l) l.length 0) := by
  have hm : m < l.length := (List.getElem?_eq_some_iff.1 h).1
  have hlast : hitT (l ++ [e]) l.length = (actB e && didB l e.kind e.by_ e.epoch) := by
    rw [hitT_at (e := e) (by simp)]
    simp
  have hmore := firstF_more (hitT (l ++ [e])) l.length 1 0
  have hsame : firstF (hitT (l ++ [e])) l.length 0 = firstF (hitT l) l.length 0 := firstF_congr _ _ (fun i _ hi => hitT_append (by omega))
  have hone : firstF (hitT (l ++ [e])) 1 (0 + l.length) = if hitT (l ++ [e]) l.length then (l.length : Int) else -1 := by
    rw [Nat.zero_add]; rfl
  rw [hmore, hone, hlast]
  constructor
  · intro ha
    have hd : didB l e.kind e.by_ e.epoch = true := by
      unfold didB
      rw [List.any_eq_true]
      exact ⟨e, List.mem_of_getElem? h, by simp [ha]⟩
    rw [ha, hd]
    rcases firstF_range (hitT (l ++ [e])) l.length 0 with h1 | ⟨i, _, h2, _, h3⟩
    · exact ⟨l.length, Nat.le_refl _, by rw [if_pos h1]; rfl⟩
    · exact ⟨i, by omega, by rw [if_neg (by omega)]; exact h3⟩
  · intro ha
    rw [ha, hsame]
    split
    · rename_i h1; rw [h1]; rfl
    · rfl
set_option maxHeartbeats 8000000 in
theorem ldoubles_in (W : World) (A : Option Addr) (N c : Nat) (x : Int) (l : List Ev) (hr : Rd W no 5 A N (flatE l)) (hg : ∀ e ∈ l, OkE W no e) (hnc : N ≤ c) (hcm : c ≤ 9223372036854775807) :
    Calls Try.prog 5 #[.slice A N c, .int .i64 x] W (Says true W) := by
  obtain ⟨i0, hi0, hz0, hz1, hz2⟩ := info_parts ev_info
  have HI0 := Lib.hid hi0
  have HZ0 := Lib.hid hz0
  have HZ1 := Lib.hid hz1
  have HZ2 := Lib.hid hz2
  have HR := Lib.hid hr
  have HG := Lib.hid hg
  have HL := Lib.hid hr.lenE
  clear hr hg hi0 hz0 hz1 hz2
  go_enter Try.func5, Try.ntmps5
  go_wp2_with (fail)
  refine (anchor_any _).mono ?_
  rintro e w1 ⟨rfl, hb1⟩
  have HB1 := Lib.hid hb1
  have HR1 := Lib.hid (HR.out.below hb1)
  clear hb1
  go_wp2_with (fail)
  refine (small_any _ no A N c l HR1.out hnc hcm).mono ?_
  rintro e w3 ⟨⟨b, rfl, hsm⟩, hb3⟩
  have HB3 := Lib.hid (HB1.out.trans (hb3.mono HB1.out.size))
  clear hb3 HR1 HB1
  cases b
  · clear hsm
    go_wp2
    go_ret
    exact ⟨rfl, HB3.out⟩
  · obtain ⟨hN, _⟩ := hsm rfl
    clear hsm
    by_cases hx0 : x < 0
    · have d1 : decide (x < 0) = true := by simpa using hx0
      go_wp2
      go_ret
      exact ⟨rfl, HB3.out⟩
    · have d1 : decide (x < 0) = false := by simpa using hx0
      by_cases hxN : x < (N : Int)
      · obtain ⟨m, rfl⟩ : ∃ m : Nat, x = (m : Int) := ⟨x.toNat, by omega⟩
        have d2 : decide ((N : Int) ≤ (m : Int)) = false := by simp; omega
        have d2n : decide (N ≤ m) = false := by simp; omega
        have hR3 := HR.out.below HB3.out
        obtain ⟨ad, e, rfl, he, hbl, _, d0', _, _, _, _⟩ := hR3.atE (k := m) (by omega)
        have HE := Lib.hid he
        have HCE : Hid (∀ w', Below w3.heap.size w3 w' → ∀ j u, (encE e)[j]? = some u → w'.cell? ((ad.add (m * 5)).add j) = some u) := Lib.hid (fun w' hb j u hu => by
          obtain ⟨ad2, h1, _, _, hc⟩ := (hR3.below hb).2 (by omega)
          injection h1 with h1
          subst h1
          rw [add_of_add]
          refine hc _ u ?_
          have hel := he
          obtain ⟨f0, f1, f2, f3, f4⟩ := flatE_get hel
          match j, hu with
          | 0, hu => simp only [encE, List.getElem?_cons_zero] at hu; rw [← hu]; exact f0
          | 1, hu => simp only [encE, List.getElem?_cons_succ, List.getElem?_cons_zero] at hu; rw [← hu]; exact f1
          | 2, hu => simp only [encE, List.getElem?_cons_succ, List.getElem?_cons_zero] at hu; rw [← hu]; exact f2
          | 3, hu => simp only [encE, List.getElem?_cons_succ, List.getElem?_cons_zero] at hu; rw [← hu]; exact f3
          | 4, hu => simp only [encE, List.getElem?_cons_succ, List.getElem?_cons_zero] at hu; rw [← hu]; exact f4
          | j + 5, hu => simp [encE] at hu)
        have HRW : Hid (∀ w', Below w3.heap.size w3 w' → Rd w' no 5 (some ad) N (flatE l)) := Lib.hid (fun w' hb => hR3.below hb)
        have HGE := Lib.hid (HG.out e (List.mem_of_getElem? he))
        have C0 := Lib.hid d0'
        obtain ⟨ek, eb, ea, ee, eA, en, ec, ew⟩ := e
        dsimp only at C0
        have hmN : (m : Int) < (N : Int) := by omega
        have hm0 : (0 : Int) ≤ (m : Int) := by omega
        clear he hbl hR3 d0'
        go_upto_region 5 with (fail)
        go_cut [5] from 23 to 31 (fun q5 wx => ∃ A6 c6, q5 = .slice A6 (N + 1) c6 ∧ N + 1 ≤ c6 ∧ c6 ≤ 9223372036854775807 ∧ Rd wx no 5 A6 (N + 1) (flatE (l ++ [⟨ek, eb, ea, ee, eA, en, ec, ew⟩])) ∧ Below w3.heap.size w3 wx)
        case first =>
          refine wp_region_held_drew (S := fun w' => Below w3.heap.size w3 w') (by kernel_rfl) ((Below.refl _ _).drew) (fun hHeld => ?_)
          refine wpAnyH_take (i := 1) (oi := ⟨some 24, _, _, _, _, _⟩) (v := .slice (some ad) N c) rfl (by kernel_rfl) (by kernel_rfl) (by kernel_rfl) (fun _ _ _ h => h) (Or.inl ⟨by rfl, ?_⟩) (by assumption) ?_
          · (intro w' _; skip; go_simp)
          try simp only [Act.put, List.setIfInBounds_toArray, List.set_cons_zero, List.set_cons_succ]
          refine wpAnyH_take (i := 3) (oi := ⟨some 26, _, _, _, _, _⟩) (v := .slice (some ad) N c) rfl (by kernel_rfl) (by kernel_rfl) (by kernel_rfl) (fun _ _ _ h => h) (Or.inl ⟨by rfl, ?_⟩) (by assumption) ?_
          · (intro w' _; skip; go_simp)
          try simp only [Act.put, List.setIfInBounds_toArray, List.set_cons_zero, List.set_cons_succ]
          refine wpAnyH_take (i := 4) (oi := ⟨some 27, _, _, _, _, _⟩) (v := .int .i64 (m : Int)) rfl (by kernel_rfl) (by kernel_rfl) (by kernel_rfl) (fun _ _ _ h => h) (Or.inl ⟨by rfl, ?_⟩) (by assumption) ?_
          · (intro w' _; skip; go_simp)
          try simp only [Act.put, List.setIfInBounds_toArray, List.set_cons_zero, List.set_cons_succ]
          refine wpAnyH_take (i := 5) (oi := ⟨some 28, _, _, _, _, _⟩) (v := .pointer (some (ad.add (m * 5)))) rfl (by kernel_rfl) (by kernel_rfl) (by kernel_rfl) (fun _ _ _ h => h) (Or.inl ⟨by rfl, ?_⟩) (by assumption) ?_
          · (intro w' _; skip; go_simp)
          try simp only [Act.put, List.setIfInBounds_toArray, List.set_cons_zero, List.set_cons_succ]
          refine wpAnyH_take (i := 6) (oi := ⟨some 29, _, _, _, _, _⟩) (v := vE ⟨ek, eb, ea, ee, eA, en, ec, ew⟩) rfl (by kernel_rfl) (by kernel_rfl) (by kernel_rfl) (fun _ _ _ h => h) (yields_ev (by rfl) (fun w' hw' => HCE.out w' hw')) (by assumption) ?_
          try simp only [Act.put, List.setIfInBounds_toArray, List.set_cons_zero, List.set_cons_succ]
          refine wpAnyH_ready (rs := [0, 7]) (by kernel_rfl) (by simp) ?_
          refine AllReadyH.cons (o := ⟨some 23, _, _, _, _, _⟩) rfl (fun KK hK => ?_) (AllReadyH.cons (o := ⟨some 30, _, _, _, _, _⟩) rfl (fun KK hK => ?_) AllReadyH.nil)
          · rw [if_pos (by rfl)]
            go_simp
            have hE := Blk.new w3.drew 27 #[]
            have hL1 := hHeld.alloc hHeld.size (.cells #[] 27)
            refine hK.out _ _ hL1 (fun _ => ?_)
            clear hK KK
            try simp only [Act.put, List.setIfInBounds_toArray, List.set_cons_zero, List.set_cons_succ]
            refine wpAnyH_ready (rs := [2, 7]) (by kernel_rfl) (by simp) ?_
            refine AllReadyH.cons (o := ⟨some 25, _, _, _, _, _⟩) rfl (fun KK hK => ?_) (AllReadyH.cons (o := ⟨some 30, _, _, _, _, _⟩) rfl (fun KK hK => ?_) AllReadyH.nil)
            · refine step_append_rd _ (by rfl) (.tmp 23) (.tmp 24) 22 (by rfl) w3.heap.size 27 i0 _ 5 56 Try.underlying22 HI0.out HZ0.out HZ1.out HZ2.out (by rfl) (by omega) _ 0 [] (by rfl) (World.ownsRow_made w3.drew #[] 0 (Nat.le_refl _) (Nat.zero_le _) rfl) no (some ad) N c (flatE l) (by rfl) (HRW.out _ hL1) (flatE_one _) (by unfold maxLen; omega) (by omega) (by simp <;> omega) ?_
              intro v5 w5 ho5 hg5 _
              rw [Nat.zero_add, List.nil_append] at ho5
              have hL2 := hL1.grown hg5 hL1.size (fun k hk => by simp [Value.ownBlock] at hk; omega)
              obtain ⟨A5, c5, rfl, hc5, hcm5⟩ := own_form ho5
              refine hK.out _ _ hL2 (fun _ => ?_)
              clear hK KK
              try simp only [Act.put, List.setIfInBounds_toArray, List.set_cons_zero, List.set_cons_succ]
              refine wpAnyH_ready (rs := [7]) (by kernel_rfl) (by simp) ?_
              refine AllReadyH.cons (o := ⟨some 30, _, _, _, _, _⟩) rfl (fun KK hK => ?_) AllReadyH.nil
              rw [if_pos (by rfl)]
              go_simp
              have hR := Blk.new w5 27 #[.int .i64 ek, .int .i64 eb, .int .i64 ea, .int .i64 ee, .slice eA en ec]
              have hL3 := hL2.alloc hL2.size (.cells #[.int .i64 ek, .int .i64 eb, .int .i64 ea, .int .i64 ee, .slice eA en ec] 27)
              refine hK.out _ _ hL3 (fun _ => ?_)
              clear hK KK
              try simp only [Act.put, List.setIfInBounds_toArray, List.set_cons_zero, List.set_cons_succ]
              refine wpAnyH_ready (rs := [8]) (by kernel_rfl) (by simp) ?_
              refine AllReadyH.cons (o := ⟨some 31, _, _, _, _, _⟩) rfl (fun KK hK => ?_) AllReadyH.nil
              refine step_append_rd _ (by rfl) (.tmp 25) (.tmp 30) 22 (by rfl) w3.heap.size 27 i0 _ 5 56 Try.underlying22 HI0.out HZ0.out HZ1.out HZ2.out (by rfl) (by omega) _ N (flatE l) (by rfl) (own_below ho5 ((Below.refl _ _).alloc (Nat.le_refl _) _)) no _ 1 1 (flatE [⟨ek, eb, ea, ee, eA, en, ec, ew⟩]) (by rfl) (rd_one (e := ⟨ek, eb, ea, ee, eA, en, ec, ew⟩) hR) (flatE_one _) (by unfold maxLen; omega) (by omega) hL3.size ?_
              intro v6 w6 ho6 hg6 _
              have hLz := hL3.grown hg6 hL3.size (fun k hk => own_lo ho5 hk)
              obtain ⟨A6, c6, rfl, hc6, hcm6⟩ := own_form ho6
              refine hK.out _ _ hLz (fun _ => ?_)
              clear hK KK
              try simp only [Act.put, List.setIfInBounds_toArray, List.set_cons_zero, List.set_cons_succ]
              refine wpAnyH_take (i := 9) (oi := ⟨some 5, _, _, _, _, _⟩) (v := .slice A6 (N + 1) c6) rfl (by kernel_rfl) (by kernel_rfl) (by kernel_rfl) (fun _ _ _ h => h) (Or.inl ⟨by rfl, ?_⟩) (by assumption) ?_
              · (intro w' _; skip; go_simp)
              try simp only [Act.put, List.setIfInBounds_toArray, List.set_cons_zero, List.set_cons_succ]
              refine wpAnyH_done (by kernel_rfl) ?_ _
              apply_assumption
              go_meet
              exact ⟨A6, c6, rfl, hc6, hcm6, by rw [flatE_append]; exact Rd.of_own ho6 rfl (fun _ _ f => f), hLz⟩

            · rw [if_pos (by rfl)]
              go_simp
              have hR := Blk.new (w3.drew.alloc (.cells #[] 27)) 27 #[.int .i64 ek, .int .i64 eb, .int .i64 ea, .int .i64 ee, .slice eA en ec]
              have hL2 := hL1.alloc hL1.size (.cells #[.int .i64 ek, .int .i64 eb, .int .i64 ea, .int .i64 ee, .slice eA en ec] 27)
              refine hK.out _ _ hL2 (fun _ => ?_)
              clear hK KK
              try simp only [Act.put, List.setIfInBounds_toArray, List.set_cons_zero, List.set_cons_succ]
              have hsz : (w3.drew.alloc (.cells #[] 27)).heap.size = w3.heap.size + 1 := by simp
              rw [hsz] at hR
              refine wpAnyH_ready (rs := [2]) (by kernel_rfl) (by simp) ?_
              refine AllReadyH.cons (o := ⟨some 25, _, _, _, _, _⟩) rfl (fun KK hK => ?_) AllReadyH.nil
              refine step_append_rd _ (by rfl) (.tmp 23) (.tmp 24) 22 (by rfl) w3.heap.size 27 i0 _ 5 56 Try.underlying22 HI0.out HZ0.out HZ1.out HZ2.out (by rfl) (by omega) _ 0 [] (by rfl) (own_below (World.ownsRow_made w3.drew #[] 0 (Nat.le_refl _) (Nat.zero_le _) rfl) ((Below.refl _ _).alloc (Nat.le_refl _) _)) no (some ad) N c (flatE l) (by rfl) (HRW.out _ hL2) (flatE_one _) (by unfold maxLen; omega) (by omega) (by simp <;> omega) ?_
              intro v5 w5 ho5 hg5 _
              rw [Nat.zero_add, List.nil_append] at ho5
              have hL3 := hL2.grown hg5 hL2.size (fun k hk => by simp [Value.ownBlock] at hk; omega)
              have hR5 := rd_one (e := ⟨ek, eb, ea, ee, eA, en, ec, ew⟩) (hR.grown hg5 (by simp [Value.ownBlock]))
              obtain ⟨A5, c5, rfl, hc5, hcm5⟩ := own_form ho5
              refine hK.out _ _ hL3 (fun _ => ?_)
              clear hK KK
              try simp only [Act.put, List.setIfInBounds_toArray, List.set_cons_zero, List.set_cons_succ]
              refine wpAnyH_ready (rs := [8]) (by kernel_rfl) (by simp) ?_
              refine AllReadyH.cons (o := ⟨some 31, _, _, _, _, _⟩) rfl (fun KK hK => ?_) AllReadyH.nil
              refine step_append_rd _ (by rfl) (.tmp 25) (.tmp 30) 22 (by rfl) w3.heap.size 27 i0 _ 5 56 Try.underlying22 HI0.out HZ0.out HZ1.out HZ2.out (by rfl) (by omega) _ N (flatE l) (by rfl) (ho5) no _ 1 1 (flatE [⟨ek, eb, ea, ee, eA, en, ec, ew⟩]) (by rfl) (hR5) (flatE_one _) (by unfold maxLen; omega) (by omega) hL3.size ?_
              intro v6 w6 ho6 hg6 _
              have hLz := hL3.grown hg6 hL3.size (fun k hk => own_lo ho5 hk)
              obtain ⟨A6, c6, rfl, hc6, hcm6⟩ := own_form ho6
              refine hK.out _ _ hLz (fun _ => ?_)
              clear hK KK
              try simp only [Act.put, List.setIfInBounds_toArray, List.set_cons_zero, List.set_cons_succ]
              refine wpAnyH_take (i := 9) (oi := ⟨some 5, _, _, _, _, _⟩) (v := .slice A6 (N + 1) c6) rfl (by kernel_rfl) (by kernel_rfl) (by kernel_rfl) (fun _ _ _ h => h) (Or.inl ⟨by rfl, ?_⟩) (by assumption) ?_
              · (intro w' _; skip; go_simp)
              try simp only [Act.put, List.setIfInBounds_toArray, List.set_cons_zero, List.set_cons_succ]
              refine wpAnyH_done (by kernel_rfl) ?_ _
              apply_assumption
              go_meet
              exact ⟨A6, c6, rfl, hc6, hcm6, by rw [flatE_append]; exact Rd.of_own ho6 rfl (fun _ _ f => f), hLz⟩


          · rw [if_pos (by rfl)]
            go_simp
            have hR := Blk.new w3.drew 27 #[.int .i64 ek, .int .i64 eb, .int .i64 ea, .int .i64 ee, .slice eA en ec]
            have hL1 := hHeld.alloc hHeld.size (.cells #[.int .i64 ek, .int .i64 eb, .int .i64 ea, .int .i64 ee, .slice eA en ec] 27)
            refine hK.out _ _ hL1 (fun _ => ?_)
            clear hK KK
            try simp only [Act.put, List.setIfInBounds_toArray, List.set_cons_zero, List.set_cons_succ]
            refine wpAnyH_ready (rs := [0]) (by kernel_rfl) (by simp) ?_
            refine AllReadyH.cons (o := ⟨some 23, _, _, _, _, _⟩) rfl (fun KK hK => ?_) AllReadyH.nil
            rw [if_pos (by rfl)]
            go_simp
            have hE := Blk.new (w3.drew.alloc (.cells #[.int .i64 ek, .int .i64 eb, .int .i64 ea, .int .i64 ee, .slice eA en ec] 27)) 27 #[]
            have hL2 := hL1.alloc hL1.size (.cells #[] 27)
            refine hK.out _ _ hL2 (fun _ => ?_)
            clear hK KK
            try simp only [Act.put, List.setIfInBounds_toArray, List.set_cons_zero, List.set_cons_succ]
            refine wpAnyH_ready (rs := [2]) (by kernel_rfl) (by simp) ?_
            refine AllReadyH.cons (o := ⟨some 25, _, _, _, _, _⟩) rfl (fun KK hK => ?_) AllReadyH.nil
            have hsz : (w3.drew.alloc (.cells #[.int .i64 ek, .int .i64 eb, .int .i64 ea, .int .i64 ee, .slice eA en ec] 27)).heap.size = w3.heap.size + 1 := by simp
            have hown := World.ownsRow_made (e := 27) (size := 5) (w3.drew.alloc (.cells #[.int .i64 ek, .int .i64 eb, .int .i64 ea, .int .i64 ee, .slice eA en ec] 27)) #[] 0 (Nat.le_refl _) (Nat.zero_le _) rfl
            rw [hsz] at hown
            refine step_append_rd _ (by rfl) (.tmp 23) (.tmp 24) 22 (by rfl) w3.heap.size 27 i0 _ 5 56 Try.underlying22 HI0.out HZ0.out HZ1.out HZ2.out (by rfl) (by omega) _ 0 [] (by rfl) (own_base hown (by omega)) no (some ad) N c (flatE l) (by rfl) (HRW.out _ hL2) (flatE_one _) (by unfold maxLen; omega) (by omega) (by simp <;> omega) ?_
            intro v5 w5 ho5 hg5 _
            rw [Nat.zero_add, List.nil_append] at ho5
            have hL3 := hL2.grown hg5 hL2.size (fun k hk => by simp [Value.ownBlock] at hk; omega)
            have hR5 := rd_one (e := ⟨ek, eb, ea, ee, eA, en, ec, ew⟩) ((hR.alloc _).grown hg5 (by simp [Value.ownBlock]))
            obtain ⟨A5, c5, rfl, hc5, hcm5⟩ := own_form ho5
            refine hK.out _ _ hL3 (fun _ => ?_)
            clear hK KK
            try simp only [Act.put, List.setIfInBounds_toArray, List.set_cons_zero, List.set_cons_succ]
            refine wpAnyH_ready (rs := [8]) (by kernel_rfl) (by simp) ?_
            refine AllReadyH.cons (o := ⟨some 31, _, _, _, _, _⟩) rfl (fun KK hK => ?_) AllReadyH.nil
            refine step_append_rd _ (by rfl) (.tmp 25) (.tmp 30) 22 (by rfl) w3.heap.size 27 i0 _ 5 56 Try.underlying22 HI0.out HZ0.out HZ1.out HZ2.out (by rfl) (by omega) _ N (flatE l) (by rfl) (ho5) no _ 1 1 (flatE [⟨ek, eb, ea, ee, eA, en, ec, ew⟩]) (by rfl) (hR5) (flatE_one _) (by unfold maxLen; omega) (by omega) hL3.size ?_
            intro v6 w6 ho6 hg6 _
            have hLz := hL3.grown hg6 hL3.size (fun k hk => own_lo ho5 hk)
            obtain ⟨A6, c6, rfl, hc6, hcm6⟩ := own_form ho6
            refine hK.out _ _ hLz (fun _ => ?_)
            clear hK KK
            try simp only [Act.put, List.setIfInBounds_toArray, List.set_cons_zero, List.set_cons_succ]
            refine wpAnyH_take (i := 9) (oi := ⟨some 5, _, _, _, _, _⟩) (v := .slice A6 (N + 1) c6) rfl (by kernel_rfl) (by kernel_rfl) (by kernel_rfl) (fun _ _ _ h => h) (Or.inl ⟨by rfl, ?_⟩) (by assumption) ?_
            · (intro w' _; skip; go_simp)
            try simp only [Act.put, List.setIfInBounds_toArray, List.set_cons_zero, List.set_cons_succ]
            refine wpAnyH_done (by kernel_rfl) ?_ _
            apply_assumption
            go_meet
            exact ⟨A6, c6, rfl, hc6, hcm6, by rw [flatE_append]; exact Rd.of_own ho6 rfl (fun _ _ f => f), hLz⟩
        case rest =>
          obtain ⟨A6, c6, rfl, hc6, hcm6, hR6, hb6⟩ := hcut
          have HR6 := Lib.hid hR6
          have HB6 := Lib.hid (HB3.out.trans (hb6.mono HB3.out.size))
          have c0 := (hb6.cell (by have := HCE.out; have h1 := C0.out; exact (lt_of_cell h1))).trans C0.out
          have C06 := Lib.hid c0
          have hall : ∀ e ∈ l ++ [(⟨ek, eb, ea, ee, eA, en, ec, ew⟩ : Ev)], OkE wc no e := fun e he => by
            rcases List.mem_append.1 he with he | he
            · exact (HG.out e he).below HB6.out
            · rw [List.mem_singleton.1 he]; exact HGE.out.below HB6.out
          have HALL := Lib.hid hall
          obtain ⟨t1, t2⟩ := twice_more HE.out
          rw [HL.out] at t1 t2
          obtain ⟨X, hX⟩ : ∃ X, firstF (hitT (l ++ [(⟨ek, eb, ea, ee, eA, en, ec, ew⟩ : Ev)])) (N + 1) 0 = X := ⟨_, rfl⟩
          rw [hX] at t1 t2
          have HX := Lib.hid hX
          have T1 := Lib.hid t1
          have T2 := Lib.hid t2
          clear hc6 hR6 hb6 hall t1 t2 hX c0
          go_wp2_with (fail)
          refine (twice_any wc no A6 (N + 1) c6 _ HR6.out HALL.out (by omega)).mono ?_
          rintro e w7 ⟨rfl, hb7⟩
          rw [HX.out]
          have HB7 := Lib.hid (HB6.out.trans (hb7.mono HB6.out.size))
          have c0 := (hb7.cell (lt_of_cell C06.out)).trans C06.out
          have hacts : (actB ⟨ek, eb, ea, ee, eA, en, ec, ew⟩ = true ∧ ((ek == 1) = true ∨ (ek == 1) = false ∧ (ek == 3) = true)) ∨ (actB ⟨ek, eb, ea, ee, eA, en, ec, ew⟩ = false ∧ (ek == 1) = false ∧ (ek == 3) = false) := by
            unfold actB
            dsimp only
            cases (ek == 1) <;> cases (ek == 3) <;> simp
          clear hb7
          rcases hacts with ⟨ha, hw⟩ | ⟨ha, h1, h3⟩
          · obtain ⟨k, hk, hXk⟩ := T1.out ha
            obtain rfl : X = (k : Int) := hXk
            have d3 : decide ((0 : Int) ≤ (k : Int)) = true := by simp
            have d4 : decide ((k : Int) ≤ (N : Int)) = true := by simp; omega
            clear ha T1 T2
            rcases hw with h1 | ⟨h1, h3⟩
            all_goals
              go_wp2
              go_ret
              exact ⟨by first | rfl | (simp; omega), HB7.out⟩
          · have hXE := T2.out ha
            have tX : (X == X) = true := by simp
            have HXE := Lib.hid hXE.symm
            clear T1 T2 ha hXE
            go_wp2_with (fail)
            refine (twice_any w7 no (some ad) N c l (HR.out.below HB7.out) (fun e he => (HG.out e he).below HB7.out) (by omega)).mono ?_
            rintro e w8 ⟨rfl, hb8⟩
            rw [HXE.out]
            have HB8 := Lib.hid (HB7.out.trans (hb8.mono HB7.out.size))
            clear hb8
            go_wp2
            go_ret
            exact ⟨by first | rfl | (rw [tX]; rfl), HB8.out⟩
      · have d2 : decide ((N : Int) ≤ x) = true := by simp; omega
        go_wp2
        go_ret
        exact ⟨rfl, HB3.out⟩
end Go.Proofs.Ytemokbggchodgaa
