/-
  WHAT IS PROVED: the law RouteTexts answers true: the text of any way is the document's. Conditions: the library's variables hold what is laid there; the way's numbers are ints.
-/
import Derived.Test.YteoodompphhkbaaGreatDoorZOM
namespace Go.Proofs.YteoodompphhkbaaGreatDoor.Nod
set_option maxRecDepth 100000
open Go.RowKit Go.Lib Go.Maps
open Go.Proofs.YteoodompphhkbaaGreatDoor.Ros (Turn Sub Rd Blk no zints)
open Go.Proofs.YteoodompphhkbaaGreatDoor.K (str digL Sv stv StAt mkS triB)

theorem same_way (a b c x y z : Int) (w : World) : (Op.equalIn 10000 23 (.agg #[.int .i64 a, .int .i64 b, .int .i64 c]) (.agg #[.int .i64 x, .int .i64 y, .int .i64 z])).run Tryz.prog w = .ok (triB a b c x y z) w := by
  have u3 := Tryz.underlying3
  have a3 := Tryz.isAgg3
  have z3 := Tryz.sizeOf3
  have hS : Tryz.prog.underlying 23 = some (.struct (Tryz.prog.fieldsOf 23)) := by kernel_rfl
  have hp : Tryz.prog.stoodInHeld 23 = false := by kernel_rfl
  rw [show (10000 : Nat) = 9999 + 1 from rfl, run_equalIn_agg w 9999 23 _ _ hS hp]
  simp only [Program.fieldsOf, Tryz.underlying23]
  unfold triB
  go_simp
  by_cases h1 : a = x <;> by_cases h2 : b = y <;> by_cases h3 : c = z <;> simp [h1, h2, h3]
theorem guard_way (op : BinOp) (p q : Operand) (a b c x y z : Int) (w : World) : (eqGuard op 23 p q (.agg #[.int .i64 a, .int .i64 b, .int .i64 c]) (.agg #[.int .i64 x, .int .i64 y, .int .i64 z])).run Tryz.prog w = .ok () w := run_eqGuard_agg w op 23 p q _ _ (by kernel_rfl)
theorem dg22 : K.dg 22 = [50, 50] := by
  rw [K.dg_eq]
  show digL 22 = _
  rw [K.digL_big (by omega), K.digL_small (by omega)]
  rfl
theorem dg2 : K.dg 2 = [50] := by
  rw [K.dg_eq]
  show digL 2 = _
  rw [K.digL_small (by omega)]
  rfl
theorem tx1 : txW 1 22 0 = [72, 69, 82, 69, 32, 50, 50] := by
  unfold txW txN
  rw [if_pos rfl]
  simp [dg22]
theorem tx2 : txW 2 22 2 = [77, 79, 86, 69, 68, 32, 50, 50, 32, 50] := by
  unfold txW txN
  rw [if_neg (by decide), if_pos rfl]
  simp [dg22, dg2]
theorem tx0 : txW 0 0 0 = [] := by
  unfold txW
  rw [if_neg (by decide), if_neg (by decide), if_neg (by decide)]
set_option maxHeartbeats 4000000 in
theorem anchor_any (w : World) (hE : K.Env w) : Calls Tryz.prog 4 #[] w (K.Says true w) := by
  have hbA : Below w.heap.size w (w.alloc (.cells opA 38)) := (Below.refl _ w).alloc (Nat.le_refl _) _
  have HM := Lib.hid (made1_any w.heap.size _ (hE.below hbA) (Blk.new w 38 opA))
  have HBA := Lib.hid hbA
  have HE := Lib.hid hE
  have sw := fun w => same_way 1 22 0 1 22 0 w
  rw [show triB 1 22 0 1 22 0 = true by decide] at sw
  have gw := fun op p q w => guard_way op p q 1 22 0 1 22 0 w
  have q1 := K.str_toList [72, 69, 82, 69, 32, 50, 50]
  have q2 := K.str_toList [77, 79, 86, 69, 68, 32, 50, 50, 32, 50]
  have q0 : (str ([] : List UInt8)).toList.isEmpty = true := by rw [K.str_toList]; rfl
  clear hbA hE
  go_enter Tryz.func4, Tryz.ntmps4
  go_wp2_with (fail)
  refine HM.out.mono ?_
  rintro o w1 ⟨g, d, F, rfl, hN, hb1⟩
  have HN1 := Lib.hid hN
  have HB1 := Lib.hid (HBA.out.trans (hb1.mono HBA.out.size))
  clear hN hb1 HM
  go_wp2_with (fail)
  refine (routehere_any _ g d F N1 _ HN1.out [102, 111, 111] (by decide) 22 slot_foo (by decide) n1_tab n1_ma).mono ?_
  rintro o w2 ⟨rfl, hb2⟩
  have HB2 := Lib.hid (HB1.out.trans (hb2.mono HB1.out.size))
  clear hb2
  have hbB : Below w.heap.size w (w2.alloc (.cells #[.int .i64 1, .int .i64 22, .int .i64 0] 23)) := HB2.out.alloc HB2.out.size _
  have HT1 := Lib.hid (text_any 1 22 0 _ (HE.out.below hbB) (by decide) (by decide))
  rw [tx1] at HT1
  have HB3 := Lib.hid hbB
  clear hbB
  go_wp2_with (fail)
  refine HT1.out.mono ?_
  rintro o w3 ⟨rfl, hb3⟩
  have HB4 := Lib.hid (HB3.out.trans (hb3.mono HB3.out.size))
  have HT2 := Lib.hid (text_any 2 22 2 _ (HE.out.below HB4.out) (by decide) (by decide))
  rw [tx2] at HT2
  clear hb3
  go_wp2_with (fail)
  refine HT2.out.mono ?_
  rintro o w4 ⟨rfl, hb4⟩
  have HB5 := Lib.hid (HB4.out.trans (hb4.mono HB4.out.size))
  have HT3 := Lib.hid (text_any 0 0 0 _ (HE.out.below HB5.out) (by decide) (by decide))
  rw [tx0] at HT3
  clear hb4
  go_wp2_with (fail)
  refine HT3.out.mono ?_
  rintro o w5 ⟨rfl, hb5⟩
  have HB6 := Lib.hid (HB5.out.trans (hb5.mono HB5.out.size))
  clear hb5
  go_wp2
  go_ret
  exact ⟨rfl, HB6.out⟩
/-- the document's text -/
theorem want1 (s t : Int) : (⟨#[72, 69, 82, 69, 32]⟩ : ByteArray) ++ str (digL s.toNat) = str (txW 1 s t) := by
  show str [72, 69, 82, 69, 32] ++ _ = _
  rw [K.S.str_app]
  unfold txW txN
  rw [if_pos rfl]
  simp [K.dg_eq]
theorem want3 (s t : Int) : (⟨#[68, 79, 87, 78, 32]⟩ : ByteArray) ++ str (digL s.toNat) = str (txW 3 s t) := by
  show str [68, 79, 87, 78, 32] ++ _ = _
  rw [K.S.str_app]
  unfold txW txN
  rw [if_neg (by decide), if_neg (by decide), if_pos rfl]
  simp [K.dg_eq]
theorem want2 (s t : Int) : (⟨#[77, 79, 86, 69, 68, 32]⟩ : ByteArray) ++ str (digL s.toNat) ++ ⟨#[32]⟩ ++ str (digL t.toNat) = str (txW 2 s t) := by
  show str [77, 79, 86, 69, 68, 32] ++ _ ++ str [32] ++ _ = _
  rw [K.S.str_app, K.S.str_app, K.S.str_app]
  unfold txW txN
  rw [if_neg (by decide), if_pos rfl]
  simp [K.dg_eq]
theorem digits_any (s : Int) (h0 : 0 ≤ s) (h1 : s ≤ 9223372036854775807) (w : World) : Calls Tryz.prog 5 #[.int .i64 s] w (SaysS (digL s.toNat) w) := by
  have h := rdig_any s.toNat (by omega) w
  rwa [Int.toNat_of_nonneg h0] at h
theorem dig_le (s : Int) (h1 : s ≤ 9223372036854775807) : (str (digL s.toNat)).size ≤ 20 := K.digL_len 19 _ (by
  have e : (10 : Nat) ^ (19 + 1) = 100000000000000000000 := by decide
  omega)

set_option maxHeartbeats 4000000 in
theorem law_any (k s t : Int) (w : World) (hE : K.Env w) (hs : -9223372036854775808 ≤ s ∧ s ≤ 9223372036854775807) (ht : -9223372036854775808 ≤ t ∧ t ≤ 9223372036854775807) :
    Calls Tryz.prog 3 #[.agg #[.int .i64 k, .int .i64 s, .int .i64 t]] w (K.Says true w) := by
  obtain ⟨w1, hw1⟩ : ∃ w1, w.alloc (.cells #[.int .i64 k, .int .i64 s, .int .i64 t] 23) = w1 := ⟨_, rfl⟩
  have hb1 : Below w.heap.size w w1 := by rw [← hw1]; exact (Below.refl _ w).alloc (Nat.le_refl _) _
  have HB1 := Lib.hid hb1
  have HX1 : Hid (Blk w1 w.heap.size 23 #[.int .i64 k, .int .i64 s, .int .i64 t]) := Lib.hid (by rw [← hw1]; exact Blk.new w _ _)
  have HE := Lib.hid hE
  have HS := Lib.hid hs
  have HT := Lib.hid ht
  clear hb1 hE hs ht
  go_enter Tryz.func3, Tryz.ntmps3
  go_upto_region 1 with (fail)
  clear hw1
  go_wp2_with (fail)
  refine (anchor_any _ (HE.out.below HB1.out)).mono ?_
  rintro o w2 ⟨rfl, hb⟩
  have HB2 := Lib.hid (HB1.out.trans (hb.mono HB1.out.size))
  have HX2 := Lib.hid (HX1.out.below hb HX1.out.lt)
  clear hb
  have x0 : w2.cell? ⟨w.heap.size, 0, none⟩ = some (.int .i64 k) := HX2.out.cell 0
  have x1 : w2.cell? ⟨w.heap.size, 1, none⟩ = some (.int .i64 s) := HX2.out.cell 1
  have x2 : w2.cell? ⟨w.heap.size, 2, none⟩ = some (.int .i64 t) := HX2.out.cell 2
  by_cases hs0 : s < 0
  · go_wp2
    go_ret
    exact ⟨rfl, HB2.out⟩
  · by_cases ht0 : t < 0
    · go_wp2
      go_ret
      exact ⟨rfl, HB2.out⟩
    · have HS2 : Hid (0 ≤ s ∧ s ≤ 9223372036854775807) := Lib.hid (by have := HS.out; omega)
      have HT2 : Hid (0 ≤ t ∧ t ≤ 9223372036854775807) := Lib.hid (by have := HT.out; omega)
      have HXT : Hid (∀ W, Below w.heap.size w W → Calls Tryz.prog 6 #[.agg #[.int .i64 k, .int .i64 s, .int .i64 t]] W (SaysS (txW k s t) W)) := Lib.hid fun W hW => text_any k s t W (HE.out.below hW) HS2.out HT2.out
      have HD1 : Hid (∀ W, Calls Tryz.prog 5 #[.int .i64 s] W (SaysS (digL s.toNat) W)) := Lib.hid fun W => digits_any s HS2.out.1 HS2.out.2 W
      have HD2 : Hid (∀ W, Calls Tryz.prog 5 #[.int .i64 t] W (SaysS (digL t.toNat) W)) := Lib.hid fun W => digits_any t HT2.out.1 HT2.out.2 W
      have s1 := dig_le s HS2.out.2
      have s2 := dig_le t HT2.out.2
      by_cases h1 : k = 1
      · subst h1
        go_wp2_with (fail)
        refine (HD1.out _).mono ?_
        rintro o w3 ⟨rfl, hb⟩
        have HB3 := Lib.hid (HB2.out.trans (hb.mono HB2.out.size))
        have HX3 := Lib.hid (HX2.out.below hb HX2.out.lt)
        clear hb
        go_wp2_with (refine row_load rfl HX3.out Tryz.underlying23 rfl way_info rfl ?_)
        refine (HXT.out _ HB3.out).mono ?_
        rintro o w4 ⟨rfl, hb⟩
        have HB4 := Lib.hid (HB3.out.trans (hb.mono HB3.out.size))
        clear hb
        rw [want1 s t]
        have hq : ((str (txW 1 s t)).toList == (str (txW 1 s t)).toList) = true := by simp
        generalize txW 1 s t = L at *
        go_wp2
        go_ret
        exact ⟨rfl, HB4.out⟩
      · by_cases h2 : k = 2
        · subst h2
          have C0 : ∀ q : Later w2, q.now.cell? ⟨w.heap.size, 1, none⟩ = some (.int .i64 s) := fun q => q.cell x1
          have C1 : ∀ q : Later w2, q.now.cell? ⟨w.heap.size, 2, none⟩ = some (.int .i64 t) := fun q => q.cell x2
          have HL1 : Hid (∀ p : Later w2, Calls Tryz.prog 5 #[.int .i64 s] p.now fun e w' => e = .returned (.string (str (digL s.toNat))) ∧ Below p.now.heap.size p.now w') := Lib.hid fun p => HD1.out _
          have HL2 : Hid (∀ p : Later w2, Calls Tryz.prog 5 #[.int .i64 t] p.now fun e w' => e = .returned (.string (str (digL t.toNat))) ∧ Below p.now.heap.size p.now w') := Lib.hid fun p => HD2.out _
          go_upto_region 10 with (fail)
          refine wp_region_later (by kernel_rfl) (by kernel_rfl) ?_
          repeat (go_big_quiet_step (first | (go_at_call 5; first | with_reducible exact Later.calls (HL1.out _) | with_reducible exact Later.calls (HL2.out _))))
          refine wpQuiet_nil ?_
          intro _ hw'
          obtain ⟨pq, hw''⟩ := hw'
          subst hw''
          have HB3 := Lib.hid (HB2.out.trans (pq.below.mono HB2.out.size))
          have HX3 := Lib.hid (HX2.out.below pq.below HX2.out.lt)
          generalize pq.now = w3 at *
          clear C0 C1 HL1 HL2 x0 x1 x2
          go_wp2_with (refine row_load rfl HX3.out Tryz.underlying23 rfl way_info rfl ?_)
          refine (HXT.out _ HB3.out).mono ?_
          rintro o w4 ⟨rfl, hb⟩
          have HB4 := Lib.hid (HB3.out.trans (hb.mono HB3.out.size))
          clear hb
          rw [want2 s t]
          have hq : ((str (txW 2 s t)).toList == (str (txW 2 s t)).toList) = true := by simp
          generalize txW 2 s t = L at *
          go_wp2
          go_ret
          exact ⟨rfl, HB4.out⟩
        · by_cases h3 : k = 3
          · subst h3
            go_wp2_with (fail)
            refine (HD1.out _).mono ?_
            rintro o w3 ⟨rfl, hb⟩
            have HB3 := Lib.hid (HB2.out.trans (hb.mono HB2.out.size))
            have HX3 := Lib.hid (HX2.out.below hb HX2.out.lt)
            clear hb
            go_wp2_with (refine row_load rfl HX3.out Tryz.underlying23 rfl way_info rfl ?_)
            refine (HXT.out _ HB3.out).mono ?_
            rintro o w4 ⟨rfl, hb⟩
            have HB4 := Lib.hid (HB3.out.trans (hb.mono HB3.out.size))
            clear hb
            rw [want3 s t]
            have hq : ((str (txW 3 s t)).toList == (str (txW 3 s t)).toList) = true := by simp
            generalize txW 3 s t = L at *
            go_wp2
            go_ret
            exact ⟨rfl, HB4.out⟩
          · have q1 : (k == 1) = false := by simpa using h1
            have q2 : (k == 2) = false := by simpa using h2
            have q3 : (k == 3) = false := by simpa using h3
            have HT0 : Hid (txW k s t = []) := Lib.hid (by unfold txW; rw [if_neg h1, if_neg h2, if_neg h3])
            have q0 : (str ([] : List UInt8)).toList.isEmpty = true := by rw [K.str_toList]; rfl
            clear h1 h2 h3
            go_wp2_with (refine row_load rfl HX2.out Tryz.underlying23 rfl way_info rfl ?_)
            refine (HXT.out _ HB2.out).mono ?_
            rintro o w4 ⟨rfl, hb⟩
            have HB4 := Lib.hid (HB2.out.trans (hb.mono HB2.out.size))
            clear hb
            rw [HT0.out]
            go_wp2
            go_ret
            exact ⟨rfl, HB4.out⟩
end Go.Proofs.YteoodompphhkbaaGreatDoor.Nod
