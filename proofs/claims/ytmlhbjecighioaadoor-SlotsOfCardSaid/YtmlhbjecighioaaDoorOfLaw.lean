/-
  WHAT IS PROVED: the walk of the law SlotsOf. Condition: strconv's errors hold errors.
-/
import Derived.Test.YtmlhbjecighioaaDoorInts
import Derived.Test.YtmlhbjecighioaaDoorRefText
namespace Go.Proofs.YtmlhbjecighioaaDoor
open Go.RowKit

theorem run_index_fl (s k : Nat) (hk : k < 64) (w : World) : (Instr.index 24 (.agg (fl s)) (.int .i64 (k : Int))).run Tryd.prog w = .ok (.bool (s.testBit k)) w := by
  have hf := fl_at s hk
  simp [Instr.index, run_underlying Tryd.underlying24, asIntOf, go_sem, hk]
  rw [hf]; rfl

theorem slots_prefix (s k : Nat) : ∀ d, ∃ r, slotsTo s (k + d) = slotsTo s k ++ r
  | 0 => ⟨[], by simp⟩
  | d + 1 => by
    obtain ⟨r, hr⟩ := slots_prefix s k d
    rw [← Nat.add_assoc]
    cases e : s.testBit (k + d) with
    | true => exact ⟨r ++ [k + d], by rw [slotsTo_yes e, hr, List.append_assoc]⟩
    | false => exact ⟨r, by rw [slotsTo_no e, hr]⟩
theorem slots_at {s k : Nat} (hk : k < 64) (h : s.testBit k = true) : (slotsTo s 64)[(slotsTo s k).length]? = some k := by
  obtain ⟨r, hr⟩ := slots_prefix s (k + 1) (64 - (k + 1))
  rw [show k + 1 + (64 - (k + 1)) = 64 by omega, slotsTo_yes h] at hr
  rw [hr, List.append_assoc]
  simp

theorem fl_add (s : Nat) {j : Nat} (hj : j < 64) : (fl s).setIfInBounds j (.bool true) = fl (s ||| spanN j j) :=
  fl_set hj (by rw [Nat.testBit_or, span_bit hj]; simp) (fun i hi => by
    rw [Nat.testBit_or, span_bit hj]
    have : ¬ (j ≤ i ∧ i ≤ j) := by omega
    simp [this])

theorem wpList_load_want {P : Program} {ops : Array Oper} {rest : List Oper} {o : Oper} {a : Act} {w : World} {Q : Exit → Act → World → Prop} (hw : Region.wanted o (yielded ops a.tmps) = true) (ty : TypeId) (x : Operand) (ho : o.op = .load ty x)
    (g : Nat) (hx : a.eval x = .pointer (some ⟨g, 0, none⟩)) (t : TypeId) (cs : Array Value) (fr : Nat × Nat) (d : TypeDesc) (hg : w.heap[g]? = some (.cells cs t fr))
    (hu : P.underlying ty = some d) (hd : (match d with | .struct _ | .array _ _ => true | _ => false) = true) (hi : (P.info? ty).map (·.size) = some cs.size)
    (h : wpList P ops Q rest (a.put o.dst (.agg cs)) w) : wpList P ops Q (o :: rest) a w :=
  BigFrame.wpList_want hw fun _ hK => wp_load_row ty x ho g hx t cs fr d hg hu hd hi (hK _ _ h)
theorem fl_info (s : Nat) : (Tryd.prog.info? 24).map (·.size) = some (fl s).size := by rw [fl_size]; exact arr_size

/-- what is behind the first loop -/
def Marked (w : World) (g n : Nat) (zs : List Int) (k : Nat) (wr : World) : Prop :=
  k ≤ n ∧ allSlots (zs.take k) = true ∧ Below w.heap.size w wr ∧ w.heap.size ≤ g ∧ Blk wr g 24 (fl (ofSet (zs.take k)))

set_option maxRecDepth 100000 in
set_option maxHeartbeats 4000000 in
theorem of_in (A : Option Addr) (n c : Nat) (zs : List Int) (ask : Int) (w : World) (hE : Errs w) (hn : n ≤ 200) (hr : Reads w w.heap.size A n (zints zs)) :
    Calls Tryd.prog 3 #[.slice A n c, .int .i64 ask] w (Says true w) := by
  have hlen : zs.length = n := by have := hr.1; simpa [zints] using this
  have HL := Lib.hid hlen
  clear hlen
  have d0 : decide (200 < (n : Int)) = false := by rw [decide_eq_false_iff_not]; omega
  go_enter Tryd.func3, Tryd.ntmps3
  go_wp2_with (fail)
  refine (anchor_any w hE).mono ?_
  rintro e w1 ⟨rfl, hb1⟩
  go_wp2_with (fail)
  go_loopw [6, 23] (fun x i wr => x = .bool true ∧ ∃ k : Nat, i = .int .i64 k ∧ Marked w w1.heap.size n zs k wr) (fun _ i _ => n - (intOf i).toNat)
  case atStart => exact ⟨rfl, 0, rfl, by omega, rfl, hb1.alloc hb1.size _, hb1.size, blk_new rfl (by kernel_rfl)⟩
  case round =>
    obtain ⟨rfl, k, rfl, hk, hall, hb, hg, hB⟩ := hrel
    generalize w1.heap.size = g at *
    by_cases hlt : k < n
    · obtain ⟨ad, u, rfl, hu, hc⟩ := (hr.old hb (g := w.heap.size) (Nat.le_refl _)).at_ hlt
      obtain ⟨z, hz, rfl⟩ := zints_at hu
      have HT := Lib.hid (takeZ_snoc hz)
      have HA := Lib.hid hall
      clear hu hall
      by_cases hs : 0 ≤ z ∧ z < 64
      · obtain ⟨j, rfl⟩ := Int.eq_ofNat_of_zero_le hs.1
        have hj : j < 64 := by omega
        have hj0 : (0 : Int) ≤ j := by omega
        have hj1 : (j : Int) < 64 := by omega
        have HX : Hid (ofSet (zs.take (k + 1)) = ofSet (zs.take k) ||| spanN j j) := by show _ = _; rw [HT.out, ofSet_snoc]; rfl
        have HA2 : Hid (allSlots (zs.take (k + 1)) = true) := by
          have ha := HA.out
          show _ = _; rw [HT.out]; unfold allSlots at ha ⊢; rw [List.all_append, ha]; simp [slotB_yes hj0 hj1]
        have hcf : wr.cell? ⟨g, j, none⟩ = some (.bool ((ofSet (zs.take k)).testBit j)) := (hB.cell j).trans (fl_at _ hj)
        have hff := hB.frozen j
        have HB : Hid (Blk (wr.setCell ⟨g, j, none⟩ (.bool true)) g 24 (fl (ofSet (zs.take (k + 1))))) := by
          show Blk _ _ _ _
          rw [HX.out, ← fl_add _ hj]
          exact hB.set_ j _
        clear hs hz hB
        go_wp2
        go_roundw
        case rel => exact ⟨rfl, k + 1, by go_num, by omega, HA2.out, hb.setCell (p := ⟨g, j, none⟩) hg _, hg, HB.out⟩
        case measure => simp [intOf]; omega
      · have HX : Hid (ofP zs = (0, 20)) := by
          show _ = _
          unfold ofP
          rw [if_neg]
          intro ha
          unfold allSlots at ha
          rw [List.all_eq_true] at ha
          have := ha z (List.mem_of_getElem? hz)
          rw [slotB_no (by omega)] at this; cases this
        have hout : z < 0 ∨ (0 ≤ z ∧ 63 < z) := by omega
        clear hs hz hB
        rcases hout with hout | ⟨hout0, hout⟩
        all_goals
          go_wp2_with (fail)
          refine (of_any (some ad) n c zs w.heap.size _ (by omega) (hr.old hb (Nat.le_refl _))).mono ?_
          rintro e w2 ⟨rfl, m, rfl⟩
          rw [HX.out]
          go_wp2
          go_ret
          exact ⟨rfl, below_drewN hb m⟩
    · obtain rfl : k = n := by omega
      have ht : zs.take k = zs := List.take_of_length_le (by rw [HL.out]; exact Nat.le_refl _)
      rw [ht] at hall hB
      have HX : Hid (ofP zs = (ofSet zs, 0)) := by show _ = _; unfold ofP; rw [if_pos hall]
      have hSl := ofSet_lt zs
      clear ht hall
      go_wp2_with (fail)
      refine (of_any A k c zs w.heap.size _ (by omega) (hr.old hb (Nat.le_refl _))).mono ?_
      rintro e w2 ⟨rfl, m, rfl⟩
      rw [HX.out]
      have hb2 := below_drewN hb m
      have hB2 : Blk (wr.drewN m) g 24 (fl (ofSet zs)) := hB
      generalize wr.drewN m = w2 at *
      clear hb hB hr HX HL
      generalize ofSet zs = S at *
      have hgl := hB2.lt
      have hH : w2.heap[g]? = some (.cells (fl S) 24 (0, 0)) := hB2
      have HI := Lib.hid (fl_info S)
      have HR : Hid (∀ W, Calls Tryd.prog 12 #[.agg (fl S)] W fun e w' => e = .returned (.int .u64 (S : Int)) ∧ Below W.heap.size W w') := fun W => refset_any S hSl W
      have HLi : Hid (∀ W, Calls Tryd.prog 14 #[.int .u64 (S : Int)] W (Listed (slotsTo S 64) W)) := fun W => list_any S hSl W
      have HXi : Hid (∀ q : Nat, q < 64 → ∀ W, (Instr.index 24 (.agg (fl S)) (.int .i64 (q : Int))).run Tryd.prog W = .ok (.bool (S.testBit q)) W) := fun q hq W => run_index_fl S q hq W
      have HAt : Hid (∀ q, q < 64 → S.testBit q = true → (slotsTo S 64)[(slotsTo S q).length]? = some q) := fun q hq h => slots_at hq h
      have hask : (∃ a : Nat, ask = a ∧ a < 64) ∨ ask < 0 ∨ (0 ≤ ask ∧ 64 ≤ ask) := by
        by_cases h : 0 ≤ ask ∧ ask < 64
        · exact .inl ⟨ask.toNat, by omega, by omega⟩
        · omega
      have hcase : ∃ b : Bool, hasB S ask = b ∧ ((∃ a : Nat, ask = a ∧ (a : Int) < 64 ∧ (0 : Int) ≤ a ∧ w2.cell? ⟨g, a, none⟩ = some (.bool b)) ∨ (b = false ∧ (decide (0 ≤ ask) = false ∨ (0 ≤ ask ∧ decide (ask < 64) = false)))) := by
        rcases hask with ⟨a, rfl, ha⟩ | h | h
        · exact ⟨S.testBit a, has_at ha, .inl ⟨a, rfl, by omega, by omega, (hB2.cell a).trans (fl_at _ ha)⟩⟩
        · exact ⟨false, has_out (.inl h), .inr ⟨rfl, .inl (by rw [decide_eq_false_iff_not]; omega)⟩⟩
        · exact ⟨false, has_out (.inr h.2), .inr ⟨rfl, .inr ⟨h.1, by rw [decide_eq_false_iff_not]; omega⟩⟩⟩
      clear hask
      obtain ⟨b, hHb, hcase⟩ := hcase
      have HH := Lib.hid hHb
      clear hHb
      rcases hcase with ⟨a, rfl, ha1, ha0, hca⟩ | ⟨rfl, h | ⟨h0, h⟩⟩
      all_goals
        go_wp2_with (refine wpList_load_want rfl 24 (.tmp 5) rfl g rfl 24 (fl S) (0, 0) _ hH Tryd.underlying24 rfl HI.out ?_)
        refine (HR.out _).mono ?_
        rintro e w3 ⟨rfl, hb3⟩
        have hb3' := hb2.trans (hb3.mono hb2.size)
        have hB3 := hB2.below hb3 hgl
        have hgl3 := hB3.lt
        clear hb3 hB2 hH hb2
        go_wp2_with (fail)
        refine (has_any S hSl _ _).mono ?_
        rintro e w4 ⟨rfl, rfl⟩
        rw [HH.out]
        go_wp2_with (fail)
        refine (HLi.out _).mono ?_
        rintro e w5 ⟨hb5, B, d, rfl, hd, hdm, hrd⟩
        have hb5' := hb3'.trans (hb5.mono hb3'.size)
        have hB5 := hB3.below hb5 hgl3
        have hr5 := hrd w5.heap.size (.inl (Nat.le_refl _))
        have hH5 : w5.heap[g]? = some (.cells (fl S) 24 (0, 0)) := hB5
        clear hb5 hB3 hb3' hrd
        go_wp2_with (refine wpList_load_want rfl 24 (.tmp 5) rfl g rfl 24 (fl S) (0, 0) _ hH5 Tryd.underlying24 rfl HI.out ?_)
        go_loop [12, 77] (fun x i => ∃ q : Nat, q ≤ 64 ∧ i = .int .i64 q ∧ x = .int .i64 ((slotsTo S q).length : Nat)) (fun _ i => 64 - (intOf i).toNat)
        case atStart => exact ⟨0, by omega, rfl, rfl⟩
        case round =>
          obtain ⟨q, hq, rfl, rfl⟩ := hrel
          have hsl := slotsTo_le S q
          by_cases hq64 : q < 64
          · have hix := HXi.out q hq64 w5
            by_cases hbit : S.testBit q = true
            · have hat := HAt.out q hq64 hbit
              have HS : Hid ((slotsTo S (q + 1)).length = (slotsTo S q).length + 1) := by show _ = _; rw [slotsTo_yes hbit]; simp
              have hlt2 : (slotsTo S q).length < (slotsTo S 64).length := by
                rcases Nat.lt_or_ge (slotsTo S q).length (slotsTo S 64).length with h' | h'
                · exact h'
                · rw [List.getElem?_eq_none h'] at hat; cases hat
              obtain ⟨ad5, u5, hB5e, hu5, hc5⟩ := hr5.at_ hlt2
              have hu6 : u5 = .int .i64 (q : Nat) := by
                unfold ints at hu5
                rw [List.getElem?_map, hat] at hu5
                injection hu5 with hu5
                exact hu5.symm
              subst hu6
              subst hB5e
              rw [hbit] at hix
              have d2 : decide ((slotsTo S 64).length ≤ (slotsTo S q).length) = false := by rw [decide_eq_false_iff_not]; omega
              have hi1 : ((slotsTo S q).length : Int) < (slotsTo S 64).length := by omega
              clear hat hu5 hbit
              generalize (slotsTo S q).length = p at *
              generalize (slotsTo S 64).length = P at *
              go_wp2
              go_round
              case rel => exact ⟨q + 1, by omega, by go_num, by rw [HS.out]; go_num⟩
              case measure => simp [intOf]; omega
            · have hbit' : S.testBit q = false := by simpa using hbit
              have HS : Hid ((slotsTo S (q + 1)).length = (slotsTo S q).length) := by show _ = _; rw [slotsTo_no hbit']
              rw [hbit'] at hix
              clear hbit hbit'
              generalize (slotsTo S q).length = p at *
              go_wp2
              go_round
              case rel => exact ⟨q + 1, by omega, by go_num, by rw [HS.out]⟩
              case measure => simp [intOf]; omega
          · obtain rfl : q = 64 := by omega
            go_wp2
            go_ret
            exact ⟨by simp, hb5'⟩

set_option maxRecDepth 100000 in
set_option maxHeartbeats 1000000 in
theorem of_walk (A : Option Addr) (n c : Nat) (zs : List Int) (ask : Int) (w : World) (hE : Errs w) (hr : ∀ g, w.heap.size ≤ g → Reads w g A n (zints zs)) :
    Calls Tryd.prog 3 #[.slice A n c, .int .i64 ask] w (Says true w) := by
  by_cases h : n ≤ 200
  · exact of_in A n c zs ask w hE h (hr _ (Nat.le_refl _))
  · have h3 : (200 : Int) < n := by omega
    go_enter Tryd.func3, Tryd.ntmps3
    go_wp2_with (fail)
    refine (anchor_any w hE).mono ?_
    rintro e w1 ⟨rfl, hb1⟩
    go_wp2
    go_ret
    exact ⟨rfl, hb1⟩
end Go.Proofs.YtmlhbjecighioaaDoor
