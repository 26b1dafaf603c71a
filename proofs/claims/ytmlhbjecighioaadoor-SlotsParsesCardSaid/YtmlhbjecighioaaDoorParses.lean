/-
  WHAT IS PROVED: the walk of the law SlotsParses. Condition: strconv's errors hold errors.
-/
import Derived.Test.YtmlhbjecighioaaDoorLaid
import Derived.Test.YtmlhbjecighioaaDoorRefParse
namespace Go.Proofs.YtmlhbjecighioaaDoor
open Go.RowKit

theorem wpList_load_want {P : Program} {ops : Array Oper} {rest : List Oper} {o : Oper} {a : Act} {w : World} {Q : Exit → Act → World → Prop} (hw : Region.wanted o (yielded ops a.tmps) = true) (ty : TypeId) (x : Operand) (ho : o.op = .load ty x)
    (g : Nat) (hx : a.eval x = .pointer (some ⟨g, 0, none⟩)) (t : TypeId) (cs : Array Value) (fr : Nat × Nat) (d : TypeDesc) (hg : w.heap[g]? = some (.cells cs t fr))
    (hu : P.underlying ty = some d) (hd : (match d with | .struct _ | .array _ _ => true | _ => false) = true) (hi : (P.info? ty).map (·.size) = some cs.size)
    (h : wpList P ops Q rest (a.put o.dst (.agg cs)) w) : wpList P ops Q (o :: rest) a w :=
  BigFrame.wpList_want hw fun _ hK => wp_load_row ty x ho g hx t cs fr d hg hu hd hi (hK _ _ h)

/-- a variable of its own, and the flags laid there -/
theorem own_flags {w w3 : World} (C lit : Array Value) (hb : Below w.heap.size w w3) :
    ((w3.alloc (.cells lit 24)).setRow w3.heap.size C).heap[w3.heap.size]? = some (.cells C 24 (0, 0)) ∧ Below w.heap.size w ((w3.alloc (.cells lit 24)).setRow w3.heap.size C) :=
  ⟨setRow_heap _ _ lit C _ _ (heap_alloc_new _ _), below_setRow (hb.alloc hb.size _) hb.size C⟩

set_option maxRecDepth 100000 in
set_option maxHeartbeats 4000000 in
theorem parses_in (t : List UInt8) (ht : t.length ≤ 400) (w : World) (hE : Errs w) : Calls Tryd.prog 5 #[.string (str t)] w (Says true w) := by
  have hz : (str t).size ≤ 400 := ht
  have hR := fun W : World => refparse_any t (by omega) W
  unfold RefPost at hR
  have HR := Lib.hid hR
  clear hR
  have HS := Lib.hid (fl_info2 (refSet t))
  have HO : Hid (∀ X : Array Value, X.size = 64 → X.size = (fl (refSet t)).size) := fun X hX => by rw [hX, fl_size]
  have HC := Lib.hid (fl_cells (refSet t))
  have hSl := refSet_lt t
  have HRS : Hid (∀ W, Calls Tryd.prog 12 #[.agg (fl (refSet t))] W fun e w' => e = .returned (.int .u64 (refSet t : Nat)) ∧ Below W.heap.size W w') := fun W => refset_any _ hSl W
  have HTx : Hid (∀ W, Calls Tryd.prog 16 #[.int .u64 (refSet t : Nat)] W fun e w' => e = .returned (.string (str (txt (refSet t)))) ∧ Below W.heap.size W w') := fun W => text_any _ hSl W
  have hcase : ((refParse t).isSome = false ∧ parseP t = (0, 60)) ∨ ((refParse t).isSome = true ∧ parseP t = (refSet t, 0) ∧ txt (refSet t) = t) := by
    cases hp : refParse t with
    | none => exact .inl ⟨rfl, parse_none hp⟩
    | some L =>
      have := parse_some hp
      rw [refSet_some hp]
      exact .inr ⟨rfl, this⟩
  generalize (refParse t).isSome = ok at *
  generalize hCe : fl (refSet t) = C at *
  generalize refSet t = S at *
  clear hCe
  rcases hcase with ⟨rfl, hp⟩ | ⟨rfl, hp, htx⟩
  · have HP := Lib.hid hp
    clear hp HTx HRS
    go_enter Tryd.func5, Tryd.ntmps5
    go_wp2_with (fail)
    refine (anchor_any w hE).mono ?_
    rintro e w1 ⟨rfl, hb1⟩
    go_wp2_with (fail)
    refine (parse_any t (by omega) w1 (hE.below hb1)).mono ?_
    rintro e w2 ⟨rfl, hb2⟩
    rw [HP.out]
    have hb2' := hb1.trans (hb2.mono hb1.size)
    clear hb1 hb2
    go_wp2_with (fail)
    refine (HR.out w2).mono ?_
    rintro e w3 ⟨rfl, hb3⟩
    have hb3' := hb2'.trans (hb3.mono hb2'.size)
    have HX := Lib.hid (fun lit => own_flags C lit hb3')
    clear hb2' hb3
    go_wp2_with (refine wpList_store_row rfl 24 (.tmp 5) (.tmp 20) rfl w3.heap.size C rfl rfl 24 _ (heap_alloc_new _ _) HS.out (HO.out _ rfl) HC.out ?_)
    go_ret
    exact ⟨rfl, (HX.out _).2⟩
  · have HP := Lib.hid hp
    rw [htx] at HTx
    clear hp htx
    have k1 : ((str t).toList == (str t).toList) = true := by simp
    go_enter Tryd.func5, Tryd.ntmps5
    go_wp2_with (fail)
    refine (anchor_any w hE).mono ?_
    rintro e w1 ⟨rfl, hb1⟩
    go_wp2_with (fail)
    refine (parse_any t (by omega) w1 (hE.below hb1)).mono ?_
    rintro e w2 ⟨rfl, hb2⟩
    rw [HP.out]
    have hb2' := hb1.trans (hb2.mono hb1.size)
    clear hb1 hb2
    go_wp2_with (fail)
    refine (HR.out w2).mono ?_
    rintro e w3 ⟨rfl, hb3⟩
    have hb3' := hb2'.trans (hb3.mono hb2'.size)
    have HX := Lib.hid (fun lit => own_flags C lit hb3')
    clear hb2' hb3
    go_wp2_with (first | (refine wpList_store_row rfl 24 (.tmp 5) (.tmp 20) rfl w3.heap.size C rfl rfl 24 _ (heap_alloc_new _ _) HS.out (HO.out _ rfl) HC.out ?_) | (refine wpList_load_want rfl 24 (.tmp 5) rfl w3.heap.size rfl 24 C (0, 0) _ (HX.out _).1 Tryd.underlying24 rfl HS.out ?_))
    refine (HRS.out _).mono ?_
    rintro e w4 ⟨rfl, hb4⟩
    have hb4' : Below w.heap.size w w4 := (HX.out _).2.trans (hb4.mono (HX.out _).2.size)
    clear hb4 HX
    go_wp2_with (fail)
    refine (HTx.out _).mono ?_
    rintro e w5 ⟨rfl, hb5⟩
    have hb5' := hb4'.trans (hb5.mono hb4'.size)
    clear hb4' hb5
    go_wp2
    go_ret
    exact ⟨by simp, hb5'⟩

set_option maxRecDepth 100000 in
set_option maxHeartbeats 1000000 in
theorem parses_walk (t : List UInt8) (w : World) (hE : Errs w) (ht : t.length ≤ 9223372036854775807) : Calls Tryd.prog 5 #[.string (str t)] w (Says true w) := by
  by_cases h : t.length ≤ 400
  · exact parses_in t h w hE
  · have h3 : (400 : Int) < (str t).size := by rw [str_size]; omega
    have h4 : (str t).size ≤ 9223372036854775807 := ht
    go_enter Tryd.func5, Tryd.ntmps5
    go_wp2_with (fail)
    refine (anchor_any w hE).mono ?_
    rintro e w1 ⟨rfl, hb1⟩
    go_wp2
    go_ret
    exact ⟨rfl, hb1⟩
end Go.Proofs.YtmlhbjecighioaaDoor
