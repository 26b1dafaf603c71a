/-
  WHAT IS PROVED: arguments of type State open as numbers, a list that lies in memory, and a table; what a row's listed variables give a walk. No condition.
-/
import Derived.Test.YtmjbacmaafbdlaaGreatDoorAnchor
import Derived.Test.YtmjbacmaafbdlaaGreatDoorLaw
import Derived.Stop.LaidErr
import Derived.LaidMore
import Derived.MakeChecks
import Derived.Stop.Joined
import Derived.LaidHandle
import Derived.HandedShaped
import Derived.Shelf.Vars
namespace Go.Proofs.YtmjbacmaafbdlaaGreatDoor
set_option maxRecDepth 100000
open Go.RowKit Go.ChangeShapes Go.WideShapes Go.ChangeAt Go.WideElems C

theorem cells_kn : Tryz.prog.cellsOf 52 = 3 := by kernel_rfl
theorem cells_st : Tryz.prog.cellsOf 30 = 134 := by kernel_rfl
theorem cells_ep : Tryz.prog.cellsOf 24 = 3 := by kernel_rfl
theorem cells_ks : Tryz.prog.cellsOf 25 = 1 := by kernel_rfl
section
variable {H : Type} {enc : TypeId × Value → H}
theorem trod_struct5 {P : Program} {w : World} {base : Nat} {spare : Nat → Bool} {held : Bool} {t : TypeId} {f0 f1 f2 f3 f4 : Field} {fuel : Nat} {cs : List Value} {x : DataW H × List MemPlace} (ht : P.underlying t = some (.struct #[f0, f1, f2, f3, f4])) (h : DataW.trod enc P w base spare held fuel t cs = some x) :
    ∃ y0 y1 y2 y3 y4 n, cs.length = P.cellsOf t ∧ DataW.trod enc P w base spare held n f0.type ((cs.drop f0.offset).take (P.cellsOf f0.type)) = some y0 ∧
      DataW.trod enc P w base spare held n f1.type ((cs.drop f1.offset).take (P.cellsOf f1.type)) = some y1 ∧ DataW.trod enc P w base spare held n f2.type ((cs.drop f2.offset).take (P.cellsOf f2.type)) = some y2 ∧
      DataW.trod enc P w base spare held n f3.type ((cs.drop f3.offset).take (P.cellsOf f3.type)) = some y3 ∧ DataW.trod enc P w base spare held n f4.type ((cs.drop f4.offset).take (P.cellsOf f4.type)) = some y4 := by
  obtain ⟨xs, n, _, rfl, hl, hlen, hf⟩ := DataW.trod_struct ht h
  match xs, hlen with
  | [y0, y1, y2, y3, y4], _ => exact ⟨y0, y1, y2, y3, y4, n, hl, by simpa using hf 0 f0 rfl, by simpa using hf 1 f1 rfl, by simpa using hf 2 f2 rfl, by simpa using hf 3 f3 rfl, by simpa using hf 4 f4 rfl⟩
theorem open_tri {t : TypeId} {f0 f1 f2 : Field} (ht : Tryz.prog.underlying t = some (.struct #[f0, f1, f2])) (t0 : f0.type = 3) (t1 : f1.type = 3) (t2 : f2.type = 3) (o0 : f0.offset = 0) (o1 : f1.offset = 1) (o2 : f2.offset = 2) (hc : Tryz.prog.cellsOf t = 3) {W : World} {sp : Nat → Bool} {hd : Bool} {fuel : Nat} {cs : List Value} {x : DataW H × List MemPlace} (h : DataW.trod enc Tryz.prog W 0 sp hd fuel t cs = some x) :
    ∃ a b c : Int, cs = [.int .i64 a, .int .i64 b, .int .i64 c] := by
  obtain ⟨y0, y1, y2, m, _, hl, h0, h1, h2⟩ := Go.Deep.trod_struct3 ht h
  rw [hc] at hl
  rw [t0, o0, cells_int] at h0
  rw [t1, o1, cells_int] at h1
  rw [t2, o2, cells_int] at h2
  match cs, hl with
  | [a, b, c], _ =>
    obtain ⟨z0, e0, _, _⟩ := DataW.trod_int Tryz.underlying3 h0
    obtain ⟨z1, e1, _, _⟩ := DataW.trod_int Tryz.underlying3 h1
    obtain ⟨z2, e2, _, _⟩ := DataW.trod_int Tryz.underlying3 h2
    simp at e0 e1 e2
    subst e0; subst e1; subst e2
    exact ⟨z0, z1, z2, rfl⟩
theorem open_kns {W : World} {fuel : Nat} {cs : List Value} {x : DataW H × List MemPlace} (hf : DataW.trod enc Tryz.prog W 0 (fun _ => true) true fuel 25 cs = some x) :
    ∃ (A : Option Addr) (n cap : Nat) (l : List Kn), cs = [.slice A n cap] ∧ n ≤ cap ∧ cap ≤ 9223372036854775807 ∧ KnAt W A n l := by
  rcases Go.Deep.open_slice Tryz.underlying25 hf with ⟨hcs, _⟩ | ⟨a, len, cap, m, q, D, Pl, hcs, _, hl, hm, hmm, _, hx⟩
  · exact ⟨none, 0, 0, [], hcs, Nat.le_refl _, by omega, KnAt.nil_ _ _⟩
  · simp only [if_true] at hmm
    have each : ∀ i, i < len → ∃ s : Kn, W.cell? (a.add (i * 3)) = some (.int .i64 s.i) ∧ W.cell? (a.add (i * 3 + 1)) = some (.int .i64 s.m) ∧ W.cell? (a.add (i * 3 + 2)) = some (.int .i64 s.c) := fun i hi => by
      obtain ⟨cs', hc, hd⟩ := hx i (by omega)
      rw [cells_kn] at hc
      obtain ⟨z0, z1, z2, rfl⟩ := open_tri Tryz.underlying52 rfl rfl rfl rfl rfl rfl cells_kn hd
      obtain ⟨_, _, hcell⟩ := World.cells?_some hc
      have c0 := hcell 0 (by omega)
      have c1 := hcell 1 (by omega)
      have c2 := hcell 2 (by omega)
      rw [add_of_add] at c0 c1 c2
      exact ⟨⟨z0, z1, z2⟩, c0, c1, c2⟩
    have : Inhabited Kn := ⟨⟨0, 0, 0⟩⟩
    obtain ⟨g, hg⟩ := Go.Deep.choose_lt each
    refine ⟨some a, len, cap, (List.range len).map g, hcs, hl, hm, by simp, fun hn => ⟨a, rfl, ?_, fun i s hs => ?_⟩⟩
    · have := C.lt_of_cell (hg 0 hn).1
      rwa [block_of_add] at this
    · rw [List.getElem?_map] at hs
      cases hi : (List.range len)[i]? with
      | none => rw [hi] at hs; cases hs
      | some j =>
        rw [hi] at hs
        simp at hs
        have hil : i < len := by
          have := (List.getElem?_eq_some_iff.1 hi).1
          simpa using this
        have hj : j = i := by
          have := (List.getElem?_eq_some_iff.1 hi).2
          simp at this
          exact this.symm
        subst hj; subst hs
        exact hg j hil
theorem open_tabL {W : World} {sp : Nat → Bool} {hd : Bool} {fuel : Nat} {cs : List Value} {x : DataW H × List MemPlace} (hf : DataW.trod enc Tryz.prog W 0 sp hd fuel 28 cs = some x) : ∃ t : Tab, cs = tbL t := by
  obtain ⟨y0, y1, m, _, hl, h0, h1⟩ := Go.ChangeShapes.trod_struct2 Tryz.underlying28 hf
  rw [cells_tab] at hl
  simp only [cells_arr] at h0 h1
  obtain ⟨f, ef⟩ := open_arr h0
  obtain ⟨g, eg⟩ := open_arr h1
  refine ⟨⟨f, g⟩, ?_⟩
  show cs = row f ++ row g
  rw [← ef, ← eg, List.drop_zero, List.take_of_length_le (l := cs.drop 64) (by rw [List.length_drop, hl]; omega), List.take_append_drop]
/-- AN ARGUMENT OF TYPE State -/
theorem open_st {W : World} {r : Reach} {b0 : Nat} {v : Value} {d : DataW H} {p : List MemPlace}
    (hval : Value.okWide Tryz.prog W r b0 30 v) (h0 : DataW.Trod enc Tryz.prog W 0 (fun _ => true) true 30 v d p) :
    ∃ (dt : Dt) (A : Option Addr) (n cap : Nat), v = .agg (stv (mkS dt A n cap)) ∧ KnAt W A n dt.l ∧ n ≤ 9223372036854775807 := by
  obtain ⟨cs, rfl, _⟩ := okWide_struct Tryz.underlying30 hval
  obtain ⟨fuel, hf⟩ := h0
  obtain ⟨y0, y1, y2, y3, y4, m, hl, h0, h1, h2, h3, h4⟩ := trod_struct5 Tryz.underlying30 hf
  rw [cells_st] at hl
  simp only [cells_int, cells_ep, cells_ks, cells_tab] at h0 h1 h2 h3 h4
  obtain ⟨z0, e0, _, _⟩ := DataW.trod_int Tryz.underlying3 h0
  obtain ⟨z1, e1, _, _⟩ := DataW.trod_int Tryz.underlying3 h1
  obtain ⟨z2, z3, z4, e2⟩ := open_tri Tryz.underlying24 rfl rfl rfl rfl rfl rfl cells_ep h2
  obtain ⟨A, n, cap, l, e3, hnc, hcm, hk⟩ := open_kns h3
  obtain ⟨t, e4⟩ := open_tabL h4
  refine ⟨⟨z0, z1, z2, z3, z4, l, t⟩, A, n, cap, ?_, hk, by omega⟩
  have hlen : (Value.agg cs).cells.toList.length = 134 := hl
  have e : (Value.agg cs).cells.toList = stL (mkS ⟨z0, z1, z2, z3, z4, l, t⟩ A n cap) ++ tbL t := by
    generalize (Value.agg cs).cells.toList = L at *
    have s0 : L = L.take 1 ++ (((L.drop 1).take 1) ++ (((L.drop 2).take 3) ++ (((L.drop 5).take 1) ++ ((L.drop 6).take 128)))) := by
      have a1 := (List.take_append_drop 1 L).symm
      have a2 := (List.take_append_drop 1 (L.drop 1)).symm
      have a3 := (List.take_append_drop 3 (L.drop 2)).symm
      have a4 := (List.take_append_drop 1 (L.drop 5)).symm
      rw [List.drop_drop] at a2 a3 a4
      have a5 : (L.drop 6).take 128 = L.drop 6 := List.take_of_length_le (by rw [List.length_drop, hlen]; omega)
      rw [a5, ← a4, ← a3, ← a2, ← a1]
    rw [s0]
    simp only [List.drop_zero] at e0
    rw [e0, e1, e2, e3, e4]
    rfl
  simp only [Value.cells] at e
  show Value.agg cs = .agg (stL _ ++ tbL t).toArray
  rw [← e]
end

/-! ### what a row gives -/
theorem star_text : "*" ++ "errors.errorString" = "*errors.errorString" := by decide
theorem row_err (u : TypeId) (h : Tryz.prog.typeName? 3 u = some "*errors.errorString") : u = 162 :=
  typeName_ptr_named (nm := "errors.errorString") (by rw [star_text]; kernel_rfl) (by kernel_rfl) (by decide) u (by rw [star_text]; exact h)
theorem g_range : Tryz.prog.globalNamed "strconv.ErrRange" = some 3 := by kernel_rfl
theorem g_syn : Tryz.prog.globalNamed "strconv.ErrSyntax" = some 2 := by kernel_rfl
theorem t_range : (Tryz.prog.globals[3]?).map (·.type) = some 85 := by kernel_rfl
theorem t_syn : (Tryz.prog.globals[2]?).map (·.type) = some 85 := by kernel_rfl
theorem c_es : Tryz.prog.cellsOf 164 = 1 := by kernel_rfl
theorem c_str : Tryz.prog.cellsOf 9 = 1 := by kernel_rfl
/-- the list of this seat's rows -/
def laidL : List (String × DataW Unit) := Rows.confParsesRow.laid
theorem env_of_laid {W : World} (h : laidMetH Tryz.prog laidL W) (hs : W.ShapedOpen Tryz.prog) : Env W := by
  rw [MakeChecks.laidMetH_plain _ _ _ (by kernel_rfl)] at h
  have h2 := laidMet.tail (laidMet.tail h)
  have h3 := laidMet.tail h2
  have h4 := laidMet.tail h3
  obtain ⟨a0, s0, hv0, _⟩ := laid_sentinel h3 g_range t_range Tryz.underlying85 row_err Tryz.underlying162 Tryz.underlying164 rfl rfl Tryz.underlying9 c_es c_str
  obtain ⟨a1, s1, hv1, _⟩ := laid_sentinel h4 g_syn t_syn Tryz.underlying85 row_err Tryz.underlying162 Tryz.underlying164 rfl rfl Tryz.underlying9 c_es c_str
  have e1 : W.cell? ⟨2, 0, none⟩ = some (.iface 162 (.pointer (some a1))) := by simpa using World.var?_cell g_syn hv1 0
  have e0 : W.cell? ⟨3, 0, none⟩ = some (.iface 162 (.pointer (some a0))) := by simpa using World.var?_cell g_range hv0 0
  refine ⟨⟨⟨_, _, e1⟩, _, _, e0⟩, ?_, ?_⟩
  · exact Lib.tabIs_of_head (k := .u64) (zs := Lib.pow10Tab) g_pow (t := 150) (e := 56) (n := 20) (by kernel_rfl) Tryz.underlying150 Tryz.underlying56 (by kernel_rfl) (by kernel_rfl) h2
  · exact cell_of_shapedOpen_int (t := 3) (zero := #[.int .i64 0]) hs (of_decide_eq_true (by kernel_rfl)) (by kernel_rfl) rfl (by kernel_rfl) (by kernel_rfl) Tryz.underlying3
theorem door_met (os : Os) (args : Array Value) : laidMetH Tryz.prog laidL ((World.doorLaid Tryz.prog 400 os).forCall (fun _ _ => 0) ⟨#[], args, []⟩).memory :=
  laidMetH_of_parts3 (fuel := 8) (laidMet_of_run' 8 (by kernel_rfl) (by kernel_rfl)) (by kernel_rfl) (by kernel_rfl)

/-- a law's walk, with what the row lists and the shape of the world, to the row's form -/
theorem returns_shaped_and {H : Type} {enc : TypeId × Value → H} {a : Assume} {C : Checked} {os : Os} {f : FuncId} {fn : Func} {s : ChangeSpec} {conds : List PathCond} {apart fresh handsOn again : Bool} {X : World → Array Value → Prop}
    (hX : ∀ (w w' : World) (args : Array Value), w.heap = w'.heap → X w args → X w' args)
    (own : ownKnob C.prog.godebug = none) (started : os.Started) (noInit : C.prog.inits.idxOf? f = none) (hfn : C.prog.funcs[f]? = some fn)
    (witness : ∃ (w : World) (tape : Tape) (i : Input), w.os = os ∧ (w.forCall tape i).Shaped C.prog ∧ i.vars = [] ∧ Input.okWide C.prog (w.forCall tape i) .any w.heap.size f i ∧
      ((s.pre enc C.prog fn conds apart (w.forCall tape i).memory i.args ∧ X (w.forCall tape i).memory i.args) ∧ sizedMet enc C.prog fn (OpenSpec.ofChange s) apart (w.forCall tape i).memory i.args) ∧ a.holds C.prog (lone (Frame.enter C.prog f i.args .normal) [] (w.forCall tape i)))
    (contract : ∀ (W : World) (base : Nat) (args : Array Value) (ds gs : List (DataW H)) (before : List MemPlace),
      (∀ (j : Nat) t v, fn.params[j]? = some t → args[j]? = some v → Value.okWide C.prog W .any base t v) →
      DataW.Whole enc C.prog fn.params.toList s.vars apart W args.toList ds gs before → X W args → W.ShapedOpen C.prog →
      Calls C.prog f args W fun e W' => ∃ v, e = .returned v ∧ s.post enc C.prog fn apart fresh handsOn again W args v W') :
    ReturnsInHanded a C os f .any (fun w args => (s.pre enc C.prog fn conds apart w args ∧ X w args) ∧ sizedMet enc C.prog fn (OpenSpec.ofChange s) apart w args) (s.post enc C.prog fn apart fresh handsOn again) := by
  refine returnsInHanded_of_calls own started noInit witness ?_
  intro w tape i _ hsh _ hok hpre _
  obtain ⟨_, _, _, fn', hfn', _, _, _, _, hval⟩ := hok
  have e : fn' = fn := Option.some.inj (hfn'.symm.trans hfn)
  subst e
  obtain ⟨⟨⟨ds, gs, before, hw, _⟩, hx⟩, _⟩ := hpre
  refine (contract (w.forCall tape i) w.heap.size i.args ds gs before hval (DataW.Whole.of_heap (w' := w.forCall tape i) (by rfl) hw) (hX _ _ _ (by rfl) hx) hsh).mono fun e W' ⟨v, he, hp⟩ => ?_
  subst he
  exact ChangeSpec.post_blind hp
end Go.Proofs.YtmjbacmaafbdlaaGreatDoor
