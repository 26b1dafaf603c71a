/-
  WHAT IS PROVED: arguments that are lines or lists of bools open as what they hold, a key no longer than the form's own reach; what a row's listed variables give a walk. No condition.
-/
import Derived.Test.YtogaaomedfpdnaaDoorEv
import Derived.Test.YtogaaomedfpdnaaDoorLCases
import Derived.Test.YtogaaomedfpdnaaDoorLaw
import Derived.Stop.LaidErr
import Derived.LaidMore
import Derived.MakeChecks
import Derived.Stop.Joined
import Derived.LaidHandle
import Derived.HandedShaped
import Derived.Shelf.Vars
import Derived.Lib.LaidTab
import Derived.Deep.Strs
namespace Go.Proofs.YtogaaomedfpdnaaDoor
set_option maxRecDepth 100000
open Go.RowKit Go.ChangeShapes Go.WideShapes Go.ChangeAt Go.WideElems

theorem cells_ln : Tryd.prog.cellsOf 26 = 4 := by kernel_rfl
theorem cells_fw : Tryd.prog.cellsOf 48 = 3 := by kernel_rfl
theorem cells_int : Tryd.prog.cellsOf 3 = 1 := by kernel_rfl
theorem cells_str : Tryd.prog.cellsOf 9 = 1 := by kernel_rfl
theorem cells_set : Tryd.prog.cellsOf 24 = 1 := by kernel_rfl
theorem cells_bool : Tryd.prog.cellsOf 4 = 1 := by kernel_rfl
section
variable {H : Type} {enc : TypeId × Value → H}
theorem trod_struct4 {P : Program} {w : World} {base : Nat} {spare : Nat → Bool} {held : Bool} {t : TypeId} {f0 f1 f2 f3 : Field} {fuel : Nat} {cs : List Value} {x : DataW H × List MemPlace} (ht : P.underlying t = some (.struct #[f0, f1, f2, f3])) (h : DataW.trod enc P w base spare held fuel t cs = some x) :
    ∃ y0 y1 y2 y3 n, x.1 = .agg [y0.1, y1.1, y2.1, y3.1] ∧ cs.length = P.cellsOf t ∧ DataW.trod enc P w base spare held n f0.type ((cs.drop f0.offset).take (P.cellsOf f0.type)) = some y0 ∧
      DataW.trod enc P w base spare held n f1.type ((cs.drop f1.offset).take (P.cellsOf f1.type)) = some y1 ∧ DataW.trod enc P w base spare held n f2.type ((cs.drop f2.offset).take (P.cellsOf f2.type)) = some y2 ∧
      DataW.trod enc P w base spare held n f3.type ((cs.drop f3.offset).take (P.cellsOf f3.type)) = some y3 := by
  obtain ⟨xs, n, _, rfl, hl, hlen, hf⟩ := DataW.trod_struct ht h
  match xs, hlen with
  | [y0, y1, y2, y3], _ => exact ⟨y0, y1, y2, y3, n, by simp, hl, by simpa using hf 0 f0 rfl, by simpa using hf 1 f1 rfl, by simpa using hf 2 f2 rfl, by simpa using hf 3 f3 rfl⟩
def lnD (l : Ln) : DataW H := .agg [.lit (.int .i64 l.k), .lit (.int .i64 l.i), .lit (.int .u64 (l.s : Int)), .lit (.string l.y)]
theorem ln_weight (l : Ln) : (lnD l : DataW H).weights Tryd.prog 26 = [l.y.length] := by
  unfold lnD
  simp [DataW.weights, DataW.weightsEach, Tryd.underlying26]
/-- AN ARGUMENT OF TYPE Line -/
theorem open_ln {W : World} {r : Reach} {b0 : Nat} {v : Value} {d : DataW H} {p : List MemPlace}
    (hval : Value.okWide Tryd.prog W r b0 26 v) (h0 : DataW.Trod enc Tryd.prog W 0 (fun _ => true) true 26 v d p) :
    ∃ l : Ln, v = .agg (lnA l) ∧ d = lnD l ∧ -9223372036854775808 ≤ l.i ∧ l.i ≤ 9223372036854775807 ∧ l.s < 18446744073709551616 := by
  obtain ⟨cs, rfl, _⟩ := okWide_struct Tryd.underlying26 hval
  obtain ⟨fuel, hf⟩ := h0
  obtain ⟨y0, y1, y2, y3, m, hd, hl, h0, h1, h2, h3⟩ := trod_struct4 Tryd.underlying26 hf
  rw [cells_ln] at hl
  simp only [cells_int, cells_set, cells_str] at h0 h1 h2 h3
  obtain ⟨z0, e0, rfl, _⟩ := DataW.trod_int Tryd.underlying3 h0
  obtain ⟨z1, e1, rfl, b1⟩ := DataW.trod_int Tryd.underlying3 h1
  obtain ⟨z2, e2, rfl, b2⟩ := DataW.trod_int Tryd.underlying24 h2
  obtain ⟨s3, e3, rfl, _⟩ := DataW.trod_string Tryd.underlying9 h3
  have hb1 := bounds_i64 b1
  have hb2 := bounds_u64 b2
  have hz2 : ((z2.toNat : Nat) : Int) = z2 := Int.toNat_of_nonneg hb2.1
  refine ⟨⟨z0, z1, z2.toNat, s3.data.toList⟩, ?_, ?_, hb1.1, hb1.2, by show z2.toNat < _; omega⟩
  · have e : (Value.agg cs).cells.toList = [.int .i64 z0, .int .i64 z1, .int .u64 z2, .string s3] := by
      generalize (Value.agg cs).cells.toList = L at *
      match L, hl with
      | [a, b, c, d], _ =>
        simp at e0 e1 e2 e3
        rw [e0, e1, e2, e3]
    simp only [Value.cells] at e
    show Value.agg cs = .agg #[.int .i64 z0, .int .i64 z1, .int .u64 ((z2.toNat : Nat) : Int), .string (str s3.data.toList)]
    rw [hz2, ← str_data, show cs = cs.toList.toArray by simp, e]
  · show d = .agg [.lit (.int .i64 z0), .lit (.int .i64 z1), .lit (.int .u64 ((z2.toNat : Nat) : Int)), .lit (.string s3.data.toList)]
    rw [hz2]
    exact hd
def ArgB (W : World) (A : Option Addr) (n : Nat) (l : List Bool) : Prop := ∀ g, W.heap.size ≤ g → Reads W g A n (bools l)
/-- AN ARGUMENT OF TYPE []bool -/
theorem open_bools {W : World} {r : Reach} {b0 : Nat} {v : Value} {d : DataW H} {p : List MemPlace}
    (hval : Value.okWide Tryd.prog W r b0 41 v) (h0 : DataW.Trod enc Tryd.prog W 0 (fun _ => true) true 41 v d p) :
    ∃ (A : Option Addr) (n cap : Nat) (l : List Bool), v = .slice A n cap ∧ n ≤ cap ∧ cap ≤ 9223372036854775807 ∧ ArgB W A n l := by
  obtain ⟨a0, len, cap, rfl⟩ := okWide_slice Tryd.underlying41 hval
  obtain ⟨fuel, hf⟩ := h0
  rcases Go.Deep.open_slice Tryd.underlying41 hf with ⟨hcs, _⟩ | ⟨a, len', cap', m, q, D, Pl, hcs, _, hl, hm, hmm, _, hx⟩
  · simp [Value.cells] at hcs
    obtain ⟨rfl, rfl, rfl⟩ := hcs
    exact ⟨none, 0, 0, [], rfl, Nat.le_refl _, by omega, fun g _ => Reads.none_⟩
  · simp [Value.cells] at hcs
    obtain ⟨rfl, rfl, rfl⟩ := hcs
    simp only [if_true] at hmm
    have each : ∀ i, i < len → ∃ x : Bool, W.cell? (a.add i) = some (.bool x) := fun i hi => by
      obtain ⟨cs', hc, hd⟩ := hx i (by omega)
      rw [cells_bool] at hc
      obtain ⟨x, e, _⟩ := DataW.trod_bool Tryd.underlying4 hd
      subst e
      obtain ⟨_, _, hcell⟩ := World.cells?_some hc
      have c0 := hcell 0 (by omega)
      rw [add_of_add] at c0
      exact ⟨x, by simpa using c0⟩
    obtain ⟨g, hg⟩ := Go.Deep.choose_lt each
    refine ⟨some a, len, cap, (List.range len).map g, rfl, hl, hm, fun b hb => ⟨by simp [bools], fun hn => ⟨a, rfl, ?_, ?_, fun i u hu => ?_⟩⟩⟩
    · have := lt_of_cell (hg 0 hn)
      rwa [block_of_add] at this
    · have := lt_of_cell (hg 0 hn)
      rw [block_of_add] at this
      omega
    · obtain ⟨z, hz, rfl⟩ := bools_at hu
      rw [List.getElem?_map] at hz
      cases hi : (List.range len)[i]? with
      | none => rw [hi] at hz; cases hz
      | some j =>
        rw [hi] at hz
        simp at hz
        have hil : i < len := by
          have := (List.getElem?_eq_some_iff.1 hi).1
          simpa using this
        have hj : j = i := by
          have := (List.getElem?_eq_some_iff.1 hi).2
          simp at this
          exact this.symm
        subst hj; subst hz
        exact hg j hil
end

/-! ### what a row gives -/
theorem star_text : "*" ++ "errors.errorString" = "*errors.errorString" := by decide
theorem row_err (u : TypeId) (h : Tryd.prog.typeName? 3 u = some "*errors.errorString") : u = 130 :=
  typeName_ptr_named (nm := "errors.errorString") (by rw [star_text]; kernel_rfl) (by kernel_rfl) (by decide) u (by rw [star_text]; exact h)
theorem g_range : Tryd.prog.globalNamed "strconv.ErrRange" = some 3 := by kernel_rfl
theorem g_syn : Tryd.prog.globalNamed "strconv.ErrSyntax" = some 2 := by kernel_rfl
theorem g_firsts : Tryd.prog.globalNamed "grapevine/command.firsts" = some 0 := by kernel_rfl
theorem t_range : (Tryd.prog.globals[3]?).map (·.type) = some 77 := by kernel_rfl
theorem t_syn : (Tryd.prog.globals[2]?).map (·.type) = some 77 := by kernel_rfl
theorem t_firsts : (Tryd.prog.globals[0]?).map (·.type) = some 65 := by kernel_rfl
theorem c_es : Tryd.prog.cellsOf 132 = 1 := by kernel_rfl
def dF (f : Fw) : DataW Unit := .agg [.lit (.string f.w), .lit (.int .i64 f.k), .lit (.int .i64 f.a)]
theorem laid_firsts : (Rows.laid_grapevine_command_firsts : DataW Unit) = .agg (firstsL.map dF) := rfl
theorem cells_of_first {w : World} {base : Nat} {sp : Nat → Bool} {held : Bool} {fuel : Nat} {cs : List Value} {f : Fw} {x : DataW Unit × List MemPlace}
    (h : DataW.trod (fun _ => ()) Tryd.prog w base sp held fuel 48 cs = some x) (hx : x.1 = dF f) : cs = (fA f).toList := by
  obtain ⟨y0, y1, y2, n, rfl, hl, h0, h1, h2⟩ := Go.Deep.trod_struct3 Tryd.underlying48 h
  rw [cells_fw] at hl
  simp only [cells_int, cells_str] at h0 h1 h2
  obtain ⟨s0, e0, rfl, _⟩ := DataW.trod_string Tryd.underlying9 h0
  obtain ⟨z1, e1, rfl, _⟩ := DataW.trod_int Tryd.underlying3 h1
  obtain ⟨z2, e2, rfl, _⟩ := DataW.trod_int Tryd.underlying3 h2
  unfold dF at hx
  simp only [DataW.agg.injEq, List.cons.injEq, DataW.lit.injEq, Lit.string.injEq, Lit.int.injEq, true_and, and_true] at hx
  obtain ⟨g0, g1, g2⟩ := hx
  match cs, hl with
  | [a, b, c], _ =>
    simp at e0 e1 e2
    rw [e0, e1, e2, g1, g2]
    unfold fA
    rw [← g0, ← str_data]
theorem chunks : ∀ (L : List Fw) (cs : List Value), (∀ i f, L[i]? = some f → (cs.drop (i * 3)).take 3 = (fA f).toList) → cs.length = L.length * 3 → cs = L.flatMap fun f => (fA f).toList
  | [], cs, _, hl => by simpa using hl
  | f :: L, cs, h, hl => by
    have h0 := h 0 f rfl
    simp only [Nat.zero_mul, List.drop_zero] at h0
    have ih := chunks L (cs.drop 3) (fun i g hg => by
      have := h (i + 1) g (by simpa using hg)
      rw [List.drop_drop]
      rw [← this]
      congr 2
      omega) (by rw [List.length_drop, hl]; simp; omega)
    rw [List.flatMap_cons, ← h0, ← ih, List.take_append_drop]
theorem firsts_of_head {W : World} {rest : List (String × DataW Unit)} (h : laidMet Tryd.prog (("grapevine/command.firsts", Rows.laid_grapevine_command_firsts) :: rest) W) : FirstsAt W := by
  obtain ⟨ps, ⟨g', t', cs, fuel, p, q, hg', ht', hvar, hd, _, _⟩, _⟩ := h
  obtain rfl := Option.some.inj (g_firsts.symm.trans hg')
  obtain rfl := Option.some.inj (t_firsts.symm.trans ht')
  obtain ⟨xs, m, _, hx, hl, hlen, hf⟩ := DataW.trod_array Tryd.underlying65 hd
  have hx1 : xs.map (·.1) = firstsL.map dF := by
    have h1 := congrArg Prod.fst hx
    rw [laid_firsts] at h1
    simp only [DataW.agg.injEq] at h1
    exact h1.symm
  rw [cells_fw] at hf
  have e : cs.toList = firstsL.flatMap fun f => (fA f).toList := by
    refine chunks firstsL cs.toList (fun i f hi => ?_) (by rw [hl]; kernel_rfl)
    have hi15 : i < 15 := (List.getElem?_eq_some_iff.1 hi).1
    obtain ⟨x, hxi⟩ : ∃ x, xs[i]? = some x := ⟨_, List.getElem?_eq_getElem (by omega)⟩
    refine cells_of_first ((hf i hi15).trans hxi) ?_
    have h2 : (xs.map (·.1))[i]? = some x.1 := by rw [List.getElem?_map, hxi]; rfl
    rw [hx1, List.getElem?_map, hi] at h2
    injection h2 with h2
    exact h2.symm
  have e2 : cs = firstsV := by
    unfold firstsV
    rw [← e]
  unfold World.var? at hvar
  rw [g_firsts] at hvar
  simp only [Option.bind_some] at hvar
  split at hvar
  · rename_i c t fr hh
    injection hvar with hvar
    subst hvar
    exact ⟨t, fr, by rw [hh, e2]⟩
  · cases hvar
/-- the list of this seat's rows -/
def laidL : List (String × DataW Unit) := Rows.commandParsesRow.laid
theorem env_of_laid {W : World} (h : laidMetH Tryd.prog laidL W) : Env W := by
  rw [MakeChecks.laidMetH_plain _ _ _ (by kernel_rfl)] at h
  have h2 := laidMet.tail (laidMet.tail h)
  have h3 := laidMet.tail h2
  have h4 := laidMet.tail h3
  have h5 := laidMet.tail h4
  obtain ⟨a0, s0, hv0, _⟩ := laid_sentinel h3 g_range t_range Tryd.underlying77 row_err Tryd.underlying130 Tryd.underlying132 rfl rfl Tryd.underlying9 c_es cells_str
  obtain ⟨a1, s1, hv1, _⟩ := laid_sentinel h4 g_syn t_syn Tryd.underlying77 row_err Tryd.underlying130 Tryd.underlying132 rfl rfl Tryd.underlying9 c_es cells_str
  have e1 : W.cell? ⟨2, 0, none⟩ = some (.iface 130 (.pointer (some a1))) := by simpa using World.var?_cell g_syn hv1 0
  have e0 : W.cell? ⟨3, 0, none⟩ = some (.iface 130 (.pointer (some a0))) := by simpa using World.var?_cell g_range hv0 0
  exact ⟨⟨⟨_, _, e1⟩, _, _, e0⟩, Lib.tabIs_of_head (k := .u64) (zs := Lib.pow10Tab) g_pow (t := 123) (e := 23) (n := 20) (by kernel_rfl) Tryd.underlying123 Tryd.underlying23 (by kernel_rfl) (by kernel_rfl) h2, firsts_of_head h5⟩
theorem door_met (os : Os) (args : Array Value) : laidMetH Tryd.prog laidL ((World.doorLaid Tryd.prog 400 os).forCall (fun _ _ => 0) ⟨#[], args, []⟩).memory :=
  laidMetH_of_parts3 (fuel := 8) (laidMet_of_run' 8 (by kernel_rfl) (by kernel_rfl)) (by kernel_rfl) (by kernel_rfl)

/-- a law's walk, with what the row lists, and with arguments within the form's own reach, to the row's form -/
theorem returns_sized {H : Type} {enc : TypeId × Value → H} {a : Assume} {C : Checked} {os : Os} {f : FuncId} {fn : Func} {s : ChangeSpec} {conds : List PathCond} {apart fresh handsOn again : Bool} {X : World → Array Value → Prop}
    (hX : ∀ (w w' : World) (args : Array Value), w.heap = w'.heap → X w args → X w' args)
    (own : ownKnob C.prog.godebug = none) (started : os.Started) (noInit : C.prog.inits.idxOf? f = none) (hfn : C.prog.funcs[f]? = some fn)
    (witness : ∃ (w : World) (tape : Tape) (i : Input), w.os = os ∧ (w.forCall tape i).Shaped C.prog ∧ i.vars = [] ∧ Input.okWide C.prog (w.forCall tape i) .any w.heap.size f i ∧
      ((s.pre enc C.prog fn conds apart (w.forCall tape i).memory i.args ∧ X (w.forCall tape i).memory i.args) ∧ sizedMet enc C.prog fn (OpenSpec.ofChange s) apart (w.forCall tape i).memory i.args) ∧ a.holds C.prog (lone (Frame.enter C.prog f i.args .normal) [] (w.forCall tape i)))
    (contract : ∀ (W : World) (base : Nat) (args : Array Value) (ds gs : List (DataW H)) (before : List MemPlace),
      (∀ (j : Nat) t v, fn.params[j]? = some t → args[j]? = some v → Value.okWide C.prog W .any base t v) →
      DataW.Whole enc C.prog fn.params.toList s.vars apart W args.toList ds gs before → (DataW.weightsEach C.prog (fn.params.toList ++ (OpenSpec.ofChange s).bare.plain.varTypes C.prog) (ds ++ gs)).all (· ≤ reachBytes) = true → X W args →
      Calls C.prog f args W fun e W' => ∃ v, e = .returned v ∧ s.post enc C.prog fn apart fresh handsOn again W args v W') :
    ReturnsInHanded a C os f .any (fun w args => (s.pre enc C.prog fn conds apart w args ∧ X w args) ∧ sizedMet enc C.prog fn (OpenSpec.ofChange s) apart w args) (s.post enc C.prog fn apart fresh handsOn again) := by
  refine returnsInHanded_of_calls own started noInit witness ?_
  intro w tape i _ hsh _ hok hpre _
  obtain ⟨_, _, _, fn', hfn', _, _, _, _, hval⟩ := hok
  have e : fn' = fn := Option.some.inj (hfn'.symm.trans hfn)
  subst e
  obtain ⟨⟨_, hx⟩, _, ds, gs, before, hw, hwt⟩ := hpre
  refine (contract (w.forCall tape i) w.heap.size i.args ds gs before hval (DataW.Whole.of_heap (w' := w.forCall tape i) (by rfl) hw) hwt (hX _ _ _ (by rfl) hx)).mono fun e W' ⟨v, he, hp⟩ => ?_
  subst he
  exact ChangeSpec.post_blind hp
theorem key_small {l : Ln} {ws : List Nat} (h : (([l.y.length] ++ ws).all (· ≤ reachBytes)) = true) : l.y.length ≤ 1152921504606846976 := by
  have h1 := List.all_eq_true.1 h l.y.length (by simp)
  have h2 : l.y.length ≤ reachBytes := of_decide_eq_true h1
  unfold reachBytes at h2
  omega
end Go.Proofs.YtogaaomedfpdnaaDoor
