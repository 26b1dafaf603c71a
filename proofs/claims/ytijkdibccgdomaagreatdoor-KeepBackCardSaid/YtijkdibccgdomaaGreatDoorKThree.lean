/-
  WHAT IS PROVED: the document's Right at the law's states; slices of three states. Conditions: the library's variables hold what is laid there; the known ones lie in memory.
-/
import Derived.Test.YtijkdibccgdomaaGreatDoorKOpen
import Derived.Test.YtijkdibccgdomaaGreatDoorRRight
import Derived.Deep.CutRange
namespace Go.Proofs.YtijkdibccgdomaaGreatDoor.Dsk
set_option maxRecDepth 100000
open Go.RowKit Go.Lib C R

/-! ### the document's state, and whether it is right -/
theorem made_dk (d : Dt) (A : Option Addr) (n c : Nat) (w : World) (hk : KnAt w A n d.l) (hN : n ≤ 100000) : Calls Tryz.prog 11 #[.agg (stv (mkS d A n c))] w fun e w' => Below w.heap.size w w' ∧ ∃ a cap, e = .returned (.agg (stv (mkS d a n cap))) ∧ KnAt w' a n d.l :=
  (made_any (mkS d A n c) d.l w hk hN).mono fun _ _ ⟨hb, a, cap, h1, h2⟩ => ⟨hb, a, cap, h1, h2⟩
theorem rright_dk (d : Dt) (a : Option Addr) (n cap : Nat) (w : World) (hk : KnAt w a n d.l) (hN : n ≤ 9223372036854775806) : Calls Tryz.prog 14 #[.agg (stv (mkS d a n cap))] w (Says (okD d) w) := by
  rw [← okD_eq d a n cap hk.1]
  exact rright_any (mkS d a n cap) d.l w hk hN

/-! ### a slice of three states -/
theorem fold_setAll : ∀ (l : List Value) (k o : Nat) (C : Array Value), (l.zipIdx k).foldl (fun cs (c, j) => cs.setIfInBounds (o + j) c) C = setAll C (o + k) l
  | [], _, _, _ => rfl
  | v :: l, k, o, C => by
    rw [List.zipIdx_cons, List.foldl_cons, setAll, fold_setAll l (k + 1) o]
    rfl
theorem foldA (v : Array Value) (o : Nat) (C : Array Value) : v.zipIdx.foldl (fun cs (c, j) => cs.setIfInBounds (o + j) c) C = setAll C o v.toList := by
  rw [← Array.foldl_toList, Array.toList_zipIdx]
  exact fold_setAll v.toList 0 o C
theorem fill_cons (pl : Nat → Option (Nat × Nat)) (C v : Array Value) (i o : Nat) (r : List (Nat × Value)) (hp : pl i = some (o, v.size)) (hC : o + v.size ≤ C.size) : Instr.fill pl C ((i, .agg v) :: r) = Instr.fill pl (setAll C o v.toList) r := by
  rw [Instr.fill, hp]
  have e : (Value.agg v).cells = v := rfl
  simp only [e]
  rw [if_neg (by simp; omega), foldA]
def arr3 (Z : Array Value) (a b c : Sv) : Array Value := setAll (setAll (setAll Z 0 (stv a).toList) 134 (stv b).toList) 268 (stv c).toList
theorem stv_len (s : Sv) : (stv s).toList.length = 134 := by rw [Array.length_toList, stv_size]
theorem arr3_size {Z : Array Value} (a b c : Sv) : (arr3 Z a b c).size = Z.size := by unfold arr3; rw [setAll_size, setAll_size, setAll_size]
theorem arr3_get {Z : Array Value} (hz : Z.size = 402) (a b c : Sv) (j : Nat) (hj : j < 134) : (arr3 Z a b c)[j]? = (stv a).toList[j]? ∧ (arr3 Z a b c)[134 + j]? = (stv b).toList[j]? ∧ (arr3 Z a b c)[268 + j]? = (stv c).toList[j]? := by
  unfold arr3
  have s1 : (setAll Z 0 (stv a).toList).size = 402 := by rw [setAll_size, hz]
  have s2 : (setAll (setAll Z 0 (stv a).toList) 134 (stv b).toList).size = 402 := by rw [setAll_size, s1]
  refine ⟨?_, ?_, ?_⟩
  · rw [setAll_get _ _ _ _ (by rw [stv_len, s2]; omega), if_neg (by omega), setAll_get _ _ _ _ (by rw [stv_len, s1]; omega), if_neg (by omega), setAll_get _ _ _ _ (by rw [stv_len, hz]; omega), if_pos (by rw [stv_len]; omega)]
    rfl
  · rw [setAll_get _ _ _ _ (by rw [stv_len, s2]; omega), if_neg (by omega), setAll_get _ _ _ _ (by rw [stv_len, s1]; omega), if_pos (by rw [stv_len]; omega), show 134 + j - 134 = j by omega]
  · rw [setAll_get _ _ _ _ (by rw [stv_len, s2]; omega), if_pos (by rw [stv_len]; omega), show 268 + j - 268 = j by omega]
theorem fill3 {Z : Array Value} (hz : Z.size = 402) (a b c : Sv) : Instr.fill (fun i => some (i * 134, 134)) Z [(0, .agg (stv a)), (1, .agg (stv b)), (2, .agg (stv c))] = some (arr3 Z a b c) := by
  have s1 : (setAll Z 0 (stv a).toList).size = 402 := by rw [setAll_size, hz]
  have s2 : (setAll (setAll Z 0 (stv a).toList) 134 (stv b).toList).size = 402 := by rw [setAll_size, s1]
  rw [fill_cons _ _ _ 0 0 _ (by rw [stv_size]) (by rw [stv_size, hz]; omega), fill_cons _ _ _ 1 134 _ (by rw [stv_size]) (by rw [stv_size, s1]; omega), fill_cons _ _ _ 2 268 _ (by rw [stv_size]) (by rw [stv_size, s2]; omega)]
  simp only [Instr.fill]
  rfl
theorem st_zero_run (w : World) : (zeroValue 29).run Tryz.prog w = .ok (.agg (stv Sv.zero)) w := (zero_of_info st_zero).1 w
theorem run_buildSlice_gen {P : Program} (w : World) (t e : TypeId) (len size : Nat) (z : Value) (parts : Array (Nat × Value)) (cells : Array Value) (ht : P.underlying t = some (.slice e)) (hs : (sizeOf e).run P w = .ok size w) (hz : (zeroValue e).run P w = .ok z w) (h0 : ¬ len * size > 2 ^ 24) (h1 : ¬ len * size = 0)
    (hf : Instr.fill (fun i => some (i * size, size)) ((Array.range (len * size)).map fun x => z.cells[x % z.cells.size]!) parts.toList = some cells) : (Instr.buildSlice t len parts).run P w = .ok (.slice (some ⟨w.heap.size, 0, none⟩) len len) (w.alloc (.cells cells e)) := by
  unfold Instr.buildSlice
  simp only [Sem.run_bind, run_underlying ht, Result.andThen_ok, hs]
  rw [if_neg h0, if_neg h1]
  simp only [Sem.run_bind, hz, Result.andThen_ok, Sem.run_pure, hf]
  rfl
theorem st_sz (w : World) : (sizeOf 29).run Tryz.prog w = .ok 134 w := by kernel_rfl
theorem zeros_size (z : Value) (n : Nat) : ((Array.range n).map fun x => z.cells[x % z.cells.size]!).size = n := by simp
theorem run_slice3 (a b c : Sv) (w : World) : ∃ Z : Array Value, Z.size = 402 ∧ (Instr.buildSlice 46 3 #[(0, .agg (stv a)), (1, .agg (stv b)), (2, .agg (stv c))]).run Tryz.prog w = .ok (.slice (some ⟨w.heap.size, 0, none⟩) 3 3) (w.alloc (.cells (arr3 Z a b c) 29)) := by
  have hzr := st_zero_run w
  generalize Value.agg (stv Sv.zero) = z0 at hzr
  have hs := zeros_size z0 (3 * 134)
  exact ⟨_, hs, run_buildSlice_gen w _ _ 3 134 z0 _ _ Tryz.underlying46 (st_sz w) hzr (by omega) (by omega) (fill3 hs a b c)⟩
section
variable {ops : Array Oper} {rest : List Oper} {Q : Exit → Act → World → Prop} {a : Act} {w : World} {dst : Option Tmp} {ty : TypeId} {pos : String} {after : Array Edge} {g : Option (Nat × Bool)} {p0 p1 p2 : Tmp} {s0 s1 s2 : Sv}
theorem st_slice3 (h0 : a.eval (.tmp p0) = .agg (stv s0)) (h1 : a.eval (.tmp p1) = .agg (stv s1)) (h2 : a.eval (.tmp p2) = .agg (stv s2)) (hw : Region.wanted ⟨dst, .buildSlice 46 3 #[(0, .tmp p0), (1, .tmp p1), (2, .tmp p2)], ty, pos, after, g⟩ (yielded ops a.tmps) = true)
    (h : ∀ Z : Array Value, Z.size = 402 → wpList Tryz.prog ops Q rest (a.put dst (.slice (some ⟨w.heap.size, 0, none⟩) 3 3)) (w.alloc (.cells (arr3 Z s0 s1 s2) 29))) : wpList Tryz.prog ops Q (⟨dst, .buildSlice 46 3 #[(0, .tmp p0), (1, .tmp p1), (2, .tmp p2)], ty, pos, after, g⟩ :: rest) a w := by
  obtain ⟨Z, hZ, hrun⟩ := run_slice3 s0 s1 s2 w
  refine at_want hw fun _ hK => ?_
  have hk := hK _ _ (h Z hZ)
  have e : (#[(0, Operand.tmp p0), (1, .tmp p1), (2, .tmp p2)] : Array (Nat × Operand)).map (fun (i, x) => (i, a.eval x)) = #[(0, .agg (stv s0)), (1, .agg (stv s1)), (2, .agg (stv s2))] := by
    simp only [List.map_toArray, List.map_cons, List.map_nil, h0, h1, h2]
  unfold Oper.wp execOp
  simp only [e, Sem.run_bind, hrun, Result.andThen_ok]
  exact hk
end
theorem sts3 (w : World) (Z : Array Value) (hZ : Z.size = 402) (x y z : Ar) (hx : KnAt w x.a x.n x.d.l) (hy : KnAt w y.a y.n y.d.l) (hz : KnAt w z.a z.n z.d.l) (nx : x.n ≤ 9223372036854775807) (ny : y.n ≤ 9223372036854775807) (nz : z.n ≤ 9223372036854775807) :
    StsAt (w.alloc (.cells (arr3 Z x.s y.s z.s) 29)) (some ⟨w.heap.size, 0, none⟩) 3 [x, y, z] := by
  have hg := arr3_get hZ x.s y.s z.s
  generalize arr3 Z x.s y.s z.s = M at hg ⊢
  have hb : Below w.heap.size w (w.alloc (.cells M 29)) := (Below.refl _ w).alloc (Nat.le_refl _) _
  have hcl : ∀ q, (w.alloc (.cells M 29)).cell? ⟨w.heap.size, q, none⟩ = M[q]? := fun q => (Blk.new w 29 M).cell q
  refine ⟨rfl, fun _ => ⟨_, rfl, by simp, fun i r hr j v hj => ?_⟩, fun r hr => ?_⟩
  · have hj2 : j < 134 := by
      have := (List.getElem?_eq_some_iff.1 hj).1
      rwa [stv_len] at this
    obtain ⟨g1, g2, g3⟩ := hg j hj2
    rw [add_of_add, Go.WideShapes.add_plain, Nat.zero_add, hcl]
    match i, hr with
    | 0, hr => injection hr with hr; subst hr; rw [Nat.zero_mul, Nat.zero_add]; exact g1.trans hj
    | 1, hr => injection hr with hr; subst hr; rw [Nat.one_mul]; exact g2.trans hj
    | 2, hr => injection hr with hr; subst hr; exact g3.trans hj
  · simp only [List.mem_cons, List.not_mem_nil, or_false] at hr
    rcases hr with rfl | rfl | rfl
    · exact ⟨hx.below hb, nx⟩
    · exact ⟨hy.below hb, ny⟩
    · exact ⟨hz.below hb, nz⟩
theorem small3 {x y z : Ar} {q : Int} (h : smallB [x, y, z] q = true) : x.n ≤ 40 ∧ y.n ≤ 40 ∧ z.n ≤ 40 := by
  unfold smallB fewR at h
  simp at h
  omega
end Go.Proofs.YtijkdibccgdomaaGreatDoor.Dsk
