/-
  WHAT IS PROVED: the contract of the function that reads the entries of a packet. Condition: nine bytes an entry.
-/
import Derived.Test.YtneanlffllejnaaChunk
import Derived.Test.YtneanlffllejnaaWrite
import Derived.Test.YtneanlffllejnaaRound
namespace Go.Proofs.Ytneanlffllejnaa
open Go.RowKit Go.Shelf
attribute [local go_sem] Oper.semAt_some

/-- the entry at a piece -/
def pe (l : List UInt8) (k : Nat) : En := ⟨toI (num ((l.drop (k * 9)).take 8)), at_ l (k * 9 + 8)⟩
theorem step_append_reps {P : Program} (w : World) {ops : Array Oper} {o : Oper} {a : Act} {K : Act → World → Prop} {Q : Exit → Act → World → Prop} {E : Prop} (hgd : o.guard = none) (s x : Operand) (t : TypeId)
    (ho : o.op = .call { callee := .builtin .append, args := #[s, x], argTypes := #[t, t] }) (v : Value) (A : Option Addr) (m c : Nat) (hs : a.eval s = v) (hx : a.eval x = .slice A m c) {v' : Value} {w' : World} (hrun : (Builtin.append_ #[t, t] o.type #[v, .slice A m c]).run P w = .ok v' w')
    (h : K (a.put o.dst v') w') :
    if Region.wanted o (yielded ops a.tmps) = true then Oper.wp P o a w K Q else E := by
  have hw : Region.wanted o (yielded ops a.tmps) = true := by simp [Region.wanted, hgd]
  rw [if_pos hw]
  unfold Oper.wp execOp
  simp only [ho, resolve, invoke, builtin, Sem.run_bind, Sem.run_pure, Result.andThen_ok, List.map_toArray, List.map_cons, List.map_nil, hs, hx, hrun]
  exact h
theorem ent_lit (w : World) (x y : Int) (t : TypeId) : EsAt (w.alloc (.cells #[.int .i64 x, .int .i64 y] t)) (some ⟨w.heap.size, 0, none⟩) 1 [⟨x, y⟩] :=
  EsAt.of_cells rfl (fun _ => by simp) fun j u hu => by
    have e : (⟨w.heap.size, 0, none⟩ : Addr).add j = ⟨w.heap.size, j, none⟩ := by
      unfold Addr.add
      by_cases h : j = 0
      · subst h; rfl
      · simp [h]
    rw [e, World.cell?_alloc_mark]
    simpa [flatR, encR] using hu
theorem ekept {w w' : World} {B n : Nat} {v : Value} {l : List Value} (h : w.ownsRow B 48 2 v n l) (hb : Below w.heap.size w w') : w'.ownsRow B 48 2 v n l := by
  refine World.ownsRow.kept h (only_of_below hb none) ?_
  cases e : v.ownBlock with
  | none => exact .inl rfl
  | some k => exact .inr (by simp)

theorem row_mono {w : World} {B B' : Nat} {e : TypeId} {size n : Nat} {v : Value} {l : List Value} (h : w.ownsRow B e size v n l) (hB : B' ≤ B) : w.ownsRow B' e size v n l := by
  refine ⟨h.1, ?_⟩
  rcases h.2 with e | ⟨g, cap, cur, hv, hb, r⟩
  · exact .inl e
  · exact .inr ⟨g, cap, cur, hv, Nat.le_trans hB hb, r⟩
theorem toI_wrap {n : Nat} (h : n < 18446744073709551616) : IntKind.i64.wrap (n : Int) = toI n := by
  rw [IntKind.wrap_i64]
  unfold toI
  split <;> omega
theorem pe_eq {l : List UInt8} {p nn sb k : Nat} {z : Int} (hp : p = k * 9) (hnn : num (((l.drop p).take 9).take 8) = nn) (hsb : at_ ((l.drop p).take 9) (7 + 1) = sb) (hz : IntKind.i64.wrap (nn : Int) = z) : pe l k = ⟨z, (sb : Int)⟩ := by
  subst hp
  have hlt : nn < 18446744073709551616 := by
    rw [← hnn]
    have h := num_lt (((l.drop (k * 9)).take 9).take 8)
    have : 256 ^ (((l.drop (k * 9)).take 9).take 8).length ≤ 256 ^ 8 := Nat.pow_le_pow_right (by omega) (by rw [List.length_take]; omega)
    omega
  rw [List.take_take] at hnn
  have e : at_ ((l.drop (k * 9)).take 9) (7 + 1) = at_ l (k * 9 + 8) := by unfold at_; rw [List.getElem?_take, if_pos (by omega), List.getElem?_drop]
  unfold pe
  rw [← hz, toI_wrap hlt, ← hsb, e, ← hnn]
  rfl
/-- what a round leaves -/
theorem round_left {W w5 : World} {B : Nat} {A5 : Option Addr} {n c5 g5 cap5 : Nat} {xs ys : List En} {o : Obj} (hv : Boxed W B 24 (.slice A5 n c5)) (hB : B + 3 ≤ W.heap.size) (hown : W.ownsRow (B + 3) 48 2 (.slice A5 n c5) n (flatR xs))
    (hg5 : (W.drew.alloc o).grownBy w5 (Value.slice A5 n c5).ownBlock) (hown5 : w5.ownsRow (B + 3) 48 2 (.slice (some ⟨g5, 0, none⟩) (n + 1) cap5) (n + 1) (flatR ys)) :
    KeepsOthers W (w5.setCell ⟨B, 0, none⟩ (.slice (some ⟨g5, 0, none⟩) (n + 1) cap5)) ∧ KpB (B + 1) (B + 1 + 1) W (w5.setCell ⟨B, 0, none⟩ (.slice (some ⟨g5, 0, none⟩) (n + 1) cap5)) ∧
    Boxed (w5.setCell ⟨B, 0, none⟩ (.slice (some ⟨g5, 0, none⟩) (n + 1) cap5)) B 24 (.slice (some ⟨g5, 0, none⟩) (n + 1) cap5) ∧ (w5.setCell ⟨B, 0, none⟩ (.slice (some ⟨g5, 0, none⟩) (n + 1) cap5)).ownsRow (B + 3) 48 2 (.slice (some ⟨g5, 0, none⟩) (n + 1) cap5) (n + 1) (flatR ys) ∧
    Below B W (w5.setCell ⟨B, 0, none⟩ (.slice (some ⟨g5, 0, none⟩) (n + 1) cap5)) := by
  have hlt := hown.lt
  have hs : W.heap.size + 1 ≤ w5.heap.size := by have := hg5.size; simpa using this
  have hb : ∀ b, b < B + 3 → b ≠ B → (w5.setCell ⟨B, 0, none⟩ (.slice (some ⟨g5, 0, none⟩) (n + 1) cap5)).heap[b]? = W.heap[b]? := fun b h1 h2 => by
    rw [Below.heap_setCell _ _ _ b (fun e => h2 (by rw [e]))]
    rw [hg5.block b (by simp; omega) (fun e => by have := (hlt _ e.symm).1; omega)]
    exact Below.heap_alloc W.drew o b (by show b < W.heap.size; omega)
  have hL5 : Boxed w5 B 24 (.slice A5 n c5) := ((show Boxed W.drew _ _ _ from hv).alloc o).kept hg5 (fun e => by have := (hlt _ e.symm).1; omega)
  refine ⟨(((KeepsOthers.drew W).trans (KeepsOthers.alloc _ o)).trans (KeepsOthers.of_grownBy hg5 fun j o' hj ho' => ?_)).trans (KeepsOthers.setCell _ _ _), ⟨hb _ (by omega) (by omega), hb _ (by omega) (by omega)⟩, hL5.set _, ?_, ?_⟩
  · have hj2 := hlt j hj
    rcases hown.2 with ⟨e, _⟩ | ⟨g, cap, cur, e, _, hh, _⟩
    · rw [e] at hj; cases hj
    · rw [e] at hj
      have : g = j := by simpa [Value.ownBlock] using hj
      subst this
      rw [Below.heap_alloc W.drew o g hj2.2] at ho'
      have := ho'.symm.trans hh
      cases this
      rfl
  · exact World.ownsRow.kept hown5 (grownBy_setCell' _ _ _) (.inr fun e => by have := (hown5.lt B e).1; omega)
  · refine ⟨hg5.os, hg5.tape, hg5.output, by simp [World.setCell]; omega, fun b hbB => ?_⟩
    exact hb b (by omega) (by omega)

set_option maxRecDepth 100000 in
set_option maxHeartbeats 4000000 in
theorem wsection_in (ad : Addr) (m L cap : Nat) (l : List UInt8) (w : World) (hL : L = m * 9) (hm : m ≤ 3) (hc : L ≤ cap) (hcm : cap ≤ 9223372036854775807) (hr : Reads w w.heap.size (some ad) L (bs l)) :
    CallsIn Fence.wide 4 Try.prog 35 #[.slice (some ad) L cap] w fun e w' => ∃ v, e = .returned v ∧ w'.ownsRow w.heap.size 48 2 v m (flatR ((List.range m).map (pe l))) ∧ Below w.heap.size w w' := by
  obtain ⟨i0, hi0, hz0, hz1, hz2⟩ := info_parts ent_info
  refine callsIn_of_wp_marks Try.func35 rfl trivial ?_ rfl
  simp only [Try.ntmps35, List.size_toArray, List.length_cons, List.length_nil, Nat.reduceAdd, Nat.reduceSub, Array.replicate_succ, Array.replicate_zero, List.push_toArray, List.append_toArray, List.nil_append, List.cons_append]
  have HL := Lib.hid hL
  clear hL
  gi_wp2_with (fail)
  obtain ⟨W0, hW0⟩ : ∃ W0, w.alloc (.cells #[.slice none 0 0] 24) = W0 := ⟨_, rfl⟩
  have s0 : W0.heap.size = w.heap.size + 1 := by rw [← hW0]; simp
  have x0 : Boxed W0 w.heap.size 24 (.slice none 0 0) := by rw [← hW0]; exact Boxed.new _ _ _
  have bb0 : Below w.heap.size w W0 := by rw [← hW0]; exact (Below.refl _ _).alloc (Nat.le_refl _) _
  rw [hW0]
  refine ⟨trivial, ?_⟩
  refine (callsIn_wide.2 (chunk_any (some ad) L cap _)).mono ?_
  rintro e w' ⟨rfl, rfl⟩
  obtain ⟨W2, hW2⟩ : ∃ W2, (W0.alloc (.cells #[.slice (some ad) L cap] 32)).alloc (.cells #[.int .i64 9] 3) = W2 := ⟨_, rfl⟩
  have s2 : W2.heap.size = w.heap.size + 3 := by rw [← hW2]; simp; omega
  have x2 : Boxed W2 w.heap.size 24 (.slice none 0 0) := by rw [← hW2]; exact (x0.alloc _).alloc _
  have xs : Boxed W2 (w.heap.size + 1) 32 (.slice (some ad) L cap) := by rw [← hW2, ← s0]; exact (Boxed.new _ _ _).alloc _
  have xn : Boxed W2 (w.heap.size + 2) 3 (.int .i64 9) := by
    have := Boxed.new (W0.alloc (.cells #[.slice (some ad) L cap] 32)) 3 (.int .i64 9)
    rw [World.size_alloc, s0, hW2] at this
    exact this
  have bb2 : Below w.heap.size w W2 := by rw [← hW2]; exact (bb0.alloc (by omega) _).alloc (by simp; omega) _
  rw [hW2, s0]
  clear hW0 hW2 x0 bb0 s0
  gi_wp2
  refine wpIn_rangeFunc_ownF rfl (by omega) (gf := 48) (lb := #[.pointer (some ⟨w.heap.size + 1, 0, none⟩), .pointer (some ⟨w.heap.size + 1 + 1, 0, none⟩)]) rfl trivial (enters_of Try.func48 (by kernel_rfl) rfl)
    (chunk_stops 3 (by omega) (w.heap.size + 1) (w.heap.size + 1 + 1) ad m L cap W2 HL.out (by omega) hc hcm xs xn) kpB_t (kpB_b (by omega) (by omega)) (Below.refl _ _) (fun _ => rfl)
    (fun (pre : List (Pc m)) W => (∃ v, Boxed W w.heap.size 24 v ∧ W.ownsRow (w.heap.size + 3) 48 2 v pre.length (flatR (pre.map (fun x : Pc m => pe l x.1))) ∧ True) ∧ Below w.heap.size W2 W)
    (fun _ _ _ => False)
    (OwnFrom.and (Own.from (holdsRow_own (w.heap.size + 3) w.heap.size 24 48 2 (fun pre : List (Pc m) => pre.length) (fun pre : List (Pc m) => flatR (pre.map (fun x : Pc m => pe l x.1))) (fun _ _ => True)) _) (ownFrom_below (by omega) (by omega)))
    (fun _ _ _ _ _ hs _ _ => hs)
    ⟨⟨_, x2, World.ownsRow_nil .., trivial⟩, Below.refl _ _⟩
    (fun x => { tmps := #[.slice (some ad) L cap, undef, .slice none 0 0, .pointer (some ⟨w.heap.size, 0, none⟩), .slice (some (ad.add (x.1 * 9))) 9 9, .slice (some ad) L cap, .func (.func 48) #[] #[.pointer (some ⟨w.heap.size + 1, 0, none⟩), .pointer (some ⟨w.heap.size + 1 + 1, 0, none⟩)], .slice (some (ad.add (x.1 * 9))) 9 9, undef, undef, undef, undef, undef, undef, undef, undef, undef, undef, undef, undef], defers := [] }) ?assign ?body ?done ?stop
  case assign =>
    intro l' x W K hK
    gi_wp2
    exact hK
  case body =>
    rintro l' pre x W ⟨⟨v, hv, hown, _⟩, hB⟩ hlt
    have hmx : Try.prog.follows .mixedOrders = true := by kernel_rfl
    obtain ⟨A5, c5, rfl, hc5, hcm5, _⟩ := own_reps hown
    obtain ⟨k, hkm⟩ := x
    dsimp only
    have hlen : pre.length ≤ 3 := by omega
    have hLk : k * 9 + 9 ≤ L := by have := HL.out; omega
    obtain ⟨p, hp⟩ : ∃ p, p = k * 9 := ⟨_, rfl⟩
    have hBw := bb2.trans hB
    have hsz := hB.size
    have hr1 := (hr.below hBw).cut (k := p) (cap := cap) (by omega) (by omega)
    rw [if_neg (by omega)] at hr1
    have hbAD : (ad.add p).block < w.heap.size := by obtain ⟨_, e, hlt, _⟩ := hr.2 (by omega); cases e; rw [block_of_add]; exact hlt
    have hr2 := hr1.take (k := 9) (by omega)
    rw [show ((bs l).drop p).take 9 = bs ((l.drop p).take 9) by unfold bs; rw [List.map_take, List.map_drop]] at hr2
    have c8 := cell_at (i := 7) (by omega) hr2
    obtain ⟨nn, hnn⟩ : ∃ nn, num (((l.drop p).take 9).take 8) = nn := ⟨_, rfl⟩
    obtain ⟨sb, hsb⟩ : ∃ sb, at_ ((l.drop p).take 9) (7 + 1) = sb := ⟨_, rfl⟩
    have lsb : sb < 256 := by rw [← hsb]; exact UInt8.toNat_lt _
    obtain ⟨z, hz⟩ : ∃ z, IntKind.i64.wrap (nn : Int) = z := ⟨_, rfl⟩
    have hws : IntKind.i64.wrap (sb : Int) = (sb : Int) := by rw [IntKind.wrap_i64]; omega
    rw [hsb] at c8
    rw [← hp]
    have HR2 := Lib.hid hr2
    have d1 : W.drew.cell? ⟨w.heap.size, 0, none⟩ = some (.slice A5 pre.length c5) := hv.cell
    have d2 : W.drew.cell? ⟨(ad.add p).block, (ad.add p).off + 8, none⟩ = some (.int .u8 (sb : Int)) := c8
    have HP := Lib.hid hp
    have hB1 : Below W.heap.size W (W.drew.alloc (.cells #[.int .i64 z, .int .i64 (sb : Int)] 48)) := (Below.refl W.heap.size W).drew.alloc (Nat.le_refl _) _
    have hW3 : w.heap.size + 3 ≤ (W.drew.alloc (.cells #[.int .i64 z, .int .i64 (sb : Int)] 48)).heap.size := by simp; omega
    obtain ⟨v5, w5, hrun, hown5, hg5, hat5⟩ := run_append_reps (P := Try.prog) (W.drew.alloc (.cells #[.int .i64 z, .int .i64 (sb : Int)] 48)) (w.heap.size + 3) 24 24 48 i0 _ Try.underlying24 hi0 hz0 hz1 hz2 rfl _ _ _ (ekept hown hB1) _ 1 1 _ (ent_lit W.drew z sb 48) (by omega) hW3
    obtain ⟨g5, cap5, rfl⟩ := ownsRow_succ hown5
    have hlt5 := hown.lt
    have hnL : some w.heap.size ≠ (Value.slice A5 pre.length c5).ownBlock := fun e => by have := (hlt5 _ e.symm).1; omega
    have xL5 : Boxed w5 w.heap.size 24 (.slice A5 pre.length c5) := ((show Boxed W.drew _ _ _ from hv).alloc _).kept hg5 hnL
    have d5 := xL5.cell
    have f5 := xL5.frozen
    have HRUN := Lib.hid hrun
    clear hr1 hr2 c8 hrun
    have e1 : (W.drew.alloc (.cells #[.int .i64 z, .int .i64 (sb : Int)] 48)).cell? ⟨w.heap.size, 0, none⟩ = some (.slice A5 pre.length c5) := ((show Boxed W.drew _ _ _ from hv).alloc _).cell
    have e1b : (W.alloc (.cells #[.int .i64 z, .int .i64 (sb : Int)] 48)).drew.cell? ⟨w.heap.size, 0, none⟩ = some (.slice A5 pre.length c5) := e1
    have hbl : (ad.add p).block < W.drew.heap.size := lt_of_cell (a := ⟨(ad.add p).block, (ad.add p).off + 8, none⟩) d2
    have e2 : (W.drew.alloc (.cells #[.int .i64 z, .int .i64 (sb : Int)] 48)).cell? ⟨(ad.add p).block, (ad.add p).off + 8, none⟩ = some (.int .u8 (sb : Int)) := (((Below.refl W.drew.heap.size W.drew).alloc (Nat.le_refl _) _).cell (p := ⟨(ad.add p).block, (ad.add p).off + 8, none⟩) hbl).trans d2
    have hbw : (ad.add p).block < w.heap.size := hbAD
    have g2 : w5.cell? ⟨(ad.add p).block, (ad.add p).off + 8, none⟩ = some (.int .u8 (sb : Int)) := (World.cell?_of_block (a := ⟨(ad.add p).block, (ad.add p).off + 8, none⟩) (hg5.block (ad.add p).block (Nat.lt_of_lt_of_le hbl (by simp)) (fun e => by have := (hlt5 _ e.symm).1; omega))).trans e2
    have h2 : (w5.setCell ⟨w.heap.size, 0, none⟩ (.slice (some ⟨g5, 0, none⟩) (pre.length + 1) cap5)).cell? ⟨(ad.add p).block, (ad.add p).off + 8, none⟩ = some (.int .u8 (sb : Int)) := (World.cell?_setCell_far _ _ _ _ (by show w.heap.size ≠ (ad.add p).block; omega)).trans g2
    have HFIN : Hid (KeepsOthers W (w5.setCell ⟨w.heap.size, 0, none⟩ (.slice (some ⟨g5, 0, none⟩) (pre.length + 1) cap5)) ∧ KpB (w.heap.size + 1) (w.heap.size + 1 + 1) W (w5.setCell ⟨w.heap.size, 0, none⟩ (.slice (some ⟨g5, 0, none⟩) (pre.length + 1) cap5)) ∧ (∃ v, Boxed (w5.setCell ⟨w.heap.size, 0, none⟩ (.slice (some ⟨g5, 0, none⟩) (pre.length + 1) cap5)) w.heap.size 24 v ∧ (w5.setCell ⟨w.heap.size, 0, none⟩ (.slice (some ⟨g5, 0, none⟩) (pre.length + 1) cap5)).ownsRow (w.heap.size + 3) 48 2 v (pre ++ [(⟨k, hkm⟩ : Pc m)]).length (flatR ((pre ++ [(⟨k, hkm⟩ : Pc m)]).map (fun x : Pc m => pe l x.1))) ∧ True) ∧ Below w.heap.size W2 (w5.setCell ⟨w.heap.size, 0, none⟩ (.slice (some ⟨g5, 0, none⟩) (pre.length + 1) cap5))) := by
      obtain ⟨q1, q2, q3, q4, q5⟩ := round_left hv (by omega) hown hg5 hown5
      have e : (pre ++ [(⟨k, hkm⟩ : Pc m)]).map (fun x : Pc m => pe l x.1) = pre.map (fun x : Pc m => pe l x.1) ++ [⟨z, (sb : Int)⟩] := by rw [List.map_append, List.map_singleton, pe_eq hp hnn hsb hz]
      exact ⟨q1, q2, ⟨_, q3, by rw [e, List.length_append]; exact q4, trivial⟩, hB.trans q5⟩
    have hQ : ¬ LetsOut (Exit.inBlock 1 (ownPostK (KpB (w.heap.size + 1) (w.heap.size + 1 + 1)) (fun (pre : List (Pc m)) W => (∃ v, Boxed W w.heap.size 24 v ∧ W.ownsRow (w.heap.size + 3) 48 2 v pre.length (flatR (pre.map (fun x : Pc m => pe l x.1))) ∧ True) ∧ Below w.heap.size W2 W) (fun _ _ _ => False) (pre ++ [⟨k, hkm⟩]) W)) := fun ⟨_, _, h⟩ => h
    clear hp
    gi_wp2
    refine region_in_round l' _ (S := fun w' => w'.cell? ⟨(ad.add p).block, (ad.add p).off + 8, none⟩ = some (.int .u8 (sb : Int))) hmx (by kernel_rfl) hQ d2 (fun hHeld => ?_)
    refine wpAnyH_take (i := 1) (oi := ⟨some 9, .move (.tmp 4), 32, "wire.go:195", _, none⟩) (v := .slice (some (ad.add p)) 9 9) rfl (by kernel_rfl) (by kernel_rfl) (by kernel_rfl) (fun _ _ _ h => h) (Or.inl ⟨by rfl, ?_⟩) (by assumption) ?_
    · (intro w' hSw; (try dsimp only at hSw); go_simp)
    try simp only [Act.put, List.setIfInBounds_toArray, List.set_cons_zero, List.set_cons_succ]
    refine wpAnyH_take (i := 4) (oi := ⟨some 12, .move (.tmp 4), 32, "wire.go:195", _, none⟩) (v := .slice (some (ad.add p)) 9 9) rfl (by kernel_rfl) (by kernel_rfl) (by kernel_rfl) (fun _ _ _ h => h) (Or.inl ⟨by rfl, ?_⟩) (by assumption) ?_
    · (intro w' hSw; (try dsimp only at hSw); go_simp)
    try simp only [Act.put, List.setIfInBounds_toArray, List.set_cons_zero, List.set_cons_succ]
    refine wpAnyH_take (i := 5) (oi := ⟨some 13, .indexAddr 32 (.tmp 12) (.const (.int .i64 8)), 0, "wire.go:195", _, none⟩) (v := .pointer (some ⟨(ad.add p).block, (ad.add p).off + 8, none⟩)) rfl (by kernel_rfl) (by kernel_rfl) (by kernel_rfl) (fun _ _ _ h => h) (Or.inl ⟨by rfl, ?_⟩) (by assumption) ?_
    · (intro w' hSw; (try dsimp only at hSw); go_simp)
    try simp only [Act.put, List.setIfInBounds_toArray, List.set_cons_zero, List.set_cons_succ]
    refine wpAnyH_take (i := 6) (oi := ⟨some 14, .load 5 (.tmp 13), 5, "wire.go:195", _, none⟩) (v := .int .u8 (sb : Int)) rfl (by kernel_rfl) (by kernel_rfl) (by kernel_rfl) (fun _ _ _ h => h) (Or.inl ⟨by rfl, ?_⟩) (by assumption) ?_
    · (intro w' hSw; (try dsimp only at hSw); go_simp)
    try simp only [Act.put, List.setIfInBounds_toArray, List.set_cons_zero, List.set_cons_succ]
    refine wpAnyH_take (i := 7) (oi := ⟨some 15, .convert 5 3 (.tmp 14), 3, "wire.go:195", _, none⟩) (v := .int .i64 (sb : Int)) rfl (by kernel_rfl) (by kernel_rfl) (by kernel_rfl) (fun _ _ _ h => h) (Or.inl ⟨by rfl, ?_⟩) (by assumption) ?_
    · (intro w' hSw; (try dsimp only at hSw); go_simp)
    try simp only [Act.put, List.setIfInBounds_toArray, List.set_cons_zero, List.set_cons_succ]
    refine wpAnyH_ready (rs := [0, 2]) (by kernel_rfl) (by simp) ?_
    refine AllReadyH.cons rfl (fun K hK => ?_) (AllReadyH.cons rfl (fun K hK => ?_) AllReadyH.nil)
    · go_simp
      refine hK.out _ _ d2 (fun hHeld => ?_)
      clear hK K
      try simp only [Act.put, List.setIfInBounds_toArray, List.set_cons_zero, List.set_cons_succ]
      refine wpAnyH_ready (rs := [2]) (by kernel_rfl) (by simp) ?_
      refine AllReadyH.cons rfl (fun K hK => ?_) AllReadyH.nil
      go_simp
      refine (read_any (some (ad.add p)) 9 9 w.heap.size ((l.drop p).take 9) W.drew (by omega) (by omega) (by omega) (show Reads W.drew w.heap.size (some (ad.add p)) 9 (bs ((l.drop p).take 9)) from HR2.out)).mono ?_
      rintro e w' ⟨rfl, rfl⟩
      rw [hnn]
      refine hK.out _ _ d2 (fun hHeld => ?_)
      clear hK K
      try simp only [Act.put, List.setIfInBounds_toArray, List.set_cons_zero, List.set_cons_succ]
      refine wpAnyH_take (i := 3) (oi := ⟨some 11, .convert 22 3 (.tmp 10), 3, "wire.go:195", _, none⟩) (v := .int .i64 z) rfl (by kernel_rfl) (by kernel_rfl) (by kernel_rfl) (fun _ _ _ h => h) (Or.inl ⟨by rfl, ?_⟩) (by assumption) ?_
      · (intro w' hSw; (try dsimp only at hSw); go_simp)
      try simp only [Act.put, List.setIfInBounds_toArray, List.set_cons_zero, List.set_cons_succ]
      refine wpAnyH_take (i := 8) (oi := ⟨some 16, .build 48 #[(0, .tmp 11), (1, .tmp 15)], 48, "wire.go:195", _, none⟩) (v := .agg #[.int .i64 z, .int .i64 (sb : Int)]) rfl (by kernel_rfl) (by kernel_rfl) (by kernel_rfl) (fun _ _ _ h => h) (Or.inl ⟨by rfl, ?_⟩) (by assumption) ?_
      · (intro w' hSw; (try dsimp only at hSw); go_simp)
      try simp only [Act.put, List.setIfInBounds_toArray, List.set_cons_zero, List.set_cons_succ]
      refine wpAnyH_ready (rs := [9]) (by kernel_rfl) (by simp) ?_
      refine AllReadyH.cons rfl (fun K hK => ?_) AllReadyH.nil
      go_simp
      refine hK.out _ _ e2 (fun hHeld => ?_)
      clear hK K
      try simp only [Act.put, List.setIfInBounds_toArray, List.set_cons_zero, List.set_cons_succ]
      refine wpAnyH_ready (rs := [10]) (by kernel_rfl) (by simp) ?_
      refine AllReadyH.cons rfl (fun K hK => ?_) AllReadyH.nil
      refine step_append_reps _ (by rfl) (.tmp 8) (.tmp 17) 24 (by rfl) _ _ 1 1 (by rfl) (by rfl) HRUN.out ?_
      refine hK.out _ _ g2 (fun hHeld => ?_)
      clear hK K
      try simp only [Act.put, List.setIfInBounds_toArray]
      refine wpAnyH_ready (rs := [11]) (by kernel_rfl) (by simp) ?_
      refine AllReadyH.cons rfl (fun K hK => ?_) AllReadyH.nil
      go_simp
      refine hK.out _ _ h2 (fun hHeld => ?_)
      clear hK K
      try dsimp only [Act.put]
      exact wpAnyH_done (by kernel_rfl) HFIN.out _
    · go_simp
      refine (read_any (some (ad.add p)) 9 9 w.heap.size ((l.drop p).take 9) W.drew (by omega) (by omega) (by omega) (show Reads W.drew w.heap.size (some (ad.add p)) 9 (bs ((l.drop p).take 9)) from HR2.out)).mono ?_
      rintro e w' ⟨rfl, rfl⟩
      rw [hnn]
      refine hK.out _ _ d2 (fun hHeld => ?_)
      clear hK K
      try simp only [Act.put, List.setIfInBounds_toArray, List.set_cons_zero, List.set_cons_succ]
      refine wpAnyH_take (i := 3) (oi := ⟨some 11, .convert 22 3 (.tmp 10), 3, "wire.go:195", _, none⟩) (v := .int .i64 z) rfl (by kernel_rfl) (by kernel_rfl) (by kernel_rfl) (fun _ _ _ h => h) (Or.inl ⟨by rfl, ?_⟩) (by assumption) ?_
      · (intro w' hSw; (try dsimp only at hSw); go_simp)
      try simp only [Act.put, List.setIfInBounds_toArray, List.set_cons_zero, List.set_cons_succ]
      refine wpAnyH_take (i := 8) (oi := ⟨some 16, .build 48 #[(0, .tmp 11), (1, .tmp 15)], 48, "wire.go:195", _, none⟩) (v := .agg #[.int .i64 z, .int .i64 (sb : Int)]) rfl (by kernel_rfl) (by kernel_rfl) (by kernel_rfl) (fun _ _ _ h => h) (Or.inl ⟨by rfl, ?_⟩) (by assumption) ?_
      · (intro w' hSw; (try dsimp only at hSw); go_simp)
      try simp only [Act.put, List.setIfInBounds_toArray, List.set_cons_zero, List.set_cons_succ]
      refine wpAnyH_ready (rs := [0, 9]) (by kernel_rfl) (by simp) ?_
      refine AllReadyH.cons rfl (fun K hK => ?_) (AllReadyH.cons rfl (fun K hK => ?_) AllReadyH.nil)
      · go_simp
        refine hK.out _ _ d2 (fun hHeld => ?_)
        clear hK K
        try simp only [Act.put, List.setIfInBounds_toArray, List.set_cons_zero, List.set_cons_succ]
        refine wpAnyH_ready (rs := [9]) (by kernel_rfl) (by simp) ?_
        refine AllReadyH.cons rfl (fun K hK => ?_) AllReadyH.nil
        go_simp
        refine hK.out _ _ e2 (fun hHeld => ?_)
        clear hK K
        try simp only [Act.put, List.setIfInBounds_toArray, List.set_cons_zero, List.set_cons_succ]
        refine wpAnyH_ready (rs := [10]) (by kernel_rfl) (by simp) ?_
        refine AllReadyH.cons rfl (fun K hK => ?_) AllReadyH.nil
        refine step_append_reps _ (by rfl) (.tmp 8) (.tmp 17) 24 (by rfl) _ _ 1 1 (by rfl) (by rfl) HRUN.out ?_
        refine hK.out _ _ g2 (fun hHeld => ?_)
        clear hK K
        try simp only [Act.put, List.setIfInBounds_toArray]
        refine wpAnyH_ready (rs := [11]) (by kernel_rfl) (by simp) ?_
        refine AllReadyH.cons rfl (fun K hK => ?_) AllReadyH.nil
        go_simp
        refine hK.out _ _ h2 (fun hHeld => ?_)
        clear hK K
        try dsimp only [Act.put]
        exact wpAnyH_done (by kernel_rfl) HFIN.out _
      · go_simp
        refine hK.out _ _ e2 (fun hHeld => ?_)
        clear hK K
        try simp only [Act.put, List.setIfInBounds_toArray, List.set_cons_zero, List.set_cons_succ]
        refine wpAnyH_ready (rs := [0]) (by kernel_rfl) (by simp) ?_
        refine AllReadyH.cons rfl (fun K hK => ?_) AllReadyH.nil
        go_simp
        refine hK.out _ _ e2 (fun hHeld => ?_)
        clear hK K
        try simp only [Act.put, List.setIfInBounds_toArray, List.set_cons_zero, List.set_cons_succ]
        refine wpAnyH_ready (rs := [10]) (by kernel_rfl) (by simp) ?_
        refine AllReadyH.cons rfl (fun K hK => ?_) AllReadyH.nil
        refine step_append_reps _ (by rfl) (.tmp 8) (.tmp 17) 24 (by rfl) _ _ 1 1 (by rfl) (by rfl) HRUN.out ?_
        refine hK.out _ _ g2 (fun hHeld => ?_)
        clear hK K
        try simp only [Act.put, List.setIfInBounds_toArray]
        refine wpAnyH_ready (rs := [11]) (by kernel_rfl) (by simp) ?_
        refine AllReadyH.cons rfl (fun K hK => ?_) AllReadyH.nil
        go_simp
        refine hK.out _ _ h2 (fun hHeld => ?_)
        clear hK K
        try dsimp only [Act.put]
        exact wpAnyH_done (by kernel_rfl) HFIN.out _
  case done =>
    rintro D ys W hD hys ⟨⟨v, hv, hown, _⟩, hB⟩ hK
    have hlen : ys.length = m := by have := congrArg List.length hys; simpa using this
    have hmap : ys.map (fun x : Pc m => pe l x.1) = (List.range m).map (pe l) := by rw [← hys, List.map_map]; rfl
    rw [hmap, hlen] at hown
    obtain ⟨A5, c5, rfl, _, _, _⟩ := own_reps hown
    have d1 := hv.cell
    have HOWN := Lib.hid hown
    have HBW := Lib.hid (bb2.trans hB)
    clear hys hmap hown hB
    gi_wp2
    refine ⟨by simp, .inl ⟨_, _, rfl, run_takeDeferred hK, ?_⟩⟩
    exact ⟨_, results_tmp rfl _ _ _, _, rfl, row_mono (ownsRow_putObj HOWN.out _ hK rfl) (by omega), HBW.out.trans (belowK_b (w := w) (Nat.le_refl _) W D _ _ (by omega) hK rfl rfl)⟩
  case stop =>
    rintro D c pre W _ _ h _
    exact h.elim
theorem wsection_any (ad : Addr) (m L cap : Nat) (l : List UInt8) (w : World) (hL : L = m * 9) (hm : m ≤ 3) (hc : L ≤ cap) (hcm : cap ≤ 9223372036854775807) (hr : Reads w w.heap.size (some ad) L (bs l)) :
    Calls Try.prog 35 #[.slice (some ad) L cap] w fun e w' => ∃ v, e = .returned v ∧ w'.ownsRow w.heap.size 48 2 v m (flatR ((List.range m).map (pe l))) ∧ Below w.heap.size w w' :=
  callsIn_wide.1 (wsection_in ad m L cap l w hL hm hc hcm hr)
end Go.Proofs.Ytneanlffllejnaa
