/-
  WHAT IS PROVED: one walk for a region that draws its order, whose first operations are quiet (in a class of worlds), and whose last ones come in one forced order behind all of them. Condition: a Bool of the region's, for the kernel.
-/
import Derived.Test.YteoodompphhkbaaGreatDoorZNQ
import Derived.StillTail
import Derived.StillTailTactics
namespace Go.Proofs.YteoodompphhkbaaGreatDoor.Nod
set_option maxRecDepth 100000
open Go.RowKit

section
variable {P : Program} {ops : Array Oper} {md : Region.Mode} {C : World → Prop}
/-- the head's operations come up in whatever order, each of them quiet; then L -/
def HeadQ (P : Program) (md : Region.Mode) (ops : Array Oper) (C : World → Prop) (n : Nat) (L : Array Bool → Act → Prop) : Nat → Array Bool → Act → Prop
  | 0, dn, a => L dn a
  | f + 1, dn, a => Region.ready md ops dn ≠ [] ∧ ∀ i ∈ Region.ready md ops dn, i < n ∧ qOp P ops C i (HeadQ P md ops C n L f (dn.setIfInBounds i true)) a
theorem any_of_headQ {n g : Nat} {L : Array Bool → Act → Prop} {Q' : Exit → Act → World → Prop} (hL : ∀ dn a w, C w → L dn a → wpAny P md ops Q' g dn a w) (f : Nat) :
    ∀ (dn : Array Bool) (a : Act) (w : World), C w → HeadQ P md ops C n L f dn a → wpAny P md ops Q' (f + g) dn a w := by
  induction f with
  | zero => intro dn a w hw h; rw [Nat.zero_add]; exact hL _ _ _ hw h
  | succ f ih =>
    intro dn a w hw h
    have e : f + 1 + g = (f + g) + 1 := by omega
    rw [e]
    exact ⟨fun h0 => (h.1 h0).elim, fun i hi => wpOp_of_qOp hw (fun a' w' hw' h' => ih _ a' w' hw' h') (h.2 i hi).2⟩
theorem headQ_first {n i : Nat} {oi : Oper} {v : Value} {L : Array Bool → Act → Prop} (hi : ops[i]? = some oi) (hsel : ∀ (j : Nat) (o : Oper) cs b, ops[j]? = some o → o.op ≠ .select cs b)
    (hs : Region.sinkB md ops n = true) (hc : Region.chainB md ops n = true) (hn : n < ops.size) (hin : i < n) (hL : ∀ dn a, L dn a → ∀ j ∈ Region.ready md ops dn, n ≤ j) (f : Nat) :
    ∀ (dn : Array Bool) (a : Act), HeadInv md ops n dn →
      (∀ j oj, ops[j]? = some oj → j ≠ i → dn.getD j true = false → (∀ e ∈ oj.after, Region.binds md e = true → e.on ≠ i) → oi.apart ops oj = true) →
      i ∈ Region.ready md ops dn → YieldsIn P ops C oi v a → HeadQ P md ops C n L f (dn.setIfInBounds i true) (a.put oi.dst v) → HeadQ P md ops C n L (f + 1) dn a := by
  have low : ∀ (dn : Array Bool), HeadInv md ops n dn → i ∈ Region.ready md ops dn → ∀ j ∈ Region.ready md ops dn, j < n := fun dn inv hr j hj => by
    rcases Nat.lt_or_ge j n with h | h
    · exact h
    · exact (tail_waits hs hc hn inv _ i rfl hin (mem_ready.1 hr).1 j h hj).elim
  induction f with
  | zero =>
    intro dn a inv _ hr hy H
    refine ⟨fun h => (by rw [h] at hr; cases hr), fun j hj => ⟨low dn inv hr j hj, ?_⟩⟩
    by_cases hji : j = i
    · rw [hji]; exact hy.qOp hi H
    · exact absurd (hL _ _ H j (ready_mono hj hji)) (by have := low dn inv hr j hj; omega)
  | succ f ih =>
    intro dn a inv hfree hr hy H
    refine ⟨fun h => (by rw [h] at hr; cases hr), fun j hj => ⟨low dn inv hr j hj, ?_⟩⟩
    by_cases hji : j = i
    · rw [hji]; exact hy.qOp hi H
    · obtain ⟨hjun, oj, hoj, hall⟩ := mem_ready.1 hj
      have hnot : ∀ e ∈ oj.after, Region.binds md e = true → e.on ≠ i := fun e he hb heq => by
        have h1 := hall e he hb
        rw [heq, getD_both (mem_ready.1 hr).1] at h1
        cases h1
      have h2 := qOp_put hoj (hfree j oj hoj hji hjun hnot) (fun cs b => hsel i oi cs b hi) (fun cs b => hsel j oj cs b hoj) hy (H.2 j (ready_mono hj hji)).2
      refine qOp_mono (fun a' h3 => ih (dn.setIfInBounds j true) a' (inv.set hj (low dn inv hr j hj)) (fun k ok hk hki hun hno => hfree k ok hk hki ?_ hno) (ready_mono hr (Ne.symm hji)) h3.1 ?_) h2
      · by_cases hjk : j = k
        · rw [← hjk]; exact hjun
        · rwa [getD_set_ne true hjk] at hun
      · rw [Array.setIfInBounds_comm _ _ hji]
        exact h3.2
theorem headQ_lex {n g : Nat} {Lq : Act → Prop} (hsel : Region.noSelect ops = true) (hs : Region.sinkB md ops n = true) (hc : Region.chainB md ops n = true) (hn : n < ops.size) (l : List Oper) :
    ∀ (k : Nat) (dn : Array Bool) (a : Act), (∀ j, j < l.length → l[j]? = ops[k + j]?) → k + l.length = n → HeadInv md ops n dn → Region.lexHead md ops g l.length k dn = true → wpQuiet P ops C Lq l a →
    HeadQ P md ops C n (fun dn' a' => Region.seqB md ops g n dn' = true ∧ Lq a') l.length dn a := by
  induction l with
  | nil =>
    intro k dn a _ hk _ hB h
    obtain rfl : k = n := by simpa using hk
    exact ⟨by simpa [Region.lexHead] using hB, h⟩
  | cons o l ih =>
    intro k dn a hl hk inv hB h
    have h0 : ops[k]? = some o := by simpa using (hl 0 (by simp)).symm
    simp only [List.length_cons, Region.lexHead, Bool.and_eq_true] at hB
    have hkn : k < n := by simp only [List.length_cons] at hk; omega
    have hr : k ∈ Region.ready md ops dn := by simpa using hB.1.1
    have hst : qOp P ops C k (wpQuiet P ops C Lq l) a := by unfold qOp; simp only [h0]; exact h
    obtain ⟨v, hy, hK⟩ := yieldsIn_of_qOp h0 hst
    exact headQ_first h0 (Region.noSelect_spec hsel) hs hc hn hkn (fun dn' a' hL => seqB_ready hL.1) l.length dn a inv (Region.free_spec h0 hB.1.2) hr hy
      (ih (k + 1) _ _ (fun j hj => by have := hl (j + 1) (by simp; omega); simpa [Nat.add_assoc, Nat.add_comm 1 j] using this) (by simp only [List.length_cons] at hk; omega) (inv.set hr hkn) hB.2 hK)
end
/-- A REGION OF A QUIET HEAD AND A FORCED TAIL -/
theorem wp_region_head {P : Program} {id : Nat} {Q : Exit → Act → World → Prop} {a : Act} {w : World} {l : List Oper} (n : Nat) (hm : P.follows .mixedOrders = true) (hB : Region.lexTailB .any l.toArray n = true)
    (h : wpQuiet P l.toArray (fun w' => ∃ p : Later w, w' = p.now) (fun a' => ∀ w', (∃ p : Later w, w' = p.now) → wpList P l.toArray Q (l.drop n) a' w') (l.take n) a) : (Code.region id l.toArray true).wp P Q a w := by
  simp only [Region.lexTailB, Bool.and_eq_true, decide_eq_true_eq] at hB
  obtain ⟨⟨⟨⟨hsel, hn⟩, hs⟩, hc⟩, hlex⟩ := hB
  have hn' : n < l.length := by simpa using hn
  have htl : (l.take n).length = n := by simp; omega
  have hdl : (l.drop n).length = l.toArray.size - n := by simp
  have inv0 : HeadInv .any l.toArray n (Array.replicate l.toArray.size false) :=
    ⟨by simp, fun j oj _ hl => (by rw [getD_replicate_false] at hl; cases hl), fun t _ ht => getD_in (by simpa using ht) (getD_replicate_false _ _)⟩
  have hd : ∃ p : Later w, w.drew = p.now := ⟨⟨w.drew, ⟨rfl, rfl, rfl, Nat.le_refl _, fun _ _ => rfl⟩⟩, rfl⟩
  have key := headQ_lex (C := fun w' => ∃ p : Later w, w' = p.now) (g := l.toArray.size - n) hsel hs hc hn (l.take n) 0 _ a (fun j hj => by
    rw [htl] at hj
    rw [Nat.zero_add, List.getElem?_toArray, List.getElem?_take, if_pos hj]) (by rw [Nat.zero_add]; exact htl) inv0 (by rw [htl]; exact hlex) h
  rw [htl] at key
  refine wp_region_any hm ?_
  have := any_of_headQ (g := l.toArray.size - n) (Q' := Q) (fun dn a w' hw hL => by
    rw [← hdl]
    rw [← hdl] at hL
    exact wpAny_of_seq (l.drop n) n dn a w' (fun j => by rw [List.getElem?_drop, List.getElem?_toArray]) hL.1 (hL.2 w' hw)) n _ a w.drew hd key
  rw [show n + (l.toArray.size - n) = l.toArray.size by simp; omega] at this
  exact this

/-! ### whole structs that lie in blocks of their own -/
section
variable {ops : Array Oper} {rest : List Oper} {Q : Exit → Act → World → Prop} {a : Act} {w : World} {dst : Option Tmp} {ty : TypeId} {pos : String} {after : Array Edge} {gd : Option (Nat × Bool)} {x y : Operand} {T T' : TypeId} {dd : TypeDesc} {b : Nat} {cs cs' : Array Value}
theorem row_load (hx : a.eval x = .pointer (some ⟨b, 0, none⟩)) (hb : Ros.Blk w b T' cs) (hu : Tryz.prog.underlying T = some dd) (hd : dd.isRow = true) (hs : (Tryz.prog.info? T).map (·.size) = some cs.size) (hw : Region.wanted ⟨dst, .load T x, ty, pos, after, gd⟩ (yielded ops a.tmps) = true)
    (h : wpList Tryz.prog ops Q rest (a.put dst (.agg cs)) w) : wpList Tryz.prog ops Q (⟨dst, .load T x, ty, pos, after, gd⟩ :: rest) a w :=
  K.C.at_want hw fun _ hK => wp_load_row T x rfl b hx _ cs (0, 0) _ hb hu (by cases dd <;> first | rfl | cases hd) hs (hK _ _ h)
theorem row_store (hx : a.eval x = .pointer (some ⟨b, 0, none⟩)) (hb : Ros.Blk w b T' cs) (hy : a.eval y = .agg cs') (hs : (Tryz.prog.info? T).map (·.size) = some cs'.size) (hz : cs.size = cs'.size) (h1 : cs'.all (·.oneCell') = true) (hw : Region.wanted ⟨dst, .store T x y, ty, pos, after, gd⟩ (yielded ops a.tmps) = true)
    (h : wpList Tryz.prog ops Q rest (a.put dst undef) (w.setRow b cs')) : wpList Tryz.prog ops Q (⟨dst, .store T x y, ty, pos, after, gd⟩ :: rest) a w :=
  K.C.at_want hw fun _ hK => wp_store_row T x y rfl b cs' hx hy _ cs hb hs hz h1 (hK _ _ h)
end
theorem blk_row {w : World} {b : Nat} {t : TypeId} {cs : Array Value} (h : Ros.Blk w b t cs) (cs' : Array Value) : Ros.Blk (w.setRow b cs') b t cs' := setRow_heap w b _ _ _ _ h
end Go.Proofs.YteoodompphhkbaaGreatDoor.Nod
