/-
  WHAT IS PROVED: words for a play: bytes of one's own that are written, the law's own list beside a net, an argument of steps. No condition.
-/
import Derived.Test.YtblmfjndemfkjaaOnce
import Derived.Laws.BitsAllLaws
namespace Go.Proofs.Ytblmfjndemfkjaa
open Go.RowKit Go.Lib
set_option maxRecDepth 100000

theorem flip_bits (b : UInt8) : bits .xor .u8 (b.toNat : Int) 255 = ((b ^^^ 255).toNat : Int) := by
  rw [UInt8.toNat_xor]
  exact u8_xor_nat _ 255 (UInt8.toNat_lt b) (by omega)
theorem bs_set (l : List UInt8) (k : Nat) (x : UInt8) : (bs l).set k (.int .u8 (x.toNat : Int)) = bs (l.set k x) := by unfold bs; rw [List.map_set]
section
variable {w w' : World} {B C n : Nat} {m : Ms} {v : Value} {xs : List Value} {U U' : Nat → Prop} {l : List Ms} {k : Int}
/-- a byte is written, wherever: the row has some bytes behind it -/
theorem OwnD.byte (h : OwnD w B m) (b j : Nat) (z : UInt8) : ∃ d', OwnD (w.setCell ⟨b, j, none⟩ (.int .u8 (z.toNat : Int))) B ⟨m.f, m.t, m.A, m.n, m.c, d'⟩ := by
  have hfar : (∀ k, (Value.slice m.A m.n m.c).ownBlock = some k → k ≠ b) → ∃ d', OwnD (w.setCell ⟨b, j, none⟩ (.int .u8 (z.toNat : Int))) B ⟨m.f, m.t, m.A, m.n, m.c, d'⟩ := fun hn =>
    ⟨m.d, own_turn h.own (Turn.set_ (F := fun i => i = b) _ rfl) hn, h.nc, h.cm, h.sz⟩
  rcases h.own.2 with ⟨h1, _⟩ | ⟨g, cap, cur, e1, hB, hh, hnc, hcm, hcs, ht⟩
  · exact hfar (fun k hk => by rw [h1] at hk; simp [Value.ownBlock] at hk)
  · by_cases hgb : g = b
    · subst hgb
      have hlen := h.own.1
      have hset : (w.setCell ⟨g, j, none⟩ (.int .u8 (z.toNat : Int))).heap[g]? = some (.cells (cur.setIfInBounds j (.int .u8 (z.toNat : Int))) 5 (0, 0)) := Blk.set_ (show Blk w g _ cur from hh) j _
      by_cases hj : j < m.n
      · refine ⟨m.d.set j z, ⟨by rw [bs_len, List.length_set]; rw [bs_len] at hlen; exact hlen, .inr ⟨g, cap, _, e1, hB, hset, hnc, hcm, by simpa using hcs, ?_⟩⟩, h.nc, h.cm, h.sz⟩
        rw [← bs_set, ← ht, Array.toList_setIfInBounds]
        exact List.take_set ..
      · refine ⟨m.d, ⟨h.own.1, .inr ⟨g, cap, _, e1, hB, hset, hnc, hcm, by simpa using hcs, ?_⟩⟩, h.nc, h.cm, h.sz⟩
        rw [Array.toList_setIfInBounds, List.take_set, ht]
        exact List.set_eq_of_length_le (by rw [hlen]; omega)
    · exact hfar (fun k hk => by rw [e1] at hk; simp [Value.ownBlock] at hk; omega)
/-- one byte of it, as the walk asks for it -/
theorem OwnD.at_ (h : OwnD w B m) {j : Nat} (hj : j < m.n) : ∃ b, ∃ z : UInt8, m.A = some ⟨b, 0, none⟩ ∧ B ≤ b ∧ b < w.heap.size ∧ (Value.slice m.A m.n m.c).ownBlock = some b ∧ w.cell? ((⟨b, 0, none⟩ : Addr).add j) = some (.int .u8 (z.toNat : Int)) ∧ w.frozen? ((⟨b, 0, none⟩ : Addr).add j) = false ∧ (⟨b, 0, none⟩ : Addr).add j = ⟨b, j, none⟩ := by
  rcases h.own.2 with ⟨_, h0⟩ | ⟨g, cap, cur, e1, hB, hh, hnc, hcm, hcs, ht⟩
  · omega
  · have hl : j < m.d.length := by have := h.own.1; rw [bs_len] at this; omega
    have ha : (⟨g, 0, none⟩ : Addr).add j = ⟨g, j, none⟩ := by rw [Go.WideShapes.add_plain, Nat.zero_add]
    injection e1 with e1 e2 e3
    refine ⟨g, m.d[j], e1, hB, (Array.getElem?_eq_some_iff.1 hh).1, by rw [e1]; simp [Value.ownBlock], ?_, ?_, ha⟩
    · refine h.own.cells (g := g) (by rw [e1]; rfl) j _ ?_
      unfold bs
      rw [List.getElem?_map, List.getElem?_eq_getElem hl]
      rfl
    · rw [ha]
      exact Blk.frozen (show Blk w g _ cur from hh) j
/-- a row of messages lies in another block than bytes do -/
theorem row_not_bytes (h : OwnD w B m) (ho : w.ownsRow C 29 3 v n xs) {b : Nat} (hb : (Value.slice m.A m.n m.c).ownBlock = some b) : ∀ k, v.ownBlock = some k → k ≠ b := by
  intro k hk e
  rcases h.own.2 with ⟨h1, _⟩ | ⟨g1, cap1, cur1, e1, _, hh1, _⟩
  · rw [h1] at hb; simp [Value.ownBlock] at hb
  · rcases ho.2 with ⟨h2, _⟩ | ⟨g2, cap2, cur2, e2, _, hh2, _⟩
    · rw [h2] at hk; simp [Value.ownBlock] at hk
    · rw [e1] at hb; rw [e2] at hk
      simp [Value.ownBlock] at hb hk
      rw [hk, e, ← hb, hh1] at hh2
      injection hh2 with hh2
      injection hh2 with _ h3 _
      exact absurd h3 (by decide)
theorem blk_not_bytes (h : OwnD w B m) {g : Nat} {t : TypeId} {cs : Array Value} (hb : Blk w g t cs) (ht : (5 : TypeId) ≠ t) {b : Nat} (hk : (Value.slice m.A m.n m.c).ownBlock = some b) : g ≠ b :=
  fun e => row_ne h.own hb ht b hk e.symm
/-- what turns is among U; what is new may be kept from the net too -/
theorem Nt.grow (h : Nt w C n U l k) (t : Turn w w' U) (hs : ∀ i, U' i → U i ∨ (w.heap.size ≤ i ∧ i < w'.heap.size)) : Nt w' C n U' l k := by
  obtain ⟨v, h1, h2, h3, h4⟩ := h.ex
  have hlt := h1.lt
  refine ⟨⟨v, h1.turn t h.nu, own_turn h2 t h3, fun c hc f => ?_, fun m hm => (h4 m hm).turn (t.wide fun i _ f => .inr (.inr f)) (fun i hi f => ?_)⟩, h.lo, fun f => ?_, fun i hi => ?_, h.le⟩
  · rcases hs c f with f | f
    · exact h3 c hc f
    · have := (h2.lt c hc).2; omega
  · rcases f with f | f | f
    · exact .inl f
    · exact .inr (.inl f)
    · rcases hs i f with f | f
      · exact .inr (.inr f)
      · omega
  · rcases hs n f with f | f
    · exact h.nu f
    · omega
  · rcases hs i hi with f | f
    · exact Nat.lt_of_lt_of_le (h.lt i f) t.size
    · exact f.2
end

/-- a net, and beside it the law's own list of messages -/
structure Pl (w0 w : World) (g : Nat) (U : Nat → Prop) (L : Value) (r : Nat) (ys ls : List Ms) : Prop where
  nt : Nt w w0.heap.size g U ls 0
  yl : ys.length = r
  own : w.ownsRow w0.heap.size 29 3 L r (flatM ys)
  uo : ∀ b, L.ownBlock = some b → U b
  gd : ∀ m ∈ ys, Good w (fun i => w0.heap.size ≤ i) m
  bel : Below w0.heap.size w0 w
section
variable {w0 w w' : World} {g r b : Nat} {U U' : Nat → Prop} {L : Value} {ys ls ls' : List Ms}
theorem Pl.grow (h : Pl w0 w g U L r ys ls) (hb : Below w.heap.size w w') : Pl w0 w' g (fun i => U i ∨ (w.heap.size ≤ i ∧ i < w'.heap.size)) L r ys ls :=
  ⟨h.nt.guard hb (fun _ f => f), h.yl, own_below h.own hb, fun b e => .inl (h.uo b e), fun m hm => (h.gd m hm).below hb, h.bel.trans (hb.mono h.bel.size)⟩
theorem Pl.net (h : Pl w0 w g U L r ys ls) (t : Turn w w' (Vf w0.heap.size U)) (k : Nt w' w0.heap.size g U ls' 0) : Pl w0 w' g U L r ys ls' :=
  ⟨k, h.yl, own_turn h.own t (fun b e f => f.2 (h.uo b e)), h.uo, fun m hm => (h.gd m hm).turn (t.wide fun _ _ f => f.1) (Sub.refl _ _), h.bel.trans (t.low h.bel.size)⟩
/-- a block beside the list is written -/
theorem Pl.side (h : Pl w0 w g U L r ys ls) (t : Turn w w' (fun i => i = b)) (hU : U b) (hL : ∀ k, L.ownBlock = some k → k ≠ b) (hC : w0.heap.size ≤ b) : Pl w0 w' g U L r ys ls :=
  ⟨h.nt.turn (t.wide fun _ _ f => by rw [f]; exact hU), h.yl, own_turn h.own t hL, h.uo, fun m hm => (h.gd m hm).turn (t.wide fun i _ f => by show _ ≤ i; rw [f]; exact hC) (Sub.refl _ _), h.bel.trans (t.below (fun i f => by rw [f]; exact hC) h.bel.size)⟩
/-- the list is laid anew, where it was or in a new row; nothing else turns -/
theorem Pl.relist (h : Pl w0 w g U L r ys ls) {L' : Value} {r' : Nat} {ys' : List Ms} (hg : w.grownBy w' L.ownBlock) (ho : w'.ownsRow w0.heap.size 29 3 L' r' (flatM ys')) (hL : L'.ownBlock = L.ownBlock ∨ ∀ b, L'.ownBlock = some b → w.heap.size ≤ b)
    (hy : ys'.length = r') (hgd : ∀ m ∈ ys', Good w (fun i => w0.heap.size ≤ i) m) : Pl w0 w' g (fun i => U i ∨ (w.heap.size ≤ i ∧ i < w'.heap.size)) L' r' ys' ls := by
  have t : Turn w w' U := Turn.of_grown hg (fun k e => h.uo k e)
  have t2 : Turn w w' (fun i => w0.heap.size ≤ i) := Turn.of_grown hg (fun k e => (h.own.lt k e).1)
  refine ⟨h.nt.grow t (fun _ f => f), hy, ho, fun b e => ?_, fun m hm => (hgd m hm).turn t2 (Sub.refl _ _), h.bel.trans (t2.below (fun _ f => f) h.bel.size)⟩
  rcases hL with hL | hL
  · rw [hL] at e; exact .inl (h.uo b e)
  · exact .inr ⟨hL b e, (ho.lt b e).2⟩
end

/-- the list is laid anew in a row of its own -/
theorem Pl.newlist {w0 w w' : World} {g r : Nat} {U : Nat → Prop} {L : Value} {ys ls : List Ms} (h : Pl w0 w g U L r ys ls) {L' : Value} {r' : Nat} {ys' : List Ms} (hb : Below w.heap.size w w') (ho : w'.ownsRow w.heap.size 29 3 L' r' (flatM ys')) (hy : ys'.length = r') (hgd : ∀ m ∈ ys', Good w (fun i => w0.heap.size ≤ i) m) : Pl w0 w' g (fun i => U i ∨ (w.heap.size ≤ i ∧ i < w'.heap.size)) L' r' ys' ls :=
  ⟨h.nt.guard hb (fun _ f => f), hy, own_base ho h.bel.size, fun b e => .inr (ho.lt b e), fun m hm => (hgd m hm).below hb, h.bel.trans (hb.mono h.bel.size)⟩

/-- a slice of one message just made, behind an append to another row -/
theorem rd_msg_grown {w w' : World} {row : Nat} (m : Ms) (hg : (w.alloc (.cells #[.int .i64 m.f, .int .i64 m.t, .slice m.A m.n m.c] 29)).grownBy w' (some row)) (hne : w.heap.size ≠ row) : Rd w' no 3 (some ⟨w.heap.size, 0, none⟩) 1 (flatM [m]) := by
  have h := rd_msg w m
  obtain ⟨ad, e, hlt, _, hc⟩ := h.2 (by omega)
  have h2 : Rd (w.alloc (.cells #[.int .i64 m.f, .int .i64 m.t, .slice m.A m.n m.c] 29)) (fun i => i = row) 3 (some ⟨w.heap.size, 0, none⟩) 1 (flatM [m]) := ⟨h.1, fun _ => ⟨ad, e, hlt, by cases e; exact hne, hc⟩⟩
  exact h2.turn (Turn.of_grown hg (fun k e => by injection e with e; exact e.symm)) (fun _ _ f => f.elim)

/-- a step of a play -/
structure Ac where
  how : Int
  i : Int
  m : Ms
def Ac.ok (w : World) (a : Ac) : Prop := Rd w no 1 a.m.A a.m.n (bs a.m.d) ∧ a.m.n ≤ a.m.c ∧ a.m.c ≤ 9223372036854775807
def encA (a : Ac) : List Value := [.int .i64 a.how, .int .i64 a.i, .int .i64 a.m.f, .int .i64 a.m.t, .slice a.m.A a.m.n a.m.c]
def flatA (l : List Ac) : List Value := l.flatMap encA
theorem flatA_len : ∀ l : List Ac, (flatA l).length = l.length * 5
  | [] => rfl
  | r :: l => by have := flatA_len l; simp [flatA, encA] at this ⊢; omega
theorem flatA_get : ∀ {l : List Ac} {i : Nat} {r : Ac}, l[i]? = some r → (flatA l)[i * 5]? = some (.int .i64 r.how) ∧ (flatA l)[i * 5 + 1]? = some (.int .i64 r.i) ∧ (flatA l)[i * 5 + 2]? = some (.int .i64 r.m.f) ∧ (flatA l)[i * 5 + 3]? = some (.int .i64 r.m.t) ∧ (flatA l)[i * 5 + 4]? = some (.slice r.m.A r.m.n r.m.c)
  | x :: l, 0, r, h => by simp at h; subst h; exact ⟨rfl, rfl, rfl, rfl, rfl⟩
  | x :: l, i + 1, r, h => by
    have := flatA_get (l := l) (i := i) (r := r) (by simpa using h)
    rw [show (i + 1) * 5 = i * 5 + 5 by omega, show i * 5 + 5 + 1 = i * 5 + 1 + 5 by omega, show i * 5 + 5 + 2 = i * 5 + 2 + 5 by omega, show i * 5 + 5 + 3 = i * 5 + 3 + 5 by omega, show i * 5 + 5 + 4 = i * 5 + 4 + 5 by omega]
    exact this
theorem Rd.atA {w : World} {F : Nat → Prop} {n k : Nat} {A : Option Addr} {l : List Ac} (h : Rd w F 5 A n (flatA l)) (hk : k < n) : ∃ ad p, A = some ad ∧ l[k]? = some p ∧ ad.block < w.heap.size ∧
    w.cell? (ad.add (k * 5)) = some (.int .i64 p.how) ∧ w.cell? ⟨(ad.add (k * 5)).block, (ad.add (k * 5)).off + 1, none⟩ = some (.int .i64 p.i) ∧ w.cell? ⟨(ad.add (k * 5)).block, (ad.add (k * 5)).off + 2, none⟩ = some (.int .i64 p.m.f) ∧
    w.cell? ⟨(ad.add (k * 5)).block, (ad.add (k * 5)).off + 3, none⟩ = some (.int .i64 p.m.t) ∧ w.cell? ⟨(ad.add (k * 5)).block, (ad.add (k * 5)).off + 4, none⟩ = some (.slice p.m.A p.m.n p.m.c) := by
  obtain ⟨ad, e, hlt, hf, hc⟩ := h.2 (by omega)
  have hl : k < l.length := by have := h.1; rw [flatA_len] at this; omega
  obtain ⟨f0, f1, f2, f3, f4⟩ := flatA_get (List.getElem?_eq_getElem hl)
  have c1 := hc _ _ f1
  have c2 := hc _ _ f2
  have c3 := hc _ _ f3
  have c4 := hc _ _ f4
  rw [← add_of_add, add_succ] at c1 c2 c3 c4
  exact ⟨ad, l[k], e, List.getElem?_eq_getElem hl, hlt, hc _ _ f0, c1, c2, c3, c4⟩
end Go.Proofs.Ytblmfjndemfkjaa
