/-
  WHAT IS PROVED: a node amid a call, in memory: the node, what is sent, what is told; each is changed alone. No condition.
-/
import Derived.Test.YteoodompphhkbaaGreatDoorZNS
namespace Go.Proofs.YteoodompphhkbaaGreatDoor.Nod
set_option maxRecDepth 100000
open Go.RowKit Go.Lib Go.Maps
open Go.Proofs.YteoodompphhkbaaGreatDoor.Ros (Turn Sub Rd Blk no zints)

/-- the cells of a packet that is sent, and of an event -/
def outC (o : Int × Wir.Pk) (S : Value) : List Value := .int .i64 o.1 :: (Wir.pc o.2 S).toList
def evC (e : Ev) (S : Value) : List Value := [.int .i64 e.k, .int .i64 e.b, .int .i64 e.a, .int .i64 e.e, S]
def flatO : List (Int × Wir.Pk) → List Value → List Value
  | o :: l, S :: m => outC o S ++ flatO l m
  | _, _ => []
def flatE : List Ev → List Value → List Value
  | e :: l, S :: m => evC e S ++ flatE l m
  | _, _ => []
theorem flatO_append {o : Int × Wir.Pk} {S : Value} (l : List (Int × Wir.Pk)) : ∀ (m : List Value), m.length = l.length → flatO (l ++ [o]) (m ++ [S]) = flatO l m ++ outC o S := by
  induction l with
  | nil => intro m h; cases m with
    | nil => exact List.append_nil _
    | cons y m => cases h
  | cons x l ih => intro m h; cases m with
    | nil => cases h
    | cons y m => exact (congrArg (fun z => outC x y ++ z) (ih m (by simpa using h))).trans (List.append_assoc _ _ _).symm
/-- a slice value that reads as entries, or as ids, outside of U -/
def SecAt (w : World) (t : Nat) (U : Nat → Prop) (S : Value) (l : List Wir.En) : Prop := ∃ A c, S = .slice A l.length c ∧ l.length ≤ c ∧ c ≤ 9223372036854775807 ∧ Rd w U 2 A l.length (Wir.flatR l) ∧ (0 < l.length → ∃ ad, A = some ad ∧ t ≤ ad.block)
def WhoAt (w : World) (t : Nat) (U : Nat → Prop) (S : Value) (l : List Int) : Prop := ∃ A c, S = .slice A l.length c ∧ l.length ≤ c ∧ c ≤ 9223372036854775807 ∧ Rd w U 1 A l.length (zints l) ∧ (0 < l.length → ∃ ad, A = some ad ∧ t ≤ ad.block)
section
variable {w w' : World} {U V : Nat → Prop} {S : Value}
theorem SecAt.turn {t : Nat} {l : List Wir.En} (h : SecAt w t U S l) (k : Turn w w' U) (s : Sub w U V) : SecAt w' t V S l := by
  obtain ⟨A, c, e, h1, h2, h3, h4⟩ := h
  exact ⟨A, c, e, h1, h2, h3.turn k s, h4⟩
theorem WhoAt.turn {t : Nat} {l : List Int} (h : WhoAt w t U S l) (k : Turn w w' U) (s : Sub w U V) : WhoAt w' t V S l := by
  obtain ⟨A, c, e, h1, h2, h3, h4⟩ := h
  exact ⟨A, c, e, h1, h2, h3.turn k s, h4⟩
end
/-- all the parts of a list of packets, of events -/
def Secs (w : World) (t : Nat) (U : Nat → Prop) (Ss : List Value) (o : List (Int × Wir.Pk)) : Prop := Ss.length = o.length ∧ ∀ (i : Nat) S x, Ss[i]? = some S → o[i]? = some x → SecAt w t U S x.2.sec
def Whos (w : World) (t : Nat) (U : Nat → Prop) (Ss : List Value) (o : List Ev) : Prop := Ss.length = o.length ∧ ∀ (i : Nat) S x, Ss[i]? = some S → o[i]? = some x → WhoAt w t U S x.who
section
variable {w w' : World} {U V : Nat → Prop} {Ss : List Value}
theorem Secs.turn {t : Nat} {o : List (Int × Wir.Pk)} (h : Secs w t U Ss o) (k : Turn w w' U) (s : Sub w U V) : Secs w' t V Ss o := ⟨h.1, fun i S x h1 h2 => (h.2 i S x h1 h2).turn k s⟩
theorem Whos.turn {t : Nat} {o : List Ev} (h : Whos w t U Ss o) (k : Turn w w' U) (s : Sub w U V) : Whos w' t V Ss o := ⟨h.1, fun i S x h1 h2 => (h.2 i S x h1 h2).turn k s⟩
theorem Secs.snoc {t : Nat} {o : List (Int × Wir.Pk)} (h : Secs w t U Ss o) {S : Value} {x : Int × Wir.Pk} (hs : SecAt w t U S x.2.sec) : Secs w t U (Ss ++ [S]) (o ++ [x]) := by
  refine ⟨by simp [h.1], fun i T y h1 h2 => ?_⟩
  rw [List.getElem?_append] at h1 h2
  rw [h.1] at h1
  split at h1
  · next hi => rw [if_pos hi] at h2; exact h.2 i T y h1 h2
  · next hi =>
    rw [if_neg hi] at h2
    obtain ⟨k, hk⟩ : ∃ k, i - o.length = k := ⟨_, rfl⟩
    rw [hk] at h1 h2
    cases k with
    | zero => simp at h1 h2; subst h1; subst h2; exact hs
    | succ k => simp at h1
theorem Whos.snoc {t : Nat} {o : List Ev} (h : Whos w t U Ss o) {S : Value} {x : Ev} (hs : WhoAt w t U S x.who) : Whos w t U (Ss ++ [S]) (o ++ [x]) := by
  refine ⟨by simp [h.1], fun i T y h1 h2 => ?_⟩
  rw [List.getElem?_append] at h1 h2
  rw [h.1] at h1
  split at h1
  · next hi => rw [if_pos hi] at h2; exact h.2 i T y h1 h2
  · next hi =>
    rw [if_neg hi] at h2
    obtain ⟨k, hk⟩ : ∃ k, i - o.length = k := ⟨_, rfl⟩
    rw [hk] at h1 h2
    cases k with
    | zero => simp at h1 h2; subst h1; subst h2; exact hs
    | succ k => simp at h1
end
/-- block t is a node amid a call: the node behind g, its answer so far -/
structure TnAt (w : World) (C t g : Nat) (U : Nat → Prop) (d : Nat) (x : Tn) : Prop where
  ex : ∃ (N A : Nat → Prop) (vo ve : Value) (So Se : List Value), NdAt w C g N d x.n ∧ Blk w t 119 #[.pointer (some ⟨g, 0, none⟩), .int .i64 0, vo, ve] ∧
    w.ownsRow C 199 12 vo x.out.length (flatO x.out So) ∧ w.ownsRow C 205 5 ve x.ev.length (flatE x.ev Se) ∧ Secs w t U So x.out ∧ Whos w t U Se x.ev ∧
    (∀ i, N i → U i ∧ ¬ A i) ∧ (∀ i, A i → U i) ∧ A t ∧ (∀ k, vo.ownBlock = some k → A k ∧ k ≠ t) ∧ (∀ k, ve.ownBlock = some k → A k ∧ k ≠ t ∧ vo.ownBlock ≠ some k)
  lt : ∀ i, U i → i < w.heap.size
  lo : ∀ i, U i → C ≤ i
section
variable {w w' : World} {C t g d : Nat} {U V : Nat → Prop} {x : Tn}
theorem TnAt.turn (h : TnAt w C t g U d x) (k : Turn w w' V) (hd : ∀ i, U i → ¬ V i) (ho : ∀ i, i < w.heap.size → V i → False) : TnAt w' C t g U d x := by
  obtain ⟨N, A, vo, ve, So, Se, h1, h2, h3, h4, h5, h6, h7, h8, h9, h10, h11⟩ := h.ex
  have kb : Turn w w' U := ⟨k.os, k.tape, k.output, k.size, fun i hi _ => k.block i hi (fun f => ho i hi f)⟩
  exact ⟨⟨N, A, vo, ve, So, Se, h1.turn k (fun i hi => hd i (h7 i hi).1), h2.turn k (hd _ (h8 _ h9)), Ros.own_turn h3 k (fun i hi => hd _ (h8 _ (h10 i hi).1)), Ros.own_turn h4 k (fun i hi => hd _ (h8 _ (h11 i hi).1)), h5.turn kb (Sub.refl _ _), h6.turn kb (Sub.refl _ _), h7, h8, h9, h10, h11⟩,
    fun i hi => Nat.lt_of_lt_of_le (h.lt i hi) k.size, h.lo⟩
theorem TnAt.below (h : TnAt w C t g U d x) (k : Below w.heap.size w w') : TnAt w' C t g U d x := h.turn (Turn.of_below k no) (fun _ _ f => f.elim) (fun _ _ f => f.elim)
theorem TnAt.c0 (h : TnAt w C t g U d x) : w.cell? ⟨t, 0, none⟩ = some (.pointer (some ⟨g, 0, none⟩)) := by
  obtain ⟨N, A, vo, ve, So, Se, _, h2, _⟩ := h.ex
  have := h2.cell 0
  simpa using this
/-- a node amid a call, behind what changes it -/
def ThenT (w w' : World) (C t g : Nat) (U : Nat → Prop) (d : Nat) (x : Tn) : Prop := ∃ U', TnAt w' C t g U' d x ∧ Turn w w' U ∧ Sub w U U'
theorem ThenT.same (h : TnAt w C t g U d x) (k : Below w.heap.size w w') : ThenT w w' C t g U d x := ⟨U, h.below k, Turn.of_below k U, Sub.refl _ _⟩
theorem ThenT.trans {a b c : World} {y : Tn} (h : ThenT a b C t g U d y) (k : ∀ U', TnAt b C t g U' d y → ThenT b c C t g U' d x) : ThenT a c C t g U d x := by
  obtain ⟨U1, h1, t1, s1⟩ := h
  obtain ⟨U2, h2, t2, s2⟩ := k U1 h1
  exact ⟨U2, h2, t1.trans t2 s1, s1.trans s2 t1.size⟩
/-- the node alone is changed -/
theorem TnAt.node (h : TnAt w C t g U d x) : ∃ N, NdAt w C g N d x.n ∧ (∀ i, N i → U i) ∧ ∀ w' n' N', NdAt w' C g N' d n' → Turn w w' N → Sub w N N' → TnAt w' C t g (fun i => U i ∨ N' i) d ⟨n', x.out, x.ev⟩ ∧ Turn w w' U ∧ Sub w U (fun i => U i ∨ N' i) := by
  obtain ⟨N, A, vo, ve, So, Se, h1, h2, h3, h4, h5, h6, h7, h8, h9, h10, h11⟩ := h.ex
  refine ⟨N, h1, fun i hi => (h7 i hi).1, fun w' n' N' k1 k2 k3 => ?_⟩
  have kt : Turn w w' U := k2.wide (fun i hi => (h7 i hi).1)
  have na : ∀ i, A i → ¬ N i := fun i hi f => (h7 i f).2 hi
  have ks : Sub w U (fun i => U i ∨ N' i) := fun i hi f => by
    rcases f with f | f
    · exact f
    · exact (h7 i (k3 i hi f)).1
  refine ⟨⟨⟨N', A, vo, ve, So, Se, k1, h2.turn k2 (na _ h9), Ros.own_turn h3 k2 (fun i hi => na _ (h10 i hi).1), Ros.own_turn h4 k2 (fun i hi => na _ (h11 i hi).1), h5.turn kt ks, h6.turn kt ks, fun i hi => ⟨.inr hi, fun f => ?_⟩, fun i hi => .inl (h8 i hi), h9, h10, h11⟩, ?_, ?_⟩, kt, ks⟩
  · exact na i f (k3 i (h.lt i (h8 i f)) hi)
  · rintro i (hi | hi)
    · exact Nat.lt_of_lt_of_le (h.lt i hi) kt.size
    · exact k1.lt i hi
  · rintro i (hi | hi)
    · exact h.lo i hi
    · exact k1.lo i hi
/-- .. as its calls say it -/
theorem TnAt.nodes (h : TnAt w C t g U d x) : ∃ N, NdAt w C g N d x.n ∧ ∀ w' n', Then w w' C g N d n' → ThenT w w' C t g U d ⟨n', x.out, x.ev⟩ := by
  obtain ⟨N, h1, _, h2⟩ := h.node
  exact ⟨N, h1, fun w' n' ⟨N', k1, k2, k3⟩ => ⟨_, h2 w' n' N' k1 k2 k3⟩⟩
/-- a packet more is sent: the row has grown, and its value is stored -/
theorem TnAt.push (h : TnAt w C t g U d x) : ∃ vo, w.cell? ⟨t, 2, none⟩ = some vo ∧ ∃ xs, w.ownsRow C 199 12 vo x.out.length xs ∧ ((∀ k, vo.ownBlock = some k → U k ∧ k ≠ t) ∧ t < w.heap.size ∧ C ≤ t ∧ U t ∧ ∀ i, w.frozen? ⟨t, i, none⟩ = false) ∧ ∀ w1, Below w.heap.size w w1 → ∀ (w2 : World) (v2 S : Value) (o : Int × Wir.Pk), w2.ownsRow C 199 12 v2 (x.out.length + 1) (xs ++ outC o S) → w1.grownBy w2 vo.ownBlock → (v2.ownBlock = vo.ownBlock ∨ v2.ownBlock = some w1.heap.size) → SecAt w1 t (fun i => U i ∨ w.heap.size ≤ i ∧ v2.ownBlock = some i) S o.2.sec →
    (∀ k, v2.ownBlock = some k → k ≠ t) → ThenT w (w2.setCell ⟨t, 2, none⟩ v2) C t g U d ⟨x.n, x.out ++ [o], x.ev⟩ := by
  obtain ⟨N, A, vo, ve, So, Se, h1, h2, h3, h4, h5, h6, h7, h8, h9, h10, h11⟩ := h.ex
  refine ⟨vo, by have := h2.cell 2; simpa using this, flatO x.out So, h3, ⟨fun k hk => ⟨h8 k (h10 k hk).1, (h10 k hk).2⟩, h.lt t (h8 t h9), h.lo t (h8 t h9), h8 t h9, fun i => h2.frozen i⟩, fun w1 hb w2 v2 S o hown hg hat hsec hne => ?_⟩
  have k12 : Turn w1 w2 (fun i => vo.ownBlock = some i) := Turn.of_grown hg (fun k e => e)
  have k2 : Turn w w2 (fun i => vo.ownBlock = some i) := (Turn.of_below hb _).trans k12 (Sub.refl _ _)
  have k3 : Turn w (w2.setCell ⟨t, 2, none⟩ v2) A := (k2.wide (fun i hi => (h10 i hi).1)).trans (turn_set w2 ⟨t, 2, none⟩ v2 A h9) (Sub.refl _ _)
  have kt : Turn w (w2.setCell ⟨t, 2, none⟩ v2) U := k3.wide h8
  have hs2 : w2.heap.size = (w2.setCell ⟨t, 2, none⟩ v2).heap.size := by simp [World.setCell]
  have hnew : ∀ i, v2.ownBlock = some i → i < w.heap.size → A i := fun i hi hlt => by
    rcases hat with e | e
    · rw [hi] at e; exact (h10 i e.symm).1
    · rw [hi] at e; injection e with e; have := hb.size; omega
  have hns : Sub w U (fun i => U i ∨ w.heap.size ≤ i ∧ v2.ownBlock = some i) := fun i hi f => by
    rcases f with f | ⟨f, _⟩
    · exact f
    · omega
  have hset : Turn w2 (w2.setCell ⟨t, 2, none⟩ v2) (fun i => i = t) := turn_set w2 ⟨t, 2, none⟩ v2 _ rfl
  refine ⟨fun i => U i ∨ w.heap.size ≤ i ∧ v2.ownBlock = some i, ⟨⟨N, fun i => A i ∨ w.heap.size ≤ i ∧ v2.ownBlock = some i, v2, ve, So ++ [S], Se, h1.turn k3 (fun i hi => (h7 i hi).2), ?_, ?_, ?_, ?_, ?_, ?_, ?_, .inl h9, ?_, ?_⟩, ?_, ?_⟩, kt, hns⟩
  · have hb2 : Blk w2 t 119 #[.pointer (some ⟨g, 0, none⟩), .int .i64 0, vo, ve] := h2.turn k2 (fun e => (h10 t e).2 rfl)
    have := hb2.set_ 2 v2
    simpa using this
  · rw [List.length_append, List.length_singleton, flatO_append _ _ h5.1]
    exact Ros.own_turn hown hset (fun k hk => hne k hk)
  · exact Ros.own_turn (Ros.own_turn h4 k2 (fun i hi => (h11 i hi).2.2)) hset (fun k hk => (h11 k hk).2.1)
  · refine (h5.turn kt hns).snoc ?_
    have kk : Turn w1 (w2.setCell ⟨t, 2, none⟩ v2) (fun i => U i ∨ w.heap.size ≤ i ∧ v2.ownBlock = some i) := (k12.wide (fun i hi => .inl (h8 _ (h10 i hi).1))).trans (turn_set w2 ⟨t, 2, none⟩ v2 _ (.inl (h8 _ h9))) (Sub.refl _ _)
    exact hsec.turn kk (Sub.refl _ _)
  · exact h6.turn kt hns
  · exact fun i hi => ⟨.inl (h7 i hi).1, fun f => by
      rcases f with f | ⟨f, _⟩
      · exact (h7 i hi).2 f
      · have := h1.lt i hi; omega⟩
  · rintro i (hi | hi)
    · exact .inl (h8 i hi)
    · exact .inr hi
  · intro k hk
    refine ⟨?_, hne k hk⟩
    rcases Nat.lt_or_ge k w.heap.size with hlt | hge
    · exact .inl (hnew k hk hlt)
    · exact .inr ⟨hge, hk⟩
  · intro k hk
    refine ⟨.inl (h11 k hk).1, (h11 k hk).2.1, fun e => ?_⟩
    rcases hat with e2 | e2
    · exact (h11 k hk).2.2 (e2.symm.trans e)
    · rw [e] at e2; injection e2 with e2
      have := h.lt k (h8 k (h11 k hk).1); have := hb.size; omega
  · rintro i (hi | ⟨_, hi⟩)
    · exact Nat.lt_of_lt_of_le (h.lt i hi) kt.size
    · rw [← hs2]; exact (hown.lt i hi).2
  · rintro i (hi | ⟨_, hi⟩)
    · exact h.lo i hi
    · exact (hown.lt i hi).1
end
end Go.Proofs.YteoodompphhkbaaGreatDoor.Nod
