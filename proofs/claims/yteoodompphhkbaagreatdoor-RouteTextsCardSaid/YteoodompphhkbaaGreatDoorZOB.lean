/-
  WHAT IS PROVED: a call's beginning and end: its turn in memory, what is answered. No condition.
-/
import Derived.Test.YteoodompphhkbaaGreatDoorZOW
namespace Go.Proofs.YteoodompphhkbaaGreatDoor.Nod
set_option maxRecDepth 100000
open Go.RowKit Go.Lib Go.Maps
open Go.Proofs.YteoodompphhkbaaGreatDoor.Ros (Turn Sub Rd Blk no zints)
open Go.Proofs.YteoodompphhkbaaGreatDoor.K (KnAt Kn Sv stv StAt mkS)

section
variable {w w' : World} {C t g d : Nat} {F U : Nat → Prop} {n : Nd} {x : Tn}
theorem TnAt.start (h : NdAt w C g F d n) (hb : Blk w t 119 #[.pointer (some ⟨g, 0, none⟩), .int .i64 0, .slice none 0 0, .slice none 0 0]) (ht : ¬ F t) (hC : C ≤ t) : TnAt w C t g (fun i => F i ∨ i = t) d ⟨n, [], []⟩ :=
  ⟨⟨F, fun i => i = t, .slice none 0 0, .slice none 0 0, [], [], h, hb, World.ownsRow_nil _ _ _ _, World.ownsRow_nil _ _ _ _, ⟨rfl, fun i S x h1 => by simp at h1⟩, ⟨rfl, fun i S x h1 => by simp at h1⟩, fun i hi => ⟨.inl hi, fun e => ht (e ▸ hi)⟩, fun i hi => .inr hi, rfl, fun k hk => by simp [Value.ownBlock] at hk, fun k hk => by simp [Value.ownBlock] at hk⟩,
   fun i hi => by rcases hi with hi | rfl; exact h.lt i hi; exact hb.lt, fun i hi => by rcases hi with hi | rfl; exact h.lo i hi; exact hC⟩
/-- a list's parts elsewhere -/
theorem SecAt.move {t B : Nat} {U V : Nat → Prop} {S : Value} {l : List Wir.En} (h : SecAt w t U S l) (hB : B ≤ t) (hk : ∀ i, t ≤ i → i < w.heap.size → ¬ U i → w'.heap[i]? = w.heap[i]?) (hs : w.heap.size ≤ w'.heap.size) (hV : ∀ i, i < w.heap.size → V i → U i) : SecAt w' B V S l := by
  obtain ⟨A, c, e, h1, h2, h3, h4⟩ := h
  refine ⟨A, c, e, h1, h2, ⟨h3.1, fun hn => ?_⟩, fun hn => ?_⟩
  · obtain ⟨ad, e1, k1, k2, k3⟩ := h3.2 hn
    obtain ⟨ad2, e2, k4⟩ := h4 hn
    rw [e1] at e2
    injection e2 with e2
    subst e2
    exact ⟨ad, e1, Nat.lt_of_lt_of_le k1 hs, fun f => k2 (hV _ k1 f), fun j u hu => by
      have := k3 j u hu
      rw [← this]
      exact World.cell?_of_block (by rw [Ros.block_of_add]; exact hk _ k4 k1 k2)⟩
  · obtain ⟨ad, e1, k⟩ := h4 hn
    exact ⟨ad, e1, Nat.le_trans hB k⟩
theorem WhoAt.move {t B : Nat} {U V : Nat → Prop} {S : Value} {l : List Int} (h : WhoAt w t U S l) (hB : B ≤ t) (hk : ∀ i, t ≤ i → i < w.heap.size → ¬ U i → w'.heap[i]? = w.heap[i]?) (hs : w.heap.size ≤ w'.heap.size) (hV : ∀ i, i < w.heap.size → V i → U i) : WhoAt w' B V S l := by
  obtain ⟨A, c, e, h1, h2, h3, h4⟩ := h
  refine ⟨A, c, e, h1, h2, ⟨h3.1, fun hn => ?_⟩, fun hn => ?_⟩
  · obtain ⟨ad, e1, k1, k2, k3⟩ := h3.2 hn
    obtain ⟨ad2, e2, k4⟩ := h4 hn
    rw [e1] at e2
    injection e2 with e2
    subst e2
    exact ⟨ad, e1, Nat.lt_of_lt_of_le k1 hs, fun f => k2 (hV _ k1 f), fun j u hu => by
      have := k3 j u hu
      rw [← this]
      exact World.cell?_of_block (by rw [Ros.block_of_add]; exact hk _ k4 k1 k2)⟩
  · obtain ⟨ad, e1, k⟩ := h4 hn
    exact ⟨ad, e1, Nat.le_trans hB k⟩
/-- what a call answers, in memory outside of N, its rows in Q -/
def AnAt (w : World) (B : Nat) (N Q : Nat → Prop) (v : Value) (a : An) : Prop :=
  ∃ vo ve So Se, v = .agg #[.int .i64 a.e, vo, ve] ∧ w.ownsRow 0 199 12 vo a.out.length (flatO a.out So) ∧ w.ownsRow 0 205 5 ve a.ev.length (flatE a.ev Se) ∧ Secs w B N So a.out ∧ Whos w B N Se a.ev ∧
    (∀ k, vo.ownBlock = some k → ¬ N k ∧ Q k) ∧ (∀ k, ve.ownBlock = some k → ¬ N k ∧ Q k)
theorem AnAt.err (w : World) (B : Nat) (N Q : Nat → Prop) (e : Int) : AnAt w B N Q (.agg #[.int .i64 e, .slice none 0 0, .slice none 0 0]) (An.err e) :=
  ⟨.slice none 0 0, .slice none 0 0, [], [], rfl, World.ownsRow_nil _ _ _ _, World.ownsRow_nil _ _ _ _, ⟨rfl, fun i S x h1 => by simp at h1⟩, ⟨rfl, fun i S x h1 => by simp at h1⟩, fun k hk => by simp [Value.ownBlock] at hk, fun k hk => by simp [Value.ownBlock] at hk⟩
/-- a call's end: the node and what it answers -/
theorem TnAt.fin (h : TnAt w C t g U d x) : ∃ N vo ve, NdAt w C g N d x.n ∧ (∀ i, N i → U i ∧ i ≠ t) ∧ Blk w t 119 #[.pointer (some ⟨g, 0, none⟩), .int .i64 0, vo, ve] ∧ U t ∧ vo.oneCell' = true ∧ ve.oneCell' = true ∧
    ∀ (w' : World) (B : Nat) (V Q G : Nat → Prop), Turn w w' G → (∀ i, G i → N i ∨ (¬ U i ∧ i < t)) → B ≤ t → (∀ i, i < w.heap.size → V i → N i) → (∀ k, U k → Q k) → AnAt w' B V Q (.agg #[.int .i64 0, vo, ve]) ⟨0, x.out, x.ev⟩ := by
  obtain ⟨N, A, vo, ve, So, Se, h1, h2, h3, h4, h5, h6, h7, h8, h9, h10, h11⟩ := h.ex
  have one : ∀ {base n s : Nat} {e : TypeId} {v : Value} {xs : List Value}, w.ownsRow base e s v n xs → v.oneCell' = true := fun hv => by
    obtain ⟨A, c, rfl, _⟩ := Ros.own_form hv; rfl
  refine ⟨N, vo, ve, h1, fun i hi => ⟨(h7 i hi).1, fun e => (h7 i hi).2 (e ▸ h9)⟩, h2, h8 t h9, one h3, one h4, fun w' B V Q G kt hG hB hV hQ => ?_⟩
  have hfd : ∀ k, A k → ¬ G k := fun k hk f => by
    rcases hG k f with f | f
    · exact (h7 k f).2 hk
    · exact f.1 (h8 k hk)
  have hpart : ∀ i, t ≤ i → i < w.heap.size → ¬ U i → w'.heap[i]? = w.heap[i]? := fun i h1 h2 h3 => kt.block i h2 fun f => by
    rcases hG i f with f | f
    · exact h3 (h7 i f).1
    · omega
  have hVU : ∀ i, i < w.heap.size → V i → U i := fun i hi f => (h7 i (hV i hi f)).1
  refine ⟨vo, ve, So, Se, rfl, Ros.own_base (Ros.own_turn h3 kt (fun i hi => hfd _ (h10 i hi).1)) (Nat.zero_le _), Ros.own_base (Ros.own_turn h4 kt (fun i hi => hfd _ (h11 i hi).1)) (Nat.zero_le _), ⟨h5.1, fun i S x a b => (h5.2 i S x a b).move hB hpart kt.size hVU⟩, ⟨h6.1, fun i S x a b => (h6.2 i S x a b).move hB hpart kt.size hVU⟩, fun k hk => ⟨fun f => (h7 k (hV k (h3.lt k hk).2 f)).2 (h10 k hk).1, hQ k (h8 k (h10 k hk).1)⟩, fun k hk => ⟨fun f => (h7 k (hV k (h4.lt k hk).2 f)).2 (h11 k hk).1, hQ k (h8 k (h11 k hk).1)⟩⟩
/-- known ones stay where others turn -/
theorem KnAt_turn {A : Option Addr} {k : Nat} {l : List Kn} (h : KnAt w A k l) (kt : Turn w w' U) (hn : 0 < k → ∀ ad, A = some ad → ¬ U ad.block) : KnAt w' A k l :=
  ⟨h.1, fun hk => by
    obtain ⟨ad, e, hlt, hc⟩ := h.2 hk
    have hf : ∀ j, w'.cell? (ad.add j) = w.cell? (ad.add j) := fun j => kt.cell (by rw [Ros.block_of_add]; exact hlt) (by rw [Ros.block_of_add]; exact hn hk ad e)
    refine ⟨ad, e, Nat.lt_of_lt_of_le hlt kt.size, fun i s hs => ?_⟩
    obtain ⟨c0, c1, c2⟩ := hc i s hs
    exact ⟨(hf _).trans c0, (hf _).trans c1, (hf _).trans c2⟩⟩
end
theorem mid_load {ops : Array Oper} {rest : List Oper} {Q : Exit → Act → World → Prop} {a : Act} {w : World} {dst : Option Tmp} {ty : TypeId} {pos : String} {after : Array Edge} {gd : Option (Nat × Bool)} {x : Operand} {T : TypeId} {dd : TypeDesc} {b o : Nat} {cs : List Value}
    (hx : a.eval x = .pointer (some ⟨b, o, none⟩)) (hr : w.rangeAt b o cs) (hu : Tryz.prog.underlying T = some dd) (hd : dd.isRow = true) (hs : (Tryz.prog.info? T).map (·.size) = some cs.length) (hw : Region.wanted ⟨dst, .load T x, ty, pos, after, gd⟩ (yielded ops a.tmps) = true)
    (h : wpList Tryz.prog ops Q rest (a.put dst (.agg cs.toArray)) w) : wpList Tryz.prog ops Q (⟨dst, .load T x, ty, pos, after, gd⟩ :: rest) a w :=
  K.C.at_want hw fun _ hK => wp_load_mid T x rfl b o hx cs dd hr hu hd hs (hK _ _ h)
/-- a node and its disk, once a variable of the call's own is stored -/
theorem Sys.fin {w : World} {C g d e r : Nat} {N : Nat → Prop} {n : Nd} {D : K.Dsk.Ds} (nd : NdAt w C g N d n) (dk : K.Dsk.Dk w d e (fun i => N i ∨ i = r) D) (env : EnvC C w) (dlo : C ≤ d ∧ C ≤ e) (hr : ¬ N r) (hC : C ≤ r) (cs : Array Value) : Sys (w.setRow r cs) C g N d e n D := by
  have kt := turn_row w r cs (fun i => i = r) rfl
  have hn : NdAt (w.setRow r cs) C g N d n := nd.turn kt (fun i hi f => hr (f ▸ hi))
  exact ⟨hn, Dk_turn dk (kt.wide fun i hi => .inr hi) (fun i _ f => .inl f) hn.lt, env.turn kt (fun i hi => by rw [hi]; exact hC) nd.cle, dlo⟩
theorem an_info : (Tryz.prog.info? 55).map (·.size) = some 3 := by kernel_rfl
end Go.Proofs.YteoodompphhkbaaGreatDoor.Nod
