/-
  WHAT IS PROVED: a node in memory: its block, its roster, watch, book and ballot apart from one another; each part is changed alone. No condition.
-/
import Derived.Test.YteoodompphhkbaaGreatDoorZNP
import Derived.Deep.MidRow
namespace Go.Proofs.YteoodompphhkbaaGreatDoor.Nod
set_option maxRecDepth 100000
open Go.RowKit Go.Lib Go.Maps
open Go.Proofs.YteoodompphhkbaaGreatDoor.Ros (Turn Sub Rd Blk no zints)

section
variable {w w' : World} {F G : Nat → Prop}
theorem to_bal (h : Turn w w' F) : Bal.Turn w w' F := ⟨h.os, h.tape, h.output, h.size, h.block⟩
theorem to_dsk (h : Turn w w' F) : K.Dsk.Turn w w' F := ⟨h.os, h.tape, h.output, h.size, h.block⟩
theorem _root_.Go.Proofs.YteoodompphhkbaaGreatDoor.Ros.Turn.wide (h : Turn w w' F) (hF : ∀ i, F i → G i) : Turn w w' G := ⟨h.os, h.tape, h.output, h.size, fun i hi hn => h.block i hi fun f => hn (hF i f)⟩
theorem _root_.Go.Proofs.YteoodompphhkbaaGreatDoor.Ros.Turn.two {a b c : World} (h : Turn a b F) (k : Turn b c G) (s : Sub a F G) : Turn a c F := h.trans k s
theorem turn_set (w : World) (p : Addr) (u : Value) (F : Nat → Prop) (hp : F p.block) : Turn w (w.setCell p u) F :=
  ⟨rfl, rfl, rfl, by simp [World.setCell], fun i _ hn => Below.heap_setCell w p u i (fun e => hn (by rw [e]; exact hp))⟩
end
/-- a watch and a book stay where others turn -/
theorem wt_turn {w w' : World} {g b : Nat} {T : Int} {L : List Wat.Pr} {G : Nat → Prop} (h : Wat.Wt w g b T L) (k : Turn w w' G) (h1 : ¬ G g) (h2 : ¬ G b) : Wat.Wt w' g b T L :=
  ⟨(k.block g h.lt h1).trans h.row, by
    have hlt := h.ltb
    obtain ⟨D, ⟨es, clock, hh, rest⟩, r⟩ := h.map
    exact ⟨D, ⟨es, clock, (k.block b hlt h2).trans hh, rest⟩, r⟩, h.good, h.to⟩
theorem bk_turn {w w' : World} {g b : Nat} {T : Int} {L : List Bok.Rp} {G : Nat → Prop} (h : Bok.Bk w g b T L) (k : Turn w w' G) (h1 : ¬ G g) (h2 : ¬ G b) : Bok.Bk w' g b T L :=
  ⟨(k.block g h.lt h1).trans h.row, by
    have hlt := h.ltb
    obtain ⟨D, ⟨es, clock, hh, rest⟩, r⟩ := h.map
    exact ⟨D, ⟨es, clock, (k.block b hlt h2).trans hh, rest⟩, r⟩, h.good, h.win⟩

/-! ### the cells -/
def ndA (n : Nd) (d : Nat) : List Value := [.int .i64 n.id, .int .i64 n.T, .pointer (some ⟨d, 0, none⟩), .bool n.stop, .int .i64 n.time, .int .i64 n.ma, .int .i64 n.ep.cur, .int .i64 n.ep.vote, .int .i64 n.ep.conf, .int .i64 n.off]
def tbL (t : K.C.Tab) : List Value := K.C.row t.o ++ K.C.row t.e
def ndC (p : Int) (r wg bg z : Nat) : List Value := [.pointer (some ⟨r, 0, none⟩), .pointer (some ⟨wg, 0, none⟩), .pointer (some ⟨bg, 0, none⟩), .pointer (some ⟨z, 0, none⟩), .int .i64 p]
def ndc (n : Nd) (d r wg bg z : Nat) : Array Value := (ndA n d ++ (tbL n.tab ++ ndC n.plan r wg bg z)).toArray
theorem tbL_len (t : K.C.Tab) : (tbL t).length = 128 := by unfold tbL; rw [List.length_append, K.C.row_len, K.C.row_len]
theorem nd_pre (n : Nd) (d r wg bg z k : Nat) (hk : k < 10) : (ndc n d r wg bg z)[k]? = (ndA n d)[k]? := by
  unfold ndc
  rw [List.getElem?_toArray, List.getElem?_append_left (by simpa [ndA] using hk)]
theorem nd_post (n : Nd) (d r wg bg z k : Nat) : (ndc n d r wg bg z)[138 + k]? = (ndC n.plan r wg bg z)[k]? := by
  unfold ndc
  rw [List.getElem?_toArray, List.getElem?_append_right (by simp [ndA]; omega), List.getElem?_append_right (by rw [tbL_len]; simp [ndA]; omega), tbL_len]
  congr 1
  simp [ndA]; omega
theorem nd_mid (n : Nd) (d r wg bg z k : Nat) (hk : k < 128) : (ndc n d r wg bg z)[10 + k]? = (tbL n.tab)[k]? := by
  unfold ndc
  rw [List.getElem?_toArray, List.getElem?_append_right (by simp [ndA]), List.getElem?_append_left (by rw [tbL_len]; simp [ndA]; omega)]
  congr 1
  simp [ndA]
theorem set_pre (n : Nd) (d r wg bg z k : Nat) (u : Value) (hk : k < 10) : (ndc n d r wg bg z).setIfInBounds k u = ((ndA n d).set k u ++ (tbL n.tab ++ ndC n.plan r wg bg z)).toArray := by
  unfold ndc
  rw [List.setIfInBounds_toArray, List.set_append_left _ _ (by simpa [ndA] using hk)]
theorem blk_setCells {g : Nat} {t : TypeId} (C : List Value) : ∀ (M M' : List Value) (A : List Value) (w : World), M.length = M'.length → Blk w g t (A ++ (M ++ C)).toArray → Blk (w.setCells g A.length M') g t (A ++ (M' ++ C)).toArray
  | [], [], A, w, _, h => by simpa [World.setCells] using h
  | m :: M, m' :: M', A, w, hl, h => by
    have h1 : Blk (w.setCell ⟨g, A.length, none⟩ m') g t ((A ++ [m']) ++ (M ++ C)).toArray := by
      have := h.set_ A.length m'
      rw [List.setIfInBounds_toArray, List.set_append_right _ _ (Nat.le_refl _), Nat.sub_self] at this
      simpa using this
    have h2 := blk_setCells C M M' (A ++ [m']) _ (by simpa using hl) h1
    rw [List.length_append, List.length_singleton] at h2
    have e : w.setCells g A.length (m' :: M') = (w.setCell ⟨g, A.length, none⟩ m').setCells g (A.length + 1) M' := rfl
    rw [e]
    simpa using h2
theorem set_tab {w : World} {g d r wg bg z : Nat} {n : Nd} (h : Blk w g 81 (ndc n d r wg bg z)) (u : K.C.Tab) :
    Blk (w.setCells g 10 (K.C.tb u).toList) g 81 (ndc { n with tab := u } d r wg bg z) := by
  have := blk_setCells (ndC n.plan r wg bg z) (tbL n.tab) (tbL u) (ndA n d) w (by rw [tbL_len, tbL_len]) h
  exact this
theorem turn_cells (g : Nat) (F : Nat → Prop) (hg : F g) : ∀ (vs : List Value) (w : World) (o : Nat), Turn w (w.setCells g o vs) F
  | [], w, _ => Turn.refl w F
  | v :: vs, w, o => (turn_set w ⟨g, o, none⟩ v F hg).trans (turn_cells g F hg vs _ (o + 1)) (Sub.refl _ _)
theorem turn_setCells (w : World) (g o : Nat) (vs : List Value) (F : Nat → Prop) (hg : F g) : Turn w (w.setCells g o vs) F := turn_cells g F hg vs w o

/-! ### a node -/
/-- block g is a node n, whose own blocks are among F, all of them from C on; its disk is behind d -/
structure NdAt (w : World) (C g : Nat) (F : Nat → Prop) (d : Nat) (n : Nd) : Prop where
  ex : ∃ (r wg wb bg bb z : Nat) (FR FZ : Nat → Prop) (κ : Nat → Nat), Blk w g 81 (ndc n d r wg bg z) ∧ Ros.Rs w C r FR n.R ∧ Wat.Wt w wg wb n.T n.P ∧ Bok.Bk w bg bb (2 * n.T) n.B ∧ Bal.Bl w C z FZ n.T n.Z ∧
    (∀ i, FR i → F i ∧ κ i = 1) ∧ (F wg ∧ κ wg = 2) ∧ (F wb ∧ κ wb = 2) ∧ (F bg ∧ κ bg = 3) ∧ (F bb ∧ κ bb = 3) ∧ (∀ i, FZ i → F i ∧ κ i = 4) ∧ κ g = 0
  fg : F g
  lt : ∀ i, F i → i < w.heap.size
  lo : ∀ i, F i → C ≤ i
  ok : Ok n
section
variable {w w' : World} {C g d : Nat} {F G : Nat → Prop} {n : Nd}
theorem NdAt.turn (h : NdAt w C g F d n) (k : Turn w w' G) (hd : ∀ i, F i → ¬ G i) : NdAt w' C g F d n := by
  obtain ⟨r, wg, wb, bg, bb, z, FR, FZ, κ, h1, h2, h3, h4, h5, k1, k2, k3, k4, k5, k6, k7⟩ := h.ex
  exact ⟨⟨r, wg, wb, bg, bb, z, FR, FZ, κ, h1.turn k (hd _ h.fg), h2.turn k (fun i hi => hd i (k1 i hi).1), wt_turn h3 k (hd _ k2.1) (hd _ k3.1), bk_turn h4 k (hd _ k4.1) (hd _ k5.1), h5.turn (to_bal k) (fun i hi => hd i (k6 i hi).1), k1, k2, k3, k4, k5, k6, k7⟩,
    h.fg, fun i hi => Nat.lt_of_lt_of_le (h.lt i hi) k.size, h.lo, h.ok⟩
theorem NdAt.below (h : NdAt w C g F d n) (k : Below w.heap.size w w') : NdAt w' C g F d n := h.turn (Turn.of_below k no) (fun _ _ f => f.elim)
theorem NdAt.alloc (h : NdAt w C g F d n) (o : Obj) : NdAt (w.alloc o) C g F d n := h.below ((Below.refl _ _).alloc (Nat.le_refl _) _)
theorem NdAt.drew (h : NdAt w C g F d n) : NdAt w.drew C g F d n := h.below (Below.refl _ w).drew
theorem NdAt.drewN (h : NdAt w C g F d n) (k : Nat) : NdAt (w.drewN k) C g F d n := h.below (Ros.below_drewN (Below.refl _ w) k)
theorem NdAt.glt (h : NdAt w C g F d n) : g < w.heap.size := h.lt _ h.fg
theorem NdAt.cle (h : NdAt w C g F d n) : C ≤ w.heap.size := Nat.le_trans (h.lo _ h.fg) (Nat.le_of_lt h.glt)
theorem NdAt.wide (h : NdAt w C g F d n) (hF : ∀ i, F i → G i) (h1 : ∀ i, G i → i < w.heap.size) (h2 : ∀ i, G i → C ≤ i) : NdAt w C g G d n := by
  obtain ⟨r, wg, wb, bg, bb, z, FR, FZ, κ, a1, a2, a3, a4, a5, k1, k2, k3, k4, k5, k6, k7⟩ := h.ex
  exact ⟨⟨r, wg, wb, bg, bb, z, FR, FZ, κ, a1, a2, a3, a4, a5, fun i hi => ⟨hF _ (k1 i hi).1, (k1 i hi).2⟩, ⟨hF _ k2.1, k2.2⟩, ⟨hF _ k3.1, k3.2⟩, ⟨hF _ k4.1, k4.2⟩, ⟨hF _ k5.1, k5.2⟩, fun i hi => ⟨hF _ (k6 i hi).1, (k6 i hi).2⟩, k7⟩, hF _ h.fg, h1, h2, h.ok⟩
/-- its cells -/
theorem NdAt.cells (h : NdAt w C g F d n) : w.cell? ⟨g, 0, none⟩ = some (.int .i64 n.id) ∧ w.cell? ⟨g, 1, none⟩ = some (.int .i64 n.T) ∧ w.cell? ⟨g, 2, none⟩ = some (.pointer (some ⟨d, 0, none⟩)) ∧ w.cell? ⟨g, 3, none⟩ = some (.bool n.stop) ∧
    w.cell? ⟨g, 4, none⟩ = some (.int .i64 n.time) ∧ w.cell? ⟨g, 5, none⟩ = some (.int .i64 n.ma) ∧ w.cell? ⟨g, 6, none⟩ = some (.int .i64 n.ep.cur) ∧ w.cell? ⟨g, 7, none⟩ = some (.int .i64 n.ep.vote) ∧ w.cell? ⟨g, 8, none⟩ = some (.int .i64 n.ep.conf) ∧
    w.cell? ⟨g, 9, none⟩ = some (.int .i64 n.off) ∧ w.cell? ⟨g, 142, none⟩ = some (.int .i64 n.plan) := by
  obtain ⟨r, wg, wb, bg, bb, z, FR, FZ, κ, h1, _⟩ := h.ex
  have f := fun k (hk : k < 10) => (h1.cell k).trans (nd_pre n d r wg bg z k hk)
  exact ⟨f 0 (by omega), f 1 (by omega), f 2 (by omega), f 3 (by omega), f 4 (by omega), f 5 (by omega), f 6 (by omega), f 7 (by omega), f 8 (by omega), f 9 (by omega), (h1.cell 142).trans (nd_post n d r wg bg z 4)⟩
theorem NdAt.fz (h : NdAt w C g F d n) (i : Nat) : w.frozen? ⟨g, i, none⟩ = false := by
  obtain ⟨r, wg, wb, bg, bb, z, FR, FZ, κ, h1, _⟩ := h.ex
  exact h1.frozen i
theorem NdAt.range (h : NdAt w C g F d n) : w.rangeAt g 10 (tbL n.tab) := fun j v hv => by
  obtain ⟨r, wg, wb, bg, bb, z, FR, FZ, κ, h1, _⟩ := h.ex
  have hj : j < 128 := by have := (List.getElem?_eq_some_iff.1 hv).1; rwa [tbL_len] at this
  exact ((h1.cell (10 + j)).trans (nd_mid n d r wg bg z j hj)).trans hv
theorem NdAt.there (h : NdAt w C g F d n) : w.there g 10 128 := fun j hj => by
  refine ⟨?_, h.fz _⟩
  have hr := h.range j _ (List.getElem?_eq_getElem (by rw [tbL_len]; exact hj))
  rw [hr]; rfl
/-- a number of it is set -/
theorem NdAt.put (h : NdAt w C g F d n) {k : Nat} {u : Value} {n' : Nd} (ho : Ok n') (hk : k < 10) (hs : (ndA n d).set k u = ndA n' d) (e1 : n'.tab = n.tab) (e2 : n'.R = n.R) (e3 : n'.P = n.P) (e4 : n'.B = n.B) (e5 : n'.Z = n.Z) (e6 : n'.plan = n.plan) (e7 : n'.T = n.T) :
    NdAt (w.setCell ⟨g, k, none⟩ u) C g F d n' := by
  obtain ⟨r, wg, wb, bg, bb, z, FR, FZ, κ, h1, h2, h3, h4, h5, k1, k2, k3, k4, k5, k6, k7⟩ := h.ex
  have kt := turn_set w ⟨g, k, none⟩ u (fun i => i = g) rfl
  have ne : ∀ i, κ i ≠ 0 → ¬ i = g := fun i hi e => hi (by rw [e]; exact k7)
  refine ⟨⟨r, wg, wb, bg, bb, z, FR, FZ, κ, ?_, by rw [e2]; exact h2.turn kt (fun i hi => ne i (by rw [(k1 i hi).2]; decide)), by rw [e3, e7]; exact wt_turn h3 kt (ne _ (by rw [k2.2]; decide)) (ne _ (by rw [k3.2]; decide)), by rw [e4, e7]; exact bk_turn h4 kt (ne _ (by rw [k4.2]; decide)) (ne _ (by rw [k5.2]; decide)), by rw [e5, e7]; exact h5.turn (to_bal kt) (fun i hi => ne i (by rw [(k6 i hi).2]; decide)), k1, k2, k3, k4, k5, k6, k7⟩, h.fg, fun i hi => by simpa [World.setCell] using h.lt i hi, h.lo, ho⟩
  have := h1.set_ k u
  rw [set_pre n d r wg bg z k u hk, hs] at this
  unfold ndc
  rw [e1, e6]
  exact this
theorem NdAt.putEp (h : NdAt w C g F d n) {e : Epo.Ep} (he : Epo.okB e = true) :
    NdAt (((w.setCell ⟨g, 6, none⟩ (.int .i64 e.cur)).setCell ⟨g, 7, none⟩ (.int .i64 e.vote)).setCell ⟨g, 8, none⟩ (.int .i64 e.conf)) C g F d { n with ep := e } := by
  obtain ⟨r, wg, wb, bg, bb, z, FR, FZ, κ, h1, h2, h3, h4, h5, k1, k2, k3, k4, k5, k6, k7⟩ := h.ex
  have kt : Turn w (((w.setCell ⟨g, 6, none⟩ (.int .i64 e.cur)).setCell ⟨g, 7, none⟩ (.int .i64 e.vote)).setCell ⟨g, 8, none⟩ (.int .i64 e.conf)) (fun i => i = g) :=
    ((turn_set w ⟨g, 6, none⟩ _ (fun i => i = g) rfl).trans (turn_set _ ⟨g, 7, none⟩ _ (fun i => i = g) rfl) (Sub.refl _ _)).trans (turn_set _ ⟨g, 8, none⟩ _ (fun i => i = g) rfl) (Sub.refl _ _)
  have ne : ∀ i, κ i ≠ 0 → ¬ i = g := fun i hi e => hi (by rw [e]; exact k7)
  refine ⟨⟨r, wg, wb, bg, bb, z, FR, FZ, κ, ?_, h2.turn kt (fun i hi => ne i (by rw [(k1 i hi).2]; decide)), wt_turn h3 kt (ne _ (by rw [k2.2]; decide)) (ne _ (by rw [k3.2]; decide)), bk_turn h4 kt (ne _ (by rw [k4.2]; decide)) (ne _ (by rw [k5.2]; decide)), h5.turn (to_bal kt) (fun i hi => ne i (by rw [(k6 i hi).2]; decide)), k1, k2, k3, k4, k5, k6, k7⟩, h.fg, fun i hi => by simpa [World.setCell] using h.lt i hi, h.lo, { h.ok with ep := he }⟩
  have := ((h1.set_ 6 (.int .i64 e.cur)).set_ 7 (.int .i64 e.vote)).set_ 8 (.int .i64 e.conf)
  exact this
theorem NdAt.putTab (h : NdAt w C g F d n) (u : K.C.Tab) (hu : K.C.okB u = true) : NdAt (w.setCells g 10 (K.C.tb u).toList) C g F d { n with tab := u } := by
  obtain ⟨r, wg, wb, bg, bb, z, FR, FZ, κ, h1, h2, h3, h4, h5, k1, k2, k3, k4, k5, k6, k7⟩ := h.ex
  have kt := turn_setCells w g 10 (K.C.tb u).toList (fun i => i = g) rfl
  have ne : ∀ i, κ i ≠ 0 → ¬ i = g := fun i hi e => hi (by rw [e]; exact k7)
  exact ⟨⟨r, wg, wb, bg, bb, z, FR, FZ, κ, set_tab h1 u, h2.turn kt (fun i hi => ne i (by rw [(k1 i hi).2]; decide)), wt_turn h3 kt (ne _ (by rw [k2.2]; decide)) (ne _ (by rw [k3.2]; decide)), bk_turn h4 kt (ne _ (by rw [k4.2]; decide)) (ne _ (by rw [k5.2]; decide)), h5.turn (to_bal kt) (fun i hi => ne i (by rw [(k6 i hi).2]; decide)), k1, k2, k3, k4, k5, k6, k7⟩, h.fg, fun i hi => Nat.lt_of_lt_of_le (h.lt i hi) kt.size, h.lo, { h.ok with tab := hu }⟩
/-- a node behind what changes it -/
def Then (w w' : World) (C g : Nat) (F : Nat → Prop) (d : Nat) (n : Nd) : Prop := ∃ F', NdAt w' C g F' d n ∧ Turn w w' F ∧ Sub w F F'
theorem Then.same (h : NdAt w C g F d n) (k : Below w.heap.size w w') : Then w w' C g F d n := ⟨F, h.below k, Turn.of_below k F, Sub.refl _ _⟩
theorem Then.refl (h : NdAt w C g F d n) : Then w w C g F d n := Then.same h (Below.refl _ _)
theorem NdAt.then_ (h : NdAt w' C g F d n) (k : Turn w w' F) : Then w w' C g F d n := ⟨F, h, k, Sub.refl _ _⟩
/-- the roster is changed -/
theorem NdAt.ros (h : NdAt w C g F d n) : ∃ r FR, w.cell? ⟨g, 138, none⟩ = some (.pointer (some ⟨r, 0, none⟩)) ∧ Ros.Rs w C r FR n.R ∧ ∀ w1, Below w.heap.size w w1 → ∀ w' FR' R', Ros.Rs w' C r FR' R' → Turn w1 w' FR → Sub w1 FR FR' → Ok { n with R := R' } → Then w w' C g F d { n with R := R' } := by
  obtain ⟨r, wg, wb, bg, bb, z, FR, FZ, κ, h1, h2, h3, h4, h5, k1, k2, k3, k4, k5, k6, k7⟩ := h.ex
  refine ⟨r, FR, (h1.cell 138).trans (nd_post n d r wg bg z 0), h2, fun w1 hb w' FR' R' a1 a2 a3 ho => ?_⟩
  have kt : Turn w w' FR := (Turn.of_below hb FR).trans a2 (Sub.refl _ _)
  have ks : Sub w FR FR' := fun i hi f => a3 i (Nat.lt_of_lt_of_le hi hb.size) f
  have ne : ∀ i, κ i ≠ 1 → ¬ FR i := fun i hi f => hi (k1 i f).2
  have hg := h.glt
  have g2 := h3.lt; have g3 := h3.ltb; have g4 := h4.lt; have g5 := h4.ltb
  refine ⟨fun i => F i ∨ FR' i, ⟨⟨r, wg, wb, bg, bb, z, FR', FZ, fun i => if i < w.heap.size then κ i else 1, h1.turn kt (ne _ (by rw [k7]; decide)), a1, wt_turn h3 kt (ne _ (by rw [k2.2]; decide)) (ne _ (by rw [k3.2]; decide)), bk_turn h4 kt (ne _ (by rw [k4.2]; decide)) (ne _ (by rw [k5.2]; decide)), h5.turn (to_bal kt) (fun i hi => ne i (by rw [(k6 i hi).2]; decide)),
    fun i hi => ⟨.inr hi, ?_⟩, ⟨.inl k2.1, (if_pos g2).trans k2.2⟩, ⟨.inl k3.1, (if_pos g3).trans k3.2⟩, ⟨.inl k4.1, (if_pos g4).trans k4.2⟩, ⟨.inl k5.1, (if_pos g5).trans k5.2⟩, fun i hi => ⟨.inl (k6 i hi).1, (if_pos (h5.lt i hi)).trans (k6 i hi).2⟩, (if_pos hg).trans k7⟩, .inl h.fg, ?_, ?_, ho⟩, kt.wide (fun i f => (k1 i f).1), ?_⟩
  · by_cases hi2 : i < w.heap.size
    · exact (if_pos hi2).trans (k1 i (ks i hi2 hi)).2
    · exact if_neg hi2
  · rintro i (hi | hi)
    · exact Nat.lt_of_lt_of_le (h.lt i hi) kt.size
    · exact a1.lt i hi
  · rintro i (hi | hi)
    · exact h.lo i hi
    · exact a1.lo i hi
  · rintro i hi (f | f)
    · exact f
    · exact (k1 i (ks i hi f)).1
/-- the watch is changed -/
theorem NdAt.wat (h : NdAt w C g F d n) : ∃ wg wb, w.cell? ⟨g, 139, none⟩ = some (.pointer (some ⟨wg, 0, none⟩)) ∧ Wat.Wt w wg wb n.T n.P ∧ ∀ w1, Below w.heap.size w w1 → ∀ w' P', Wat.Wt w' wg wb n.T P' → w1.grownBy w' (some wb) → Then w w' C g F d { n with P := P' } := by
  obtain ⟨r, wg, wb, bg, bb, z, FR, FZ, κ, h1, h2, h3, h4, h5, k1, k2, k3, k4, k5, k6, k7⟩ := h.ex
  refine ⟨wg, wb, (h1.cell 139).trans (nd_post n d r wg bg z 1), h3, fun w1 hb w' P' a1 a2 => ?_⟩
  have kt : Turn w w' (fun i => i = wb) := (Turn.of_below hb _).trans (Turn.of_grown a2 (fun k e => by injection e with e; exact e.symm)) (Sub.refl _ _)
  have ne : ∀ i, κ i ≠ 2 → ¬ i = wb := fun i hi f => hi (by rw [f]; exact k3.2)
  exact ⟨F, ⟨⟨r, wg, wb, bg, bb, z, FR, FZ, κ, h1.turn kt (ne _ (by rw [k7]; decide)), h2.turn kt (fun i hi => ne i (by rw [(k1 i hi).2]; decide)), a1, bk_turn h4 kt (ne _ (by rw [k4.2]; decide)) (ne _ (by rw [k5.2]; decide)), h5.turn (to_bal kt) (fun i hi => ne i (by rw [(k6 i hi).2]; decide)), k1, k2, k3, k4, k5, k6, k7⟩, h.fg, fun i hi => Nat.lt_of_lt_of_le (h.lt i hi) kt.size, h.lo, { h.ok with }⟩, kt.wide (fun i f => by rw [f]; exact k3.1), Sub.refl _ _⟩
theorem Then.trans {a b c : World} {n m : Nd} (h : Then a b C g F d m) (k : ∀ F', NdAt b C g F' d m → Then b c C g F' d n) : Then a c C g F d n := by
  obtain ⟨F1, h1, t1, s1⟩ := h
  obtain ⟨F2, h2, t2, s2⟩ := k F1 h1
  exact ⟨F2, h2, t1.trans t2 s1, s1.trans s2 t1.size⟩
end
end Go.Proofs.YteoodompphhkbaaGreatDoor.Nod
