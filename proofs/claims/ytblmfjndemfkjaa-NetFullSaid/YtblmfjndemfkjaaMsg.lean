/-
  WHAT IS PROVED: words for messages in memory (a row of them, each with bytes elsewhere), and for a net. No condition.
-/
import Derived.Test.YtblmfjndemfkjaaRun
namespace Go.Proofs.Ytblmfjndemfkjaa
open Go.RowKit

/-- a message as it lies in memory -/
structure Ms where
  f : Int
  t : Int
  A : Option Addr
  n : Nat
  c : Nat
  d : List UInt8
/-- what it says -/
def Ms.pl (m : Ms) : Int × Int × List UInt8 := (m.f, m.t, m.d)
def encM (m : Ms) : List Value := [.int .i64 m.f, .int .i64 m.t, .slice m.A m.n m.c]
def flatM (l : List Ms) : List Value := l.flatMap encM
abbrev vM (m : Ms) : Value := .agg #[.int .i64 m.f, .int .i64 m.t, .slice m.A m.n m.c]
abbrev rowM (m : Ms) : Array Value := #[.int .i64 m.f, .int .i64 m.t, .slice m.A m.n m.c]
theorem flatM_len : ∀ l : List Ms, (flatM l).length = l.length * 3
  | [] => rfl
  | r :: l => by have := flatM_len l; simp [flatM, encM] at this ⊢; omega
theorem flatM_append (l m : List Ms) : flatM (l ++ m) = flatM l ++ flatM m := by unfold flatM; rw [List.flatMap_append]
theorem flatM_one (l : List Ms) : ∀ u ∈ flatM l, u.oneCell' = true := by
  intro u hu
  obtain ⟨r, _, hr⟩ := List.mem_flatMap.1 hu
  simp [encM] at hr
  rcases hr with rfl | rfl | rfl <;> rfl
theorem flatM_take : ∀ (l : List Ms) (k : Nat), flatM (l.take k) = (flatM l).take (k * 3)
  | [], k => by simp [flatM]
  | r :: l, 0 => by simp [flatM]
  | r :: l, k + 1 => by
    rw [List.take_succ_cons, show (k + 1) * 3 = k * 3 + 3 by omega]
    show encM r ++ flatM (l.take k) = (encM r ++ flatM l).take (k * 3 + 3)
    rw [flatM_take l k]; rfl
theorem flatM_drop : ∀ (l : List Ms) (k : Nat), flatM (l.drop k) = (flatM l).drop (k * 3)
  | [], k => by simp [flatM]
  | r :: l, 0 => by simp [flatM]
  | r :: l, k + 1 => by
    rw [List.drop_succ_cons, show (k + 1) * 3 = k * 3 + 3 by omega]
    show flatM (l.drop k) = (encM r ++ flatM l).drop (k * 3 + 3)
    rw [flatM_drop l k]; rfl
theorem flatM_get : ∀ {l : List Ms} {i : Nat} {r : Ms}, l[i]? = some r → (flatM l)[i * 3]? = some (.int .i64 r.f) ∧ (flatM l)[i * 3 + 1]? = some (.int .i64 r.t) ∧ (flatM l)[i * 3 + 2]? = some (.slice r.A r.n r.c)
  | x :: l, 0, r, h => by simp at h; subst h; exact ⟨rfl, rfl, rfl⟩
  | x :: l, i + 1, r, h => by
    have := flatM_get (l := l) (i := i) (r := r) (by simpa using h)
    rw [show (i + 1) * 3 = i * 3 + 3 by omega, show i * 3 + 3 + 1 = i * 3 + 1 + 3 by omega, show i * 3 + 3 + 2 = i * 3 + 2 + 3 by omega]
    exact this

/-- a message's bytes are there, outside of F -/
structure Good (w : World) (F : Nat → Prop) (m : Ms) : Prop where
  rd : Rd w F 1 m.A m.n (bs m.d)
  nc : m.n ≤ m.c
  cm : m.c ≤ 9223372036854775807
  sz : m.n ≤ 1000000
theorem bs_len (l : List UInt8) : (bs l).length = l.length := by unfold bs; simp
section
variable {w w' : World} {F F' G : Nat → Prop} {n k : Nat} {A : Option Addr} {m : Ms}
theorem Good.turn (h : Good w F m) (hb : Turn w w' F) (hs : Sub w F F') : Good w' F' m := ⟨h.rd.turn hb hs, h.nc, h.cm, h.sz⟩
theorem Good.below (h : Good w F m) (hb : Below w.heap.size w w') : Good w' F m := ⟨h.rd.below hb, h.nc, h.cm, h.sz⟩
theorem Good.weak (h : Good w F m) (hs : ∀ i, i < w.heap.size → F' i → F i) : Good w F' m := ⟨h.rd.weak hs, h.nc, h.cm, h.sz⟩
theorem Turn.wide (h : Turn w w' G) (hs : ∀ i, i < w.heap.size → G i → F i) : Turn w w' F :=
  ⟨h.os, h.tape, h.output, h.size, fun i hi hn => h.block i hi (fun g => hn (hs i hi g))⟩
theorem Rd.lenM {l : List Ms} (h : Rd w F 3 A n (flatM l)) : l.length = n := by have := h.1; rw [flatM_len] at this; omega
theorem Rd.lenZ {l : List Int} (h : Rd w F 1 A n (zints l)) : l.length = n := by have := h.1; rw [zints_len] at this; omega
theorem Rd.lenB {l : List UInt8} (h : Rd w F 1 A n (bs l)) : l.length = n := by have := h.1; rw [bs_len] at this; omega
/-- a message of a slice, as the walk asks for it -/
theorem Rd.atM {l : List Ms} (h : Rd w F 3 A n (flatM l)) (hk : k < n) : ∃ ad p, A = some ad ∧ l[k]? = some p ∧ ad.block < w.heap.size ∧ ¬ F ad.block ∧
    w.cell? (ad.add (k * 3)) = some (.int .i64 p.f) ∧ w.cell? ⟨(ad.add (k * 3)).block, (ad.add (k * 3)).off + 1, none⟩ = some (.int .i64 p.t) ∧ w.cell? ⟨(ad.add (k * 3)).block, (ad.add (k * 3)).off + 2, none⟩ = some (.slice p.A p.n p.c) := by
  obtain ⟨ad, e, hlt, hf, hc⟩ := h.2 (by omega)
  have hl : k < l.length := by rw [h.lenM]; exact hk
  obtain ⟨f0, f1, f2⟩ := flatM_get (List.getElem?_eq_getElem hl)
  have c1 := hc _ _ f1
  have c2 := hc _ _ f2
  rw [← add_of_add, add_succ] at c1 c2
  exact ⟨ad, l[k], e, List.getElem?_eq_getElem hl, hlt, hf, hc _ _ f0, c1, c2⟩
theorem Rd.atZ {l : List Int} (h : Rd w F 1 A n (zints l)) (hk : k < n) : ∃ ad z, A = some ad ∧ l[k]? = some z ∧ ad.block < w.heap.size ∧ ¬ F ad.block ∧ w.cell? (ad.add k) = some (.int .i64 z) := by
  obtain ⟨ad, e, hlt, hf, hc⟩ := h.2 (by omega)
  have hl : k < l.length := by rw [h.lenZ]; exact hk
  refine ⟨ad, l[k], e, List.getElem?_eq_getElem hl, hlt, hf, hc _ _ ?_⟩
  unfold zints
  rw [List.getElem?_map, List.getElem?_eq_getElem hl]
  rfl
theorem Rd.takeM {l : List Ms} (h : Rd w F 3 A n (flatM l)) (hk : k ≤ n) : Rd w F 3 A k (flatM (l.take k)) := by rw [flatM_take]; exact h.take hk
theorem Rd.dropM {l : List Ms} {cap : Nat} (h : Rd w F 3 A n (flatM l)) (hk : k ≤ n) (hc : n ≤ cap) : Rd w F 3 (if cap = k then A else A.map (·.add (k * 3))) (n - k) (flatM (l.drop k)) := by rw [flatM_drop]; exact h.drop hk hc
theorem Rd.reads {xs : List Value} (h : Rd w F 1 A n xs) : Reads w w.heap.size A n xs := by
  refine ⟨by have := h.1; omega, fun hn => ?_⟩
  obtain ⟨ad, e, hlt, _, hc⟩ := h.2 hn
  exact ⟨ad, e, hlt, by omega, hc⟩
theorem Reads.rd {g : Nat} {xs : List Value} (h : Reads w g A n xs) : Rd w (fun i => i = g) 1 A n xs :=
  ⟨by rw [h.1]; omega, fun hn => by
    obtain ⟨ad, e, hlt, hne, hc⟩ := h.2 hn
    exact ⟨ad, e, hlt, hne, hc⟩⟩
end
theorem bs_one (l : List UInt8) : ∀ u ∈ bs l, u.oneCell' = true := by
  intro u hu
  unfold bs at hu
  obtain ⟨c, _, rfl⟩ := List.mem_map.1 hu
  rfl

/-! ### a net -/
/-- the blocks that a net of C may turn: those from C on, but those of U -/
def Vf (C : Nat) (U : Nat → Prop) : Nat → Prop := fun i => C ≤ i ∧ ¬ U i
/-- block n is a net with these messages, of which k were lost; its own blocks lie from C on, and none is among U -/
structure Nt (w : World) (C n : Nat) (U : Nat → Prop) (l : List Ms) (k : Int) : Prop where
  ex : ∃ v, Blk w n 46 #[v, .int .i64 k] ∧ w.ownsRow C 29 3 v l.length (flatM l) ∧ (∀ b, v.ownBlock = some b → ¬ U b) ∧ ∀ m ∈ l, Good w (fun i => i = n ∨ v.ownBlock = some i ∨ U i) m
  lo : C ≤ n
  nu : ¬ U n
  lt : ∀ i, U i → i < w.heap.size
  le : l.length ≤ 4096
theorem row_ne {w : World} {C g n s : Nat} {e t : TypeId} {v : Value} {xs : List Value} {cs : Array Value} (h : w.ownsRow C e s v n xs) (hb : Blk w g t cs) (hne : e ≠ t) : ∀ k, v.ownBlock = some k → k ≠ g := by
  intro k hk e
  rcases h.2 with ⟨rfl, _⟩ | ⟨g', cap, cur, rfl, _, hh, _⟩
  · simp [Value.ownBlock] at hk
  · simp [Value.ownBlock] at hk
    unfold Blk at hb
    rw [hk, e, hb] at hh
    injection hh with hh
    injection hh with _ h2 _
    exact hne h2.symm
section
variable {w w' : World} {C n : Nat} {U U' G : Nat → Prop} {l : List Ms} {k : Int}
theorem Nt.nlt (h : Nt w C n U l k) : n < w.heap.size := by obtain ⟨v, h1, _⟩ := h.ex; exact h1.lt
theorem Nt.cle (h : Nt w C n U l k) : C ≤ w.heap.size := Nat.le_trans h.lo (Nat.le_of_lt h.nlt)
/-- what turns is among U, or new -/
theorem Nt.turn (h : Nt w C n U l k) (t : Turn w w' U) : Nt w' C n U l k := by
  obtain ⟨v, h1, h2, h3, h4⟩ := h.ex
  exact ⟨⟨v, h1.turn t h.nu, own_turn h2 t h3, h3, fun m hm => (h4 m hm).turn (t.wide fun i _ f => .inr (.inr f)) (Sub.refl _ _)⟩, h.lo, h.nu, fun i hi => Nat.lt_of_lt_of_le (h.lt i hi) t.size, h.le⟩
theorem Nt.below (h : Nt w C n U l k) (b : Below w.heap.size w w') : Nt w' C n U l k := h.turn (Turn.of_below b U)
theorem Nt.alloc (h : Nt w C n U l k) (o : Obj) : Nt (w.alloc o) C n U l k := h.below ((Below.refl _ _).alloc (Nat.le_refl _) _)
/-- what is not the net's from now on -/
theorem Nt.weak (h : Nt w C n U l k) (hs : ∀ i, U' i → U i) : Nt w C n U' l k := by
  obtain ⟨v, h1, h2, h3, h4⟩ := h.ex
  exact ⟨⟨v, h1, h2, fun b hb f => h3 b hb (hs b f), fun m hm => (h4 m hm).weak (fun i _ f => by rcases f with f | f | f; exact .inl f; exact .inr (.inl f); exact .inr (.inr (hs i f)))⟩, h.lo, fun f => h.nu (hs n f), fun i hi => h.lt i (hs i hi), h.le⟩
/-- all that was made since is kept from it -/
theorem Nt.guard (h : Nt w C n U l k) (b : Below w.heap.size w w') (hs : ∀ i, U' i → U i ∨ (w.heap.size ≤ i ∧ i < w'.heap.size)) : Nt w' C n U' l k := by
  obtain ⟨v, h1, h2, h3, h4⟩ := h.ex
  have hlt := h1.lt
  refine ⟨⟨v, h1.below b hlt, own_below h2 b, fun c hc f => ?_, fun m hm => (h4 m hm).turn (Turn.of_below b _) (fun i hi f => ?_)⟩, h.lo, fun f => ?_, fun i hi => ?_, h.le⟩
  · rcases hs c f with f | f
    · exact h3 c hc f
    · have := (h2.lt c hc).2; omega
  · rcases f with f | f | f
    · exact .inl f
    · exact .inr (.inl f)
    · rcases hs i f with f | f
      · exact .inr (.inr f)
      · omega
  · rcases hs n f with f | f
    · exact h.nu f
    · omega
  · rcases hs i hi with f | f
    · exact Nat.lt_of_lt_of_le (h.lt i f) b.size
    · exact f.2
/-- what a walk looks at -/
theorem Nt.open_ (h : Nt w C n U l k) : ∃ A c, Blk w n 46 #[.slice A l.length c, .int .i64 k] ∧ w.ownsRow C 29 3 (.slice A l.length c) l.length (flatM l) ∧ l.length ≤ c ∧ c ≤ 9223372036854775807 ∧
    (∀ b, (Value.slice A l.length c).ownBlock = some b → ¬ U b ∧ b ≠ n ∧ C ≤ b ∧ b < w.heap.size) ∧ (∀ m ∈ l, Good w (fun i => i = n ∨ (Value.slice A l.length c).ownBlock = some i ∨ U i) m) ∧ Rd w no 3 A l.length (flatM l) := by
  obtain ⟨v, h1, h2, h3, h4⟩ := h.ex
  obtain ⟨A, c, rfl, hnc, hcm⟩ := own_form h2
  have hne : ((29 : TypeId) = 46) → False := by decide
  exact ⟨A, c, h1, h2, hnc, hcm, fun b hb => ⟨h3 b hb, row_ne h2 h1 hne b hb, (h2.lt b hb).1, (h2.lt b hb).2⟩, h4, Rd.of_own h2 rfl (fun _ _ f => f.elim)⟩
/-- the messages and the number of those lost are laid anew, in the old row or a new one; the bytes stay, or are new -/
theorem Nt.next (h : Nt w C n U l k) {l' : List Ms} {k' : Int} {v : Value} (hb : Blk w' n 46 #[v, .int .i64 k']) (ho : w'.ownsRow C 29 3 v l'.length (flatM l')) (hu : ∀ b, v.ownBlock = some b → ¬ U b)
    (hg : ∀ m ∈ l', Good w' (fun i => i = n ∨ v.ownBlock = some i ∨ U i) m) (hs : w.heap.size ≤ w'.heap.size) (hl : l'.length ≤ 4096) : Nt w' C n U l' k' :=
  ⟨⟨v, hb, ho, hu, hg⟩, h.lo, h.nu, fun i hi => Nat.lt_of_lt_of_le (h.lt i hi) hs, hl⟩
theorem Turn.low (h : Turn w w' (Vf C U)) (hC : C ≤ w.heap.size) : Below C w w' := h.below (fun _ f => f.1) hC
end
/-- what a call of a net answers, and what the net is behind it -/
def Did (w : World) (C n : Nat) (U : Nat → Prop) (r : Value) (l : List Ms) (k : Int) (e : Ending) (w' : World) : Prop := e = .returned r ∧ Nt w' C n U l k ∧ Turn w w' (Vf C U)
end Go.Proofs.Ytblmfjndemfkjaa
