/-
  WHAT IS PROVED: a disk in memory; its small functions. Conditions: each states its own.
-/
import Derived.Test.YtijkdibccgdomaaGreatDoorBase
import Derived.Test.YtijkdibccgdomaaGreatDoorBytes
import Derived.Maps.AppendAt
import Derived.OwnWalk
import Derived.Deep.Strs
import Derived.Lib.SmallJoins
import Derived.Maps.RangeWalk
import Derived.Maps.OwnOps
import Derived.StringKeys
import Derived.Sort.KeysCollected
import Derived.Lib.OthersKept
import Derived.Test.YtijkdibccgdomaaGreatDoorAppend

/-
  WHAT IS PROVED: files, disks, what each call of a disk answers and leaves, plain facts about lists. No condition.
-/
namespace Go.Proofs.YtijkdibccgdomaaGreatDoor.Dsk
set_option maxRecDepth 100000

/-- a file -/
structure Fl where
  name : List UInt8
  b : List UInt8
  safe : Bool
/-- a disk -/
structure Ds where
  fs : List Fl
  room : Int
  left : Int
  down : Bool
/-- a file's name -/
def nameB (s : List UInt8) : Bool := decide (1 ≤ s.length) && decide (s.length ≤ 16) && s.all (fun c => decide (97 ≤ c.toNat) && decide (c.toNat ≤ 122))
def hasF (l : List Fl) (x : List UInt8) : Bool := l.any fun f => decide (f.name = x)
def delF (l : List Fl) (x : List UInt8) : List Fl := l.filter fun f => decide (f.name ≠ x)
def putF (l : List Fl) (f : Fl) : List Fl := f :: delF l f.name
/-- the file of a name, or an empty one -/
def getF : List Fl → List UInt8 → Fl
  | [], x => ⟨x, [], false⟩
  | f :: l, x => if f.name = x then f else getF l x
def sumF (l : List Fl) : Nat := (l.map fun f => f.b.length).sum
structure Good (l : List Fl) : Prop where
  nodup : (l.map (·.name)).Nodup
  small : ∀ f ∈ l, f.name.length ≤ 1000 ∧ f.b.length ≤ 100000

theorem hasF_iff {l : List Fl} {x : List UInt8} : hasF l x = true ↔ ∃ f ∈ l, f.name = x := by simp [hasF]
theorem mem_delF {l : List Fl} {x : List UInt8} {f : Fl} : f ∈ delF l x ↔ f ∈ l ∧ f.name ≠ x := by simp [delF]
theorem mem_putF {l : List Fl} {f g : Fl} : g ∈ putF l f ↔ g = f ∨ g ∈ l ∧ g.name ≠ f.name := by unfold putF; rw [List.mem_cons, mem_delF]
theorem has_delF (l : List Fl) (x y : List UInt8) : hasF (delF l x) y = (hasF l y && decide (y ≠ x)) := by
  rw [Bool.eq_iff_iff, Bool.and_eq_true, hasF_iff, hasF_iff, decide_eq_true_eq]
  constructor
  · rintro ⟨f, hf, rfl⟩; obtain ⟨h1, h2⟩ := mem_delF.1 hf; exact ⟨⟨f, h1, rfl⟩, h2⟩
  · rintro ⟨⟨f, hf, rfl⟩, h⟩; exact ⟨f, mem_delF.2 ⟨hf, h⟩, rfl⟩
theorem has_putF (l : List Fl) (f : Fl) (y : List UInt8) : hasF (putF l f) y = (decide (y = f.name) || hasF l y) := by
  rw [Bool.eq_iff_iff, Bool.or_eq_true, hasF_iff, hasF_iff, decide_eq_true_eq]
  constructor
  · rintro ⟨g, hg, rfl⟩
    rcases mem_putF.1 hg with rfl | ⟨h, _⟩
    · exact .inl rfl
    · exact .inr ⟨g, h, rfl⟩
  · rintro (rfl | ⟨g, hg, rfl⟩)
    · exact ⟨f, mem_putF.2 (.inl rfl), rfl⟩
    · by_cases e : g.name = f.name
      · exact ⟨f, mem_putF.2 (.inl rfl), e.symm⟩
      · exact ⟨g, mem_putF.2 (.inr ⟨hg, e⟩), rfl⟩
theorem getF_name : ∀ (l : List Fl) (x : List UInt8), (getF l x).name = x
  | [], x => rfl
  | f :: l, x => by
    unfold getF
    split
    · assumption
    · exact getF_name l x
theorem getF_mem : ∀ {l : List Fl} {x : List UInt8}, hasF l x = true → getF l x ∈ l
  | [], x, h => by simp [hasF] at h
  | f :: l, x, h => by
    unfold getF
    split
    · exact List.mem_cons_self
    · rename_i hne
      refine List.mem_cons_of_mem _ (getF_mem ?_)
      unfold hasF at h ⊢
      simpa [hne] using h
theorem getF_none : ∀ {l : List Fl} {x : List UInt8}, hasF l x = false → getF l x = ⟨x, [], false⟩
  | [], x, _ => rfl
  | f :: l, x, h => by
    unfold hasF at h
    simp at h
    unfold getF
    rw [if_neg h.1]
    exact getF_none (by unfold hasF; simpa using h.2)
theorem Good.eq {l : List Fl} (h : Good l) {f g : Fl} (hf : f ∈ l) (hg : g ∈ l) (e : f.name = g.name) : f = g := by
  have hn := h.nodup
  clear h
  induction l with
  | nil => cases hf
  | cons a l ih =>
    rw [List.map_cons, List.nodup_cons] at hn
    rcases List.mem_cons.1 hf with rfl | hf'
    · rcases List.mem_cons.1 hg with rfl | hg'
      · rfl
      · exact absurd (List.mem_map.2 ⟨g, hg', e.symm⟩) hn.1
    · rcases List.mem_cons.1 hg with rfl | hg'
      · exact absurd (List.mem_map.2 ⟨f, hf', e⟩) hn.1
      · exact ih hf' hg' hn.2
theorem Good.get {l : List Fl} (h : Good l) {f : Fl} (hf : f ∈ l) : getF l f.name = f :=
  h.eq (getF_mem (hasF_iff.2 ⟨f, hf, rfl⟩)) hf (getF_name _ _)
theorem good_nil : Good [] := ⟨by simp, fun f hf => by cases hf⟩
theorem Good.del {l : List Fl} (h : Good l) (x : List UInt8) : Good (delF l x) :=
  ⟨List.Pairwise.sublist (List.Sublist.map _ List.filter_sublist) h.nodup, fun f hf => h.small f (mem_delF.1 hf).1⟩
theorem Good.put {l : List Fl} (h : Good l) {f : Fl} (hn : f.name.length ≤ 1000) (hb : f.b.length ≤ 100000) : Good (putF l f) := by
  refine ⟨?_, fun g hg => ?_⟩
  · unfold putF
    rw [List.map_cons, List.nodup_cons]
    refine ⟨fun hm => ?_, (h.del _).nodup⟩
    obtain ⟨g, hg, e⟩ := List.mem_map.1 hm
    exact (mem_delF.1 hg).2 e
  · rcases mem_putF.1 hg with rfl | ⟨h1, _⟩
    · exact ⟨hn, hb⟩
    · exact h.small g h1
theorem len_delF_no {l : List Fl} {x : List UInt8} (h : hasF l x = false) : delF l x = l := by
  unfold delF
  rw [List.filter_eq_self]
  intro f hf
  simp only [decide_eq_true_eq]
  intro e
  have : hasF l x = true := hasF_iff.2 ⟨f, hf, e⟩
  rw [h] at this; cases this
theorem len_delF {l : List Fl} (h : Good l) {x : List UInt8} : (delF l x).length + (if hasF l x = true then 1 else 0) = l.length := by
  have hn := h.nodup
  clear h
  induction l with
  | nil => simp [delF, hasF]
  | cons f l ih =>
    rw [List.map_cons, List.nodup_cons] at hn
    have := ih hn.2
    by_cases e : f.name = x
    · have hl : hasF l x = false := by
        cases hh : hasF l x with
        | false => rfl
        | true => obtain ⟨g, hg, eg⟩ := hasF_iff.1 hh; exact absurd (List.mem_map.2 ⟨g, hg, eg.trans e.symm⟩) hn.1
      have h1 : hasF (f :: l) x = true := hasF_iff.2 ⟨f, List.mem_cons_self, e⟩
      have h2 : delF (f :: l) x = l := by
        have := len_delF_no hl
        unfold delF at this ⊢
        rw [List.filter_cons_of_neg (by simp [e])]
        exact this
      rw [h1, h2]; simp
    · have h1 : hasF (f :: l) x = hasF l x := by simp [hasF, e]
      have h2 : delF (f :: l) x = f :: delF l x := by unfold delF; rw [List.filter_cons_of_pos (by simp [e])]
      rw [h1, h2]; simp; omega
theorem len_putF {l : List Fl} (h : Good l) (f : Fl) : (putF l f).length = if hasF l f.name = true then l.length else l.length + 1 := by
  have := len_delF h (x := f.name)
  unfold putF
  rw [List.length_cons]
  split at this <;> rename_i hh
  · rw [if_pos hh]; omega
  · rw [if_neg hh]; omega
theorem len_putF_le {l : List Fl} (f : Fl) : (putF l f).length ≤ l.length + 1 := by
  unfold putF delF
  rw [List.length_cons]
  exact Nat.add_le_add_right (List.length_filter_le _ l) 1
theorem getF_put {l : List Fl} (f : Fl) : getF (putF l f) f.name = f := by unfold putF getF; rw [if_pos rfl]
theorem getF_del : ∀ (l : List Fl) {x y : List UInt8}, x ≠ y → getF (delF l y) x = getF l x
  | [], _, _, _ => rfl
  | f :: l, x, y, h => by
    have ih := getF_del l h
    by_cases e : f.name = y
    · have : delF (f :: l) y = delF l y := by unfold delF; rw [List.filter_cons_of_neg (by simp [e])]
      rw [this, ih]
      conv => rhs; unfold getF
      rw [if_neg (by rw [e]; exact fun e' => h e'.symm)]
    · have : delF (f :: l) y = f :: delF l y := by unfold delF; rw [List.filter_cons_of_pos (by simp [e])]
      rw [this]
      unfold getF
      rw [ih]
theorem getF_put_ne {l : List Fl} (f : Fl) {x : List UInt8} (h : x ≠ f.name) : getF (putF l f) x = getF l x := by
  unfold putF
  conv => lhs; unfold getF
  rw [if_neg (fun e => h e.symm)]
  exact getF_del l h

/-! ### what a disk does -/
def spendD (S : Ds) : Int × Ds := if S.left = 0 then (50, { S with down := true }) else if 0 < S.left then (0, { S with left := S.left - 1 }) else (0, S)
def butF (l : List Fl) (x : List UInt8) : Nat := sumF (delF l x)
def writeD (S : Ds) (x b : List UInt8) : Int × Ds :=
  if S.down = true then (50, S) else if nameB x = false then (52, S) else if S.room < (butF S.fs x : Int) + (b.length : Int) then (51, S) else spendD { S with fs := putF S.fs ⟨x, b, false⟩ }
def syncD (S : Ds) (x : List UInt8) : Int × Ds :=
  if S.down = true then (50, S) else if hasF S.fs x = false then (52, S) else if (spendD S).1 = 0 then (0, { (spendD S).2 with fs := putF S.fs { getF S.fs x with safe := true } }) else spendD S
def renameD (S : Ds) (x y : List UInt8) : Int × Ds :=
  if S.down = true then (50, S) else if hasF S.fs x = false ∨ nameB y = false then (52, S) else if (spendD S).1 = 0 then (0, { (spendD S).2 with fs := putF (delF S.fs x) { getF S.fs x with name := y } }) else spendD S
def readE (S : Ds) (x : List UInt8) : Int := if S.down = true then 50 else if hasF S.fs x = false then 52 else 0
def readB (S : Ds) (x : List UInt8) : List UInt8 := if readE S x = 0 then (getF S.fs x).b else []
/-- what a crash leaves, the names gone through one by one -/
def crashG : List (List UInt8) → List Int → List Fl → List Fl
  | [], _, l => l
  | x :: xs, keep, l =>
    if (getF l x).safe = true then crashG xs keep l
    else match keep with
      | [] => crashG xs [] (putF l ⟨x, [], true⟩)
      | k :: ks => crashG xs ks (putF l ⟨x, (getF l x).b.take k.toNat, true⟩)
theorem spend_cases (S : Ds) : (S.left = 0 ∧ spendD S = (50, { S with down := true })) ∨ (0 < S.left ∧ spendD S = (0, { S with left := S.left - 1 })) ∨ (S.left < 0 ∧ spendD S = (0, S)) := by
  unfold spendD
  by_cases h : S.left = 0
  · exact .inl ⟨h, if_pos h⟩
  · by_cases h2 : 0 < S.left
    · exact .inr (.inl ⟨h2, by rw [if_neg h, if_pos h2]⟩)
    · exact .inr (.inr ⟨by omega, by rw [if_neg h, if_neg h2]⟩)
theorem spend_fs (S : Ds) : (spendD S).2.fs = S.fs ∧ (spendD S).2.room = S.room := by
  rcases spend_cases S with ⟨_, h⟩ | ⟨_, h⟩ | ⟨_, h⟩ <;> rw [h] <;> exact ⟨rfl, rfl⟩
end Go.Proofs.YtijkdibccgdomaaGreatDoor.Dsk

/-
  WHAT IS PROVED: words for memory: what stays outside of a set of blocks, slices of whatever size that are read outside of it. No condition.
-/
namespace Go.Proofs.YtijkdibccgdomaaGreatDoor.Dsk
set_option maxRecDepth 100000
open Go.RowKit

/-- what lies outside of the blocks F stays as it is -/
structure Turn (w w' : World) (F : Nat → Prop) : Prop where
  os : w'.os = w.os
  tape : w'.tape = w.tape
  output : w'.output = w.output
  size : w.heap.size ≤ w'.heap.size
  block : ∀ i, i < w.heap.size → ¬ F i → w'.heap[i]? = w.heap[i]?
/-- of the blocks that were there F' has no more than F -/
def Sub (w : World) (F F' : Nat → Prop) : Prop := ∀ i, i < w.heap.size → F' i → F i
section
variable {a b c w w' : World} {F G F' : Nat → Prop} {C : Nat}
theorem Turn.refl (w : World) (F : Nat → Prop) : Turn w w F := ⟨rfl, rfl, rfl, Nat.le_refl _, fun _ _ _ => rfl⟩
theorem Turn.trans (h : Turn a b F) (k : Turn b c G) (hG : Sub a F G) : Turn a c F :=
  ⟨k.os.trans h.os, k.tape.trans h.tape, k.output.trans h.output, Nat.le_trans h.size k.size, fun i hi hn =>
    (k.block i (Nat.lt_of_lt_of_le hi h.size) (fun g => hn (hG i hi g))).trans (h.block i hi hn)⟩
theorem Turn.of_below (h : Below w.heap.size w w') (F : Nat → Prop) : Turn w w' F := ⟨h.os, h.tape, h.output, h.size, fun i hi _ => h.block i hi⟩
theorem Turn.of_grown {row : Option Nat} (h : w.grownBy w' row) (hr : ∀ k, row = some k → F k) : Turn w w' F :=
  ⟨h.os, h.tape, h.output, h.size, fun i hi hn => h.block i hi (fun e => hn (hr i e.symm))⟩
theorem Turn.below (h : Turn w w' F) (hF : ∀ i, F i → C ≤ i) (hC : C ≤ w.heap.size) : Below C w w' :=
  ⟨h.os, h.tape, h.output, h.size, fun i hi => h.block i (by omega) (fun f => by have := hF i f; omega)⟩
theorem Turn.then_ (h : Turn a b F) (k : Below b.heap.size b c) : Turn a c F := h.trans (Turn.of_below k (fun _ => False)) (fun _ _ f => f.elim)
theorem Turn.cell (h : Turn w w' F) {p : Addr} (hp : p.block < w.heap.size) (hn : ¬ F p.block) : w'.cell? p = w.cell? p := World.cell?_of_block (h.block _ hp hn)
theorem Sub.refl (w : World) (F : Nat → Prop) : Sub w F F := fun _ _ h => h
theorem Sub.trans (h : Sub a F G) (k : Sub b G F') (hs : a.heap.size ≤ b.heap.size) : Sub a F F' := fun i hi f => h i hi (k i (Nat.lt_of_lt_of_le hi hs) f)
theorem _root_.Go.Proofs.YtijkdibccgdomaaGreatDoor.Blk.turn {g : Nat} {t : TypeId} {cs : Array Value} (h : Blk w g t cs) (k : Turn w w' F) (hn : ¬ F g) : Blk w' g t cs := (k.block g h.lt hn).trans h
end

/-- the slice value '.slice A n c' of elements of s cells holds the cells xs, in a block that is there and outside of F -/
def Rd (w : World) (F : Nat → Prop) (s : Nat) (A : Option Addr) (n : Nat) (xs : List Value) : Prop :=
  xs.length = n * s ∧ (0 < n → ∃ ad, A = some ad ∧ ad.block < w.heap.size ∧ ¬ F ad.block ∧ ∀ j u, xs[j]? = some u → w.cell? (ad.add j) = some u)
def no : Nat → Prop := fun _ => False
section
variable {w w' : World} {F F' : Nat → Prop} {s n k cap : Nat} {A : Option Addr} {xs : List Value}
theorem Rd.nil_ (w : World) (F : Nat → Prop) (s : Nat) (A : Option Addr) : Rd w F s A 0 [] := ⟨by simp, fun h => absurd h (by omega)⟩
theorem Rd.turn (h : Rd w F s A n xs) (hb : Turn w w' F) (hs : Sub w F F') : Rd w' F' s A n xs :=
  ⟨h.1, fun hn => by
    obtain ⟨ad, e, hlt, hf, hc⟩ := h.2 hn
    exact ⟨ad, e, Nat.lt_of_lt_of_le hlt hb.size, fun f => hf (hs _ hlt f), fun j u hu => (hb.cell (by rw [block_of_add]; exact hlt) (by rw [block_of_add]; exact hf)).trans (hc j u hu)⟩⟩
theorem Rd.below (h : Rd w F s A n xs) (hb : Below w.heap.size w w') : Rd w' F s A n xs := h.turn (Turn.of_below hb F) (Sub.refl w F)
theorem Rd.weak (h : Rd w F s A n xs) (hs : ∀ i, i < w.heap.size → F' i → F i) : Rd w F' s A n xs :=
  ⟨h.1, fun hn => by
    obtain ⟨ad, e, hlt, hf, hc⟩ := h.2 hn
    exact ⟨ad, e, hlt, fun f => hf (hs _ hlt f), hc⟩⟩
theorem Rd.no_ (h : Rd w F s A n xs) : Rd w no s A n xs := h.weak (fun _ _ f => f.elim)
theorem Rd.take (h : Rd w F s A n xs) (hk : k ≤ n) : Rd w F s A k (xs.take (k * s)) := by
  have hks : k * s ≤ n * s := Nat.mul_le_mul_right _ hk
  refine ⟨by rw [List.length_take, h.1]; omega, fun hn => ?_⟩
  obtain ⟨ad, e, hlt, hf, hc⟩ := h.2 (by omega)
  exact ⟨ad, e, hlt, hf, fun j u hu => hc j u (by rw [List.getElem?_take] at hu; split at hu <;> simp_all)⟩
theorem Rd.drop (h : Rd w F s A n xs) (hk : k ≤ n) (hc : n ≤ cap) : Rd w F s (if cap = k then A else A.map (·.add (k * s))) (n - k) (xs.drop (k * s)) := by
  refine ⟨by rw [List.length_drop, h.1, Nat.sub_mul], fun hn => ?_⟩
  obtain ⟨ad, rfl, hlt, hf, hcell⟩ := h.2 (by omega)
  rw [if_neg (by omega)]
  refine ⟨ad.add (k * s), rfl, by rw [block_of_add]; exact hlt, by rw [block_of_add]; exact hf, fun j u hu => ?_⟩
  rw [add_of_add]
  exact hcell _ u (by rw [← hu, List.getElem?_drop])
theorem Rd.of_own {base : Nat} {e : TypeId} {v : Value} {c : Nat} (h : w.ownsRow base e s v n xs) (hv : v = .slice A n c) (hF : ∀ k, v.ownBlock = some k → ¬ F k) : Rd w F s A n xs := by
  refine ⟨h.1, fun hn => ?_⟩
  rcases h.2 with ⟨_, h0⟩ | ⟨g, cap, cur, e1, hb, hh, hnc, hcm, hcs, ht⟩
  · omega
  · rw [hv] at e1
    injection e1 with e1 e2 e3
    subst e1; subst e3
    subst hv
    refine ⟨⟨g, 0, none⟩, rfl, (Array.getElem?_eq_some_iff.1 hh).1, hF g rfl, h.cells rfl⟩
end
theorem Rd.new (w : World) (F : Nat → Prop) (hF : ∀ i, F i → i < w.heap.size) (s n : Nat) (cs : Array Value) (t : TypeId) (hl : cs.size = n * s) : Rd (w.alloc (.cells cs t)) F s (some ⟨w.heap.size, 0, none⟩) n cs.toList :=
  ⟨by simpa using hl, fun _ => ⟨_, rfl, by simp, fun f => by have := hF _ f; simp at this, fun j u hu => by
    rw [Go.WideShapes.add_plain, Nat.zero_add, (Blk.new w t _).cell j]
    simpa using hu⟩⟩
theorem own_form {w : World} {base s n : Nat} {e : TypeId} {v : Value} {xs : List Value} (h : w.ownsRow base e s v n xs) :
    ∃ A cap, v = .slice A n cap ∧ n ≤ cap ∧ cap ≤ 9223372036854775807 := by
  rcases h.2 with ⟨rfl, rfl⟩ | ⟨b, cap, cur, rfl, hb, hh, hnc, hcm, _⟩
  · exact ⟨none, 0, rfl, Nat.le_refl _, by omega⟩
  · exact ⟨some ⟨b, 0, none⟩, cap, rfl, hnc, by unfold maxLen at hcm; omega⟩
theorem own_turn {w w' : World} {F : Nat → Prop} {base s n : Nat} {e : TypeId} {v : Value} {xs : List Value} (h : w.ownsRow base e s v n xs) (hb : Turn w w' F) (hF : ∀ k, v.ownBlock = some k → ¬ F k) : w'.ownsRow base e s v n xs := by
  refine ⟨h.1, ?_⟩
  rcases h.2 with hn | ⟨g, cap, cur, rfl, hbg, hh, rest⟩
  · exact .inl hn
  · exact .inr ⟨g, cap, cur, rfl, hbg, (hb.block g (Array.getElem?_eq_some_iff.1 hh).1 (hF g rfl)).trans hh, rest⟩
theorem own_below {w w' : World} {base s n : Nat} {e : TypeId} {v : Value} {xs : List Value} (h : w.ownsRow base e s v n xs) (hb : Below w.heap.size w w') : w'.ownsRow base e s v n xs :=
  own_turn h (Turn.of_below hb no) (fun _ _ f => f.elim)
theorem own_base {w : World} {base base' s n : Nat} {e : TypeId} {v : Value} {xs : List Value} (h : w.ownsRow base e s v n xs) (hb : base' ≤ base) : w.ownsRow base' e s v n xs := by
  refine ⟨h.1, ?_⟩
  rcases h.2 with hn | ⟨g, cap, cur, rfl, hbg, rest⟩
  · exact .inl hn
  · exact .inr ⟨g, cap, cur, rfl, by omega, rest⟩

end Go.Proofs.YtijkdibccgdomaaGreatDoor.Dsk

/-
  WHAT IS PROVED: maps from names to files, as lists of files: look-up, store, delete, the names. No condition beyond the names' lengths.
-/
namespace Go.Proofs.YtijkdibccgdomaaGreatDoor.Dsk
set_option maxRecDepth 100000
open Go.RowKit Go.Lib Go.Maps Go.Sort

abbrev Dm := DataW Value
theorem keyed : Keyed Tryz.prog 9 := string_keyed Tryz.underlying9
/-- what a name reads as, as a key -/
def kl (x : List UInt8) : Lit := .string x
theorem keyOf_name {x : List UInt8} (h : x.length ≤ 1000) : keyOf Tryz.prog 9 (.string (str x)) = some (kl x) := by
  have := Go.WideMaps.keyOf_string_mk Tryz.underlying9 (s := str x) (by rw [str_size]; unfold maxLen; omega)
  rw [this]; rfl
theorem kl_inj {x y : List UInt8} (h : kl x = kl y) : x = y := by unfold kl at h; injection h
theorem kl_key (x : List UInt8) : WideAt.IsKeyLit (kl x) := by simp [kl, WideAt.IsKeyLit]
/-- how a file reads: as it is -/
def fiElem (v : Value) : Option (Dm × List MemPlace) := some (.held v, [])
/-- a file's value -/
abbrev vF (A : Option Addr) (n c : Nat) (s : Bool) : Value := .agg #[.slice A n c, .bool s]
theorem zero_file (w : World) : (zeroValue 93).run Tryz.prog w = .ok (vF none 0 0 false) w := by kernel_rfl

/-- the value of the file f -/
def Vf (w : World) (F : Nat → Prop) (f : Fl) (v : Value) : Prop := ∃ A n c, v = .agg #[.slice A n c, .bool f.safe] ∧ f.b.length = n ∧ n ≤ c ∧ c ≤ 9223372036854775807 ∧ Rd w F 1 A n (bs f.b)
theorem Vf.turn {w w' : World} {F F' : Nat → Prop} {f : Fl} {v : Value} (h : Vf w F f v) (hb : Turn w w' F) (hs : Sub w F F') : Vf w' F' f v := by
  obtain ⟨A, n, c, e, hl, hc, hm, hr⟩ := h
  exact ⟨A, n, c, e, hl, hc, hm, hr.turn hb hs⟩
theorem Vf.zero (w : World) (F : Nat → Prop) (x : List UInt8) : Vf w F ⟨x, [], false⟩ (vF none 0 0 false) := ⟨none, 0, 0, rfl, rfl, Nat.le_refl _, by omega, Rd.nil_ w F 1 none⟩

/-! ### a datum and the list of its files -/
structure Agr (w : World) (F : Nat → Prop) (D : Dm) (l : List Fl) : Prop where
  at_ : ∀ f ∈ l, ∃ v, (∀ z, D.atKey (kl f.name) z = .held v) ∧ Vf w F f v
  has_ : ∀ x, Maps.has D (kl x) = hasF l x
  size : Maps.size D = l.length
section
variable {w w' : World} {F F' : Nat → Prop} {D : Dm} {l : List Fl}
theorem agr_nil : Agr w F (.map []) [] := ⟨fun r hr => (by cases hr), fun a => rfl, rfl⟩
theorem Agr.turn (h : Agr w F D l) (hb : Turn w w' F) (hs : Sub w F F') : Agr w' F' D l :=
  ⟨fun f hf => by obtain ⟨v, h1, h2⟩ := h.at_ f hf; exact ⟨v, h1, h2.turn hb hs⟩, h.has_, h.size⟩
theorem Agr.look (h : Agr w F D l) (x : List UInt8) : ∃ v, D.atKey (kl x) (.held (vF none 0 0 false)) = .held v ∧ Vf w F (getF l x) v := by
  cases hh : hasF l x
  · exact ⟨_, atKey_of_not_has (by rw [h.has_ x, hh]) _, by rw [getF_none hh]; exact Vf.zero w F x⟩
  · obtain ⟨v, h1, h2⟩ := h.at_ _ (getF_mem hh)
    rw [getF_name] at h1
    exact ⟨v, h1 _, h2⟩
theorem Agr.put (h : Agr w F D l) (hT : Tidy D) (hu : Good l) {q : Fl} {v : Value} (hv : Vf w F q v) : Agr w F (D.put (kl q.name) (.held v)) (putF l q) := by
  refine ⟨fun r hr => ?_, fun x => ?_, ?_⟩
  · rcases mem_putF.1 hr with rfl | ⟨h1, h2⟩
    · exact ⟨v, fun z => atKey_put_same hT.isMap (kl_key _) _ _, hv⟩
    · obtain ⟨v', e1, e2⟩ := h.at_ r h1
      exact ⟨v', fun z => by rw [atKey_put_other (fun e => h2 (kl_inj e))]; exact e1 z, e2⟩
  · rw [has_putF]
    by_cases e : x = q.name
    · subst e
      rw [has_put_same hT.isMap (kl_key _)]
      simp
    · rw [has_put_other (fun e' => e (kl_inj e')), h.has_ x]
      simp [e]
  · rw [size_put hT, h.has_, h.size, len_putF hu]
theorem Agr.del (h : Agr w F D l) (hT : Tidy D) (hu : Good l) (x : List UInt8) : Agr w F (D.del (kl x)) (delF l x) := by
  refine ⟨fun r hr => ?_, fun y => ?_, ?_⟩
  · obtain ⟨h1, h2⟩ := mem_delF.1 hr
    obtain ⟨v', e1, e2⟩ := h.at_ r h1
    exact ⟨v', fun z => by rw [atKey_del_other (fun e => h2 (kl_inj e))]; exact e1 z, e2⟩
  · rw [has_delF]
    by_cases e : y = x
    · subst e
      rw [has_del_same]
      simp
    · rw [has_del_other (fun e' => e (kl_inj e')), h.has_ y]
      simp [e]
  · have h1 := size_del (k := kl x) hT
    rw [h.has_ x, h.size] at h1
    have h2 := len_delF hu (x := x)
    omega
end

/-- a map of files in a block -/
def MapAt (w : World) (F : Nat → Prop) (b : Nat) (l : List Fl) : Prop := ∃ D : Dm, w.ownsMap Tryz.prog 9 fiElem b l.length D ∧ Agr w F D l
theorem own_tight {w : World} {b n : Nat} {D : Dm} {R : Value → Option (Dm × List MemPlace)} (h : w.ownsMap Tryz.prog 9 R b n D) : w.ownsMap Tryz.prog 9 R b (Maps.size D) D := by
  obtain ⟨es, clock, hb, F, hs, rfl⟩ := h
  exact ⟨es, clock, hb, F, by simp [Maps.size, length_sorted], rfl⟩
theorem map_new (w : World) (F : Nat → Prop) : MapAt (w.alloc (.map #[] 0)) F w.heap.size [] := ⟨.map [], World.ownsMap_made _ _ _ _, agr_nil⟩
section
variable {w w' : World} {b : Nat} {F F' : Nat → Prop} {l : List Fl}
theorem MapAt.lt (h : MapAt w F b l) : b < w.heap.size := by obtain ⟨D, h, _⟩ := h; exact h.lt
theorem own_turn_map {n : Nat} {D : Dm} {R : Value → Option (Dm × List MemPlace)} (h : w.ownsMap Tryz.prog 9 R b n D) (e : w'.heap[b]? = w.heap[b]?) : w'.ownsMap Tryz.prog 9 R b n D := by
  obtain ⟨es, clock, hb, r⟩ := h
  exact ⟨es, clock, e.trans hb, r⟩
/-- the block stays as it is, and so does what lies outside of F -/
theorem MapAt.kept (h : MapAt w F b l) (hb : Turn w w' F) (hs : Sub w F F') (e : w'.heap[b]? = w.heap[b]?) : MapAt w' F' b l := by
  obtain ⟨D, h1, h2⟩ := h
  exact ⟨D, own_turn_map h1 e, h2.turn hb hs⟩
theorem MapAt.look_ok (h : MapAt w F b l) {x : List UInt8} (hx : x.length ≤ 1000) :
    ∃ v, (Instr.lookup 82 (.map (some b)) (.string (str x)) true).run Tryz.prog w = .ok (.tuple #[v, .bool (hasF l x)]) w ∧ Vf w F (getF l x) v := by
  obtain ⟨D, h, r⟩ := h
  obtain ⟨v, ps, hrun, hv⟩ := h.look_ok keyed Tryz.underlying82 (zero_file _) (zp := []) rfl (keyOf_name hx)
  obtain ⟨v', e1, e2⟩ := r.look x
  rw [e1] at hv
  injection hv with hv
  injection hv with hv _
  injection hv with hv
  subst hv
  exact ⟨v, by rw [hrun, r.has_ x], e2⟩
theorem MapAt.look (h : MapAt w F b l) {x : List UInt8} (hx : x.length ≤ 1000) :
    ∃ v, (Instr.lookup 82 (.map (some b)) (.string (str x)) false).run Tryz.prog w = .ok v w ∧ Vf w F (getF l x) v := by
  obtain ⟨D, h, r⟩ := h
  obtain ⟨v, ps, hrun, hv⟩ := h.lookup keyed Tryz.underlying82 (zero_file _) (zp := []) rfl (keyOf_name hx)
  obtain ⟨v', e1, e2⟩ := r.look x
  rw [e1] at hv
  injection hv with hv
  injection hv with hv _
  injection hv with hv
  subst hv
  exact ⟨v, hrun, e2⟩
theorem MapAt.store (h : MapAt w F b l) (hF : F b) (hu : Good l) (hlen : l.length < 1000000) {q : Fl} {v : Value} (hq : q.name.length ≤ 1000) (hv : Vf w F q v) :
    ∃ w', (Instr.mapUpdate 82 (.map (some b)) (.string (str q.name)) v).run Tryz.prog w = .ok () w' ∧ MapAt w' F b (putF l q) ∧ w.grownBy w' (some b) := by
  obtain ⟨D, h, r⟩ := h
  obtain ⟨w', hrun, hown, hg⟩ := h.update keyed Tryz.underlying82 (by unfold maxLen; omega) (keyOf_name hq) (d := .held v) (ps := []) rfl
  have ht : Turn w w' F := Turn.of_grown hg (fun k e => by injection e with e; rw [← e]; exact hF)
  have hagr := (r.put (h.tidy keyed) hu hv).turn ht (Sub.refl w F)
  refine ⟨w', hrun, ⟨_, ?_, hagr⟩, hg⟩
  rw [← hagr.size]
  exact own_tight hown
theorem MapAt.del (h : MapAt w F b l) (hF : F b) (hu : Good l) {x : List UInt8} (hx : x.length ≤ 1000) (ty : TypeId) :
    ∃ w', (Builtin.delete_ #[82, 9] ty #[.map (some b), .string (str x)]).run Tryz.prog w = .ok (.tuple #[]) w' ∧ MapAt w' F b (delF l x) ∧ w.grownBy w' (some b) := by
  obtain ⟨D, h, r⟩ := h
  obtain ⟨w', hrun, hown, hg⟩ := h.drop keyed Tryz.underlying82 (keyOf_name hx) ty
  have ht : Turn w w' F := Turn.of_grown hg.grown (fun k e => by injection e with e; rw [← e]; exact hF)
  have hagr := (r.del (h.tidy keyed) hu x).turn ht (Sub.refl w F)
  refine ⟨w', hrun, ⟨_, ?_, hagr⟩, hg.grown⟩
  rw [← hagr.size]
  exact own_tight hown
end
/-- a map lies in no block that holds cells -/
theorem _root_.Go.Proofs.YtijkdibccgdomaaGreatDoor.Blk.map_ne {w : World} {g b : Nat} {t : TypeId} {cs : Array Value} {F : Nat → Prop} {l : List Fl} (h : Blk w g t cs) (hs : MapAt w F b l) : g ≠ b := by
  intro e
  obtain ⟨D, ⟨es, clock, hh, _⟩, _⟩ := hs
  unfold Blk at h
  rw [e, hh] at h
  cases h
end Go.Proofs.YtijkdibccgdomaaGreatDoor.Dsk

/-
  WHAT IS PROVED: words for a disk in memory. No condition.
-/
namespace Go.Proofs.YtijkdibccgdomaaGreatDoor.Dsk
set_option maxRecDepth 100000
open Go.RowKit Go.Lib

/-- a disk's own two blocks -/
def FD (d g : Nat) : Nat → Prop := fun i => i = d ∨ i = g
abbrev dc (g : Nat) (S : Ds) : Array Value := #[.map (some g), .int .i64 S.room, .int .i64 S.left, .bool S.down]
/-- a disk behind a pointer -/
structure Dk (w : World) (d g : Nat) (S : Ds) : Prop where
  blk : Blk w d 84 (dc g S)
  map : MapAt w (FD d g) g S.fs
  good : Good S.fs
  left : -9223372036854775808 ≤ S.left ∧ S.left ≤ 9223372036854775807
section
variable {w w' : World} {d g : Nat} {S : Ds}
theorem Dk.ne (h : Dk w d g S) : d ≠ g := h.blk.map_ne h.map
theorem Dk.lt (h : Dk w d g S) : d < w.heap.size ∧ g < w.heap.size := ⟨h.blk.lt, h.map.lt⟩
theorem Dk.turn (h : Dk w d g S) (hb : Turn w w' (FD d g)) (e1 : w'.heap[d]? = w.heap[d]?) (e2 : w'.heap[g]? = w.heap[g]?) : Dk w' d g S :=
  ⟨e1.trans h.blk, h.map.kept hb (Sub.refl _ _) e2, h.good, h.left⟩
theorem Dk.below (h : Dk w d g S) (hb : Below w.heap.size w w') : Dk w' d g S :=
  h.turn (Turn.of_below hb _) (hb.block _ h.lt.1) (hb.block _ h.lt.2)
theorem Dk.drew (h : Dk w d g S) : Dk w.drew d g S := h.below (Below.refl _ w).drew
theorem turn_set {i : Nat} (w : World) (d g : Nat) (u : Value) : Turn w (w.setCell ⟨d, i, none⟩ u) (FD d g) :=
  ⟨rfl, rfl, rfl, by simp [World.setCell], fun j _ hn => Below.heap_setCell w _ u j (fun e => hn (.inl e))⟩
theorem Dk.set_ (h : Dk w d g S) {i : Nat} {u : Value} {S' : Ds} (hf : S'.fs = S.fs) (hl : -9223372036854775808 ≤ S'.left ∧ S'.left ≤ 9223372036854775807) (hc : (dc g S).setIfInBounds i u = dc g S') : Dk (w.setCell ⟨d, i, none⟩ u) d g S' := by
  refine ⟨?_, ?_, by rw [hf]; exact h.good, hl⟩
  · rw [← hc]; exact h.blk.set_ i u
  · rw [hf]; exact h.map.kept (turn_set w d g u) (Sub.refl _ _) (Below.heap_setCell w _ u g (fun e => h.ne e.symm))
/-- the cells of a disk -/
theorem Dk.cells (h : Dk w d g S) : w.cell? ⟨d, 0, none⟩ = some (.map (some g)) ∧ w.cell? ⟨d, 1, none⟩ = some (.int .i64 S.room) ∧ w.cell? ⟨d, 2, none⟩ = some (.int .i64 S.left) ∧ w.cell? ⟨d, 3, none⟩ = some (.bool S.down) :=
  ⟨h.blk.cell 0, h.blk.cell 1, h.blk.cell 2, h.blk.cell 3⟩
theorem Dk.map_ (h : Dk w d g S) {l : List Fl} (hm : MapAt w' (FD d g) g l) (hg : w.grownBy w' (some g)) (hl : Good l) : Dk w' d g { S with fs := l } :=
  ⟨h.blk.grown hg (fun e => by injection e with e; exact h.ne e), hm, hl, h.left⟩
theorem turn_g (hg : w.grownBy w' (some g)) : Turn w w' (FD d g) := Turn.of_grown hg (fun k e => by injection e with e; exact .inr e.symm)
theorem sub_fd (w : World) (d g : Nat) : Sub w (FD d g) (FD d g) := Sub.refl _ _
end
/-- what a call does to a disk -/
def Did (w : World) (d g : Nat) (S' : Ds) (w' : World) : Prop := Dk w' d g S' ∧ Turn w w' (FD d g)
theorem Did.refl {w : World} {d g : Nat} {S : Ds} (h : Dk w d g S) : Did w d g S w := ⟨h, Turn.refl _ _⟩
theorem Turn.fd {a b c : World} {d g : Nat} (h : Turn a b (FD d g)) (k : Turn b c (FD d g)) : Turn a c (FD d g) := h.trans k (Sub.refl _ _)
theorem Turn.low {a b : World} {d g C : Nat} (h : Turn a b (FD d g)) (hd : C ≤ d) (hg : C ≤ g) (hC : C ≤ a.heap.size) : Below C a b :=
  h.below (fun i hi => by rcases hi with rfl | rfl <;> assumption) hC

set_option maxRecDepth 100000 in
set_option maxHeartbeats 2000000 in
theorem new_ok (room : Int) (w : World) (h0 : 0 ≤ room) (h1 : room ≤ 65536) :
    Calls Tryz.prog 21 #[.int .i64 room] w fun e w' => ∃ d g, e = .returned (.pointer (some ⟨d, 0, none⟩)) ∧ Dk w' d g ⟨[], room, -1, false⟩ ∧ w.heap.size ≤ d ∧ w.heap.size ≤ g ∧ Below w.heap.size w w' := by
  have b0 : ¬ room < 0 := by omega
  have b1 : ¬ 65536 < room := by omega
  have hmm := @run_makeMap Tryz.prog
  go_enter Tryz.func21, Tryz.ntmps21
  go_wp2
  go_ret
  refine ⟨w.heap.size + 1, by simp, w.heap.size, ⟨?_, ?_, good_nil, (by decide : (-9223372036854775808 : Int) ≤ -1 ∧ (-1 : Int) ≤ 9223372036854775807)⟩, Nat.le_succ _, Nat.le_refl _, ((Below.refl _ _).alloc (Nat.le_refl _) _).alloc (by simp) _⟩
  · have := Blk.new (w.alloc (.map #[] 0)) 84 (dc w.heap.size ⟨[], room, -1, false⟩)
    simpa using this
  · refine (map_new w (FD (w.heap.size + 1) w.heap.size)).kept (Turn.of_below ((Below.refl _ _).alloc (Nat.le_refl _) _) _) (Sub.refl _ _) ?_
    exact Below.heap_alloc _ _ _ (by simp)
set_option maxRecDepth 100000 in
set_option maxHeartbeats 2000000 in
theorem new_no (room : Int) (w : World) (h : room < 0 ∨ 65536 < room) :
    Calls Tryz.prog 21 #[.int .i64 room] w fun e w' => e = .returned (.pointer none) ∧ w' = w := by
  by_cases b0 : room < 0
  · go_enter Tryz.func21, Tryz.ntmps21
    go_wp2
    go_ret
    exact ⟨rfl, rfl⟩
  · have b1 : 65536 < room := by omega
    go_enter Tryz.func21, Tryz.ntmps21
    go_wp2
    go_ret
    exact ⟨rfl, rfl⟩
set_option maxRecDepth 100000 in
set_option maxHeartbeats 2000000 in
theorem spend_any (d g : Nat) (S : Ds) (w : World) (h : Dk w d g S) :
    Calls Tryz.prog 60 #[.pointer (some ⟨d, 0, none⟩)] w fun e w' => e = .returned (.int .i64 (spendD S).1) ∧ Did w d g (spendD S).2 w' := by
  obtain ⟨c0, c1, c2, c3⟩ := h.cells
  have fz2 := h.blk.frozen 2
  have fz3 := h.blk.frozen 3
  have HD := Lib.hid h
  have hl := h.left
  rcases spend_cases S with ⟨hc, hs⟩ | ⟨hc, hs⟩ | ⟨hc, hs⟩
  · rw [hs]
    rw [hc] at c2
    have HC := Lib.hid hc
    clear h hs hl hc
    go_enter Tryz.func60, Tryz.ntmps60
    go_wp2
    go_ret
    exact ⟨rfl, HD.out.set_ (S' := { S with down := true }) rfl HD.out.left (by simp), turn_set _ _ _ _⟩
  · rw [hs]
    obtain ⟨z, hz⟩ : ∃ z, S.left = z := ⟨_, rfl⟩
    rw [hz] at c2 hc hl ⊢
    have hne : (z == 0) = false := by simp; omega
    have hw : IntKind.i64.wrap (z - 1) = z - 1 := by rw [IntKind.wrap_i64]; omega
    have hn0 : ¬ z = 0 := by omega
    clear h hs hz
    go_enter Tryz.func60, Tryz.ntmps60
    go_wp2
    go_ret
    exact ⟨rfl, HD.out.set_ (S' := { S with left := z - 1 }) rfl ⟨by show _ ≤ z - 1; omega, by show z - 1 ≤ _; omega⟩ (by simp), turn_set _ _ _ _⟩
  · rw [hs]
    obtain ⟨z, hz⟩ : ∃ z, S.left = z := ⟨_, rfl⟩
    rw [hz] at c2 hc hl
    have hne : (z == 0) = false := by simp; omega
    have hn0 : ¬ z = 0 := by omega
    have hn1 : ¬ 0 < z := by omega
    clear h hs hz
    go_enter Tryz.func60, Tryz.ntmps60
    go_wp2
    go_ret
    exact ⟨rfl, Did.refl HD.out⟩
set_option maxRecDepth 100000 in
set_option maxHeartbeats 2000000 in
theorem arm_any (d g : Nat) (S : Ds) (n : Int) (w : World) (h : Dk w d g S) (hn : -9223372036854775808 ≤ n ∧ n ≤ 9223372036854775807) :
    Calls Tryz.prog 24 #[.pointer (some ⟨d, 0, none⟩), .int .i64 n] w fun e w' => e = .returned (.tuple #[]) ∧ Did w d g { S with left := n } w' := by
  obtain ⟨c0, c1, c2, c3⟩ := h.cells
  have fz2 := h.blk.frozen 2
  have HD := Lib.hid h
  have HN := Lib.hid hn
  clear h hn
  go_enter Tryz.func24, Tryz.ntmps24
  go_wp2
  go_end0
  exact ⟨rfl, HD.out.set_ (S' := { S with left := n }) rfl HN.out (by simp), turn_set _ _ _ _⟩
set_option maxRecDepth 100000 in
set_option maxHeartbeats 2000000 in
theorem safe_any (d g : Nat) (S : Ds) (x : List UInt8) (w : World) (h : Dk w d g S) (hx : x.length ≤ 1000) :
    Calls Tryz.prog 47 #[.pointer (some ⟨d, 0, none⟩), .string (str x)] w fun e w' => e = .returned (.bool (getF S.fs x).safe) ∧ w' = w := by
  obtain ⟨c0, c1, c2, c3⟩ := h.cells
  obtain ⟨v, hrun, A, n, c, rfl, _⟩ := h.map.look hx
  obtain ⟨s, hs⟩ : ∃ s, (getF S.fs x).safe = s := ⟨_, rfl⟩
  rw [hs] at hrun ⊢
  have hfd : ∀ w : World, (Instr.field 93 (.agg #[.slice A n c, .bool s]) 1).run Tryz.prog w = .ok (.bool s) w := fun _ => by kernel_rfl
  clear h hs
  go_enter Tryz.func47, Tryz.ntmps47
  go_wp2
  go_ret
  exact ⟨rfl, rfl⟩
end Go.Proofs.YtijkdibccgdomaaGreatDoor.Dsk

/-
  WHAT IS PROVED: contract of the function that tells whether a text may be a file's name. No condition beyond the text's length.
-/
namespace Go.Proofs.YtijkdibccgdomaaGreatDoor.Dsk
set_option maxRecDepth 100000
open Go.RowKit Go.Lib

def low (c : UInt8) : Bool := decide (97 ≤ c.toNat) && decide (c.toNat ≤ 122)
theorem nameB_no {s : List UInt8} {pos : Nat} {c : UInt8} (h : s[pos]? = some c) (hc : low c = false) : nameB s = false := by
  unfold nameB
  cases hh : s.all (fun c => decide (97 ≤ c.toNat) && decide (c.toNat ≤ 122)) with
  | false => simp
  | true =>
    have := List.all_eq_true.1 hh c (List.mem_of_getElem? h)
    unfold low at hc
    rw [hc] at this; cases this
theorem nameB_yes {s : List UInt8} (h1 : 1 ≤ s.length) (h2 : s.length ≤ 16) (h : ∀ (i : Nat) (c : UInt8), s[i]? = some c → low c = true) : nameB s = true := by
  unfold nameB
  have : s.all (fun c => decide (97 ≤ c.toNat) && decide (c.toNat ≤ 122)) = true := List.all_eq_true.2 fun c hc => by
    obtain ⟨i, hi, e⟩ := List.mem_iff_getElem.1 hc
    exact h i c (by rw [List.getElem?_eq_getElem hi, e])
  rw [this]; simp [h1, h2]
theorem nameB_len {s : List UInt8} (h : s.length = 0 ∨ 16 < s.length) : nameB s = false := by
  unfold nameB
  rcases h with h | h
  · simp [h]
  · have : ¬ s.length ≤ 16 := by omega
    simp [this]

set_option maxRecDepth 100000 in
set_option maxHeartbeats 4000000 in
theorem name_any (s : List UInt8) (w : World) (hs : s.length ≤ 1000) :
    Calls Tryz.prog 57 #[.string (str s)] w (Says (nameB s) w) := by
  obtain ⟨n, hn⟩ : ∃ n, (str s).size = n := ⟨_, rfl⟩
  have hl : s.length = n := by rw [← hn, str_size]
  by_cases h0 : n = 0
  · rw [nameB_len (.inl (by omega))]
    have e0 : ((n : Int) == 0) = true := by rw [h0]; rfl
    clear hl
    subst h0
    go_enter Tryz.func57, Tryz.ntmps57
    go_wp2
    go_ret
    exact ⟨rfl, Below.refl _ _⟩
  have e0 : ((n : Int) == 0) = false := by rw [beq_eq_false_iff_ne]; omega
  have e0' : ¬ ((n : Int) = 0) := by omega
  by_cases h1 : (16 : Int) < (n : Int)
  · rw [nameB_len (.inr (by omega))]
    clear hl
    go_enter Tryz.func57, Tryz.ntmps57
    go_wp2
    go_ret
    exact ⟨rfl, Below.refl _ _⟩
  have HN := Lib.hid hn
  have HL := Lib.hid hl
  have hs0 := World.iter_heap w (str s) 0
  have HB0 : Below w.heap.size w (w.iter (str s) 0) := (Below.refl _ w).alloc (Nat.le_refl _) _
  clear hl
  go_enter Tryz.func57, Tryz.ntmps57
  go_wp2
  go_loopw [] (fun wr => ∃ pos : Nat, wr.heap[w.heap.size]? = some (.stringIter (str s) pos) ∧ Below w.heap.size w wr ∧ (∀ (i : Nat) (c : UInt8), i < pos → s[i]? = some c → low c = true) ∧ pos ≤ n) (fun wr => n - wr.iterPos w.heap.size)
  case atStart => exact ⟨0, hs0, HB0, fun i c h => absurd h (by omega), by omega⟩
  case round =>
    obtain ⟨pos, hit, hb, hlow, hpn⟩ := hrel
    have HB := Lib.hid hb
    have HIT := Lib.hid hit
    have HLOW := Lib.hid hlow
    clear hb hlow
    by_cases hp : pos < (str s).size
    · have hpl : pos < s.length := by have := HL.out; have := HN.out; omega
      obtain ⟨c, hc⟩ : ∃ c, s[pos]? = some c := ⟨_, List.getElem?_eq_getElem hpl⟩
      have hcs : (str s)[pos]'hp = c := by
        have := List.getElem?_eq_some_iff.1 hc
        obtain ⟨h, e⟩ := this
        rw [← e]; rfl
      have HC := Lib.hid hc
      by_cases ha : c.toNat < 128
      · have hnx := fun ty => run_next_ascii_at (P := Tryz.prog) wr w.heap.size (str s) pos ty hit hp (by rw [hcs]; exact ha)
        rw [hcs] at hnx
        obtain ⟨z, hz⟩ : ∃ z : Int, (c.toNat : Int) = z := ⟨_, rfl⟩
        have hit2 := iterAt_heap wr w.heap.size (str s) pos (pos + 1) hit
        have hb2 := below_iterAt HB.out (Nat.le_refl _) (str s) (pos + 1)
        obtain ⟨w2, hw2⟩ : ∃ x, wr.iterAt w.heap.size (str s) (pos + 1) = x := ⟨_, rfl⟩
        rw [hw2] at hnx hit2 hb2
        rw [hz] at hnx
        have HZ := Lib.hid hz
        have HB2 := Lib.hid hb2
        have HI2 := Lib.hid hit2
        clear hc hcs hz hit hw2 hb2 hit2 ha hp
        by_cases z0 : z < 97
        · have hno : nameB s = false := nameB_no HC.out (by have := HZ.out; unfold low; simp; omega)
          rw [hno]
          clear hno
          go_wp2
          go_ret
          exact ⟨rfl, HB2.out⟩
        · by_cases z1 : 122 < z
          · have hno : nameB s = false := nameB_no HC.out (by have := HZ.out; unfold low; simp; omega)
            rw [hno]
            clear hno
            go_wp2
            go_ret
            exact ⟨rfl, HB2.out⟩
          · go_wp2
            go_roundw
            case rel =>
              refine ⟨pos + 1, HI2.out, HB2.out, fun i c' hi hc' => ?_, by have := HL.out; omega⟩
              rcases Nat.lt_or_ge i pos with h | h
              · exact HLOW.out i c' h hc'
              · obtain rfl : i = pos := by omega
                rw [HC.out] at hc'
                injection hc' with hc'
                subst hc'
                have := HZ.out
                unfold low
                simp
                omega
            case measure =>
              simp only [World.iterPos, HIT.out, HI2.out]
              have := HL.out
              omega
      · have hnx := fun ty => run_next_any_at (P := Tryz.prog) wr w.heap.size (str s) pos ty hit hp
        have hd := (decode_high (str s) pos hp (by rw [hcs]; omega)).1
        have hb2 := below_iterAt HB.out (Nat.le_refl _) (str s) (pos + (Utf8.decode (str s) pos).2)
        obtain ⟨w2, hw2⟩ : ∃ x, wr.iterAt w.heap.size (str s) (pos + (Utf8.decode (str s) pos).2) = x := ⟨_, rfl⟩
        obtain ⟨z, hz⟩ : ∃ z : Int, ((Utf8.decode (str s) pos).1 : Int) = z := ⟨_, rfl⟩
        rw [hw2] at hnx hb2
        rw [hz] at hnx
        have z0 : ¬ z < 97 := by omega
        have z1 : 122 < z := by omega
        have hno : nameB s = false := nameB_no HC.out (by unfold low; simp; omega)
        rw [hno]
        have HB2 := Lib.hid hb2
        clear hc hcs hz hit hw2 hb2 ha hp hd hno
        go_wp2
        go_ret
        exact ⟨rfl, HB2.out⟩
    · have hnx := fun ty => run_next_end_at (P := Tryz.prog) wr w.heap.size (str s) pos ty hit hp
      have hyes : nameB s = true := nameB_yes (by have := HL.out; omega) (by have := HL.out; omega) (fun i c hc => HLOW.out i c (by
        have h1 := (List.getElem?_eq_some_iff.1 hc).1
        have := HL.out
        have := HN.out
        omega) hc)
      have HY := Lib.hid hyes
      clear hyes hit hp
      go_wp2
      go_ret
      exact ⟨by rw [HY.out]; rfl, HB.out⟩
end Go.Proofs.YtijkdibccgdomaaGreatDoor.Dsk

/-
  WHAT IS PROVED: contracts of slices.Clone at bytes, and of the function that cuts bytes. Conditions: the bytes are there, at most a million.
-/
namespace Go.Proofs.YtijkdibccgdomaaGreatDoor.Dsk
set_option maxRecDepth 100000
open Go.RowKit Go.Lib

theorem Rd.reads {w : World} {F : Nat → Prop} {n : Nat} {A : Option Addr} {xs : List Value} (h : Rd w F 1 A n xs) : Reads w w.heap.size A n xs := by
  refine ⟨by have := h.1; omega, fun hn => ?_⟩
  obtain ⟨ad, e, hlt, _, hc⟩ := h.2 hn
  exact ⟨ad, e, hlt, by omega, hc⟩
theorem Rd.of_reads {w : World} {g n : Nat} {A : Option Addr} {xs : List Value} (h : Reads w g A n xs) : Rd w no 1 A n xs := by
  refine ⟨by have := h.1; omega, fun hn => ?_⟩
  obtain ⟨ad, e, hlt, _, hc⟩ := h.2 hn
  exact ⟨ad, e, hlt, fun f => f, hc⟩
theorem bs_one (l : List UInt8) : ∀ u ∈ bs l, u.oneCell' = true := by
  intro u hu
  unfold bs at hu
  obtain ⟨c, _, rfl⟩ := List.mem_map.1 hu
  rfl
theorem bs_len (l : List UInt8) : (bs l).length = l.length := by unfold bs; simp
theorem u8_info : (Tryz.prog.info? 5).map (fun i => (i.zero, i.size, i.bytes)) = some (some (.int .u8 0), 1, 1) := by kernel_rfl
theorem info_parts {P : Program} {t : TypeId} {z : Option Value} {s b : Nat} (h : (P.info? t).map (fun i => (i.zero, i.size, i.bytes)) = some (z, s, b)) : ∃ i, P.info? t = some i ∧ i.zero = z ∧ i.size = s ∧ i.bytes = b := by
  cases hi : P.info? t with
  | none => rw [hi] at h; cases h
  | some i => rw [hi] at h; simp at h; exact ⟨i, rfl, h.1, h.2.1, h.2.2⟩
/-- what a clone is -/
def Clo (w : World) (b : List UInt8) (e : Ending) (w' : World) : Prop := ∃ A n c, e = .returned (.slice A n c) ∧ b.length = n ∧ n ≤ c ∧ c ≤ 9223372036854775807 ∧ w'.ownsRow w.heap.size 5 1 (.slice A n c) n (bs b) ∧ Below w.heap.size w w'
theorem Clo.rd {w w' : World} {b : List UInt8} {A : Option Addr} {n c : Nat} (h : w'.ownsRow w.heap.size 5 1 (.slice A n c) n (bs b)) {F : Nat → Prop} (hF : ∀ i, F i → i < w.heap.size) : Rd w' F 1 A n (bs b) :=
  Rd.of_own h rfl (fun k hk f => by have := (World.ownsRow.lt h k hk).1; have := hF k f; omega)
set_option maxRecDepth 100000 in
set_option maxHeartbeats 4000000 in
theorem clone_any (A : Option Addr) (n c : Nat) (b : List UInt8) (w : World) (F : Nat → Prop) (hr : Rd w F 1 A n (bs b)) (hn : n ≤ 1000000) :
    Calls Tryz.prog 59 #[.slice A n c] w (Clo w b) := by
  have hl : b.length = n := by have := hr.1; rw [bs_len] at this; omega
  obtain ⟨i0, hi0, hz0, hz1, hz2⟩ := info_parts u8_info
  cases A with
  | none =>
    obtain rfl : n = 0 := by
      rcases Nat.eq_zero_or_pos n with h | h
      · exact h
      · obtain ⟨ad, e, _⟩ := hr.2 h; cases e
    obtain rfl : b = [] := List.eq_nil_of_length_eq_zero hl
    have hq : ∀ w : World, (binOp BinOp.eql 56 (.slice none 0 c) (.slice none 0 0)).run Tryz.prog w = .ok (.bool true) w := fun _ => rfl
    clear hr hl
    go_enter Tryz.func59, Tryz.ntmps59
    go_wp2
    go_ret
    exact ⟨none, 0, 0, rfl, rfl, Nat.le_refl _, by omega, World.ownsRow_nil _ _ _ _, Below.refl _ _⟩
  | some ad =>
    have HR := Lib.hid hr
    have HL := Lib.hid hl
    have hq : ∀ w : World, (binOp BinOp.eql 56 (.slice (some ad) n c) (.slice none 0 0)).run Tryz.prog w = .ok (.bool false) w := fun _ => rfl
    clear hr hl
    go_enter Tryz.func59, Tryz.ntmps59
    have hown : (w.alloc (.cells #[] 5)).ownsRow w.heap.size 5 1 (.slice (some ⟨w.heap.size, 0, none⟩) 0 0) 0 [] := ⟨rfl, .inr ⟨w.heap.size, 0, #[], rfl, Nat.le_refl _, heap_alloc_new w _, Nat.le_refl _, by decide, rfl, rfl⟩⟩
    have hB1 : Below w.heap.size w (w.alloc (.cells #[] 5)) := (Below.refl _ _).alloc (Nat.le_refl _) _
    have hrd : Reads (w.alloc (.cells #[] 5)) w.heap.size (some ad) n (bs b) := HR.out.reads.below hB1
    have hn0 : 0 + n ≤ maxLen := by unfold maxLen; omega
    have hn1 : (0 + n) * 1 ≤ 140737488355328 := by omega
    have HOW := Lib.hid hown
    have HRD := Lib.hid hrd
    have HB1 := Lib.hid hB1
    clear hown hrd hB1
    go_wp2_with (at_builtin; refine wpList_append_cells _ rfl (.tmp 5) (.tmp 6) 56 rfl w.heap.size 5 i0 _ 1 Tryz.underlying56 hi0 hz0 hz1 hz2 rfl (.slice (some ⟨w.heap.size, 0, none⟩) 0 0) 0 [] rfl HOW.out w.heap.size (some ad) n c (bs b) rfl HRD.out (bs_one b) hn0 hn1 (by simp) ?_; intro v' w' ho hg _; obtain ⟨A', c', rfl, hc1, hc2⟩ := own_form ho)
    go_ret
    rw [Nat.zero_add, List.nil_append] at ho
    refine ⟨A', n, c', by simp, HL.out, by omega, hc2, ho, HB1.out.trans ?_⟩
    exact ⟨hg.os, hg.tape, hg.output, hg.size, fun i hi => hg.block i (by simp; omega) (fun e => by simp [Value.ownBlock] at e; omega)⟩
set_option maxRecDepth 100000 in
set_option maxHeartbeats 4000000 in
theorem begun_any (A : Option Addr) (n c : Nat) (k : Int) (w : World) (hn : n ≤ 1000000) (hc : n ≤ c) (hcm : c ≤ 9223372036854775807) :
    Calls Tryz.prog 56 #[.slice A n c, .int .i64 k] w fun e w' => e = .returned (.slice A (min k.toNat n) (min k.toNat n)) ∧ w' = w := by
  obtain ⟨m, hm⟩ : ∃ m, min k.toNat n = m := ⟨_, rfl⟩
  have hk : min (max k 0) (n : Int) = (m : Int) := by omega
  have hmn : m ≤ n := by omega
  rw [hm]
  have h1 : (0 : Int) ≤ (m : Int) := by omega
  have h2 : (m : Int) ≤ (c : Int) := by omega
  clear hm
  go_enter Tryz.func56, Tryz.ntmps56
  go_wp2
  all_goals first
    | (obtain rfl : m = n := by (first | omega | (split at * <;> omega))
       go_ret
       exact ⟨rfl, rfl⟩)
    | (obtain rfl : m = 0 := by (first | omega | (split at * <;> omega))
       go_ret
       exact ⟨rfl, rfl⟩)
    | (obtain rfl : m = k.toNat := by (first | omega | (split at * <;> omega))
       go_ret
       exact ⟨rfl, rfl⟩)
end Go.Proofs.YtijkdibccgdomaaGreatDoor.Dsk

/-
  WHAT IS PROVED: contract of the function that counts the bytes of all files but one. Condition: the files' number and sizes.
-/
namespace Go.Proofs.YtijkdibccgdomaaGreatDoor.Dsk
set_option maxRecDepth 100000
open Go.RowKit Go.Lib Go.Maps

abbrev Ra (w : World) (b r n : Nat) (D : Dm) (left : Lit → Bool) (cnt : Nat) : Prop := w.ranges Tryz.prog 9 fiElem b r n D left cnt
abbrev struck (left : Lit → Bool) (x : List UInt8) : Lit → Bool := fun z => left z && !z.sameKey (kl x)
/-- has the file come, and is it another one? -/
def dn (x : List UInt8) (left : Lit → Bool) (f : Fl) : Bool := !decide (f.name = x) && !left (kl f.name)
/-- the bytes of the files that have come, but for one -/
def doneS (l : List Fl) (x : List UInt8) (left : Lit → Bool) : Nat := sumF (l.filter (dn x left))
theorem sumF_cons (f : Fl) (l : List Fl) : sumF (f :: l) = f.b.length + sumF l := rfl
theorem sumF_le : ∀ {l : List Fl}, (∀ f ∈ l, f.b.length ≤ 100000) → sumF l ≤ l.length * 100000
  | [], _ => by simp [sumF]
  | f :: l, h => by
    have h1 := h f List.mem_cons_self
    have h2 := sumF_le (l := l) (fun g hg => h g (List.mem_cons_of_mem _ hg))
    rw [sumF_cons, List.length_cons]
    omega
theorem done_start {l : List Fl} {x : List UInt8} {left : Lit → Bool} (h : ∀ f ∈ l, left (kl f.name) = true) : doneS l x left = 0 := by
  unfold doneS
  rw [show l.filter (dn x left) = [] from List.filter_eq_nil_iff.2 fun f hf => by simp [dn, h f hf]]
  rfl
theorem done_end {l : List Fl} {x : List UInt8} {left : Lit → Bool} (h : ∀ z, left z = false) : doneS l x left = butF l x := by
  unfold doneS butF delF
  congr 1
  refine List.filter_congr fun f _ => ?_
  simp [dn, h]
theorem same_kl (x y : List UInt8) : (kl x).sameKey (kl y) = decide (x = y) := by
  by_cases h : x = y
  · subst h; rw [WideAt.sameKey_self (kl_key _)]; simp
  · rw [sameKey_ne (fun e => h (kl_inj e))]; simp [h]
theorem dn_other {x : List UInt8} {left : Lit → Bool} {f h : Fl} (hne : h.name ≠ f.name) : dn x (struck left f.name) h = dn x left h := by
  unfold dn struck; rw [same_kl]; simp [hne]
theorem dn_self {x : List UInt8} {left : Lit → Bool} {f : Fl} : dn x (struck left f.name) f = !decide (f.name = x) := by
  unfold dn struck; rw [same_kl]; simp
theorem done_step : ∀ {l : List Fl} {x : List UInt8} {left : Lit → Bool} {f : Fl}, Good l → f ∈ l → left (kl f.name) = true → doneS l x (struck left f.name) = doneS l x left + (if f.name = x then 0 else f.b.length) := by
  intro l x left f hu hf hl
  have hn := hu.nodup
  clear hu
  induction l with
  | nil => cases hf
  | cons g l ih =>
    rw [List.map_cons, List.nodup_cons] at hn
    rcases List.mem_cons.1 hf with rfl | hf'
    · have hsame : l.filter (dn x (struck left f.name)) = l.filter (dn x left) := by
        refine List.filter_congr fun h hh => ?_
        exact dn_other (fun e => hn.1 (List.mem_map.2 ⟨h, hh, e⟩))
      have h0 : dn x left f = false := by unfold dn; rw [hl]; simp
      unfold doneS
      rw [List.filter_cons, List.filter_cons, hsame, dn_self, h0]
      by_cases e : f.name = x
      · simp [e]
      · simp [e, sumF_cons]; omega
    · have hne : g.name ≠ f.name := fun e => hn.1 (List.mem_map.2 ⟨f, hf', e.symm⟩)
      have h := ih hf' hn.2
      unfold doneS at h ⊢
      rw [List.filter_cons, List.filter_cons, dn_other hne]
      cases dn x left g
      · simpa using h
      · simp only [if_true, sumF_cons, h]; omega
theorem done_le (l : List Fl) (x : List UInt8) (left : Lit → Bool) : doneS l x left ≤ sumF l := by
  unfold doneS
  induction l with
  | nil => exact Nat.le_refl _
  | cons f l ih =>
    rw [List.filter_cons, sumF_cons]
    cases dn x left f
    · simp; omega
    · simp [sumF_cons]; omega

theorem keyOf_inv {v : Value} {l : Lit} (h : keyOf Tryz.prog 9 v = some l) : ∃ x : List UInt8, x.length ≤ maxLen ∧ v = .string (str x) ∧ l = kl x := by
  obtain ⟨s, rfl, rfl, hs⟩ := Go.WideMaps.string_of_keyOf Tryz.underlying9 h
  exact ⟨s.data.toList, by rw [Array.length_toList]; exact hs, by rw [← str_data], rfl⟩
section
variable (w : World) {ops : Array Oper} {rest : List Oper} {o : Oper} {a : Act} {Q : Exit → Act → World → Prop}
/-- a step of the range: one of the files comes, or none is left -/
theorem wpList_next_files (hg : o.guard = none) (it : Operand) (hop : o.op = Op.next it false) (b r n : Nat) (D : Dm) (left : Lit → Bool) (cnt : Nat) (l : List Fl) (W : World) (F : Nat → Prop) (hag : Agr W F D l)
    (hit : a.eval it = .pointer (some ⟨r, 0, none⟩)) (h : Ra w b r n D left cnt)
    (hDone : (∀ kl, left kl = false) → wpList Tryz.prog ops Q rest (a.put o.dst (.tuple #[.bool false])) w)
    (hMore : ∀ (f : Fl) (A : Option Addr) (m c : Nat) (w' : World) (cnt' : Nat), f ∈ l → f.b.length = m → left (kl f.name) = true → Ra w' b r n D (struck left f.name) cnt' → cnt' < cnt → w.grownBy w' (some r) → w'.heap.size = w.heap.size →
      (Instr.entry (.pointer (some ⟨r, 0, none⟩))).run Tryz.prog w' = .ok (.tuple #[.string (str f.name), .agg #[.slice A m c, .bool f.safe]]) w' → wpList Tryz.prog ops Q rest (a.put o.dst (.tuple #[.bool true, .string (str f.name), .agg #[.slice A m c, .bool f.safe]])) w') :
    wpList Tryz.prog ops Q (o :: rest) a w := by
  refine wpList_next_ranges w hg it hop 9 keyed _ (fun x : List UInt8 => Value.string (str x)) (fun v : Value => v) (fun key kl hkey => ?_) (fun v y hv => ⟨v, rfl⟩) b r n D left cnt hit h (fun _ => hDone) ?_
  · obtain ⟨x, _, e, _⟩ := keyOf_inv hkey
    exact ⟨x, e⟩
  · intro x c k y w' cnt' hkey hlk hv hat hrg hlt hgr hsz hen
    obtain ⟨x', _, e, rfl⟩ := keyOf_inv hkey
    obtain rfl : x = x' := by
      injection e with e
      have := congrArg (fun s => s.data.toList) e
      simpa [str] using this
    have hh := has_true_of_atKey hat
    rw [hag.has_] at hh
    obtain ⟨f, hf, rfl⟩ := hasF_iff.1 hh
    obtain ⟨v, h1, A, m, c', rfl, hm, _⟩ := hag.at_ f hf
    have h2 := hat (.lit (.bool false))
    rw [h1] at h2
    unfold fiElem at hv
    injection hv with hv
    rw [← hv] at h2
    injection h2 with h2
    subst h2
    exact hMore f A m c' w' cnt' hf hm hlk hrg hlt hgr hsz hen
end

set_option maxRecDepth 100000 in
set_option maxHeartbeats 4000000 in
theorem but_any (d g : Nat) (S : Ds) (x : List UInt8) (w : World) (h : Dk w d g S) (hl : S.fs.length ≤ 1000000) :
    Calls Tryz.prog 58 #[.pointer (some ⟨d, 0, none⟩), .string (str x)] w fun e w' => e = .returned (.int .i64 (butF S.fs x : Int)) ∧ Below w.heap.size w w' := by
  obtain ⟨c0, _, _, _⟩ := h.cells
  have HG := Lib.hid h.good
  obtain ⟨D, hown, hag⟩ := h.map
  have HAG := Lib.hid hag
  obtain ⟨l, hle⟩ : ∃ l, S.fs = l := ⟨_, rfl⟩
  have hlt := h.lt.2
  rw [hle] at HG HAG hl hown ⊢
  have HSM : Hid (sumF l ≤ 100000000000) := by
    show _ ≤ _
    have := sumF_le (fun f hf => (HG.out.small f hf).2)
    have h2 : l.length * 100000 ≤ 1000000 * 100000 := Nat.mul_le_mul_right _ hl
    omega
  clear hag h hle
  go_enter Tryz.func58, Tryz.ntmps58
  go_wp2_with (at_range; refine wpList_range_own _ rfl _ 82 rfl 9 93 keyed Tryz.underlying82 _ g _ D rfl hown ?_; intro w0 hrg0 hg0 hs0)
  go_frame
  have HRG0 := Lib.hid hrg0
  have HB0 : Hid (Below w.heap.size w w0) := Lib.hid (below_of_only (hg0.but (some w.heap.size)) (Nat.le_refl _) (Nat.le_refl _))
  clear hrg0 hg0 hs0 hown
  go_loopw [5] (fun va wr => ∃ (left : Lit → Bool) (cnt s : Nat), va = .int .i64 (s : Int) ∧ Ra wr g w.heap.size l.length D left cnt ∧ s = doneS l x left ∧ Below w.heap.size w wr) (fun _ wr => wr.rangeLeft g w.heap.size)
  case atStart => exact ⟨_, _, 0, rfl, HRG0.out, (done_start fun f hf => by rw [HAG.out.has_]; exact hasF_iff.2 ⟨f, hf, rfl⟩).symm, HB0.out⟩
  case round =>
    obtain ⟨left, cnt, s, rfl, hrg, hs, hb⟩ := hrel
    have HRG := Lib.hid hrg
    have HS := Lib.hid hs
    have HB := Lib.hid hb
    clear hrg hs hb
    go_wp2_with (at_next; refine wpList_next_files _ rfl _ rfl g w.heap.size l.length _ _ _ l w _ HAG.out rfl HRG.out ?_ ?_)
    · intro hl0
      have HE := Lib.hid (HS.out.trans (done_end hl0))
      clear hl0
      go_wp2
      go_ret
      exact ⟨by rw [HE.out]; rfl, HB.out⟩
    · intro f A m c w1 cnt1 hfl hm hlr hrg1 hlt hg1 hs1 hen
      have HM := Lib.hid hm
      have HST := Lib.hid (done_step (x := x) HG.out hfl hlr)
      have HLE := Lib.hid (done_le l x (struck left f.name))
      have HRG1 := Lib.hid (hrg1.alloc (.cells #[.slice A m c, .bool f.safe] 93))
      have HLT := Lib.hid hlt
      have HB1 := Lib.hid (((HB.out.grown hg1 HB.out.size (fun j e => by cases e; exact Nat.le_refl _)).alloc (by have := HB.out.size; omega) (.cells #[.slice A m c, .bool f.safe] 93)))
      clear hfl hlr hrg1 hlt hg1 hs1 hm
      by_cases e : f.name = x
      · go_wp2
        go_roundw
        case rel => exact ⟨_, cnt1, s, rfl, HRG1.out, by rw [HST.out, if_pos e, HS.out]; rfl, HB1.out⟩
        case measure => rw [HRG1.out.left_eq, HRG.out.left_eq]; exact HLT.out
      · have ht : ((str f.name).toList == (str x).toList) = false := by rw [str_toList, str_toList]; simpa using e
        have hw : IntKind.i64.wrap ((s : Int) + (m : Int)) = ((s + m : Nat) : Int) := by
          have h1 := HST.out
          rw [if_neg e, HM.out, ← HS.out] at h1
          have h2 := HLE.out
          have h3 := HSM.out
          rw [IntKind.wrap_i64]
          omega
        go_wp2
        go_roundw
        case rel => exact ⟨_, cnt1, s + m, by simp, HRG1.out, by rw [HST.out, if_neg e, HM.out, HS.out], HB1.out⟩
        case measure => rw [HRG1.out.left_eq, HRG.out.left_eq]; exact HLT.out
end Go.Proofs.YtijkdibccgdomaaGreatDoor.Dsk
