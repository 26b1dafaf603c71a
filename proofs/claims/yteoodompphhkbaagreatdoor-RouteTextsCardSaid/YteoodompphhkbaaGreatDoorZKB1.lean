/-
  WHAT IS PROVED: layers 13's and 14's contracts: a state, its text, saved and loaded. Conditions: each states its own.
-/
import Derived.Test.YteoodompphhkbaaGreatDoorZKA1
import Derived.Test.YteoodompphhkbaaGreatDoorZShelf
import Derived.Maps.AppendAt
import Derived.OwnWalk
import Derived.Deep.Strs
import Derived.OpenShut
import Derived.OpenVars
import Derived.Laws.IdiomStrings
import Derived.Deep.QuietTactic
import Derived.BigQuiet
import Derived.Lib.SmallJoins
import Derived.BigRegion
import Derived.StillTailTactics
import Derived.Deep.RegionHeld3
import Derived.Sort.OwnSortedInts
import Derived.Lib.OwnBridge
import Derived.Lib.Join
import Derived.Lib.IndexMore
import Derived.Shelf.SlicesE.Kit
import Derived.Laws.StructEq
import Derived.Deep.Cut
import Derived.RegionTactic
import Derived.ChangeAlike
/- KA -/
namespace Go.Proofs.YteoodompphhkbaaGreatDoor.K.Dsk
set_option maxRecDepth 100000

abbrev nSt : List UInt8 := [115, 116, 97, 116, 101]
abbrev nNx : List UInt8 := [110, 101, 120, 116]
/-- what a save of a right state's text does -/
def saveT (S : Ds) (t : List UInt8) : Int × Ds :=
  if (writeD S nNx t).1 ≠ 0 then writeD S nNx t
  else if (syncD (writeD S nNx t).2 nNx).1 ≠ 0 then syncD (writeD S nNx t).2 nNx
  else renameD (syncD (writeD S nNx t).2 nNx).2 nNx nSt
/-- the files of a disk that keeps the text o -/
structure Kept (l : List Fl) (o : Option (List UInt8)) : Prop where
  good : Good l
  names : ∀ f ∈ l, f.name = nNx ∨ f.name = nSt
  st : hasF l nSt = o.isSome
  txt : ∀ t, o = some t → getF l nSt = ⟨nSt, t, true⟩
section
variable {l : List Fl} {o : Option (List UInt8)}
theorem Kept.nx (h : Kept l o) : delF (delF l nNx) nSt = [] := by
  cases hd : delF (delF l nNx) nSt with
  | nil => rfl
  | cons f r =>
    have hf : f ∈ delF (delF l nNx) nSt := by rw [hd]; exact List.mem_cons_self ..
    obtain ⟨h1, h2⟩ := mem_delF.1 hf
    obtain ⟨h3, h4⟩ := mem_delF.1 h1
    rcases h.names f h3 with e | e
    · exact absurd e h4
    · exact absurd e h2
theorem Kept.two (h : Kept l o) : l.length ≤ 2 := by
  have h1 := len_delF h.good (x := nNx)
  have h2 := len_delF (h.good.del nNx) (x := nSt)
  rw [h.nx] at h2
  simp only [List.length_nil] at h2
  split at h1 <;> split at h2 <;> omega
def keptL : Option (List UInt8) → List Fl
  | some t => [⟨nSt, t, true⟩]
  | none => []
def keptN : Option (List UInt8) → Nat
  | some t => t.length
  | none => 0
theorem Kept.del (h : Kept l o) : delF l nNx = keptL o := by
  have hg := h.good.del nNx
  have h2 := len_delF hg (x := nSt)
  rw [h.nx, has_delF, h.st] at h2
  cases o with
  | none =>
    simp at h2
    exact List.eq_nil_of_length_eq_zero (by omega)
  | some t =>
    have he := h.txt t rfl
    have hn : nSt ≠ nNx := by decide
    simp [hn] at h2
    have hm : getF (delF l nNx) nSt ∈ delF l nNx := getF_mem (by rw [has_delF, h.st]; simp [hn])
    rw [getF_del l hn, he] at hm
    match hl : delF l nNx, h2 with
    | [f], _ =>
      rw [hl] at hm
      rw [← List.mem_singleton.1 hm]
      rfl
theorem Kept.but (h : Kept l o) : butF l nNx = keptN o := by
  unfold butF
  rw [h.del]
  cases o <;> rfl
theorem Kept.done (h : Kept l o) {t : List UInt8} (ht : t.length ≤ 100000) : Kept (putF (delF l nNx) ⟨nSt, t, true⟩) (some t) :=
  ⟨(h.good.del _).put (by show (5 : Nat) ≤ 1000; omega) ht, fun f hf => by
    rcases mem_putF.1 hf with rfl | ⟨h1, _⟩
    · exact .inr rfl
    · exact h.names f (mem_delF.1 h1).1, by rw [has_putF]; simp, fun t' e => by injection e with e; subst e; exact getF_put _⟩
end

/-! ### a save -/
end Go.Proofs.YteoodompphhkbaaGreatDoor.K.Dsk

/- Kn -/
namespace Go.Proofs.YteoodompphhkbaaGreatDoor.K
set_option maxRecDepth 100000
open Go.RowKit Go.ChangeShapes Go.WideShapes Go.ChangeAt Go.WideElems C

theorem add_succ (x : Addr) (j : Nat) : x.add (j + 1) = ⟨x.block, x.off + (j + 1), none⟩ := by unfold Addr.add; rw [if_neg (by omega)]
/-- what is kept of another node -/
structure Kn where
  i : Int
  m : Int
  c : Int
/-! ### slices of known ones -/
def encK (r : Kn) : List Value := [.int .i64 r.i, .int .i64 r.m, .int .i64 r.c]
def flatK (l : List Kn) : List Value := l.flatMap encK
theorem flat_len : ∀ l : List Kn, (flatK l).length = l.length * 3
  | [] => rfl
  | r :: l => by have := flat_len l; simp [flatK, encK] at this ⊢; omega
theorem flat_append (l m : List Kn) : flatK (l ++ m) = flatK l ++ flatK m := by unfold flatK; rw [List.flatMap_append]
theorem flat_one (l : List Kn) : ∀ u ∈ flatK l, u.oneCell' = true := by
  intro u hu
  obtain ⟨r, _, hr⟩ := List.mem_flatMap.1 hu
  simp [encK] at hr
  rcases hr with rfl | rfl | rfl <;> rfl
theorem flat_get : ∀ {l : List Kn} {i : Nat} {r : Kn}, l[i]? = some r → (flatK l)[i * 3]? = some (.int .i64 r.i) ∧ (flatK l)[i * 3 + 1]? = some (.int .i64 r.m) ∧ (flatK l)[i * 3 + 2]? = some (.int .i64 r.c)
  | x :: l, 0, r, h => by simp at h; subst h; exact ⟨rfl, rfl, rfl⟩
  | x :: l, i + 1, r, h => by
    have := flat_get (l := l) (i := i) (r := r) (by simpa using h)
    rw [show (i + 1) * 3 = i * 3 + 3 by omega, show i * 3 + 3 + 1 = i * 3 + 1 + 3 by omega, show i * 3 + 3 + 2 = i * 3 + 2 + 3 by omega]
    exact this
theorem flat_at : ∀ {l : List Kn} {j : Nat} {u : Value}, (flatK l)[j]? = some u → ∃ i r, l[i]? = some r ∧ ((j = i * 3 ∧ u = .int .i64 r.i) ∨ (j = i * 3 + 1 ∧ u = .int .i64 r.m) ∨ (j = i * 3 + 2 ∧ u = .int .i64 r.c))
  | [], j, u, h => by simp [flatK] at h
  | x :: l, 0, u, h => by simp [flatK, encK] at h; exact ⟨0, x, rfl, .inl ⟨rfl, h.symm⟩⟩
  | x :: l, 1, u, h => by simp [flatK, encK] at h; exact ⟨0, x, rfl, .inr (.inl ⟨rfl, h.symm⟩)⟩
  | x :: l, 2, u, h => by simp [flatK, encK] at h; exact ⟨0, x, rfl, .inr (.inr ⟨rfl, h.symm⟩)⟩
  | x :: l, j + 3, u, h => by
    obtain ⟨i, r, hi, h⟩ := flat_at (l := l) (j := j) (u := u) h
    refine ⟨i + 1, r, by simpa using hi, ?_⟩
    rcases h with ⟨e, h⟩ | ⟨e, h⟩ | ⟨e, h⟩
    · exact .inl ⟨by omega, h⟩
    · exact .inr (.inl ⟨by omega, h⟩)
    · exact .inr (.inr ⟨by omega, h⟩)

/-- the slice value '.slice A n c' holds the known ones l, in a block that is there -/
def KnAt (w : World) (A : Option Addr) (n : Nat) (l : List Kn) : Prop :=
  l.length = n ∧ (0 < n → ∃ ad, A = some ad ∧ ad.block < w.heap.size ∧ ∀ i s, l[i]? = some s → w.cell? (ad.add (i * 3)) = some (.int .i64 s.i) ∧ w.cell? (ad.add (i * 3 + 1)) = some (.int .i64 s.m) ∧ w.cell? (ad.add (i * 3 + 2)) = some (.int .i64 s.c))

section
variable {w w' : World} {A : Option Addr} {ad : Addr} {n k : Nat} {l : List Kn}
theorem KnAt.nil_ (w : World) (A : Option Addr) : KnAt w A 0 [] := ⟨rfl, fun h => absurd h (by omega)⟩
theorem KnAt.below (h : KnAt w A n l) (hb : Below w.heap.size w w') : KnAt w' A n l :=
  ⟨h.1, fun hn => by
    obtain ⟨ad, e, hlt, hc⟩ := h.2 hn
    refine ⟨ad, e, Nat.lt_of_lt_of_le hlt hb.size, fun i s hs => ?_⟩
    obtain ⟨c0, c1, c2⟩ := hc i s hs
    exact ⟨(hb.cell (by rw [block_of_add]; exact hlt)).trans c0, (hb.cell (by rw [block_of_add]; exact hlt)).trans c1, (hb.cell (by rw [block_of_add]; exact hlt)).trans c2⟩⟩
theorem KnAt.at_ (h : KnAt w A n l) (hk : k < n) :
    ∃ ad s, A = some ad ∧ l[k]? = some s ∧ ad.block < w.heap.size ∧ w.cell? (ad.add (k * 3)) = some (.int .i64 s.i) ∧ w.cell? ⟨(ad.add (k * 3)).block, (ad.add (k * 3)).off + 1, none⟩ = some (.int .i64 s.m) ∧ w.cell? ⟨(ad.add (k * 3)).block, (ad.add (k * 3)).off + 2, none⟩ = some (.int .i64 s.c) := by
  obtain ⟨ad, e, hlt, hc⟩ := h.2 (by omega)
  have hl : k < l.length := by have := h.1; omega
  obtain ⟨c0, c1, c2⟩ := hc k _ (List.getElem?_eq_getElem hl)
  rw [← add_of_add, add_succ] at c1 c2
  exact ⟨ad, l[k], e, List.getElem?_eq_getElem hl, hlt, c0, c1, c2⟩
theorem KnAt.cells (h : KnAt w (some ad) n l) : ∀ j u, (flatK l)[j]? = some u → w.cell? (ad.add j) = some u := fun j u hu => by
  obtain ⟨i, r, hi, hr⟩ := flat_at hu
  have hn : 0 < n := by have := h.1; have := (List.getElem?_eq_some_iff.1 hi).1; omega
  obtain ⟨ad', e, _, hc⟩ := h.2 hn
  cases e
  obtain ⟨c0, c1, c2⟩ := hc i r hi
  rcases hr with ⟨rfl, rfl⟩ | ⟨rfl, rfl⟩ | ⟨rfl, rfl⟩
  · exact c0
  · exact c1
  · exact c2
theorem KnAt.of_cells {ad : Addr} (hl : l.length = n) (hlt : 0 < n → ad.block < w.heap.size) (hc : ∀ j u, (flatK l)[j]? = some u → w.cell? (ad.add j) = some u) : KnAt w (some ad) n l :=
  ⟨hl, fun hn => ⟨ad, rfl, hlt hn, fun _ _ hs => ⟨hc _ _ (flat_get hs).1, hc _ _ (flat_get hs).2.1, hc _ _ (flat_get hs).2.2⟩⟩⟩
end

/-- a row of the call's own -/
theorem own_kn {w : World} {base n : Nat} {e : TypeId} {v : Value} {l : List Kn} (h : w.ownsRow base e 3 v n (flatK l)) :
    ∃ A cap, v = .slice A n cap ∧ n ≤ cap ∧ cap ≤ 9223372036854775807 ∧ KnAt w A n l := by
  have hl : l.length = n := by have := h.1; rw [flat_len] at this; omega
  rcases h.2 with ⟨rfl, rfl⟩ | ⟨b, cap, cur, rfl, hb, hh, hnc, hcm, _⟩
  · obtain rfl := List.eq_nil_of_length_eq_zero hl
    exact ⟨none, 0, rfl, Nat.le_refl _, by omega, KnAt.nil_ _ _⟩
  · exact ⟨some ⟨b, 0, none⟩, cap, rfl, hnc, by unfold maxLen at hcm; omega, KnAt.of_cells hl (fun _ => (Array.getElem?_eq_some_iff.1 hh).1) (h.cells rfl)⟩

theorem kn_info : (Tryz.prog.info? 111).map (fun i => (i.zero, i.size, i.bytes)) = some (some (.agg #[.int .i64 0, .int .i64 0, .int .i64 0]), 3, 24) := by kernel_rfl
theorem int_info : (Tryz.prog.info? 3).map (fun i => (i.zero, i.size, i.bytes)) = some (some (.int .i64 0), 1, 8) := by kernel_rfl
theorem info_parts {P : Program} {t : TypeId} {z : Option Value} {s b : Nat} (h : (P.info? t).map (fun i => (i.zero, i.size, i.bytes)) = some (z, s, b)) : ∃ i, P.info? t = some i ∧ i.zero = z ∧ i.size = s ∧ i.bytes = b := by
  cases hi : P.info? t with
  | none => rw [hi] at h; cases h
  | some i => rw [hi] at h; simp at h; exact ⟨i, rfl, h.1, h.2.1, h.2.2⟩

section
variable {P : Program} (w : World)
/-- append at known ones: onto an own row, of a slice that may be nil -/
theorem run_append_kn (base : Nat) (t ty e : TypeId) (i : TypeInfo) (z : Value) (ht : P.underlying t = some (.slice e)) (hi : P.info? e = some i) (hz : i.zero = some z)
    (hsize : i.size = 3) (hby : i.bytes = 24) (hzs : z.cells.size = 3)
    (v : Value) (n : Nat) (xs : List Kn) (hown : w.ownsRow base e 3 v n (flatK xs))
    (A : Option Addr) (m c : Nat) (news : List Kn) (hr : KnAt w A m news)
    (h63 : n + m ≤ 1000000) (hbase : base ≤ w.heap.size) :
    ∃ v' w', (Builtin.append_ #[t, t] ty #[v, .slice A m c]).run P w = .ok v' w' ∧ w'.ownsRow base e 3 v' (n + m) (flatK (xs ++ news)) ∧ w.grownBy w' v.ownBlock ∧
      (v'.ownBlock = v.ownBlock ∨ v'.ownBlock = some w.heap.size) := by
  rw [flat_append]
  cases A with
  | none =>
    have hm : m = 0 := by
      rcases Nat.eq_zero_or_pos m with h0 | h0
      · exact h0
      · obtain ⟨ad, h, _⟩ := hr.2 h0
        cases h
    subst hm
    have hn : news = [] := List.eq_nil_of_length_eq_zero hr.1
    subst hn
    refine ⟨v, w, ?_, by simpa [flatK] using hown, World.grownBy.refl w _, .inl rfl⟩
    rcases hown.2 with ⟨rfl, rfl⟩ | ⟨b, cap, cur, rfl, _, _, hnc, _⟩
    · simp [Builtin.append_, run_underlying ht, sizeOf, typeInfo, hi, Builtin.lenOf, Builtin.firstCells]
    · simp [Builtin.append_, run_underlying ht, sizeOf, typeInfo, hi, Builtin.lenOf, Builtin.firstCells, hnc, storeCells]
  | some ad =>
    obtain ⟨v', w', hrun, h2, h3, _, h5⟩ := run_append_own_at (P := P) w base t ty e i z 3 24 ht hi hz hsize hby hzs (by omega) v n (flatK xs) hown ad m c (flatK news) (by rw [flat_len, hr.1]) hr.cells (flat_one _) (by unfold maxLen; omega) (by omega) hbase
    exact ⟨v', w', hrun, h2, h3, h5⟩

theorem wpList_append_kn {ops : Array Oper} {rest : List Oper} {o : Oper} {a : Act} {Q : Exit → Act → World → Prop} (hgd : o.guard = none) (s x : Operand) (t : TypeId)
    (ho : o.op = .call { callee := .builtin .append, args := #[s, x], argTypes := #[t, t] })
    (base : Nat) (e : TypeId) (i : TypeInfo) (z : Value) (ht : P.underlying t = some (.slice e)) (hi : P.info? e = some i) (hz : i.zero = some z)
    (hsize : i.size = 3) (hby : i.bytes = 24) (hzs : z.cells.size = 3)
    (v : Value) (n : Nat) (xs : List Kn) (hs : a.eval s = v) (hown : w.ownsRow base e 3 v n (flatK xs))
    (A : Option Addr) (m c : Nat) (news : List Kn) (hx : a.eval x = .slice A m c) (hr : KnAt w A m news)
    (h63 : n + m ≤ 1000000) (hbase : base ≤ w.heap.size)
    (h : ∀ v' w', w'.ownsRow base e 3 v' (n + m) (flatK (xs ++ news)) → w.grownBy w' v.ownBlock → (v'.ownBlock = v.ownBlock ∨ v'.ownBlock = some w.heap.size) → wpList P ops Q rest (a.put o.dst v') w') : wpList P ops Q (o :: rest) a w :=
  wpList_plain hgd fun K hK => by
    obtain ⟨v', w', hrun, h2, h3, h4⟩ := run_append_kn (P := P) w base t o.type e i z ht hi hz hsize hby hzs v n xs hown A m c news hr h63 hbase
    unfold Oper.wp execOp
    simp only [ho, resolve, invoke, builtin, Sem.run_bind, Sem.run_pure, Result.andThen_ok, List.map_toArray, List.map_cons, List.map_nil, hs, hx, hrun]
    exact hK _ _ (h v' w' h2 h3 h4)
end
theorem KnAt.one (w : World) (r : Kn) (t : TypeId) : KnAt (w.alloc (.cells #[.int .i64 r.i, .int .i64 r.m, .int .i64 r.c] t)) (some ⟨w.heap.size, 0, none⟩) 1 [r] :=
  KnAt.of_cells rfl (fun _ => by simp) fun j u hu => by
    rw [Go.WideShapes.add_plain, Nat.zero_add, (Blk.new w t _).cell j]
    simpa [flatK, encK] using hu

end Go.Proofs.YteoodompphhkbaaGreatDoor.K

/- Back -/
namespace Go.Proofs.YteoodompphhkbaaGreatDoor.K
set_option maxRecDepth 100000
open Go.RowKit Go.ChangeShapes Go.WideShapes Go.ChangeAt Go.WideElems

theorem bytes_back {w : World} {g n c : Nat} {A : Option Addr} {l : List UInt8} (h : Reads w g A n (bs l)) : (convert 41 9 (.slice A n c)).run Tryz.prog w = .ok (.string (str l)) w := by
  have hl : l.length = n := by have := h.1; simpa [bs] using this
  cases A with
  | none =>
    have hn : n = 0 := by
      rcases Nat.eq_zero_or_pos n with h0 | h0
      · exact h0
      · obtain ⟨ad, e, _⟩ := h.2 h0; cases e
    subst hn
    rw [run_convert_bytes_nil w 41 5 Tryz.underlying41 Tryz.underlying5 0 c 9 Tryz.underlying9]
    cases l with
    | nil => rfl
    | cons _ _ => simp at hl
  | some a =>
    have hcells : (loadCells a n).run Tryz.prog w = .ok ((l.map (fun c => (c.toNat : Int))).map (Value.int .u8)).toArray w := by
      have := run_loadCells_list (P := Tryz.prog) w a ((l.map (fun c => (c.toNat : Int))).map (Value.int .u8)) (fun j v hj => by
        have hj' : (bs l)[j]? = some v := by
          rw [← hj]
          simp [bs, Function.comp_def]
        have hn : 0 < n := by
          have hlen : j < (bs l).length := (List.getElem?_eq_some_iff.1 hj').1
          have := h.1
          omega
        obtain ⟨ad, e, _, _, hc⟩ := h.2 hn
        injection e with e
        subst e
        exact hc j v hj')
      simpa [hl] using this
    rw [run_convert_bytes_string w 41 9 5 _ n c Tryz.underlying41 Tryz.underlying5 Tryz.underlying9, run_bytesToString w a n c _ hcells, foldl_push_bytes]
    have e : l.map ((fun n : Int => UInt8.ofNat n.toNat) ∘ fun c => (c.toNat : Int)) = l := by
      conv => rhs; rw [← List.map_id l]
      apply List.map_congr_left
      intro x _
      simp
    simp [str, e, ByteArray.empty, ByteArray.emptyWithCapacity]
    rfl

end Go.Proofs.YteoodompphhkbaaGreatDoor.K

/- Kmem -/
namespace Go.Proofs.YteoodompphhkbaaGreatDoor.K.Dsk
set_option maxRecDepth 100000
open Go.RowKit Go.Lib Go.ChangeShapes Go.WideShapes Go.ChangeAt Go.WideElems
variable {U : Nat → Prop}

theorem Dk.fd {w : World} {d g : Nat} {S : Ds} (h : Dk w d g U S) : ∀ i, FD d g i → i < w.heap.size := fun i hi => by
  rcases hi with e | e
  · rw [e]; exact h.lt.1
  · rw [e]; exact h.lt.2
theorem Dk.alloc {w : World} {d g : Nat} {S : Ds} (h : Dk w d g U S) (o : Obj) : Dk (w.alloc o) d g U S := h.below ((Below.refl _ w).alloc (Nat.le_refl _) o)
theorem rd_bytes {w : World} {d g : Nat} {S : Ds} (h : Dk w d g U S) (t : List UInt8) (e : TypeId) (c : Nat) (m : Nat × Nat) :
    Rd (w.drew.alloc (.cells (bytesRow (str t) c) e m)) (FD d g) 1 (some ⟨w.heap.size, 0, none⟩) t.length (bs t) :=
  ⟨by rw [bs_len]; omega, fun _ => ⟨_, rfl, by simp, fun f => by have := h.fd _ f; simp at this, fun j u hu => by
    have hj : j < t.length := by have := (List.getElem?_eq_some_iff.1 hu).1; rwa [bs_len] at this
    rw [Go.WideShapes.add_plain, Nat.zero_add, cell_of_row _ w.heap.size j (bytesRow (str t) c) e m (heap_alloc_new w.drew _)]
    unfold bytesRow
    rw [Array.getElem?_append_left (by simp [str]; exact hj)]
    rw [← hu]
    simp [str, bs]⟩⟩
theorem turn_bytes (w : World) (d g : Nat) (o : Obj) : Turn w (w.drew.alloc o) (FD d g) := Turn.of_below (((Below.refl _ w).drew).alloc (Nat.le_refl _) o) _
/-- known ones outside of a disk -/
def KnF (w : World) (d g : Nat) (A : Option Addr) (n : Nat) (l : List Kn) : Prop := KnAt w A n l ∧ ∀ ad, A = some ad → ad.block ≠ d ∧ ad.block ≠ g
theorem KnF.turn {w w' : World} {d g : Nat} {A : Option Addr} {n : Nat} {l : List Kn} (h : KnF w d g A n l) (ht : Turn w w' (FD d g)) : KnF w' d g A n l :=
  ⟨⟨h.1.1, fun hn => by
    obtain ⟨ad, e, hlt, hc⟩ := h.1.2 hn
    obtain ⟨h1, h2⟩ := h.2 ad e
    have hf : ∀ j, w'.cell? (ad.add j) = w.cell? (ad.add j) := fun j => ht.cell (by rw [block_of_add]; exact hlt) (by rw [block_of_add]; rintro (f | f) <;> omega)
    refine ⟨ad, e, Nat.lt_of_lt_of_le hlt ht.size, fun i s hs => ?_⟩
    obtain ⟨c0, c1, c2⟩ := hc i s hs
    exact ⟨(hf _).trans c0, (hf _).trans c1, (hf _).trans c2⟩⟩, h.2⟩
theorem KnF.below {w w' : World} {d g : Nat} {A : Option Addr} {n : Nat} {l : List Kn} (h : KnF w d g A n l) (hb : Below w.heap.size w w') : KnF w' d g A n l := h.turn (Turn.of_below hb _)
end Go.Proofs.YteoodompphhkbaaGreatDoor.K.Dsk

/- KSave -/
namespace Go.Proofs.YteoodompphhkbaaGreatDoor.K.Dsk
set_option maxRecDepth 100000
open Go.RowKit Go.Lib C
variable {U : Nat → Prop}

/-- what a call answers, and does to a disk -/
def SaveP (w : World) (d g : Nat) (U : Nat → Prop) (r : Int × Ds) (e : Ending) (w' : World) : Prop := e = .returned (.int .i64 r.1) ∧ Did w d g U r.2 w'

set_option maxRecDepth 100000 in
set_option maxHeartbeats 1000000 in
theorem save1_any (d g : Nat) (S : Ds) (t : List UInt8) (pb tb : Nat) (w : World) (h : Dk w d g U S) (hl : S.fs.length < 1000000) (ht : t.length ≤ 100000) (hp : w.cell? ⟨pb, 0, none⟩ = some (.pointer (some ⟨d, 0, none⟩))) (hs : w.cell? ⟨tb, 0, none⟩ = some (.string (str t))) :
    Calls Tryz.prog 88 #[.pointer (some ⟨pb, 0, none⟩), .pointer (some ⟨tb, 0, none⟩)] w (SaveP w d g U (writeD S nNx t)) := by
  have hcv : ∀ w : World, (convert 9 41 (.string (str t))).run Tryz.prog w = .ok (.slice (some ⟨w.heap.size, 0, none⟩) (str t).size (grownCap w (str t).size 0 5)) (w.drew.alloc (.cells (bytesRow (str t) (grownCap w (str t).size 0 5)) 5 ((bytesRow (str t) (grownCap w (str t).size 0 5)).size, (bytesRow (str t) (grownCap w (str t).size 0 5)).size + 1))) :=
    fun w => run_bytes_of_string w 9 41 5 (str t) Tryz.underlying9 Tryz.underlying41 Tryz.underlying5
  have HK := Lib.hid h
  clear h
  go_enter Tryz.func88, Tryz.ntmps88
  go_wp2_with (fail)
  have hr := rd_bytes HK.out t 5 (grownCap w (str t).size 0 5) ((bytesRow (str t) (grownCap w (str t).size 0 5)).size, (bytesRow (str t) (grownCap w (str t).size 0 5)).size + 1)
  refine (write_any d g S nNx _ (str t).size _ t _ (HK.out.below (((Below.refl _ w).drew).alloc (Nat.le_refl _) _)) hl (by decide) hr ht).mono ?_
  rintro e w' ⟨rfl, hk, htn⟩
  go_wp2
  go_ret
  exact ⟨rfl, hk, (turn_bytes w d g _).fd htn⟩
set_option maxRecDepth 100000 in
set_option maxHeartbeats 1000000 in
theorem save2_any (d g : Nat) (S : Ds) (pb : Nat) (w : World) (h : Dk w d g U S) (hl : S.fs.length < 1000000) (hp : w.cell? ⟨pb, 0, none⟩ = some (.pointer (some ⟨d, 0, none⟩))) :
    Calls Tryz.prog 90 #[.pointer (some ⟨pb, 0, none⟩)] w (SaveP w d g U (syncD S nNx)) := by
  have HK := Lib.hid h
  clear h
  go_enter Tryz.func90, Tryz.ntmps90
  go_wp2_with (fail)
  refine (sync_any d g S nNx _ HK.out hl (by decide)).mono ?_
  rintro e w' ⟨rfl, hk⟩
  go_wp2
  go_ret
  exact ⟨rfl, hk⟩
set_option maxRecDepth 100000 in
set_option maxHeartbeats 1000000 in
theorem save3_any (d g : Nat) (S : Ds) (pb : Nat) (w : World) (h : Dk w d g U S) (hl : S.fs.length < 1000000) (hp : w.cell? ⟨pb, 0, none⟩ = some (.pointer (some ⟨d, 0, none⟩))) :
    Calls Tryz.prog 92 #[.pointer (some ⟨pb, 0, none⟩)] w (SaveP w d g U (renameD S nNx nSt)) := by
  have HK := Lib.hid h
  clear h
  go_enter Tryz.func92, Tryz.ntmps92
  go_wp2_with (fail)
  refine (rename_any d g S nNx nSt _ HK.out hl (by decide) (by decide)).mono ?_
  rintro e w' ⟨rfl, hk⟩
  go_wp2
  go_ret
  exact ⟨rfl, hk⟩

theorem did_len {S : Ds} {t : List UInt8} : (writeD S nNx t).2.fs.length ≤ S.fs.length + 1 ∧ ∀ T : Ds, (syncD T nNx).2.fs.length ≤ T.fs.length + 1 := by
  refine ⟨?_, fun T => ?_⟩
  · unfold writeD
    split
    · exact Nat.le_succ _
    split
    · exact Nat.le_succ _
    split
    · exact Nat.le_succ _
    · rw [(spend_fs _).1]; exact len_putF_le _
  · unfold syncD
    split
    · exact Nat.le_succ _
    split
    · exact Nat.le_succ _
    split
    · exact len_putF_le _
    · rw [(spend_fs _).1]; exact Nat.le_succ _

/-- the steps of a save, as a row of functions -/
def Steps (w : World) (pb tb fb : Nat) : Prop := w.cell? ⟨fb, 0, none⟩ = some (.func (.func 88) #[] #[.pointer (some ⟨pb, 0, none⟩), .pointer (some ⟨tb, 0, none⟩)]) ∧
  w.cell? ⟨fb, 1, none⟩ = some (.func (.func 90) #[] #[.pointer (some ⟨pb, 0, none⟩)]) ∧ w.cell? ⟨fb, 2, none⟩ = some (.func (.func 92) #[] #[.pointer (some ⟨pb, 0, none⟩)])
theorem cell_turn {w w' : World} {d g b i : Nat} {u : Value} (ht : Turn w w' (FD d g)) (h : w.cell? ⟨b, i, none⟩ = some u) (hd : b ≠ d) (hg : b ≠ g) : w'.cell? ⟨b, i, none⟩ = some u :=
  (ht.cell (p := ⟨b, i, none⟩) (C.lt_of_cell h) (by rintro (f | f) <;> (simp only at f; omega))).trans h

set_option maxRecDepth 100000 in
set_option maxHeartbeats 2000000 in
theorem inturn_any (d g : Nat) (S : Ds) (t : List UInt8) (pb tb fb : Nat) (w : World) (h : Dk w d g U S) (hl : S.fs.length < 1000) (ht : t.length ≤ 100000) (hp : w.cell? ⟨pb, 0, none⟩ = some (.pointer (some ⟨d, 0, none⟩))) (hs : w.cell? ⟨tb, 0, none⟩ = some (.string (str t)))
    (hf : Steps w pb tb fb) (np : pb ≠ d ∧ pb ≠ g) (nf : fb ≠ d ∧ fb ≠ g) :
    Calls Tryz.prog 87 #[.slice (some ⟨fb, 0, none⟩) 3 3] w (SaveP w d g U (saveT S t)) := by
  obtain ⟨f0, f1, f2⟩ := hf
  obtain ⟨l1, l2⟩ := did_len (S := S) (t := t)
  have l2' := l2 (writeD S nNx t).2
  have HK := Lib.hid h
  obtain ⟨r1, HR1⟩ : ∃ r, Hid (writeD S nNx t = r) := ⟨_, Lib.hid rfl⟩
  obtain ⟨r2, HR2⟩ : ∃ r, Hid (syncD (writeD S nNx t).2 nNx = r) := ⟨_, Lib.hid rfl⟩
  obtain ⟨r3, HR3⟩ : ∃ r, Hid (renameD (syncD (writeD S nNx t).2 nNx).2 nNx nSt = r) := ⟨_, Lib.hid rfl⟩
  obtain ⟨R, HR⟩ : ∃ r, Hid (saveT S t = r) := ⟨_, Lib.hid rfl⟩
  have HX : Hid (R = if r1.1 ≠ 0 then r1 else if r2.1 ≠ 0 then r2 else r3) := Lib.hid (by rw [← HR.out, ← HR1.out, ← HR2.out, ← HR3.out]; rfl)
  rw [HR2.out] at HR3 l2'
  rw [HR1.out] at HR2 l1 l2'
  rw [HR.out]
  obtain ⟨e1, S1⟩ := r1
  obtain ⟨e2, S2⟩ := r2
  simp only at HX HR2 HR3 l1 l2'
  have HL1 : Hid (S1.fs.length < 1000000) := Lib.hid (by omega)
  have HL2 : Hid (S2.fs.length < 1000000) := Lib.hid (by omega)
  have HL0 : Hid (S.fs.length < 1000000) := Lib.hid (by omega)
  clear l1 l2 l2' h hl HR
  go_enter Tryz.func87, Tryz.ntmps87
  go_wp2
  refine wp_loop_rounds 4 ?_
  rw [rounds_succ]
  go_wp2_with (fail)
  refine (save1_any d g S t pb tb w HK.out HL0.out ht hp hs).mono ?_
  rw [HR1.out]
  rintro e w1 ⟨rfl, hk1, ht1⟩
  have p1 := cell_turn ht1 hp np.1 np.2
  have g1 := cell_turn ht1 f1 nf.1 nf.2
  have g2 := cell_turn ht1 f2 nf.1 nf.2
  have HK1 : Hid (Dk w1 d g U S1) := Lib.hid hk1
  have HT1 := Lib.hid ht1
  clear hk1 ht1 hp f0 f1 f2 hs
  by_cases z1 : e1 = 0
  · subst z1
    go_wp2
    rw [rounds_succ]
    go_wp2_with (fail)
    refine (save2_any d g S1 pb w1 HK1.out HL1.out p1).mono ?_
    rw [HR2.out]
    rintro e w2 ⟨rfl, hk2, ht2⟩
    have p2 := cell_turn ht2 p1 np.1 np.2
    have k2 := cell_turn ht2 g2 nf.1 nf.2
    have HK2 : Hid (Dk w2 d g U S2) := Lib.hid hk2
    have HT2 := Lib.hid (HT1.out.fd ht2)
    clear hk2 ht2 p1 g1 g2
    by_cases z2 : e2 = 0
    · subst z2
      go_wp2
      rw [rounds_succ]
      go_wp2_with (fail)
      refine (save3_any d g S2 pb w2 HK2.out HL2.out p2).mono ?_
      rw [HR3.out]
      rintro e w3 ⟨rfl, hk3, ht3⟩
      have HE : Hid (R = r3) := Lib.hid (by rw [HX.out]; simp)
      have HK3 := Lib.hid hk3
      have HT3 := Lib.hid (HT2.out.fd ht3)
      clear hk3 ht3
      obtain ⟨e3, S3⟩ := r3
      simp only at HK3 ⊢
      by_cases z3 : e3 = 0
      · subst z3
        go_wp2
        rw [rounds_succ]
        go_wp2
        go_ret
        exact ⟨by rw [HE.out]; rfl, by rw [HE.out]; exact HK3.out, HT3.out⟩
      · have q3 : (e3 != 0) = true := by simpa using z3
        go_wp2
        go_ret
        exact ⟨by rw [HE.out]; rfl, by rw [HE.out]; exact HK3.out, HT3.out⟩
    · have q2 : (e2 != 0) = true := by simpa using z2
      have HE : Hid (R = (e2, S2)) := Lib.hid (by rw [HX.out]; simp [z2])
      go_wp2
      go_ret
      exact ⟨by rw [HE.out]; rfl, by rw [HE.out]; exact HK2.out, HT2.out⟩
  · have q1 : (e1 != 0) = true := by simpa using z1
    have HE : Hid (R = (e1, S1)) := Lib.hid (by rw [HX.out]; simp [z1])
    go_wp2
    go_ret
    exact ⟨by rw [HE.out]; rfl, by rw [HE.out]; exact HK1.out, HT1.out⟩
end Go.Proofs.YteoodompphhkbaaGreatDoor.K.Dsk

/- St -/
namespace Go.Proofs.YteoodompphhkbaaGreatDoor.K
set_option maxRecDepth 100000
set_option maxRecDepth 100000
open Go.RowKit Go.ChangeShapes Go.WideShapes Go.ChangeAt Go.WideElems C

/-- a State's cells, told by numbers, a slice and a table -/
structure Sv where
  i : Int
  m : Int
  c : Int
  v : Int
  f : Int
  a : Option Addr
  n : Nat
  cap : Nat
  t : Tab
def Sv.zero : Sv := ⟨0, 0, 0, 0, 0, none, 0, 0, Tab.zero⟩
def stL (s : Sv) : List Value := [.int .i64 s.i, .int .i64 s.m, .int .i64 s.c, .int .i64 s.v, .int .i64 s.f, .slice s.a s.n s.cap]
def tbL (t : Tab) : List Value := row t.o ++ row t.e
theorem tbL_len (t : Tab) : (tbL t).length = 128 := by simp [tbL, row_len]
def stv (s : Sv) : Array Value := (stL s ++ tbL s.t).toArray
theorem stv_size (s : Sv) : (stv s).size = 134 := by simp [stv, stL, tbL_len]
theorem stv_0 (s : Sv) : (stv s)[0]? = some (.int .i64 s.i) := by simp [stv, stL]
theorem stv_1 (s : Sv) : (stv s)[1]? = some (.int .i64 s.m) := by simp [stv, stL]
theorem stv_2 (s : Sv) : (stv s)[2]? = some (.int .i64 s.c) := by simp [stv, stL]
theorem stv_3 (s : Sv) : (stv s)[3]? = some (.int .i64 s.v) := by simp [stv, stL]
theorem stv_4 (s : Sv) : (stv s)[4]? = some (.int .i64 s.f) := by simp [stv, stL]
theorem stv_5 (s : Sv) : (stv s)[5]? = some (.slice s.a s.n s.cap) := by simp [stv, stL]
theorem stv_t (s : Sv) (j : Nat) : (stv s)[6 + j]? = (tbL s.t)[j]? := by
  simp only [stv, List.getElem?_toArray]
  rw [List.getElem?_append_right (by simp [stL])]
  simp [stL]
theorem stv_cells (s : Sv) : (stv s).all (·.oneCell') = true := by
  rw [Array.all_eq_true_iff_forall_mem]
  intro x hx
  simp only [stv, List.mem_toArray, List.mem_append, stL, tbL] at hx
  rcases hx with hx | hx | hx
  · simp at hx
    rcases hx with rfl | rfl | rfl | rfl | rfl | rfl <;> rfl
  · obtain ⟨z, rfl⟩ := row_mem hx; rfl
  · obtain ⟨z, rfl⟩ := row_mem hx; rfl
def Sv.like (s u : Sv) : Prop := s.i = u.i ∧ s.m = u.m ∧ s.c = u.c ∧ s.v = u.v ∧ s.f = u.f ∧ s.a = u.a ∧ s.n = u.n ∧ s.cap = u.cap ∧ same s.t u.t
def withT (s : Sv) (u : Tab) : Sv := { s with t := u }

theorem st_info : (Tryz.prog.info? 73).map (·.size) = some 134 := by kernel_rfl
theorem st_size (s : Sv) : (Tryz.prog.info? 73).map (·.size) = some (stv s).size := by rw [stv_size]; exact st_info
theorem st_zero : (Tryz.prog.info? 73).map (fun i => (i.zero, i.size)) = some (some (.agg (stv Sv.zero)), 134) := by kernel_rfl

/-- a variable of type State -/
def StAt (w : World) (b : Nat) (s : Sv) : Prop := Blk w b 73 (stv s)
def setAll (C : Array Value) : Nat → List Value → Array Value
  | _, [] => C
  | o, v :: vs => setAll (C.setIfInBounds o v) (o + 1) vs
theorem setAll_get : ∀ (vs : List Value) (C : Array Value) (o i : Nat), o + vs.length ≤ C.size → (setAll C o vs)[i]? = if o ≤ i ∧ i < o + vs.length then vs[i - o]? else C[i]?
  | [], C, o, i, _ => by rw [setAll, if_neg (by simp)]
  | v :: vs, C, o, i, h => by
    rw [List.length_cons] at h ⊢
    rw [setAll, setAll_get vs _ _ _ (by simp; omega)]
    by_cases h1 : o + 1 ≤ i ∧ i < o + 1 + vs.length
    · rw [if_pos h1, if_pos (by omega), show i - o = (i - (o + 1)) + 1 by omega, List.getElem?_cons_succ]
    · rw [if_neg h1]
      by_cases h2 : i = o
      · subst h2
        rw [if_pos (by omega), Array.getElem?_setIfInBounds_self_of_lt (by omega)]; simp
      · rw [if_neg (by omega), Array.getElem?_setIfInBounds_ne (by omega)]
theorem setAll_stv (s : Sv) (u : Tab) : setAll (stv s) 6 (tbL u) = stv (withT s u) := by
  apply Array.ext_getElem?
  intro i
  rw [setAll_get _ _ _ _ (by rw [tbL_len, stv_size]; omega), tbL_len]
  by_cases h : 6 ≤ i ∧ i < 6 + 128
  · rw [if_pos h]
    obtain ⟨j, rfl⟩ : ∃ j, i = 6 + j := ⟨i - 6, by omega⟩
    rw [stv_t, show 6 + j - 6 = j by omega]; rfl
  · rw [if_neg h]
    rcases Nat.lt_or_ge i 6 with h1 | h1
    · match i, h1 with
      | 0, _ => rw [stv_0, stv_0]; rfl
      | 1, _ => rw [stv_1, stv_1]; rfl
      | 2, _ => rw [stv_2, stv_2]; rfl
      | 3, _ => rw [stv_3, stv_3]; rfl
      | 4, _ => rw [stv_4, stv_4]; rfl
      | 5, _ => rw [stv_5, stv_5]; rfl
    · rw [Array.getElem?_eq_none (by rw [stv_size]; omega), Array.getElem?_eq_none (by rw [stv_size]; omega)]
theorem Blk.setAll {w : World} {b : Nat} {t : TypeId} : ∀ (vs : List Value) {C : Array Value} {w : World} (o : Nat), Blk w b t C → Blk (w.setCells b o vs) b t (setAll C o vs)
  | [], _, _, _, h => h
  | v :: vs, _, _, o, h => Blk.setAll (w := w) vs (o + 1) (h.set_ o v)
theorem Blk.setAll_far {g : Nat} {t : TypeId} {C : Array Value} {b : Nat} (hb : g ≠ b) : ∀ (vs : List Value) {w : World} (o : Nat), Blk w g t C → Blk (w.setCells b o vs) g t C
  | [], _, _, h => h
  | v :: vs, _, o, h => Blk.setAll_far hb vs (o + 1) (h.far (p := ⟨b, o, none⟩) hb v)
theorem below_cells {B b : Nat} {w : World} (hb : B ≤ b) : ∀ (vs : List Value) {w' : World} (o : Nat), Below B w w' → Below B w (w'.setCells b o vs)
  | [], _, _, h => h
  | v :: vs, _, o, h => below_cells hb vs (o + 1) (below_set h (p := ⟨b, o, none⟩) hb v)
section
variable {w w' : World} {b : Nat} {s : Sv}
theorem StAt.new (w : World) (s : Sv) : StAt (w.alloc (.cells (stv s) 73)) w.heap.size s := Blk.new _ _ _
theorem StAt.lt (h : StAt w b s) : b < w.heap.size := Blk.lt h
theorem StAt.later (h : StAt w b s) (hb : Below w.heap.size w w') : StAt w' b s := Blk.below h hb h.lt
theorem StAt.below {B : Nat} (h : StAt w b s) (hb : Below B w w') (hlt : b < B) : StAt w' b s := Blk.below h hb hlt
theorem StAt.alloc (h : StAt w b s) (o : Obj) : StAt (w.alloc o) b s := Blk.alloc h o
theorem StAt.drew (h : StAt w b s) : StAt w.drew b s := h
theorem StAt.far (h : StAt w b s) {p : Addr} (hp : b ≠ p.block) (u : Value) : StAt (w.setCell p u) b s := Blk.far h hp u
theorem StAt.fz (h : StAt w b s) (i : Nat) : w.frozen? ⟨b, i, none⟩ = false := Blk.frozen h i
theorem StAt.box (h : StAt w b s) : w.cell? ⟨b, 0, none⟩ = some (.int .i64 s.i) ∧ w.cell? ⟨b, 1, none⟩ = some (.int .i64 s.m) ∧ w.cell? ⟨b, 2, none⟩ = some (.int .i64 s.c) ∧ w.cell? ⟨b, 3, none⟩ = some (.int .i64 s.v) ∧
    w.cell? ⟨b, 4, none⟩ = some (.int .i64 s.f) ∧ w.cell? ⟨b, 5, none⟩ = some (.slice s.a s.n s.cap) :=
  ⟨(Blk.cell h 0).trans (stv_0 s), (Blk.cell h 1).trans (stv_1 s), (Blk.cell h 2).trans (stv_2 s), (Blk.cell h 3).trans (stv_3 s), (Blk.cell h 4).trans (stv_4 s), (Blk.cell h 5).trans (stv_5 s)⟩
theorem StAt.range (h : StAt w b s) : w.rangeAt b 6 (tbL s.t) := fun j _ hv => (Blk.cell h (6 + j)).trans ((stv_t s j).trans hv)
theorem StAt.there (h : StAt w b s) : w.there b 6 128 := fun j hj => ⟨by
  rw [Blk.cell h (6 + j), stv_t, List.getElem?_eq_getElem (by rw [tbL_len]; exact hj)]; rfl, Blk.frozen h _⟩
theorem StAt.store (h : StAt w b s) (u : Sv) : StAt (w.setRow b (stv u)) b u := setRow_heap w b _ _ _ _ h
theorem StAt.row_far (h : StAt w b s) {g : Nat} (hg : b ≠ g) (cs : Array Value) : StAt (w.setRow g cs) b s := (setRow_other w g b cs hg).trans h
theorem StAt.putT (h : StAt w b s) (u : Tab) : StAt (w.setCells b 6 (tb u).toList) b (withT s u) := by
  unfold StAt; rw [← setAll_stv]; exact Blk.setAll (w := w) _ _ h
theorem StAt.cells_far (h : StAt w b s) {g : Nat} (hg : b ≠ g) (o : Nat) (vs : List Value) : StAt (w.setCells g o vs) b s := Blk.setAll_far hg vs o h
end
/-! ### the operations on a whole State -/
section
variable {ops : Array Oper} {rest : List Oper} {Q : Exit → Act → World → Prop} {a : Act} {w : World} {dst : Option Tmp} {ty : TypeId} {pos : String} {after : Array Edge} {g : Option (Nat × Bool)} {x y : Operand} {b : Nat} {s u : Sv} {t : Tab}
theorem st_load (hx : a.eval x = .pointer (some ⟨b, 0, none⟩)) (hT : StAt w b s) (hw : Region.wanted ⟨dst, .load 73 x, ty, pos, after, g⟩ (yielded ops a.tmps) = true)
    (h : wpList Tryz.prog ops Q rest (a.put dst (.agg (stv s))) w) : wpList Tryz.prog ops Q (⟨dst, .load 73 x, ty, pos, after, g⟩ :: rest) a w :=
  at_want hw fun _ hK => wp_load_row 73 x rfl b hx _ (stv s) (0, 0) _ hT Tryz.underlying73 rfl (st_size s) (hK _ _ h)
theorem st_store (hx : a.eval x = .pointer (some ⟨b, 0, none⟩)) (hy : a.eval y = .agg (stv u)) (hT : StAt w b s) (hw : Region.wanted ⟨dst, .store 73 x y, ty, pos, after, g⟩ (yielded ops a.tmps) = true)
    (h : wpList Tryz.prog ops Q rest (a.put dst undef) (w.setRow b (stv u))) : wpList Tryz.prog ops Q (⟨dst, .store 73 x y, ty, pos, after, g⟩ :: rest) a w :=
  at_want hw fun _ hK => wp_store_row 73 x y rfl b (stv u) hx hy _ (stv s) hT (st_size u) (by rw [stv_size, stv_size]) (stv_cells u) (hK _ _ h)
theorem wp_alloc_st {o : Oper} {K : Act → World → Prop} (ho : o.op = .alloc 73) (h : K (a.put o.dst (.pointer (some ⟨w.heap.size, 0, none⟩))) (w.alloc (.cells (stv Sv.zero) 73))) : o.wp Tryz.prog a w K Q := by
  have hz := (zero_of_info st_zero).1
  unfold Oper.wp execOp
  simp only [ho, Instr.alloc, newVar, newRow, Sem.run_bind, hz, Result.andThen_ok]
  exact h
theorem st_alloc (hw : Region.wanted ⟨dst, .alloc 73, ty, pos, after, g⟩ (yielded ops a.tmps) = true)
    (h : wpList Tryz.prog ops Q rest (a.put dst (.pointer (some ⟨w.heap.size, 0, none⟩))) (w.alloc (.cells (stv Sv.zero) 73))) : wpList Tryz.prog ops Q (⟨dst, .alloc 73, ty, pos, after, g⟩ :: rest) a w :=
  at_want hw fun _ hK => wp_alloc_st rfl (hK _ _ h)
/-- a new variable's first value -/
theorem st_store_new (hx : a.eval x = .pointer (some ⟨w.heap.size, 0, none⟩)) (hy : a.eval y = .agg (stv u)) (hw : Region.wanted ⟨dst, .store 73 x y, ty, pos, after, g⟩ (yielded ops a.tmps) = true)
    (h : wpList Tryz.prog ops Q rest (a.put dst undef) (w.alloc (.cells (stv u) 73))) : wpList Tryz.prog ops Q (⟨dst, .store 73 x y, ty, pos, after, g⟩ :: rest) a (w.alloc (.cells (stv s) 73)) :=
  st_store hx hy (StAt.new w s) hw (by rw [World.setRow_alloc_new]; exact h)
theorem st_built_zero : Tryz.prog.built 73 [] = some (stv Sv.zero) := by kernel_rfl
theorem st_build (hw : Region.wanted ⟨dst, .build 73 #[], ty, pos, after, g⟩ (yielded ops a.tmps) = true)
    (h : wpList Tryz.prog ops Q rest (a.put dst (.agg (stv Sv.zero))) w) : wpList Tryz.prog ops Q (⟨dst, .build 73 #[], ty, pos, after, g⟩ :: rest) a w :=
  at_want hw fun _ hK => by
    have hk := hK _ _ h
    refine wp_build 73 #[] rfl ?_ ?_
    · simp [st_built_zero]
    · simpa [st_built_zero] using hk
theorem tab_list (t : Tab) : (Tryz.prog.info? 71).map (·.size) = some (tbL t).length := by rw [tbL_len]; kernel_rfl
/-- a State's table -/
theorem st_table (hx : a.eval x = .pointer (some ⟨b, 6, none⟩)) (hT : StAt w b s) (hw : Region.wanted ⟨dst, .load 71 x, ty, pos, after, g⟩ (yielded ops a.tmps) = true)
    (h : wpList Tryz.prog ops Q rest (a.put dst (.agg (tb s.t))) w) : wpList Tryz.prog ops Q (⟨dst, .load 71 x, ty, pos, after, g⟩ :: rest) a w :=
  at_want hw fun _ hK => wp_load_mid 71 x rfl b 6 hx (tbL s.t) _ hT.range Tryz.underlying71 rfl (tab_list _) (hK _ _ h)
theorem st_put_table (hx : a.eval x = .pointer (some ⟨b, 6, none⟩)) (hy : a.eval y = .agg (tb t)) (hT : StAt w b s) (hw : Region.wanted ⟨dst, .store 71 x y, ty, pos, after, g⟩ (yielded ops a.tmps) = true)
    (h : wpList Tryz.prog ops Q rest (a.put dst undef) (w.setCells b 6 (tb t).toList)) : wpList Tryz.prog ops Q (⟨dst, .store 71 x y, ty, pos, after, g⟩ :: rest) a w :=
  at_want hw fun _ hK => wp_store_mid 71 x y rfl b 6 (tb t) hx hy (by rw [tb_size]; exact hT.there) (tab_size t) (tb_cells t) (hK _ _ h)
end
/-- a State and one more are handed back -/
theorem results_st {fn : Func} {p u : Tmp} (h : fn.results = #[.cell p 73, .tmp u]) (tmps : Array Value) (w : World) (b : Nat) (s : Sv)
    (hp : tmps.getD p undef = .pointer (some ⟨b, 0, none⟩)) (hT : StAt w b s) : (results fn tmps).run Tryz.prog w = .ok (.tuple #[.agg (stv s), tmps.getD u undef]) w := by
  have hp' : tmps[p]?.getD undef = .pointer (some ⟨b, 0, none⟩) := by simpa using hp
  simp [results, h, hp', asAddr, run_loadVar_row w b 73 73 (stv s) (0, 0) _ hT Tryz.underlying73 rfl (st_size s), Result.andThen]
theorem results_st1 {fn : Func} {p : Tmp} (h : fn.results = #[.cell p 73]) (tmps : Array Value) (w : World) (b : Nat) (s : Sv)
    (hp : tmps.getD p undef = .pointer (some ⟨b, 0, none⟩)) (hT : StAt w b s) : (results fn tmps).run Tryz.prog w = .ok (.agg (stv s)) w :=
  results_cell_row h _ _ b _ (stv s) (0, 0) _ hp hT Tryz.underlying73 rfl (st_size s)
end Go.Proofs.YteoodompphhkbaaGreatDoor.K

/- Fns -/
namespace Go.Proofs.YteoodompphhkbaaGreatDoor.K
set_option maxRecDepth 100000
open Go.RowKit C

set_option maxRecDepth 100000 in
theorem cid_any (n : Int) (w : World) : Calls Tryz.prog 230 #[.int .i64 n] w fun e w' => e = .returned (.bool (betB 1 4294967296 n)) ∧ w = w' := by
  by_cases h0 : 1 ≤ n
  · by_cases h1 : n ≤ 4294967296
    · have H := Lib.hid (bet_yes h0 h1)
      go_enter Tryz.func230, Tryz.ntmps230
      go_wp2
      go_ret
      exact ⟨by rw [H.out]; rfl, rfl⟩
    · have H := Lib.hid (bet_no (lo := 1) (hi := 4294967296) (n := n) (.inr (by omega)))
      have h3 : decide (n ≤ 4294967296) = false := by simpa using h1
      clear h1
      go_enter Tryz.func230, Tryz.ntmps230
      go_wp2
      go_ret
      exact ⟨by rw [H.out]; rfl, rfl⟩
  · have H := Lib.hid (bet_no (lo := 1) (hi := 4294967296) (n := n) (.inl (by omega)))
    have h3 : decide (1 ≤ n) = false := by simpa using h0
    clear h0
    go_enter Tryz.func230, Tryz.ntmps230
    go_wp2
    go_ret
    exact ⟨by rw [H.out]; rfl, rfl⟩

set_option maxRecDepth 100000 in
theorem cep_any (n : Int) (w : World) : Calls Tryz.prog 308 #[.int .i64 n] w fun e w' => e = .returned (.bool (betB 0 281474976710656 n)) ∧ w = w' := by
  by_cases h0 : 0 ≤ n
  · by_cases h1 : n ≤ 281474976710656
    · have H := Lib.hid (bet_yes h0 h1)
      go_enter Tryz.func308, Tryz.ntmps308
      go_wp2
      go_ret
      exact ⟨by rw [H.out]; rfl, rfl⟩
    · have H := Lib.hid (bet_no (lo := 0) (hi := 281474976710656) (n := n) (.inr (by omega)))
      have h3 : decide (n ≤ 281474976710656) = false := by simpa using h1
      clear h1
      go_enter Tryz.func308, Tryz.ntmps308
      go_wp2
      go_ret
      exact ⟨by rw [H.out]; rfl, rfl⟩
  · have H := Lib.hid (bet_no (lo := 0) (hi := 281474976710656) (n := n) (.inl (by omega)))
    have h3 : decide (0 ≤ n) = false := by simpa using h0
    clear h0
    go_enter Tryz.func308, Tryz.ntmps308
    go_wp2
    go_ret
    exact ⟨by rw [H.out]; rfl, rfl⟩

/-- may an id follow that one -/
def folB (id m : Int) : Bool := (m == 0) || (betB 1 4294967296 m && (m != id))
set_option maxRecDepth 100000 in
theorem fol_any (id m : Int) (w : World) : Calls Tryz.prog 231 #[.int .i64 id, .int .i64 m] w fun e w' => e = .returned (.bool (folB id m)) ∧ w = w' := by
  by_cases h0 : m = 0
  · subst h0
    have H : Hid (folB id 0 = true) := Lib.hid (by simp [folB])
    go_enter Tryz.func231, Tryz.ntmps231
    go_wp2
    go_ret
    exact ⟨by rw [H.out]; rfl, rfl⟩
  · obtain ⟨b, B⟩ : ∃ b, Hid (betB 1 4294967296 m = b) := ⟨_, Lib.hid rfl⟩
    have h1 : (m == 0) = false := by simpa using h0
    have H : Hid (folB id m = (b && (m != id))) := Lib.hid (by rw [← B.out]; simp [folB, h0])
    clear h0
    by_cases h2 : m = id
    · subst h2
      have H2 : Hid (folB m m = false) := Lib.hid (by rw [H.out]; simp)
      clear H
      go_enter Tryz.func231, Tryz.ntmps231
      go_wp2_with (fail)
      refine (cid_any m _).mono ?_
      rintro d w1 ⟨rfl, rfl⟩
      rw [B.out]
      cases b
      · go_wp2
        go_ret
        exact ⟨by rw [H2.out]; rfl, rfl⟩
      · go_wp2
        go_ret
        exact ⟨by rw [H2.out]; simp, rfl⟩
    · have h3 : (m != id) = true := by simpa using h2
      have H2 : Hid (folB id m = b) := Lib.hid (by rw [H.out, h3]; simp)
      clear H h2
      go_enter Tryz.func231, Tryz.ntmps231
      go_wp2_with (fail)
      refine (cid_any m _).mono ?_
      rintro d w1 ⟨rfl, rfl⟩
      rw [B.out]
      cases b
      · go_wp2
        go_ret
        exact ⟨by rw [H2.out]; rfl, rfl⟩
      · go_wp2
        go_ret
        exact ⟨by rw [H2.out]; rfl, rfl⟩

set_option maxRecDepth 100000 in
theorem upto_any (n x : Int) (w : World) : Calls Tryz.prog 246 #[.int .i64 n, .int .i64 x] w fun e w' => e = .returned (.bool (betB 0 x n)) ∧ w = w' := by
  by_cases h0 : 0 ≤ n
  · by_cases h1 : n ≤ x
    · have H := Lib.hid (bet_yes h0 h1)
      go_enter Tryz.func246, Tryz.ntmps246
      go_wp2
      go_ret
      exact ⟨by rw [H.out]; rfl, rfl⟩
    · have H := Lib.hid (bet_no (lo := 0) (hi := x) (n := n) (.inr (by omega)))
      have h3 : decide (n ≤ x) = false := by simpa using h1
      clear h1
      go_enter Tryz.func246, Tryz.ntmps246
      go_wp2
      go_ret
      exact ⟨by rw [H.out]; rfl, rfl⟩
  · have H := Lib.hid (bet_no (lo := 0) (hi := x) (n := n) (.inl (by omega)))
    have h3 : decide (0 ≤ n) = false := by simpa using h0
    clear h0
    go_enter Tryz.func246, Tryz.ntmps246
    go_wp2
    go_ret
    exact ⟨by rw [H.out]; rfl, rfl⟩

/-- are epochs right -/
def epsB (c v f : Int) : Bool := betB 0 281474976710656 c && betB 0 c v && betB 0 c f
set_option maxRecDepth 100000 in
theorem eps_any (c v f : Int) (w : World) : Calls Tryz.prog 232 #[.agg #[.int .i64 c, .int .i64 v, .int .i64 f]] w (Says (epsB c v f) w) := by
  have close : ∀ o : Obj, Below w.heap.size w (w.alloc o) := fun o => (Below.refl _ w).alloc (Nat.le_refl _) o
  obtain ⟨b1, B1⟩ : ∃ b, Hid (betB 0 281474976710656 c = b) := ⟨_, Lib.hid rfl⟩
  obtain ⟨b2, B2⟩ : ∃ b, Hid (betB 0 c v = b) := ⟨_, Lib.hid rfl⟩
  obtain ⟨b3, B3⟩ : ∃ b, Hid (betB 0 c f = b) := ⟨_, Lib.hid rfl⟩
  have HX : Hid (epsB c v f = (b1 && b2 && b3)) := by
    show _ = _
    rw [← B1.out, ← B2.out, ← B3.out]
    rfl
  go_enter Tryz.func232, Tryz.ntmps232
  go_wp2_with (fail)
  refine (upto_any _ _ _).mono ?_
  rintro e w1 ⟨rfl, rfl⟩
  rw [B1.out]
  cases b1
  · go_wp2
    go_ret
    exact ⟨by rw [HX.out]; rfl, close _⟩
  · go_wp2_with (fail)
    refine (upto_any _ _ _).mono ?_
    rintro e w1 ⟨rfl, rfl⟩
    rw [B2.out]
    cases b2
    · go_wp2
      go_ret
      exact ⟨by rw [HX.out]; rfl, close _⟩
    · go_wp2_with (fail)
      refine (upto_any _ _ _).mono ?_
      rintro e w1 ⟨rfl, rfl⟩
      rw [B3.out]
      cases b3
      · go_wp2
        go_ret
        exact ⟨by rw [HX.out]; rfl, close _⟩
      · go_wp2
        go_ret
        exact ⟨by rw [HX.out]; rfl, close _⟩

/-- may one be kept of somebody -/
def knB (k : Kn) : Bool := betB 1 4294967296 k.i && folB k.i k.m && betB 0 281474976710656 k.c
abbrev vKn (k : Kn) : Value := .agg #[.int .i64 k.i, .int .i64 k.m, .int .i64 k.c]
set_option maxRecDepth 100000 in
theorem kright_any (k : Kn) (w : World) : Calls Tryz.prog 274 #[vKn k] w (Says (knB k) w) := by
  obtain ⟨i, m, c⟩ := k
  have close : ∀ o : Obj, Below w.heap.size w (w.alloc o) := fun o => (Below.refl _ w).alloc (Nat.le_refl _) o
  obtain ⟨b1, B1⟩ : ∃ b, Hid (betB 1 4294967296 i = b) := ⟨_, Lib.hid rfl⟩
  obtain ⟨b2, B2⟩ : ∃ b, Hid (folB i m = b) := ⟨_, Lib.hid rfl⟩
  obtain ⟨b3, B3⟩ : ∃ b, Hid (betB 0 281474976710656 c = b) := ⟨_, Lib.hid rfl⟩
  have HX : Hid (knB ⟨i, m, c⟩ = (b1 && b2 && b3)) := by
    show _ = _
    rw [← B1.out, ← B2.out, ← B3.out]
    rfl
  go_enter Tryz.func274, Tryz.ntmps274
  go_wp2_with (fail)
  refine (cid_any _ _).mono ?_
  rintro e w1 ⟨rfl, rfl⟩
  rw [B1.out]
  cases b1
  · go_wp2
    go_ret
    exact ⟨by rw [HX.out]; rfl, close _⟩
  · go_wp2_with (fail)
    refine (fol_any _ _ _).mono ?_
    rintro e w1 ⟨rfl, rfl⟩
    rw [B2.out]
    cases b2
    · go_wp2
      go_ret
      exact ⟨by rw [HX.out]; rfl, close _⟩
    · go_wp2_with (fail)
      refine (cep_any _ _).mono ?_
      rintro e w1 ⟨rfl, rfl⟩
      rw [B3.out]
      cases b3
      · go_wp2
        go_ret
        exact ⟨by rw [HX.out]; rfl, close _⟩
      · go_wp2
        go_ret
        exact ⟨by rw [HX.out]; rfl, close _⟩
end Go.Proofs.YteoodompphhkbaaGreatDoor.K

/- Knows -/
namespace Go.Proofs.YteoodompphhkbaaGreatDoor.K
set_option maxRecDepth 100000
open Go.RowKit C

def kz : Kn := ⟨0, 0, 0⟩
def atK (l : List Kn) (j : Nat) : Kn := l.getD j kz
def lastK (l : List Kn) (k : Nat) : Int := if k = 0 then 0 else (atK l (k - 1)).i
def stepB (id last : Int) (k : Kn) : Bool := knB k && (k.i != id) && decide (last < k.i)
/-- are the known ones right, and rise by their ids -/
def rkB (id : Int) (l : List Kn) : Bool := (List.range l.length).all fun j => stepB id (lastK l j) (atK l j)
theorem rk_iff {id : Int} {l : List Kn} : rkB id l = true ↔ ∀ j, j < l.length → stepB id (lastK l j) (atK l j) = true := by
  unfold rkB; simp
theorem rk_no {id : Int} {l : List Kn} {j : Nat} (hj : j < l.length) (h : stepB id (lastK l j) (atK l j) = false) : rkB id l = false := by
  rw [← Bool.not_eq_true]
  intro h'
  rw [rk_iff.1 h' j hj] at h
  cases h
theorem at_some {l : List Kn} {j : Nat} {r : Kn} (h : l[j]? = some r) : atK l j = r := by unfold atK; rw [List.getD_eq_getElem?_getD, h]; rfl
theorem last_succ (l : List Kn) (j : Nat) : lastK l (j + 1) = (atK l j).i := by unfold lastK; rw [if_neg (by omega)]; rfl
def fewB (s : Sv) (l : List Kn) : Bool := decide (s.n ≤ 15) && rkB s.i l

/-- a list that lies in memory, seen from behind whatever was laid since -/
theorem KnAt.up {w w' : World} {A : Option Addr} {n : Nat} {l : List Kn} (h : KnAt w A n l) (hb : Below w.heap.size w w') : KnAt w' A n l := h.below hb
/-- a new variable of type Known -/
def KBx (w : World) (b : Nat) (k : Kn) : Prop := Blk w b 111 #[.int .i64 k.i, .int .i64 k.m, .int .i64 k.c]
theorem KBx.new (w : World) (k : Kn) : KBx (w.alloc (.cells #[.int .i64 k.i, .int .i64 k.m, .int .i64 k.c] 111)) w.heap.size k := Blk.new _ _ _
theorem KBx.box {w : World} {b : Nat} {k : Kn} (h : KBx w b k) : w.cell? ⟨b, 0, none⟩ = some (.int .i64 k.i) ∧ w.cell? ⟨b, 1, none⟩ = some (.int .i64 k.m) ∧ w.cell? ⟨b, 2, none⟩ = some (.int .i64 k.c) := ⟨Blk.cell h 0, Blk.cell h 1, Blk.cell h 2⟩
theorem KBx.later {w w' : World} {b : Nat} {k : Kn} (h : KBx w b k) (hb : Below w.heap.size w w') : KBx w' b k := Blk.below h hb (Blk.lt h)

set_option maxRecDepth 100000 in
set_option maxHeartbeats 2000000 in
theorem rightknown_any (s : Sv) (l : List Kn) (w : World) (hl : KnAt w s.a s.n l) : Calls Tryz.prog 233 #[.agg (stv s)] w (Says (fewB s l) w) := by
  have HS : Hid (StAt (w.alloc (.cells (stv s) 73)) w.heap.size s) := Lib.hid (StAt.new w s)
  have HB0 : Hid (Below w.heap.size w (w.alloc (.cells (stv s) 73))) := Lib.hid ((Below.refl _ w).alloc (Nat.le_refl _) _)
  obtain ⟨si, sm, sc, sv, sf, A, n, cap, T⟩ := s
  have hn : l.length = n := hl.1
  have HF : Hid (fewB ⟨si, sm, sc, sv, sf, A, n, cap, T⟩ l = (decide (n ≤ 15) && rkB si l)) := rfl
  have HL : Hid (KnAt (w.alloc (.cells (stv ⟨si, sm, sc, sv, sf, A, n, cap, T⟩) 73)) A n l) := Lib.hid (hl.up HB0.out)
  clear hl
  obtain ⟨c0, c1, c2, c3, c4, c5⟩ := HS.out.box
  simp only at c0 c1 c2 c3 c4 c5
  generalize fewB ⟨si, sm, sc, sv, sf, A, n, cap, T⟩ l = R at *
  by_cases h15 : n ≤ 15
  · have hq2 : decide (15 < (n : Int)) = false := by simp; omega
    have HF2 : Hid (R = rkB si l) := Lib.hid (by rw [HF.out]; simp [h15])
    clear HF
    go_enter Tryz.func233, Tryz.ntmps233
    go_wp2
    obtain ⟨w1, hw1⟩ : ∃ w1, w.alloc (.cells (stv ⟨si, sm, sc, sv, sf, A, n, cap, T⟩) 73) = w1 := ⟨_, rfl⟩
    rw [hw1] at HS HB0 HL c0 c1 c2 c3 c4 c5 ⊢
    clear hw1
    go_loopw [3, 13] (fun q i wr => ∃ k : Nat, k ≤ n ∧ i = .int .i64 k ∧ q = .int .i64 (lastK l k) ∧ Hid (Below w1.heap.size w1 wr) ∧ Hid (∀ j, j < k → stepB si (lastK l j) (atK l j) = true)) (fun _ i _ => n - (intOf i).toNat)
    case atStart => exact ⟨0, by omega, rfl, rfl, Lib.hid (Below.refl _ _), Lib.hid fun j hj => absurd hj (by omega)⟩
    case round =>
      obtain ⟨k, hk, rfl, rfl, hb, hall⟩ := hrel
      by_cases hlt : k < n
      · obtain ⟨ad, r, hA, hr, hlt2, d0, d1, d2⟩ := (HL.out.below hb.out).at_ hlt
        subst hA
        have HR := Lib.hid (at_some hr)
        have HSW := Lib.hid (HS.out.later hb.out)
        obtain ⟨ri, rm, rc⟩ := r
        simp only at d0 d1 d2
        have HK := Lib.hid (KBx.new wr ⟨ri, rm, rc⟩)
        have HE : Hid (Below wr.heap.size wr (wr.alloc (.cells #[.int .i64 ri, .int .i64 rm, .int .i64 rc] 111))) := Lib.hid ((Below.refl _ _).alloc (Nat.le_refl _) _)
        obtain ⟨g0, g1, g2⟩ := HK.out.box
        simp only at g0 g1 g2
        obtain ⟨b1, B1⟩ : ∃ b, Hid (knB ⟨ri, rm, rc⟩ = b) := ⟨_, Lib.hid rfl⟩
        have HST : Hid (stepB si (lastK l k) (atK l k) = (b1 && (ri != si) && decide (lastK l k < ri))) := Lib.hid (by rw [HR.out, ← B1.out]; rfl)
        have HNO : Hid (stepB si (lastK l k) (atK l k) = false → R = false) := Lib.hid fun h => by rw [HF2.out]; exact rk_no (by omega) h
        have HNX : Hid (lastK l (k + 1) = ri) := Lib.hid (by rw [last_succ, HR.out])
        clear hr
        obtain ⟨la, HLA⟩ : ∃ la, Hid (lastK l k = la) := ⟨_, Lib.hid rfl⟩
        rw [HLA.out] at HST HNO ⊢
        go_wp2_with (fail)
        refine (kright_any ⟨ri, rm, rc⟩ _).mono ?_
        rintro e w2 ⟨rfl, hb2⟩
        have HK2 := HK.out.later hb2
        have HS2 := HSW.out.later (HE.out.trans (hb2.mono HE.out.size))
        have HB2 := Lib.hid (hb.out.trans ((HE.out.trans (hb2.mono HE.out.size)).mono hb.out.size))
        obtain ⟨x0, _⟩ := HS2.box
        obtain ⟨y0, _, _⟩ := HK2.box
        simp only at x0 y0
        rw [B1.out]
        clear hb2 HK2 HS2 HE HK d0 d1 d2 g0 g1 g2
        cases b1
        · go_wp2
          go_ret
          exact ⟨by rw [HNO.out (by rw [HST.out]; rfl)]; rfl, HB0.out.trans (HB2.out.mono HB0.out.size)⟩
        · by_cases hi : ri = si
          · subst hi
            go_wp2
            go_ret
            exact ⟨by rw [HNO.out (by rw [HST.out]; simp)]; simp, HB0.out.trans (HB2.out.mono HB0.out.size)⟩
          · have hi1 : (ri == si) = false := by simpa using hi
            by_cases hla : la < ri
            · have hq : decide (ri ≤ la) = false := by simp; omega
              have HYES : Hid (stepB si la (atK l k) = true) := Lib.hid (by rw [HST.out]; simp [hi, hla])
              clear hi hla
              go_wp2
              go_roundw
              case rel => exact ⟨k + 1, by omega, by go_num, by rw [HNX.out], HB2, Lib.hid fun j hj => by
                rcases Nat.lt_or_ge j k with h | h
                · exact hall.out j h
                · obtain rfl : k = j := by omega
                  rw [HLA.out]; exact HYES.out⟩
              case measure => simp [intOf]; omega
            · have hq : decide (ri ≤ la) = true := by simp; omega
              have HNY : Hid (stepB si la (atK l k) = false) := Lib.hid (by rw [HST.out]; simp [hla])
              clear hi hla
              go_wp2
              go_ret
              exact ⟨by rw [HNO.out HNY.out]; rfl, HB0.out.trans (HB2.out.mono HB0.out.size)⟩
      · obtain rfl : n = k := by omega
        have HY : Hid (R = true) := Lib.hid (by rw [HF2.out]; exact rk_iff.2 fun j hj => hall.out j (by omega))
        go_wp2
        go_ret
        exact ⟨by rw [HY.out]; rfl, HB0.out.trans (hb.out.mono HB0.out.size)⟩
  · have hq2 : decide (15 < (n : Int)) = true := by simp; omega
    have HF2 : Hid (R = false) := Lib.hid (by rw [HF.out]; simp [h15])
    clear HF
    go_enter Tryz.func233, Tryz.ntmps233
    go_wp2
    go_ret
    exact ⟨by rw [HF2.out]; rfl, HB0.out⟩
end Go.Proofs.YteoodompphhkbaaGreatDoor.K

/-
  WHAT IS PROVED: contracts of (State).knows, its closure and the library's search that it calls. Condition: the known ones lie in memory.
-/
namespace Go.Proofs.YteoodompphhkbaaGreatDoor.K
set_option maxRecDepth 100000
open Go.RowKit C

def anyB (l : List Kn) (id : Int) : Bool := l.any fun k => k.i == id
theorem any_no {l : List Kn} {id : Int} (h : ∀ j, j < l.length → (atK l j).i ≠ id) : anyB l id = false := by
  unfold anyB
  rw [List.any_eq_false]
  intro x hx
  obtain ⟨j, hj, rfl⟩ := List.getElem_of_mem hx
  have := h j hj
  rw [at_some (List.getElem?_eq_getElem hj)] at this
  simpa using this
theorem any_yes {l : List Kn} {id : Int} {j : Nat} {r : Kn} (h : l[j]? = some r) (hr : r.i = id) : anyB l id = true := by
  unfold anyB
  rw [List.any_eq_true]
  exact ⟨r, List.mem_of_getElem? h, by simpa using hr⟩

set_option maxRecDepth 100000 in
theorem knows1_any (k : Kn) (b : Nat) (id : Int) (w : World) (hb : w.cell? ⟨b, 0, none⟩ = some (.int .i64 id)) (hlt : b < w.heap.size) :
    Calls Tryz.prog 310 #[vKn k, .pointer (some ⟨b, 0, none⟩)] w (Says (k.i == id) w) := by
  obtain ⟨i, m, c⟩ := k
  have hb2 : (w.alloc (.cells #[.int .i64 i, .int .i64 m, .int .i64 c] 111)).cell? ⟨b, 0, none⟩ = some (.int .i64 id) := (((Below.refl _ w).alloc (Nat.le_refl _) _).cell (p := ⟨b, 0, none⟩) hlt).trans hb
  have close : ∀ o : Obj, Below w.heap.size w (w.alloc o) := fun o => (Below.refl _ w).alloc (Nat.le_refl _) o
  go_enter Tryz.func310, Tryz.ntmps310
  go_wp2
  go_ret
  exact ⟨rfl, close _⟩

/-- what a search hands back: a place, or -1 -/
def Found (b : Bool) (w : World) (e : Ending) (w' : World) : Prop := Below w.heap.size w w' ∧ ∃ z : Int, e = .returned (.int .i64 z) ∧ decide (0 ≤ z) = b
set_option maxRecDepth 100000 in
set_option maxHeartbeats 2000000 in
theorem indexk_any (A : Option Addr) (n cap : Nat) (l : List Kn) (b : Nat) (id : Int) (w : World) (hl : KnAt w A n l) (hb : w.cell? ⟨b, 0, none⟩ = some (.int .i64 id)) (hlt : b < w.heap.size) (hN : n ≤ 9223372036854775807) :
    Calls Tryz.prog 332 #[.slice A n cap, .func (.func 310) #[] #[.pointer (some ⟨b, 0, none⟩)]] w (Found (anyB l id) w) := by
  have hn : l.length = n := hl.1
  have HL := Lib.hid hl
  have HC := Lib.hid hb
  have HLT := Lib.hid hlt
  clear hl hb hlt
  go_enter Tryz.func332, Tryz.ntmps332
  go_wp2
  go_loopw [8] (fun i wr => ∃ k : Nat, k ≤ n ∧ i = .int .i64 k ∧ Hid (Below w.heap.size w wr) ∧ Hid (∀ j, j < k → (atK l j).i ≠ id)) (fun i _ => n - (intOf i).toNat)
  case atStart => exact ⟨0, by omega, rfl, Lib.hid (Below.refl _ _), Lib.hid fun j hj => absurd hj (by omega)⟩
  case round =>
    obtain ⟨k, hk, rfl, hb, hall⟩ := hrel
    by_cases hlt : k < n
    · obtain ⟨ad, r, hA, hr, hlt2, d0, d1, d2⟩ := (HL.out.below hb.out).at_ hlt
      subst hA
      obtain ⟨ri, rm, rc⟩ := r
      simp only at d0 d1 d2
      have HR := Lib.hid hr
      clear hr
      go_wp2_with (fail)
      refine (knows1_any ⟨ri, rm, rc⟩ b id _ ((hb.out.cell (p := ⟨b, 0, none⟩) HLT.out).trans HC.out) (Nat.lt_of_lt_of_le HLT.out hb.out.size)).mono ?_
      rintro e w2 ⟨rfl, hb2⟩
      have HB2 := Lib.hid (hb.out.trans (hb2.mono hb.out.size))
      clear hb2 d0 d1 d2
      by_cases hi : ri = id
      · have HY := Lib.hid (any_yes HR.out hi)
        have hq : (ri == id) = true := by simpa using hi
        clear hi
        simp only [hq]
        go_wp2
        go_ret
        exact ⟨HB2.out, _, rfl, by rw [HY.out]; simp⟩
      · have hq : (ri == id) = false := by simpa using hi
        have HI := Lib.hid hi
        clear hi
        simp only [hq]
        go_wp2
        go_roundw
        case rel => exact ⟨k + 1, by omega, by go_num, HB2, Lib.hid fun j hj => by
            rcases Nat.lt_or_ge j k with h | h
            · exact hall.out j h
            · obtain rfl : k = j := by omega
              rw [at_some HR.out]; exact HI.out⟩
        case measure => simp [intOf]; omega
    · obtain rfl : n = k := by omega
      have HN := Lib.hid (any_no (l := l) (id := id) fun j hj => hall.out j (by omega))
      go_wp2
      go_ret
      exact ⟨hb.out, _, rfl, by rw [HN.out]; rfl⟩

set_option maxRecDepth 100000 in
theorem containsk_any (A : Option Addr) (n cap : Nat) (l : List Kn) (b : Nat) (id : Int) (w : World) (hl : KnAt w A n l) (hb : w.cell? ⟨b, 0, none⟩ = some (.int .i64 id)) (hlt : b < w.heap.size) (hN : n ≤ 9223372036854775807) :
    Calls Tryz.prog 309 #[.slice A n cap, .func (.func 310) #[] #[.pointer (some ⟨b, 0, none⟩)]] w (Says (anyB l id) w) := by
  go_enter Tryz.func309, Tryz.ntmps309
  go_wp2_with (fail)
  refine (indexk_any A n cap l b id w hl hb hlt hN).mono ?_
  rintro e w2 ⟨hb2, z, rfl, hz⟩
  have HZ := Lib.hid hz
  clear hz hl hb hlt
  go_wp2
  go_ret
  exact ⟨by rw [← HZ.out]; rfl, hb2⟩

set_option maxRecDepth 100000 in
theorem knows_any (s : Sv) (l : List Kn) (id : Int) (w : World) (hl : KnAt w s.a s.n l) (hN : s.n ≤ 9223372036854775807) : Calls Tryz.prog 275 #[.agg (stv s), .int .i64 id] w (Says (anyB l id) w) := by
  have hmf : ∀ (fn : Fn) (first cap : Array Value) (w : World), (Instr.makeFunc fn first cap).run Tryz.prog w = .ok (.func fn first cap) w := fun _ _ _ _ => rfl
  have HS := Lib.hid ((StAt.new w s).alloc (.cells #[.int .i64 id] 3))
  have HB : Hid (Below w.heap.size w ((w.alloc (.cells (stv s) 73)).alloc (.cells #[.int .i64 id] 3))) := Lib.hid (((Below.refl _ w).alloc (Nat.le_refl _) _).alloc (by simp) _)
  have HI : Hid (Blk ((w.alloc (.cells (stv s) 73)).alloc (.cells #[.int .i64 id] 3)) (w.heap.size + 1) 3 #[.int .i64 id]) := Lib.hid (by
    have := Blk.new (w.alloc (.cells (stv s) 73)) 3 #[.int .i64 id]
    simpa using this)
  have HL := Lib.hid (hl.below HB.out)
  obtain ⟨_, _, _, _, _, c5⟩ := HS.out.box
  clear hl
  go_enter Tryz.func275, Tryz.ntmps275
  go_wp2_with (fail)
  refine (containsk_any s.a s.n s.cap l (w.heap.size + 1) id _ HL.out (HI.out.cell 0) HI.out.lt hN).mono ?_
  rintro e w2 ⟨rfl, hb2⟩
  have HB2 := HB.out.trans (hb2.mono HB.out.size)
  clear hb2 c5
  go_wp2
  go_ret
  exact ⟨rfl, HB2⟩
end Go.Proofs.YteoodompphhkbaaGreatDoor.K

/- Nums -/
namespace Go.Proofs.YteoodompphhkbaaGreatDoor.K
set_option maxRecDepth 100000
open Go.RowKit Go.Shelf

/-- strconv's two errors hold an error, its table the powers of ten, bytealg's bound an int -/
def Env (w : World) : Prop := S.Errs w ∧ Lib.TabIs Tryz.prog w "internal/strconv.uint64pow10" .u64 Lib.pow10Tab ∧ ∃ m, w.cell? ⟨1, 0, none⟩ = some (.int .i64 m)
theorem g_pow : Tryz.prog.globalNamed "internal/strconv.uint64pow10" = some 0 := by kernel_rfl
theorem Env.below {w w' : World} (h : Env w) (hb : Below w.heap.size w w') : Env w' := by
  obtain ⟨h1, h2, m, h3⟩ := h
  exact ⟨h1.below hb, Go.Joins.tab_stays g_pow h2 hb (Nat.le_refl _), m, (hb.cell (S.lt_of_cell h3)).trans h3⟩
theorem Env.drewN {w : World} (h : Env w) (n : Nat) : Env (w.drewN n) := h.below (below_drewN (Below.refl _ _) n)
theorem Env.alloc {w : World} (h : Env w) (o : Obj) : Env (w.alloc o) := h.below ((Below.refl _ _).alloc (Nat.le_refl _) o)
theorem below_grown_draws (w : World) (k : Nat) (os : Array Obj) : Below w.heap.size w (Go.Sort.grow (w.drewN k) os) :=
  ⟨rfl, rfl, rfl, by simp [Go.Sort.grow], fun i hi => by
    show (w.heap ++ os)[i]? = w.heap[i]?
    rw [Array.getElem?_append_left hi]⟩

/-- a number's digits -/
def dg (z : Int) : List UInt8 := Lib.decDigits z.toNat
def AStr (b : List UInt8) (w : World) (e : Ending) (w' : World) : Prop := e = .returned (.string (str b)) ∧ Below w.heap.size w w'
theorem itoa_any (z : Int) (h0 : 0 ≤ z) (h1 : z ≤ 9223372036854775807) (w : World) (hE : Env w) : Calls Tryz.prog 18 #[.int .i64 z] w (AStr (dg z) w) :=
  (Tryz.strconv_Itoa z (by omega) h1 w hE.2.1).mono fun e w' ⟨he, k, os, hw⟩ => ⟨by
    rw [he]
    unfold Lib.itoa dg
    rw [if_neg (by omega)]; rfl, hw ▸ below_grown_draws w k os⟩
/-- what a cut at " : " comes to -/
def cut3 (l : List UInt8) : List UInt8 × List UInt8 × Bool := Lib.cut l [32, 58, 32]
theorem cut3_any (l : List UInt8) (hl : l.length ≤ 4294967200) (w : World) (hE : Env w) : Calls Tryz.prog 151 #[.string (str l), .string ⟨#[32, 58, 32]⟩] w fun e w' =>
    e = .returned (.tuple #[.string (str (cut3 l).1), .string (str (cut3 l).2.1), .bool (cut3 l).2.2]) ∧ Below w.heap.size w w' := by
  obtain ⟨_, _, m, h3⟩ := hE
  have hd : (str l).data.toList = l := rfl
  have hs : (str l).size = l.length := rfl
  refine (Tryz.strings_Cut (str l) ⟨#[32, 58, 32]⟩ m w (by omega) h3).mono fun e w' ⟨he, n, hw⟩ => ⟨?_, hw ▸ below_drewN (Below.refl _ _) n⟩
  rw [he, hd]; rfl
theorem cut3_le (l : List UInt8) : (cut3 l).2.1.length ≤ l.length := by
  unfold cut3 Lib.cut
  split
  · simp
  · simp
/-- a cut at one byte, told by what has turned -/
theorem cut1_any (l : List UInt8) (c : UInt8) (hl : l.length ≤ 4294967296) (w : World) : Calls Tryz.prog 151 #[.string (str l), .string (str [c])] w fun e w' =>
    e = .returned (.tuple #[.string (str (cutL l c).1), .string (str (cutL l c).2.1), .bool (cutL l c).2.2]) ∧ Below w.heap.size w w' :=
  (cut_any l c w (by omega)).mono fun _ _ ⟨he, n, hw⟩ => ⟨he, hw ▸ below_drewN (Below.refl _ _) n⟩
theorem atoi_env (l : List UInt8) (hl : l.length ≤ 4294967296) (w : World) (hE : Env w) : Calls Tryz.prog 306 #[.string (str l)] w (S.AtoiPost l w) := S.atoi_any l hl w hE.1
end Go.Proofs.YteoodompphhkbaaGreatDoor.K

/-
  WHAT IS PROVED: the contract of conf.numbers. Conditions: strconv's errors hold errors; a line has less than 2^32 bytes.
-/
namespace Go.Proofs.YteoodompphhkbaaGreatDoor.K
set_option maxRecDepth 100000
open Go.RowKit C

def wordOf (l : List UInt8) : List UInt8 := (cutL l 32).1
def digOf (l : List UInt8) : List UInt8 := (cutL (cutL l 32).2.1 32).1
def rest2 (l : List UInt8) : List UInt8 := (cutL (cutL l 32).2.1 32).2.1
def atoiO (d : List UInt8) : Option Int := match Lib.atoiAll d with
  | .ok v => some v
  | _ => none
/-- the numbers that a line has behind each of some names -/
def numsP : List UInt8 → List (List UInt8) → Option (List Int)
  | _, [] => some []
  | l, n :: ns => if wordOf l = n then (match atoiO (digOf l) with
    | some v => (numsP (rest2 l) ns).map (v :: ·)
    | none => none) else none
theorem nums_len : ∀ {ns : List (List UInt8)} {l : List UInt8} {zs : List Int}, numsP l ns = some zs → zs.length = ns.length
  | [], l, zs, h => by simp [numsP] at h; subst h; rfl
  | n :: ns, l, zs, h => by
    rw [numsP] at h
    split at h
    · split at h
      · cases hr : numsP (rest2 l) ns with
        | none => rw [hr] at h; cases h
        | some r => rw [hr] at h; simp at h; subst h; simp [nums_len hr]
      · cases h
    · cases h
/-- how far the reader has come -/
def Gone (l : List UInt8) (ns : List (List UInt8)) (k : Nat) (l' : List UInt8) (acc : List Int) : Prop := numsP l ns = (numsP l' (ns.drop k)).map (acc ++ ·)
theorem gone_start (l : List UInt8) (ns : List (List UInt8)) : Gone l ns 0 l [] := by
  unfold Gone
  rw [List.drop_zero]
  cases numsP l ns <;> simp
theorem gone_end {l l' : List UInt8} {ns : List (List UInt8)} {acc : List Int} (h : Gone l ns ns.length l' acc) : numsP l ns = some acc := by
  unfold Gone at h; rw [h, List.drop_length, numsP]; simp
theorem gone_next {l l' : List UInt8} {ns : List (List UInt8)} {k : Nat} {acc : List Int} {n : List UInt8} {v : Int} (h : Gone l ns k l' acc) (hn : ns[k]? = some n) (hw : wordOf l' = n) (hv : atoiO (digOf l') = some v) :
    Gone l ns (k + 1) (rest2 l') (acc ++ [v]) := by
  unfold Gone at h ⊢
  obtain ⟨hk, e⟩ := List.getElem?_eq_some_iff.1 hn
  rw [h, List.drop_eq_getElem_cons hk, e, numsP, if_pos hw, hv]
  simp only [Option.map_map]
  congr 1
  funext x
  simp
theorem gone_word {l l' : List UInt8} {ns : List (List UInt8)} {k : Nat} {acc : List Int} {n : List UInt8} (h : Gone l ns k l' acc) (hn : ns[k]? = some n) (hw : wordOf l' ≠ n) : numsP l ns = none := by
  unfold Gone at h
  obtain ⟨hk, e⟩ := List.getElem?_eq_some_iff.1 hn
  rw [h, List.drop_eq_getElem_cons hk, e, numsP, if_neg hw]; rfl
theorem gone_digits {l l' : List UInt8} {ns : List (List UInt8)} {k : Nat} {acc : List Int} {n : List UInt8} (h : Gone l ns k l' acc) (hn : ns[k]? = some n) (hv : atoiO (digOf l') = none) : numsP l ns = none := by
  unfold Gone at h
  obtain ⟨hk, e⟩ := List.getElem?_eq_some_iff.1 hn
  rw [h, List.drop_eq_getElem_cons hk, e, numsP, hv]
  split <;> rfl

def strV (ns : List (List UInt8)) : List Value := ns.map fun b => Value.string (str b)
theorem strV_at {ns : List (List UInt8)} {k : Nat} {n : List UInt8} {u : Value} (h : ns[k]? = some n) (hu : (strV ns)[k]? = some u) : u = .string (str n) := by
  unfold strV at hu; rw [List.getElem?_map, h] at hu; simp at hu; exact hu.symm
theorem strV_append (a b : List (List UInt8)) : strV (a ++ b) = strV a ++ strV b := by simp [strV]
theorem zl_append (l m : List Int) : zints (l ++ m) = zints l ++ zints m := by simp [zints]

/-- a list of numbers, and whether there is one, is handed back -/
def NumsPost (o : Option (List Int)) (w : World) (e : Ending) (w' : World) : Prop :=
  Below w.heap.size w w' ∧ ((∃ zs A c, o = some zs ∧ e = .returned (.tuple #[.slice A zs.length c, .bool true]) ∧ zs.length ≤ c ∧ c ≤ 9223372036854775807 ∧ ∀ g, w'.heap.size ≤ g ∨ g < w.heap.size → Reads w' g A zs.length (zints zs)) ∨ (o = none ∧ e = .returned (.tuple #[.slice none 0 0, .bool false])))

theorem own_below {w w' : World} {base n k : Nat} {e : TypeId} {v : Value} {xs : List Value} (h : w.ownsRow base e n v k xs) (hb : Below w.heap.size w w') : w'.ownsRow base e n v k xs := by
  refine ⟨h.1, ?_⟩
  rcases h.2 with h0 | ⟨g, cap, cur, hv, hg, hh, hr⟩
  · exact .inl h0
  · exact .inr ⟨g, cap, cur, hv, hg, (hb.block g (Array.getElem?_eq_some_iff.1 hh).1).trans hh, hr⟩
set_option maxRecDepth 100000 in
set_option maxHeartbeats 2000000 in
theorem numbers_any (l : List UInt8) (hl : l.length ≤ 4294967200) (ns : List (List UInt8)) (A : Option Addr) (c g : Nat) (w : World) (hE : Env w) (hns : ns.length ≤ 10) (hR : Reads w g A ns.length (strV ns)) :
    Calls Tryz.prog 272 #[.string (str l), .slice A ns.length c] w (NumsPost (numsP l ns) w) := by
  obtain ⟨i0, hi0, hz0, hz1, hz2⟩ := info_parts int_info
  have HI : Hid (Tryz.prog.info? 3 = some i0) := hi0
  have HZ0 := Lib.hid hz0
  have HZ1 := Lib.hid hz1
  have HZ2 := Lib.hid hz2
  have HE := Lib.hid hE
  have HR := Lib.hid hR
  clear hi0 hz0 hz1 hz2 hE hR
  have HG0 := Lib.hid (gone_start l ns)
  have HL0 := Lib.hid hl
  go_enter Tryz.func272, Tryz.ntmps272
  go_wp2
  go_loopw [0, 6, 15] (fun r va i wr => ∃ (k : Nat) (l' : List UInt8) (acc : List Int), k ≤ ns.length ∧ i = .int .i64 k ∧ r = .string (str l') ∧ acc.length = k ∧ Hid (l'.length ≤ 4294967200) ∧ Hid (Gone l ns k l' acc) ∧ Hid (Below w.heap.size w wr) ∧ Hid (wr.ownsRow w.heap.size 3 1 va k (zints acc))) (fun _ _ i _ => ns.length - (intOf i).toNat)
  case atStart => exact ⟨0, l, [], by omega, rfl, rfl, rfl, HL0, HG0, Lib.hid (Below.refl _ _), Lib.hid ⟨rfl, .inl ⟨rfl, rfl⟩⟩⟩
  case round =>
    obtain ⟨k, l', acc, hk, rfl, rfl, hacc, hl', hg, hb, hown⟩ := hrel
    by_cases hlt : k < ns.length
    · obtain ⟨ad, u, rfl, hu, hc⟩ := (HR.out.below hb.out).at_ hlt
      obtain ⟨n, hn⟩ : ∃ n, ns[k]? = some n := ⟨_, List.getElem?_eq_getElem hlt⟩
      obtain rfl := strV_at hn hu
      clear hu
      have HN := Lib.hid hn
      clear hn
      have hl1 := hl'.out
      have l1 := S.cutL_first_le l' 32
      have l2 := S.cutL_rest_le l' 32
      have l3 := S.cutL_first_le (cutL l' 32).2.1 32
      have l4 := S.cutL_rest_le (cutL l' 32).2.1 32
      have HW : Hid ((cutL l' 32).1 = wordOf l') := Lib.hid rfl
      have HD : Hid ((cutL (cutL l' 32).2.1 32).1 = digOf l') := Lib.hid rfl
      have HT : Hid ((cutL (cutL l' 32).2.1 32).2.1 = rest2 l') := Lib.hid rfl
      have HNX : Hid (∀ v, wordOf l' = n → atoiO (digOf l') = some v → Gone l ns (k + 1) (rest2 l') (acc ++ [v])) := Lib.hid fun v h1 h2 => gone_next hg.out HN.out h1 h2
      have HNW : Hid (wordOf l' ≠ n → numsP l ns = none) := Lib.hid fun h => gone_word hg.out HN.out h
      have HND : Hid (atoiO (digOf l') = none → numsP l ns = none) := Lib.hid fun h => gone_digits hg.out HN.out h
      go_wp2_with (fail)
      refine (cut1_any l' 32 (by omega) _).mono ?_
      rintro e w1 ⟨rfl, hb1⟩
      have HB1 := Lib.hid (hb.out.trans (hb1.mono hb.out.size))
      have HO1 := Lib.hid (own_below hown.out hb1)
      clear hb1 hc
      go_wp2_with (fail)
      refine (cut1_any (cutL l' 32).2.1 32 (by omega) _).mono ?_
      rintro e w2 ⟨rfl, hb2⟩
      have HB2 := Lib.hid (HB1.out.trans (hb2.mono HB1.out.size))
      have HO2 := Lib.hid (own_below HO1.out hb2)
      clear hb2 HO1
      rw [HW.out, HD.out, HT.out]
      have hdl : (digOf l').length ≤ 4294967296 := by rw [← HD.out]; omega
      have HTL : Hid ((rest2 l').length ≤ 4294967200) := Lib.hid (by rw [← HT.out]; omega)
      clear l1 l2 l3 l4
      generalize wordOf l' = wd at *
      generalize digOf l' = dd at *
      generalize rest2 l' = rr at *
      go_wp2_with (fail)
      refine (atoi_env dd (by omega) _ (HE.out.below HB2.out)).mono ?_
      rintro e w3 ⟨hb3, hcase⟩
      have HB3 := Lib.hid (HB2.out.trans (hb3.mono HB2.out.size))
      have HO3 := Lib.hid (own_below HO2.out hb3)
      clear hb3 HO2
      by_cases hw : wd = n
      · have hq : ((str wd).toList == (str n).toList) = true := by rw [str_toList, str_toList]; simpa using hw
        have HWQ := Lib.hid hw
        clear hw
        rcases hcase with ⟨v, hv, rfl⟩ | ⟨hv, v, t, p, rfl⟩
        · have HV : Hid (atoiO dd = some v) := Lib.hid (by unfold atoiO; rw [hv])
          have hbs := HB3.out.size
          clear hv
          have hown3 := HO3.out
          go_wp2_with (at_builtin; refine wpList_append_own _ rfl _ _ 61 rfl w.heap.size 3 i0 (.int .i64 0) 1 8 Tryz.underlying61 HI.out HZ0.out HZ1.out HZ2.out rfl (by decide) _ _ _ rfl (HO3.out.alloc _) ⟨w3.heap.size, 0, none⟩ 1 1 [.int .i64 v] rfl rfl (cell_one_new _ _ _) (by simp [Value.oneCell']) (by unfold maxLen; omega) (by omega) (by simp; omega) ?_; intro v' w4 hown' hg3 _)
          have HB4 : Hid (Below w.heap.size w w4) := Lib.hid ((HB3.out.alloc hbs _).grown hg3 (by simp; omega) (fun g e => (HO3.out.lt g e).1))
          go_wp2
          go_roundw
          case rel => exact ⟨k + 1, rr, acc ++ [v], by omega, by go_num, rfl, by simp; omega, HTL, Lib.hid (HNX.out v HWQ.out HV.out), HB4, Lib.hid (by rw [zl_append]; simpa [zints] using hown')⟩
          case measure => simp [intOf]; omega
        · have HV : Hid (atoiO dd = none) := Lib.hid (by unfold atoiO; split; (rename_i v' h; exact absurd h (hv v')); rfl)
          clear hv
          go_wp2
          go_ret2
          exact ⟨HB3.out, .inr ⟨HND.out HV.out, rfl⟩⟩
      · have hq : ((str wd).toList == (str n).toList) = false := by rw [str_toList, str_toList]; simpa using hw
        have HWQ := Lib.hid hw
        clear hw
        rcases hcase with ⟨v, hv, rfl⟩ | ⟨hv, v, t, p, rfl⟩
        · clear hv
          go_wp2
          go_ret2
          exact ⟨HB3.out, .inr ⟨HNW.out HWQ.out, rfl⟩⟩
        · clear hv
          go_wp2
          go_ret2
          exact ⟨HB3.out, .inr ⟨HNW.out HWQ.out, rfl⟩⟩
    · obtain rfl : k = ns.length := by omega
      have HX := Lib.hid (gone_end hg.out)
      obtain ⟨A2, c2, rfl, hnc, hcm, hr⟩ := own_reads hown.out
      have HR2 := Lib.hid hr
      clear hr
      go_wp2
      go_ret2
      exact ⟨hb.out, .inl ⟨acc, A2, c2, HX.out, by rw [hacc]; rfl, by omega, hcm, fun g hg => by rw [hacc]; exact HR2.out g hg⟩⟩
end Go.Proofs.YteoodompphhkbaaGreatDoor.K

/- SRead -/
namespace Go.Proofs.YteoodompphhkbaaGreatDoor.K.S
set_option maxRecDepth 100000

def isDig (c : UInt8) : Bool := 48 ≤ c.toNat && c.toNat ≤ 57
/-- a slot at the head of a text, and how many signs it has -/
def numAt : List UInt8 → Option (Nat × Nat)
  | [] => none
  | [c] => if isDig c = true then some (c.toNat - 48, 1) else none
  | c :: d :: _ => if isDig c = true then
      (if isDig d = true then (if 63 < 10 * (c.toNat - 48) + (d.toNat - 48) ∨ c.toNat = 48 then none else some (10 * (c.toNat - 48) + (d.toNat - 48), 2)) else some (c.toNat - 48, 1))
    else none
theorem numAt_one (c : UInt8) : numAt [c] = if isDig c = true then some (c.toNat - 48, 1) else none := rfl
theorem numAt_two (c d : UInt8) (r : List UInt8) : numAt (c :: d :: r) = if isDig c = true then
      (if isDig d = true then (if 63 < 10 * (c.toNat - 48) + (d.toNat - 48) ∨ c.toNat = 48 then none else some (10 * (c.toNat - 48) + (d.toNat - 48), 2)) else some (c.toNat - 48, 1))
    else none := rfl
theorem dig_two : ∀ c : Fin 256, ∀ d : Fin 256, isDig (UInt8.ofNat c.val) = true → isDig (UInt8.ofNat d.val) = true → c.val ≠ 48 →
    dig (10 * (c.val - 48) + (d.val - 48)) = [UInt8.ofNat c.val, UInt8.ofNat d.val] := by
  intro c d hc hd hn
  unfold isDig at hc hd
  have e1 : (UInt8.ofNat c.val).toNat = c.val := by simp
  have e2 : (UInt8.ofNat d.val).toNat = d.val := by simp
  rw [e1] at hc; rw [e2] at hd
  simp at hc hd
  unfold dig
  rw [if_neg (by omega)]
  have h1 : 48 + (10 * (c.val - 48) + (d.val - 48)) / 10 = c.val := by omega
  have h2 : 48 + (10 * (c.val - 48) + (d.val - 48)) % 10 = d.val := by omega
  rw [h1, h2]
theorem numAt_sound : ∀ {q : List UInt8} {a n : Nat}, numAt q = some (a, n) → a < 64 ∧ q = dig a ++ q.drop n ∧ 1 ≤ n ∧ n ≤ q.length
  | [], a, n, h => by cases h
  | [c], a, n, h => by
    rw [numAt_one] at h
    split at h
    · rename_i hc
      unfold isDig at hc
      simp at hc
      injection h with h
      simp only [Prod.mk.injEq] at h
      obtain ⟨rfl, rfl⟩ := h
      refine ⟨by omega, ?_, Nat.le_refl _, by simp⟩
      unfold dig
      rw [if_pos (by omega)]
      have : 48 + (c.toNat - 48) = c.toNat := by omega
      rw [this]; simp
    · cases h
  | c :: d :: r, a, n, h => by
    rw [numAt_two] at h
    split at h
    · rename_i hc
      have hc0 := hc
      unfold isDig at hc
      simp at hc
      split at h
      · rename_i hd
        split at h
        · cases h
        · rename_i hn
          injection h with h
          simp only [Prod.mk.injEq] at h
          obtain ⟨rfl, rfl⟩ := h
          refine ⟨by omega, ?_, by omega, by simp⟩
          have e := dig_two ⟨c.toNat, c.toNat_lt⟩ ⟨d.toNat, d.toNat_lt⟩ (by simpa using hc0) (by simpa using hd) (by show c.toNat ≠ 48; omega)
          simp only [UInt8.ofNat_toNat] at e
          rw [e]; simp
      · injection h with h
        simp only [Prod.mk.injEq] at h
        obtain ⟨rfl, rfl⟩ := h
        refine ⟨by omega, ?_, Nat.le_refl _, by simp⟩
        unfold dig
        rw [if_pos (by omega)]
        have : 48 + (c.toNat - 48) = c.toNat := by omega
        rw [this]; simp
    · cases h
theorem numAt_dig_nil : ∀ a, a < 64 → numAt (dig a) = some (a, (dig a).length) := by decide +kernel
theorem numAt_dig {a : Nat} (ha : a < 64) {q : List UInt8} (hq : ∀ c, q.head? = some c → isDig c = false) : numAt (dig a ++ q) = some (a, (dig a).length) := by
  have h := numAt_dig_nil a ha
  cases q with
  | nil => rw [List.append_nil]; exact h
  | cons c r =>
    have hc := hq c rfl
    unfold dig at h ⊢
    split
    · rename_i h10
      rw [if_pos h10] at h
      simp only [numAt] at h
      simp only [List.cons_append, List.nil_append, numAt, hc]
      simpa using h
    · rename_i h10
      rw [if_neg h10] at h
      simp only [numAt] at h
      simp only [List.cons_append, List.nil_append, numAt]
      exact h

/-- one part of a text: its ends, and how many signs it has -/
def stepR (fst : Bool) (r : List UInt8) (least : Nat) : Option (Nat × Nat × Nat) :=
  if fst = false ∧ r.head? ≠ some 32 then none else
  match numAt (r.drop (if fst = true then 0 else 1)) with
  | none => none
  | some (a, n) => if a < least then none else
    if (r.drop ((if fst = true then 0 else 1) + n)).head? = some 45 then
      (match numAt (r.drop ((if fst = true then 0 else 1) + n + 1)) with
      | none => none
      | some (c, m) => if c ≤ a then none else some (a, c, (if fst = true then 0 else 1) + n + 1 + m))
    else some (a, a, (if fst = true then 0 else 1) + n)
def readR : Nat → Bool → List UInt8 → Nat → Option (List (Nat × Nat))
  | 0, _, _, _ => none
  | k + 1, fst, r, least => if r = [] then some [] else match stepR fst r least with
    | none => none
    | some (a, b, n) => (readR k false (r.drop n) (b + 2)).map ((a, b) :: ·)

theorem head_drop {r : List UInt8} {n : Nat} {c : UInt8} (h : (r.drop n).head? = some c) : r.drop n = c :: r.drop (n + 1) := by
  rw [List.head?_drop] at h
  rw [List.drop_eq_getElem_cons (by
    rcases Nat.lt_or_ge n r.length with h' | h'
    · exact h'
    · rw [List.getElem?_eq_none h'] at h; cases h)]
  rw [List.getElem?_eq_some_iff] at h
  obtain ⟨_, h⟩ := h
  rw [h]
theorem step_sound {fst : Bool} {r : List UInt8} {least a b n : Nat} (h : stepR fst r least = some (a, b, n)) :
    least ≤ a ∧ a ≤ b ∧ b < 64 ∧ r = (if fst = true then [] else [32]) ++ part (a, b) ++ r.drop n ∧ 1 ≤ n ∧ n ≤ r.length := by
  unfold stepR at h
  split at h
  · cases h
  · rename_i h32
    have h0 : r = (if fst = true then [] else [32]) ++ r.drop (if fst = true then 0 else 1) := by
      cases fst with
      | true => simp
      | false =>
        simp at h32
        have := head_drop (r := r) (n := 0) (c := 32) (by rw [List.drop_zero]; exact h32)
        rw [List.drop_zero] at this
        simpa using this
    have hlen : (if fst = true then 0 else 1) + (r.drop (if fst = true then 0 else 1)).length = r.length := by
      have := congrArg List.length h0
      cases fst <;> simp at this ⊢ <;> omega
    generalize ho : (if fst = true then 0 else 1 : Nat) = o at *
    split at h
    · cases h
    · rename_i a1 n1 hn1
      obtain ⟨ha, he, hn, hle⟩ := numAt_sound hn1
      split at h
      · cases h
      · rename_i hl
        rw [List.drop_drop] at he
        split at h
        · rename_i h45
          split at h
          · cases h
          · rename_i c m hn2
            obtain ⟨hc, he2, hm, hle2⟩ := numAt_sound hn2
            rw [List.drop_drop] at he2
            split at h
            · cases h
            · rename_i hca
              injection h with h
              simp only [Prod.mk.injEq] at h
              obtain ⟨rfl, rfl, rfl⟩ := h
              rw [List.length_drop] at hle2
              have e45 := head_drop h45
              have l45 := congrArg List.length e45
              simp only [List.length_drop, List.length_cons] at l45
              refine ⟨by omega, by omega, hc, ?_, by omega, by omega⟩
              have ep : part (a1, c) = dig a1 ++ 45 :: dig c := by unfold part; exact if_neg (by simp; omega)
              rw [ep]
              conv => lhs; rw [h0, he, e45, he2]
              simp [Nat.add_assoc]
        · injection h with h
          simp only [Prod.mk.injEq] at h
          obtain ⟨rfl, rfl, rfl⟩ := h
          refine ⟨by omega, Nat.le_refl _, ha, ?_, by omega, by omega⟩
          have ep : part (a1, a1) = dig a1 := by unfold part; exact if_pos rfl
          rw [ep]
          conv => lhs; rw [h0, he]
          simp
theorem read_sound : ∀ {k : Nat} {fst : Bool} {r : List UInt8} {least : Nat} {L : List (Nat × Nat)}, readR k fst r least = some L →
    Canon least L ∧ r = if fst = true then tx L else tx' L
  | 0, _, _, _, _, h => by cases h
  | k + 1, fst, r, least, L, h => by
    unfold readR at h
    split at h
    · rename_i hr
      injection h with h
      subst h; subst hr
      exact ⟨trivial, by cases fst <;> simp [tx, tx']⟩
    · split at h
      · cases h
      · rename_i a b n hs
        obtain ⟨h1, h2, h3, h4, _, _⟩ := step_sound hs
        rw [Option.map_eq_some_iff] at h
        obtain ⟨M, hM, rfl⟩ := h
        obtain ⟨h5, h6⟩ := read_sound hM
        simp only [Bool.false_eq_true, if_false] at h6
        refine ⟨⟨h1, h2, h3, h5⟩, ?_⟩
        rw [h6] at h4
        cases fst with
        | true => simpa [tx] using h4
        | false => simpa [tx'_cons] using h4

theorem tx'_head (r : List (Nat × Nat)) (c : UInt8) (h : (tx' r).head? = some c) : c = 32 := by
  cases r with
  | nil => simp [tx'] at h
  | cons p r => rw [tx'_cons] at h; simp at h; exact h.symm
theorem step_full {fst : Bool} {least a b : Nat} {q : List UInt8} (h1 : least ≤ a) (h2 : a ≤ b) (h3 : b < 64) (hq : ∀ c, q.head? = some c → c = 32) :
    stepR fst ((if fst = true then [] else [32]) ++ part (a, b) ++ q) least = some (a, b, (if fst = true then 0 else 1) + (part (a, b)).length) := by
  have hd : ∀ c, q.head? = some c → isDig c = false := fun c hc => by rw [hq c hc]; decide
  have hne : q.head? ≠ some 45 := fun h => by have := hq _ h; cases this
  have hdr : ((if fst = true then [] else [32]) ++ part (a, b) ++ q).drop (if fst = true then 0 else 1) = part (a, b) ++ q := by cases fst <;> simp
  have hdr' : ∀ n, ((if fst = true then [] else [32]) ++ part (a, b) ++ q).drop ((if fst = true then 0 else 1) + n) = (part (a, b) ++ q).drop n := fun n => by rw [← List.drop_drop, hdr]
  unfold stepR
  rw [if_neg (by cases fst <;> simp), hdr]
  by_cases h : a = b
  · subst h
    have e : part (a, a) = dig a := by simp [part]
    simp only [e] at hdr' ⊢
    rw [numAt_dig (by omega) hd]
    simp only
    rw [if_neg (by omega), hdr', List.drop_left, if_neg hne]
  · have e : part (a, b) = dig a ++ 45 :: dig b := by simp [part, h]
    simp only [e] at hdr' ⊢
    rw [List.append_assoc, numAt_dig (by omega) (fun c hc => by simp at hc; rw [← hc]; decide)]
    simp only
    rw [if_neg (by omega), hdr', List.append_assoc, List.drop_left, if_pos (by simp), Nat.add_assoc, hdr']
    have e2 : (dig a ++ 45 :: dig b ++ q).drop ((dig a).length + 1) = dig b ++ q := by
      rw [← List.drop_drop, List.append_assoc, List.drop_left]; simp
    rw [e2, numAt_dig h3 hd]
    simp only
    rw [if_neg (by omega)]
    simp only [List.length_append, List.length_cons]
    rw [Option.some.injEq, Prod.mk.injEq, Prod.mk.injEq]
    exact ⟨rfl, rfl, by omega⟩
theorem read_full : ∀ {L : List (Nat × Nat)} {k : Nat} {fst : Bool} {least : Nat}, L.length < k → Canon least L → readR k fst (if fst = true then tx L else tx' L) least = some L
  | [], k, fst, _, hk, _ => by
    obtain ⟨k, rfl⟩ : ∃ j, k = j + 1 := ⟨k - 1, by omega⟩
    cases fst <;> simp [readR, tx, tx']
  | p :: r, k, fst, least, hk, ⟨h1, h2, h3, h4⟩ => by
    obtain ⟨k, rfl⟩ : ∃ j, k = j + 1 := ⟨k - 1, by omega⟩
    have e : (if fst = true then tx (p :: r) else tx' (p :: r)) = (if fst = true then [] else [32]) ++ part p ++ tx' r := by cases fst <;> simp [tx, tx'_cons]
    rw [e]
    unfold readR
    have hs := step_full (fst := fst) (least := least) h1 h2 h3 (tx'_head r)
    rw [if_neg (by simp [part_ne]), hs]
    simp only
    have e2 : ((if fst = true then [] else [32]) ++ part p ++ tx' r).drop ((if fst = true then 0 else 1) + (part p).length) = tx' r := by
      rw [List.append_assoc, ← List.drop_drop]
      cases fst <;> simp
    have ih := read_full (k := k) (fst := false) (by simp at hk; omega) h4
    simp only [Bool.false_eq_true, if_false] at ih
    rw [e2, ih]; rfl

/-- THE DOCUMENT's READER -/
def refParse (t : List UInt8) : Option (List (Nat × Nat)) := readR (t.length + 1) true t 0
theorem ref_iff {t : List UInt8} {L : List (Nat × Nat)} : refParse t = some L ↔ Canon 0 L ∧ t = tx L := by
  constructor
  · intro h; have := read_sound h; simpa using this
  · rintro ⟨h1, rfl⟩
    have := read_full (k := (tx L).length + 1) (fst := true) (by have := tx_len_ge L; omega) h1
    simpa [refParse] using this
theorem parse_some {t : List UInt8} {L : List (Nat × Nat)} (h : refParse t = some L) : parseP t = (setOf L, 0) ∧ txt (setOf L) = t := by
  obtain ⟨h1, rfl⟩ := ref_iff.1 h
  have e := parse_txt (set_lt L)
  rw [txt_set h1] at e
  exact ⟨e, txt_set h1⟩
theorem parse_none {t : List UInt8} (h : refParse t = none) : parseP t = (0, 60) :=
  parse_no fun s hs e => by
    have := ref_iff.2 ⟨canon_set hs, e.symm⟩
    rw [h] at this; cases this
end Go.Proofs.YteoodompphhkbaaGreatDoor.K.S

/- Wslots -/
namespace Go.Proofs.YteoodompphhkbaaGreatDoor.K
set_option maxRecDepth 100000
open Go.RowKit C

/-- a State, and whether there is one, is handed back -/
def WithPost (o : Option Sv) (w : World) (e : Ending) (w' : World) : Prop :=
  Below w.heap.size w w' ∧ ((∃ s, o = some s ∧ e = .returned (.tuple #[.agg (stv s), .bool true])) ∨ (o = none ∧ e = .returned (.tuple #[.agg (stv Sv.zero), .bool false])))
/-- the table behind a line's slots -/
def wsP (T : Tab) (o ep : Int) (l : List UInt8) : Option Tab :=
  if (S.parseP (cut3 l).2.1).2 = 0 then (if goodB T o ep = true then some (claimP T o ep (S.parseP (cut3 l).2.1).1.testBit) else none) else none
theorem parseP_two (t : List UInt8) : (S.parseP t).1 < 18446744073709551616 ∧ ((S.parseP t).2 = 0 ∨ (S.parseP t).2 = 60) := by
  cases h : S.refParse t with
  | none => rw [S.parse_none h]; exact ⟨by decide, .inr rfl⟩
  | some L => rw [(S.parse_some h).1]; exact ⟨S.set_lt _, .inl rfl⟩
theorem two_sts {w w1 : World} {s u : Sv} (hb1 : Below ((w.alloc (.cells (stv s) 73)).alloc (.cells (stv u) 73)).heap.size ((w.alloc (.cells (stv s) 73)).alloc (.cells (stv u) 73)) w1) :
    StAt w1 w.heap.size s ∧ StAt w1 (w.heap.size + 1) u ∧ Below w.heap.size w w1 ∧ w.heap.size + 1 < w1.heap.size := by
  have h1 : StAt w1 (w.heap.size + 1) u := (show StAt ((w.alloc (.cells (stv s) 73)).alloc (.cells (stv u) 73)) (w.heap.size + 1) u by
    have := StAt.new (w.alloc (.cells (stv s) 73)) u
    simpa using this).later hb1
  exact ⟨((StAt.new w s).alloc _).later hb1, h1, (((Below.refl _ w).alloc (Nat.le_refl _) _).alloc (by simp) _).trans (hb1.mono (by simp; omega)), h1.lt⟩
theorem env_two {w w1 : World} {a b : Obj} (hE : Env w) (hb1 : Below ((w.alloc a).alloc b).heap.size ((w.alloc a).alloc b) w1) : Env w1 := ((hE.alloc a).alloc b).below hb1

set_option maxRecDepth 100000 in
set_option maxHeartbeats 2000000 in
theorem withslots_any (s : Sv) (o ep : Int) (l : List UInt8) (hl : l.length ≤ 4294967200) (w : World) (hE : Env w) :
    Calls Tryz.prog 273 #[.agg (stv s), .int .i64 o, .int .i64 ep, .string (str l)] w (WithPost ((wsP s.t o ep l).map (withT s)) w) := by
  have HE2 : Hid (Env ((w.alloc (.cells (stv s) 73)).alloc (.cells (stv Sv.zero) 73))) := Lib.hid ((hE.alloc _).alloc _)
  have HE0 := Lib.hid hE
  clear hE
  have HW : Hid (wsP s.t o ep l = if (S.parseP (cut3 l).2.1).2 = 0 then (if goodB s.t o ep = true then some (claimP s.t o ep (S.parseP (cut3 l).2.1).1.testBit) else none) else none) := Lib.hid rfl
  have hcl := cut3_le l
  obtain ⟨hp1, hp2⟩ := parseP_two (cut3 l).2.1
  generalize wsP s.t o ep l = R at *
  go_enter Tryz.func273, Tryz.ntmps273
  go_wp2_with (first | refine st_alloc rfl ?_)
  refine (cut3_any l hl _ HE2.out).mono ?_
  rintro e w1 ⟨rfl, hb1⟩
  have HEW1 := Lib.hid (env_two HE0.out hb1)
  obtain ⟨k1, k2, hb2, hlt2⟩ := two_sts hb1
  have K1 := Lib.hid k1
  have K2 := Lib.hid k2
  have HB2 := Lib.hid hb2
  clear hb1 k1 k2 hb2
  generalize cut3 l = cc at *
  obtain ⟨c1, c2, c3⟩ := cc
  simp only at hcl hp1 hp2 HW ⊢
  go_wp2_with (fail)
  refine (S.parse_any c2 (by omega) _ HEW1.out.1).mono ?_
  rintro e w2 ⟨rfl, hb3⟩
  have K1b := Lib.hid (K1.out.later hb3)
  have K2b := Lib.hid (K2.out.later hb3)
  have HB3 := Lib.hid (HB2.out.trans (hb3.mono HB2.out.size))
  have HLT3 : Hid (w.heap.size + 1 < w2.heap.size) := Lib.hid (Nat.lt_of_lt_of_le hlt2 hb3.size)
  clear hb3 K1 K2 hlt2
  generalize S.parseP c2 = pp at *
  obtain ⟨p1, p2⟩ := pp
  simp only at hp1 hp2 HW ⊢
  rcases hp2 with rfl | rfl
  · have HW2 : Hid (R = if goodB s.t o ep = true then some (claimP s.t o ep p1.testBit) else none) := Lib.hid (by rw [HW.out, if_pos rfl])
    clear HW
    by_cases hg : goodB s.t o ep = true
    · have HW3 : Hid (R = some (claimP s.t o ep p1.testBit)) := Lib.hid (by rw [HW2.out, if_pos hg])
      clear HW2
      go_wp2_with (first | refine st_table rfl K1b.out rfl ?_)
      refine (claim_yes s.t o ep p1 hp1 hg _).mono ?_
      rintro e w3 ⟨rfl, hb4⟩
      have K1c := Lib.hid (K1b.out.later hb4)
      have K2c := Lib.hid (K2b.out.later hb4)
      have HB4 := Lib.hid (HB3.out.trans (hb4.mono HB3.out.size))
      clear hb4 K1b K2b
      have K1d := Lib.hid (K1c.out.putT (claimP s.t o ep p1.testBit))
      have K2d := Lib.hid (K2c.out.cells_far (g := w.heap.size) (by omega) 6 (tb (claimP s.t o ep p1.testBit)).toList)
      have HB5 := Lib.hid (below_cells (Nat.le_refl _) (tb (claimP s.t o ep p1.testBit)).toList 6 HB4.out)
      go_wp2_with (first | refine st_put_table rfl rfl K1c.out rfl ?_ | (refine st_load rfl K1d.out rfl ?_) | (refine st_store rfl rfl K2d.out rfl ?_))
      exact bodyPost_ret (results_st rfl _ _ (w.heap.size + 1) _ rfl (K2d.out.store _)) rfl ⟨below_row HB5.out (by omega) _, .inl ⟨_, by rw [HW3.out]; rfl, rfl⟩⟩
    · have hg' : goodB s.t o ep = false := by simpa using hg
      have HW3 : Hid (R = none) := Lib.hid (by rw [HW2.out, if_neg hg])
      clear HW2 hg
      go_wp2_with (first | refine st_table rfl K1b.out rfl ?_)
      refine (claim_no s.t o ep p1 hg' _).mono ?_
      rintro e w3 ⟨rfl, hb4⟩
      have K1c := Lib.hid (K1b.out.later hb4)
      have K2c := Lib.hid (K2b.out.later hb4)
      have HB4 := Lib.hid (HB3.out.trans (hb4.mono HB3.out.size))
      clear hb4 K1b K2b
      have K2d := Lib.hid (K2c.out.cells_far (g := w.heap.size) (by omega) 6 (tb Tab.zero).toList)
      have HB5 := Lib.hid (below_cells (Nat.le_refl _) (tb Tab.zero).toList 6 HB4.out)
      go_wp2_with (first | refine st_put_table rfl rfl K1c.out rfl ?_ | (refine st_build rfl ?_) | (refine st_store rfl rfl K2d.out rfl ?_))
      exact bodyPost_ret (results_st rfl _ _ (w.heap.size + 1) _ rfl (K2d.out.store _)) rfl ⟨below_row HB5.out (by omega) _, .inr ⟨by rw [HW3.out]; rfl, rfl⟩⟩
  · have HW3 : Hid (R = none) := Lib.hid (by rw [HW.out, if_neg (by decide)])
    clear HW
    go_wp2_with (first | refine st_build rfl ?_ | (refine st_store rfl rfl K2b.out rfl ?_))
    exact bodyPost_ret (results_st rfl _ _ (w.heap.size + 1) _ rfl (K2b.out.store _)) rfl ⟨below_row HB3.out (by omega) _, .inr ⟨by rw [HW3.out]; rfl, rfl⟩⟩
end Go.Proofs.YteoodompphhkbaaGreatDoor.K

/- Witha -/
namespace Go.Proofs.YteoodompphhkbaaGreatDoor.K
set_option maxRecDepth 100000
open Go.RowKit C

/-- a State as data -/
structure Dt where
  i : Int
  m : Int
  c : Int
  v : Int
  f : Int
  l : List Kn
  t : Tab
def Dt.zero : Dt := ⟨0, 0, 0, 0, 0, [], Tab.zero⟩
def mkS (d : Dt) (a : Option Addr) (n cap : Nat) : Sv := ⟨d.i, d.m, d.c, d.v, d.f, a, n, cap, d.t⟩
def selfN : List (List UInt8) := [[115, 101, 108, 102], [109, 97, 115, 116, 101, 114], [99, 117, 114, 114, 101, 110, 116], [118, 111, 116, 101], [99, 111, 110, 102, 105, 103]]
def nodeN : List (List UInt8) := [[110, 111, 100, 101], [109, 97, 115, 116, 101, 114], [99, 111, 110, 102, 105, 103]]
def slotsN : List (List UInt8) := [[115, 108, 111, 116, 115], [101, 112, 111, 99, 104]]
/-- a state and what one more line says -/
def withD (d : Dt) (line : List UInt8) : Option Dt := match numsP line selfN with
  | some zs => match zs with
    | [a, b, c, e, f] => some { d with i := a, m := b, c := c, v := e, f := f }
    | _ => none
  | none => match numsP line nodeN with
    | some zs => match zs with
      | [a, b, c] => some { d with l := d.l ++ [⟨a, b, c⟩] }
      | _ => none
    | none => match numsP line slotsN with
      | some zs => match zs with
        | [a, b] => (wsP d.t a b line).map fun T => { d with t := T }
        | _ => none
      | none => none
theorem with_self {d : Dt} {line : List UInt8} {a b c e f : Int} (h : numsP line selfN = some [a, b, c, e, f]) : withD d line = some { d with i := a, m := b, c := c, v := e, f := f } := by unfold withD; rw [h]
theorem with_node {d : Dt} {line : List UInt8} {a b c : Int} (h0 : numsP line selfN = none) (h : numsP line nodeN = some [a, b, c]) : withD d line = some { d with l := d.l ++ [⟨a, b, c⟩] } := by unfold withD; rw [h0, h]
theorem with_slots {d : Dt} {line : List UInt8} {a b : Int} (h0 : numsP line selfN = none) (h1 : numsP line nodeN = none) (h : numsP line slotsN = some [a, b]) : withD d line = (wsP d.t a b line).map fun T => { d with t := T } := by unfold withD; rw [h0, h1, h]
theorem with_none {d : Dt} {line : List UInt8} (h0 : numsP line selfN = none) (h1 : numsP line nodeN = none) (h : numsP line slotsN = none) : withD d line = none := by unfold withD; rw [h0, h1, h]

/-- a State whose known ones lie in a row of one's own, and whether there is one, is handed back -/
def WithD (base : Nat) (o : Option Dt) (w : World) (e : Ending) (w' : World) : Prop :=
  Below base w w' ∧ ((∃ d a n cap, o = some d ∧ e = .returned (.tuple #[.agg (stv (mkS d a n cap)), .bool true]) ∧ w'.ownsRow base 111 3 (.slice a n cap) n (flatK d.l)) ∨ (o = none ∧ e = .returned (.tuple #[.agg (stv Sv.zero), .bool false])))
theorem reads_new (W : World) (t : TypeId) (vs : List Value) (cs : Array Value) (g b n : Nat) (hb : W.heap.size = b) (hn : vs.length = n) (hc : vs.toArray = cs) (hg : g ≠ b) : Reads (W.alloc (.cells cs t)) g (some ⟨b, 0, none⟩) n vs := by
  subst hb; subst hn; subst hc
  exact ⟨rfl, fun _ => ⟨_, rfl, by simp, fun e => hg e.symm, fun j u hu => by
    have hB : Blk (W.alloc (.cells vs.toArray t)) W.heap.size t vs.toArray := Blk.new _ _ _
    rw [S.add_mk, hB.cell j]
    simpa using hu⟩⟩
theorem stv_set0 (s : Sv) (x : Int) : (stv s).setIfInBounds 0 (.int .i64 x) = stv { s with i := x } := by simp [stv, stL]
theorem StAt.set0 {w : World} {b : Nat} {s : Sv} (h : StAt w b s) (x : Int) : StAt (w.setCell ⟨b, 0, none⟩ (.int .i64 x)) b { s with i := x } := by unfold StAt; rw [← stv_set0]; exact Blk.set_ h 0 _
theorem stv_set1 (s : Sv) (x : Int) : (stv s).setIfInBounds 1 (.int .i64 x) = stv { s with m := x } := by simp [stv, stL]
theorem StAt.set1 {w : World} {b : Nat} {s : Sv} (h : StAt w b s) (x : Int) : StAt (w.setCell ⟨b, 1, none⟩ (.int .i64 x)) b { s with m := x } := by unfold StAt; rw [← stv_set1]; exact Blk.set_ h 1 _
theorem stv_set2 (s : Sv) (x : Int) : (stv s).setIfInBounds 2 (.int .i64 x) = stv { s with c := x } := by simp [stv, stL]
theorem StAt.set2 {w : World} {b : Nat} {s : Sv} (h : StAt w b s) (x : Int) : StAt (w.setCell ⟨b, 2, none⟩ (.int .i64 x)) b { s with c := x } := by unfold StAt; rw [← stv_set2]; exact Blk.set_ h 2 _
theorem stv_set3 (s : Sv) (x : Int) : (stv s).setIfInBounds 3 (.int .i64 x) = stv { s with v := x } := by simp [stv, stL]
theorem StAt.set3 {w : World} {b : Nat} {s : Sv} (h : StAt w b s) (x : Int) : StAt (w.setCell ⟨b, 3, none⟩ (.int .i64 x)) b { s with v := x } := by unfold StAt; rw [← stv_set3]; exact Blk.set_ h 3 _
theorem stv_set4 (s : Sv) (x : Int) : (stv s).setIfInBounds 4 (.int .i64 x) = stv { s with f := x } := by simp [stv, stL]
theorem StAt.set4 {w : World} {b : Nat} {s : Sv} (h : StAt w b s) (x : Int) : StAt (w.setCell ⟨b, 4, none⟩ (.int .i64 x)) b { s with f := x } := by unfold StAt; rw [← stv_set4]; exact Blk.set_ h 4 _
theorem stv_set5 (s : Sv) (a : Option Addr) (n c : Nat) : (stv s).setIfInBounds 5 (.slice a n c) = stv { s with a := a, n := n, cap := c } := by simp [stv, stL]
theorem StAt.set5 {w : World} {b : Nat} {s : Sv} (h : StAt w b s) (a : Option Addr) (n c : Nat) : StAt (w.setCell ⟨b, 5, none⟩ (.slice a n c)) b { s with a := a, n := n, cap := c } := by unfold StAt; rw [← stv_set5]; exact Blk.set_ h 5 _
theorem reads_drew {w : World} {g n : Nat} {A : Option Addr} {xs : List Value} (h : Reads w g A n xs) : Reads w.drew g A n xs := h
theorem add_0 (x : Addr) : x.add 0 = x := by unfold Addr.add; rw [if_pos rfl]
theorem cells5 {w : World} {g : Nat} {ad : Addr} {a b c d e : Int} (h : Reads w g (some ad) 5 (zints [a, b, c, d, e])) : w.cell? ad = some (.int .i64 a) ∧ w.cell? ⟨ad.block, ad.off + 1, none⟩ = some (.int .i64 b) ∧ w.cell? ⟨ad.block, ad.off + 2, none⟩ = some (.int .i64 c) ∧ w.cell? ⟨ad.block, ad.off + 3, none⟩ = some (.int .i64 d) ∧ w.cell? ⟨ad.block, ad.off + 4, none⟩ = some (.int .i64 e) := by
  obtain ⟨ad', e0, _, _, hc⟩ := h.2 (by omega)
  cases e0
  have h0 := hc 0 _ rfl
  have h1 := hc 1 _ rfl
  have h2 := hc 2 _ rfl
  have h3 := hc 3 _ rfl
  have h4 := hc 4 _ rfl
  rw [add_0] at h0
  rw [show (1 : Nat) = 0 + 1 from rfl, add_succ] at h1
  rw [show (2 : Nat) = 1 + 1 from rfl, add_succ] at h2
  rw [show (3 : Nat) = 2 + 1 from rfl, add_succ] at h3
  rw [show (4 : Nat) = 3 + 1 from rfl, add_succ] at h4
  exact ⟨h0, h1, h2, h3, h4⟩
theorem cells3 {w : World} {g : Nat} {ad : Addr} {a b c : Int} (h : Reads w g (some ad) 3 (zints [a, b, c])) : w.cell? ad = some (.int .i64 a) ∧ w.cell? ⟨ad.block, ad.off + 1, none⟩ = some (.int .i64 b) ∧ w.cell? ⟨ad.block, ad.off + 2, none⟩ = some (.int .i64 c) := by
  obtain ⟨ad', e0, _, _, hc⟩ := h.2 (by omega)
  cases e0
  have h0 := hc 0 _ rfl
  have h1 := hc 1 _ rfl
  have h2 := hc 2 _ rfl
  rw [add_0] at h0
  rw [show (1 : Nat) = 0 + 1 from rfl, add_succ] at h1
  rw [show (2 : Nat) = 1 + 1 from rfl, add_succ] at h2
  exact ⟨h0, h1, h2⟩
theorem cells2 {w : World} {g : Nat} {ad : Addr} {a b : Int} (h : Reads w g (some ad) 2 (zints [a, b])) : w.cell? ad = some (.int .i64 a) ∧ w.cell? ⟨ad.block, ad.off + 1, none⟩ = some (.int .i64 b) := by
  obtain ⟨ad', e0, _, _, hc⟩ := h.2 (by omega)
  cases e0
  have h0 := hc 0 _ rfl
  have h1 := hc 1 _ rfl
  rw [add_0] at h0
  rw [show (1 : Nat) = 0 + 1 from rfl, add_succ] at h1
  exact ⟨h0, h1⟩
theorem numbers_at (line : List UInt8) (hl : line.length ≤ 4294967200) (ns : List (List UInt8)) (n : Nat) (r : Option (List Int)) (hn : ns.length = n) (hr : numsP line ns = r) (A : Option Addr) (c g : Nat) (w : World) (hE : Env w) (hns : n ≤ 10) (hR : Reads w g A n (strV ns)) :
    Calls Tryz.prog 272 #[.string (str line), .slice A n c] w (NumsPost r w) := by
  subst hn; subst hr
  exact numbers_any line hl ns A c g w hE hns hR
theorem env_three {w : World} {a b c : Obj} (hE : Env w) : Env (((w.alloc a).alloc b).alloc c) := ((hE.alloc a).alloc b).alloc c
theorem three_sts (w : World) (s u : Sv) (o : Obj) :
    StAt (((w.alloc (.cells (stv s) 73)).alloc (.cells (stv u) 73)).alloc o) w.heap.size s ∧ StAt (((w.alloc (.cells (stv s) 73)).alloc (.cells (stv u) 73)).alloc o) (w.heap.size + 1) u ∧
    Below w.heap.size w (((w.alloc (.cells (stv s) 73)).alloc (.cells (stv u) 73)).alloc o) := by
  obtain ⟨h1, h2, h3, _⟩ := two_sts (w := w) (s := s) (u := u) (Below.refl _ _)
  exact ⟨h1.alloc o, h2.alloc o, h3.alloc h3.size o⟩
theorem five {zs : List Int} (h : zs.length = 5) : ∃ a b c d e, zs = [a, b, c, d, e] := match zs, h with
  | [a, b, c, d, e], _ => ⟨a, b, c, d, e, rfl⟩
theorem three {zs : List Int} (h : zs.length = 3) : ∃ a b c, zs = [a, b, c] := match zs, h with
  | [a, b, c], _ => ⟨a, b, c, rfl⟩
theorem two {zs : List Int} (h : zs.length = 2) : ∃ a b, zs = [a, b] := match zs, h with
  | [a, b], _ => ⟨a, b, rfl⟩

set_option maxRecDepth 100000 in
set_option maxHeartbeats 1000000 in
theorem with_1 (zs0 : List Int) (d : Dt) (a : Option Addr) (n cap base : Nat) (line : List UInt8) (hl : line.length ≤ 4294967200) (w : World) (hE : Env w) (hb : base ≤ w.heap.size) (h1 : numsP line selfN = some zs0) (hown : w.ownsRow base 111 3 (.slice a n cap) n (flatK d.l)) :
    Calls Tryz.prog 229 #[.agg (stv (mkS d a n cap)), .string (str line)] w (WithD base (withD d line) w) := by
  have HE := Lib.hid hE
  have HO := Lib.hid hown
  have HB := Lib.hid hb
  clear hE hown hb
  obtain ⟨r1, R1⟩ : ∃ r, Hid (numsP line selfN = r) := ⟨_, Lib.hid rfl⟩
  obtain ⟨r2, R2⟩ : ∃ r, Hid (numsP line nodeN = r) := ⟨_, Lib.hid rfl⟩
  obtain ⟨r3, R3⟩ : ∃ r, Hid (numsP line slotsN = r) := ⟨_, Lib.hid rfl⟩
  obtain ⟨s, HS⟩ : ∃ s, Hid (mkS d a n cap = s) := ⟨_, Lib.hid rfl⟩
  rw [HS.out]
  obtain ⟨j1, j2, j3⟩ := three_sts w s Sv.zero (.cells #[.string ⟨#[115, 101, 108, 102]⟩, .string ⟨#[109, 97, 115, 116, 101, 114]⟩, .string ⟨#[99, 117, 114, 114, 101, 110, 116]⟩, .string ⟨#[118, 111, 116, 101]⟩, .string ⟨#[99, 111, 110, 102, 105, 103]⟩] 9)
  have J1 := Lib.hid j1
  have J2 := Lib.hid j2
  have J3 := Lib.hid j3
  have JR := Lib.hid (reads_new ((w.alloc (.cells (stv s) 73)).alloc (.cells (stv Sv.zero) 73)) 9 (strV selfN) #[.string ⟨#[115, 101, 108, 102]⟩, .string ⟨#[109, 97, 115, 116, 101, 114]⟩, .string ⟨#[99, 117, 114, 114, 101, 110, 116]⟩, .string ⟨#[118, 111, 116, 101]⟩, .string ⟨#[99, 111, 110, 102, 105, 103]⟩] w.heap.size (w.heap.size + 1 + 1) 5 (by simp) rfl rfl (by omega))
  have JE := Lib.hid (env_three (a := .cells (stv s) 73) (b := .cells (stv Sv.zero) 73) (c := .cells #[.string ⟨#[115, 101, 108, 102]⟩, .string ⟨#[109, 97, 115, 116, 101, 114]⟩, .string ⟨#[99, 117, 114, 114, 101, 110, 116]⟩, .string ⟨#[118, 111, 116, 101]⟩, .string ⟨#[99, 111, 110, 102, 105, 103]⟩] 9) HE.out)
  clear j1 j2 j3
  obtain ⟨res, HRES⟩ : ∃ r, Hid (withD d line = r) := ⟨_, Lib.hid rfl⟩
  rw [HRES.out]
  have C1 := Lib.hid (numbers_at line hl selfN 5 r1 rfl R1.out (some ⟨w.heap.size + 1 + 1, 0, none⟩) 5 w.heap.size _ JE.out (by decide) JR.out)
  go_enter Tryz.func229, Tryz.ntmps229
  go_wp2_with (first | refine st_alloc rfl ?_)
  with_reducible refine C1.out.mono ?_
  rintro e w1 ⟨hb1, hcase⟩
  have K1 := Lib.hid (J1.out.later hb1)
  have K2 := Lib.hid (J2.out.later hb1)
  have K3 := Lib.hid (J3.out.trans (hb1.mono J3.out.size))
  have KE := Lib.hid (JE.out.below hb1)
  have KO := Lib.hid (own_below HO.out K3.out)
  have KS : Hid (w.heap.size + 1 < w1.heap.size) := Lib.hid K2.out.lt
  have KG : Hid (w.heap.size < (((w.alloc (.cells (stv s) 73)).alloc (.cells (stv Sv.zero) 73)).alloc (.cells #[.string ⟨#[115, 101, 108, 102]⟩, .string ⟨#[109, 97, 115, 116, 101, 114]⟩, .string ⟨#[99, 117, 114, 114, 101, 110, 116]⟩, .string ⟨#[118, 111, 116, 101]⟩, .string ⟨#[99, 111, 110, 102, 105, 103]⟩] 9)).heap.size) := Lib.hid (by simp; omega)
  clear hb1 C1 JR JE J1 J2 J3
  rcases hcase with ⟨zs, A1, c1, hr1, rfl, hzc, hzm, hrd⟩ | ⟨hr1, rfl⟩
  · obtain ⟨z0, z1, z2, z3, z4, rfl⟩ := five (nums_len (R1.out.trans hr1))
    have HWD : Hid (res = some { d with i := z0, m := z1, c := z2, v := z3, f := z4 }) := Lib.hid (by rw [← HRES.out]; exact with_self (R1.out.trans hr1))
    have hrd0 := hrd w.heap.size (.inr KG.out)
    clear hr1 hrd
    obtain ⟨ad, rfl, _, hne, _⟩ := hrd0.2 (Nat.succ_pos _)
    have HRd : Hid (Reads w1.drew w.heap.size (some ad) 5 (zints [z0, z1, z2, z3, z4])) := Lib.hid hrd0
    have HR1 : Hid (Reads w1 w.heap.size (some ad) 5 (zints [z0, z1, z2, z3, z4])) := Lib.hid hrd0
    clear hrd0
    have HC : Hid (∀ w', Reads w' w.heap.size (some ad) 5 (zints [z0, z1, z2, z3, z4]) → w'.cell? ad = some (.int .i64 z0) ∧ w'.cell? ⟨ad.block, ad.off + 1, none⟩ = some (.int .i64 z1) ∧ w'.cell? ⟨ad.block, ad.off + 2, none⟩ = some (.int .i64 z2) ∧ w'.cell? ⟨ad.block, ad.off + 3, none⟩ = some (.int .i64 z3) ∧ w'.cell? ⟨ad.block, ad.off + 4, none⟩ = some (.int .i64 z4)) := Lib.hid fun _ h => cells5 h
    simp only [List.length_cons, List.length_nil, Nat.zero_add, Nat.reduceAdd] at hzc ⊢
    obtain ⟨b0, b1, b2, b3, b4, b5⟩ := K1.out.box
    have fz := K1.out.fz
    have KW := Lib.hid ((((((K1.out.set0 z0).set1 z1).set2 z2).set3 z3).set4 z4).drew)
    have K2W := Lib.hid ((((((K2.out.far (p := ⟨w.heap.size, 0, none⟩) (by show w.heap.size + 1 ≠ w.heap.size; omega) (.int .i64 z0)).far (p := ⟨w.heap.size, 1, none⟩) (by show w.heap.size + 1 ≠ w.heap.size; omega) (.int .i64 z1)).far (p := ⟨w.heap.size, 2, none⟩) (by show w.heap.size + 1 ≠ w.heap.size; omega) (.int .i64 z2)).far (p := ⟨w.heap.size, 3, none⟩) (by show w.heap.size + 1 ≠ w.heap.size; omega) (.int .i64 z3)).far (p := ⟨w.heap.size, 4, none⟩) (by show w.heap.size + 1 ≠ w.heap.size; omega) (.int .i64 z4)).drew)
    have KB := Lib.hid ((below_set (below_set (below_set (below_set (below_set K3.out (p := ⟨w.heap.size, 0, none⟩) (Nat.le_refl _) (.int .i64 z0)) (p := ⟨w.heap.size, 1, none⟩) (Nat.le_refl _) (.int .i64 z1)) (p := ⟨w.heap.size, 2, none⟩) (Nat.le_refl _) (.int .i64 z2)) (p := ⟨w.heap.size, 3, none⟩) (Nat.le_refl _) (.int .i64 z3)) (p := ⟨w.heap.size, 4, none⟩) (Nat.le_refl _) (.int .i64 z4)).drew)
    have fz0 : ∀ i, w1.drew.frozen? ⟨w.heap.size, i, none⟩ = false := K1.out.fz
    have b0d : w1.drew.cell? ⟨w.heap.size, 0, none⟩ = some (.int .i64 s.i) := b0
    have X1 := K1.out.drew.set0 z0
    have X2 := X1.set1 z1
    obtain ⟨_, x1, _⟩ := X1.box
    obtain ⟨_, _, y2, y3, y4, _⟩ := X2.box
    have fx := X1.fz
    have fy := X2.fz
    clear X1 X2
    obtain ⟨n0, n1, n2, n3, n4⟩ := HC.out _ (show Reads w1 w.heap.size (some ad) 5 (zints [z0, z1, z2, z3, z4]) from HRd.out)
    go_wp2
    refine wp_region_held_drew (S := fun w' => w'.cell? ad = some (.int .i64 z0) ∧ w'.cell? ⟨ad.block, ad.off + 1, none⟩ = some (.int .i64 z1) ∧ w'.cell? ⟨ad.block, ad.off + 2, none⟩ = some (.int .i64 z2) ∧ w'.cell? ⟨ad.block, ad.off + 3, none⟩ = some (.int .i64 z3) ∧ w'.cell? ⟨ad.block, ad.off + 4, none⟩ = some (.int .i64 z4)) (by kernel_rfl) (HC.out _ HRd.out) (fun hHeld => ?_)
    refine wpAnyH_take (i := 0) (oi := ⟨some 19, .move (.tmp 6), 61, "conf.go:166", _, none⟩) (v := .slice (some ad) 5 c1) rfl (by kernel_rfl) (by kernel_rfl) (by kernel_rfl) (fun _ _ _ h => h) (Or.inl ⟨by rfl, ?_⟩) (by assumption) ?_
    · (intro w' hSw; obtain ⟨s0, s1, s2, s3, s4⟩ := hSw; go_simp)
    try simp only [Act.put, List.setIfInBounds_toArray, List.set_cons_zero, List.set_cons_succ]
    refine wpAnyH_take (i := 1) (oi := ⟨some 20, .indexAddr 61 (.tmp 19) (.const (.int .i64 0)), 0, "conf.go:166", _, none⟩) (v := .pointer (some ad)) rfl (by kernel_rfl) (by kernel_rfl) (by kernel_rfl) (fun _ _ _ h => h) (Or.inl ⟨by rfl, ?_⟩) (by assumption) ?_
    · (intro w' hSw; obtain ⟨s0, s1, s2, s3, s4⟩ := hSw; go_simp)
    try simp only [Act.put, List.setIfInBounds_toArray, List.set_cons_zero, List.set_cons_succ]
    refine wpAnyH_take (i := 2) (oi := ⟨some 21, .load 3 (.tmp 20), 3, "conf.go:166", _, none⟩) (v := .int .i64 z0) rfl (by kernel_rfl) (by kernel_rfl) (by kernel_rfl) (fun _ _ _ h => h) (Or.inl ⟨by rfl, ?_⟩) (by assumption) ?_
    · (intro w' hSw; obtain ⟨s0, s1, s2, s3, s4⟩ := hSw; go_simp)
    try simp only [Act.put, List.setIfInBounds_toArray, List.set_cons_zero, List.set_cons_succ]
    refine wpAnyH_take (i := 3) (oi := ⟨some 22, .move (.tmp 6), 61, "conf.go:166", _, none⟩) (v := .slice (some ad) 5 c1) rfl (by kernel_rfl) (by kernel_rfl) (by kernel_rfl) (fun _ _ _ h => h) (Or.inl ⟨by rfl, ?_⟩) (by assumption) ?_
    · (intro w' hSw; obtain ⟨s0, s1, s2, s3, s4⟩ := hSw; go_simp)
    try simp only [Act.put, List.setIfInBounds_toArray, List.set_cons_zero, List.set_cons_succ]
    refine wpAnyH_take (i := 4) (oi := ⟨some 23, .indexAddr 61 (.tmp 22) (.const (.int .i64 1)), 0, "conf.go:166", _, none⟩) (v := .pointer (some ⟨ad.block, ad.off + 1, none⟩)) rfl (by kernel_rfl) (by kernel_rfl) (by kernel_rfl) (fun _ _ _ h => h) (Or.inl ⟨by rfl, ?_⟩) (by assumption) ?_
    · (intro w' hSw; obtain ⟨s0, s1, s2, s3, s4⟩ := hSw; go_simp)
    try simp only [Act.put, List.setIfInBounds_toArray, List.set_cons_zero, List.set_cons_succ]
    refine wpAnyH_take (i := 5) (oi := ⟨some 24, .load 3 (.tmp 23), 3, "conf.go:166", _, none⟩) (v := .int .i64 z1) rfl (by kernel_rfl) (by kernel_rfl) (by kernel_rfl) (fun _ _ _ h => h) (Or.inl ⟨by rfl, ?_⟩) (by assumption) ?_
    · (intro w' hSw; obtain ⟨s0, s1, s2, s3, s4⟩ := hSw; go_simp)
    try simp only [Act.put, List.setIfInBounds_toArray, List.set_cons_zero, List.set_cons_succ]
    refine wpAnyH_take (i := 6) (oi := ⟨some 25, .move (.tmp 6), 61, "conf.go:166", _, none⟩) (v := .slice (some ad) 5 c1) rfl (by kernel_rfl) (by kernel_rfl) (by kernel_rfl) (fun _ _ _ h => h) (Or.inl ⟨by rfl, ?_⟩) (by assumption) ?_
    · (intro w' hSw; obtain ⟨s0, s1, s2, s3, s4⟩ := hSw; go_simp)
    try simp only [Act.put, List.setIfInBounds_toArray, List.set_cons_zero, List.set_cons_succ]
    refine wpAnyH_take (i := 7) (oi := ⟨some 26, .indexAddr 61 (.tmp 25) (.const (.int .i64 2)), 0, "conf.go:166", _, none⟩) (v := .pointer (some ⟨ad.block, ad.off + 2, none⟩)) rfl (by kernel_rfl) (by kernel_rfl) (by kernel_rfl) (fun _ _ _ h => h) (Or.inl ⟨by rfl, ?_⟩) (by assumption) ?_
    · (intro w' hSw; obtain ⟨s0, s1, s2, s3, s4⟩ := hSw; go_simp)
    try simp only [Act.put, List.setIfInBounds_toArray, List.set_cons_zero, List.set_cons_succ]
    refine wpAnyH_take (i := 8) (oi := ⟨some 27, .load 3 (.tmp 26), 3, "conf.go:166", _, none⟩) (v := .int .i64 z2) rfl (by kernel_rfl) (by kernel_rfl) (by kernel_rfl) (fun _ _ _ h => h) (Or.inl ⟨by rfl, ?_⟩) (by assumption) ?_
    · (intro w' hSw; obtain ⟨s0, s1, s2, s3, s4⟩ := hSw; go_simp)
    try simp only [Act.put, List.setIfInBounds_toArray, List.set_cons_zero, List.set_cons_succ]
    refine wpAnyH_take (i := 9) (oi := ⟨some 28, .move (.tmp 6), 61, "conf.go:166", _, none⟩) (v := .slice (some ad) 5 c1) rfl (by kernel_rfl) (by kernel_rfl) (by kernel_rfl) (fun _ _ _ h => h) (Or.inl ⟨by rfl, ?_⟩) (by assumption) ?_
    · (intro w' hSw; obtain ⟨s0, s1, s2, s3, s4⟩ := hSw; go_simp)
    try simp only [Act.put, List.setIfInBounds_toArray, List.set_cons_zero, List.set_cons_succ]
    refine wpAnyH_take (i := 10) (oi := ⟨some 29, .indexAddr 61 (.tmp 28) (.const (.int .i64 3)), 0, "conf.go:166", _, none⟩) (v := .pointer (some ⟨ad.block, ad.off + 3, none⟩)) rfl (by kernel_rfl) (by kernel_rfl) (by kernel_rfl) (fun _ _ _ h => h) (Or.inl ⟨by rfl, ?_⟩) (by assumption) ?_
    · (intro w' hSw; obtain ⟨s0, s1, s2, s3, s4⟩ := hSw; go_simp)
    try simp only [Act.put, List.setIfInBounds_toArray, List.set_cons_zero, List.set_cons_succ]
    refine wpAnyH_take (i := 11) (oi := ⟨some 30, .load 3 (.tmp 29), 3, "conf.go:166", _, none⟩) (v := .int .i64 z3) rfl (by kernel_rfl) (by kernel_rfl) (by kernel_rfl) (fun _ _ _ h => h) (Or.inl ⟨by rfl, ?_⟩) (by assumption) ?_
    · (intro w' hSw; obtain ⟨s0, s1, s2, s3, s4⟩ := hSw; go_simp)
    try simp only [Act.put, List.setIfInBounds_toArray, List.set_cons_zero, List.set_cons_succ]
    refine wpAnyH_take (i := 12) (oi := ⟨some 31, .move (.tmp 6), 61, "conf.go:166", _, none⟩) (v := .slice (some ad) 5 c1) rfl (by kernel_rfl) (by kernel_rfl) (by kernel_rfl) (fun _ _ _ h => h) (Or.inl ⟨by rfl, ?_⟩) (by assumption) ?_
    · (intro w' hSw; obtain ⟨s0, s1, s2, s3, s4⟩ := hSw; go_simp)
    try simp only [Act.put, List.setIfInBounds_toArray, List.set_cons_zero, List.set_cons_succ]
    refine wpAnyH_take (i := 13) (oi := ⟨some 32, .indexAddr 61 (.tmp 31) (.const (.int .i64 4)), 0, "conf.go:166", _, none⟩) (v := .pointer (some ⟨ad.block, ad.off + 4, none⟩)) rfl (by kernel_rfl) (by kernel_rfl) (by kernel_rfl) (fun _ _ _ h => h) (Or.inl ⟨by rfl, ?_⟩) (by assumption) ?_
    · (intro w' hSw; obtain ⟨s0, s1, s2, s3, s4⟩ := hSw; go_simp)
    try simp only [Act.put, List.setIfInBounds_toArray, List.set_cons_zero, List.set_cons_succ]
    refine wpAnyH_take (i := 14) (oi := ⟨some 33, .load 3 (.tmp 32), 3, "conf.go:166", _, none⟩) (v := .int .i64 z4) rfl (by kernel_rfl) (by kernel_rfl) (by kernel_rfl) (fun _ _ _ h => h) (Or.inl ⟨by rfl, ?_⟩) (by assumption) ?_
    · (intro w' hSw; obtain ⟨s0, s1, s2, s3, s4⟩ := hSw; go_simp)
    try simp only [Act.put, List.setIfInBounds_toArray, List.set_cons_zero, List.set_cons_succ]
    refine wpAnyH_take (i := 15) (oi := ⟨some 34, .build 67 #[(0, .tmp 27), (1, .tmp 30), (2, .tmp 33)], 67, "conf.go:166", _, none⟩) (v := .agg #[.int .i64 z2, .int .i64 z3, .int .i64 z4]) rfl (by kernel_rfl) (by kernel_rfl) (by kernel_rfl) (fun _ _ _ h => h) (Or.inl ⟨by rfl, ?_⟩) (by assumption) ?_
    · (intro w' hSw; obtain ⟨s0, s1, s2, s3, s4⟩ := hSw; go_simp)
    try simp only [Act.put, List.setIfInBounds_toArray, List.set_cons_zero, List.set_cons_succ]
    refine wpAnyH_take (i := 16) (oi := ⟨some 35, .fieldAddr 73 (.tmp 2) 0, 0, "conf.go:166", _, none⟩) (v := .pointer (some ⟨w.heap.size, 0, none⟩)) rfl (by kernel_rfl) (by kernel_rfl) (by kernel_rfl) (fun _ _ _ h => h) (Or.inl ⟨by rfl, ?_⟩) (by assumption) ?_
    · (intro w' hSw; obtain ⟨s0, s1, s2, s3, s4⟩ := hSw; go_simp)
    try simp only [Act.put, List.setIfInBounds_toArray, List.set_cons_zero, List.set_cons_succ]
    refine wpAnyH_ready (rs := [17]) (by kernel_rfl) (by simp) ?_
    refine AllReadyH.cons rfl (fun K hK => ?_) AllReadyH.nil
    go_simp
    refine hK.out _ _ (HC.out _ (reads_drew (Reads.set HR1.out _ _))) (fun hHeld => ?_)
    clear hK K
    try simp only [Act.put, List.setIfInBounds_toArray, List.set_cons_zero, List.set_cons_succ]
    refine wpAnyH_take (i := 18) (oi := ⟨some 36, .fieldAddr 73 (.tmp 2) 1, 0, "conf.go:166", _, none⟩) (v := .pointer (some ⟨w.heap.size, 1, none⟩)) rfl (by kernel_rfl) (by kernel_rfl) (by kernel_rfl) (fun _ _ _ h => h) (Or.inl ⟨by rfl, ?_⟩) (by assumption) ?_
    · (intro w' hSw; obtain ⟨s0, s1, s2, s3, s4⟩ := hSw; go_simp)
    try simp only [Act.put, List.setIfInBounds_toArray, List.set_cons_zero, List.set_cons_succ]
    refine wpAnyH_ready (rs := [19]) (by kernel_rfl) (by simp) ?_
    refine AllReadyH.cons rfl (fun K hK => ?_) AllReadyH.nil
    go_simp
    refine hK.out _ _ (HC.out _ (reads_drew (Reads.set (Reads.set HR1.out _ _) _ _))) (fun hHeld => ?_)
    clear hK K
    try simp only [Act.put, List.setIfInBounds_toArray, List.set_cons_zero, List.set_cons_succ]
    refine wpAnyH_take (i := 20) (oi := ⟨some 37, .fieldAddr 73 (.tmp 2) 2, 0, "conf.go:166", _, none⟩) (v := .pointer (some ⟨w.heap.size, 2, none⟩)) rfl (by kernel_rfl) (by kernel_rfl) (by kernel_rfl) (fun _ _ _ h => h) (Or.inl ⟨by rfl, ?_⟩) (by assumption) ?_
    · (intro w' hSw; obtain ⟨s0, s1, s2, s3, s4⟩ := hSw; go_simp)
    try simp only [Act.put, List.setIfInBounds_toArray, List.set_cons_zero, List.set_cons_succ]
    refine wpAnyH_ready (rs := [21]) (by kernel_rfl) (by simp) ?_
    refine AllReadyH.cons rfl (fun K hK => ?_) AllReadyH.nil
    go_simp
    refine hK.out _ _ (HC.out _ (reads_drew (Reads.set (Reads.set (Reads.set (Reads.set (Reads.set HR1.out _ _) _ _) _ _) _ _) _ _))) (fun hHeld => ?_)
    clear hK K
    try simp only [Act.put, List.setIfInBounds_toArray, List.set_cons_zero, List.set_cons_succ]
    refine wpAnyH_done (by kernel_rfl) ?_ _
    clear hHeld
    go_wp2_with (first | (refine st_load rfl KW.out rfl ?_) | (refine st_store rfl rfl K2W.out rfl ?_))
    have HZ : Hid ((⟨z0, z1, z2, z3, z4, s.a, s.n, s.cap, s.t⟩ : Sv) = mkS { d with i := z0, m := z1, c := z2, v := z3, f := z4 } a n cap) := Lib.hid (by rw [← HS.out]; rfl)
    exact bodyPost_ret (results_st rfl _ _ (w.heap.size + 1) _ rfl (K2W.out.store _)) rfl ⟨(below_row KB.out (by omega) _).mono HB.out, .inl ⟨_, a, n, cap, HWD.out, by rw [HZ.out]; rfl, own_below HO.out (below_row KB.out (by omega) _)⟩⟩
  · rw [← R1.out] at hr1; rw [h1] at hr1; cases hr1
end Go.Proofs.YteoodompphhkbaaGreatDoor.K

/-
  WHAT IS PROVED: the contract of (State).with at a line that isn't a first one. Conditions: as With's.
-/
namespace Go.Proofs.YteoodompphhkbaaGreatDoor.K
set_option maxRecDepth 100000
open Go.RowKit C

theorem step_append_kn {P : Program} (w : World) {ops : Array Oper} {o : Oper} {a : Act} {K : Act → World → Prop} {Q : Exit → Act → World → Prop} {E : Prop} (hgd : o.guard = none) (s x : Operand) (t : TypeId)
    (ho : o.op = .call { callee := .builtin .append, args := #[s, x], argTypes := #[t, t] }) (v : Value) (A : Option Addr) (m c : Nat) (hs : a.eval s = v) (hx : a.eval x = .slice A m c) {v' : Value} {w' : World} (hrun : (Builtin.append_ #[t, t] o.type #[v, .slice A m c]).run P w = .ok v' w')
    (h : K (a.put o.dst v') w') :
    if Region.wanted o (yielded ops a.tmps) = true then Oper.wp P o a w K Q else E := by
  have hw : Region.wanted o (yielded ops a.tmps) = true := by simp [Region.wanted, hgd]
  rw [if_pos hw]
  unfold Oper.wp execOp
  simp only [ho, resolve, invoke, builtin, Sem.run_bind, Sem.run_pure, Result.andThen_ok, List.map_toArray, List.map_cons, List.map_nil, hs, hx, hrun]
  exact h
theorem yields_st {ops : Array Oper} {S : World → Prop} {a : Act} {dst : Option Tmp} {ty : TypeId} {pos : String} {after : Array Edge} {x : Operand} {b : Nat} {s : Sv} (hx : a.eval x = .pointer (some ⟨b, 0, none⟩)) (hS : ∀ w, S w → StAt w b s) :
    YieldsIf Tryz.prog ops S ⟨dst, .load 73 x, ty, pos, after, none⟩ (.agg (stv s)) a :=
  .inl ⟨rfl, fun w hw => by
    unfold execOp
    simp only [hx, Instr.loadAt, Instr.sureAddr, Sem.run_bind, Sem.run_pure, Result.andThen_ok, run_loadVar_row w b 73 73 (stv s) (0, 0) _ (hS w hw) Tryz.underlying73 rfl (st_size s)]⟩
theorem cell_row_far {w : World} {p : Addr} {v : Value} (_ : w.cell? p = some v) {g : Nat} {cs : Array Value} (hg : p.block ≠ g) : (w.setRow g cs).cell? p = w.cell? p := World.cell?_of_block (setRow_other w g p.block cs hg)
/-- a row stays behind stores into other blocks -/
theorem own_row6 {w : World} {base n g c : Nat} {A : Option Addr} {xs : List Value} {v : Value} {cs : Array Value} {e : TypeId} (h : w.ownsRow base e 3 (.slice A n c) n xs) (hg : ∀ b, (Value.slice A n c).ownBlock = some b → b ≠ g ∧ b ≠ g + 1) : ((w.setCell ⟨g, 5, none⟩ v).setRow (g + 1) cs).ownsRow base e 3 (.slice A n c) n xs := by
  refine ⟨h.1, ?_⟩
  rcases h.2 with h0 | ⟨b, cap, cur, hv, hb, hh, hr⟩
  · exact .inl h0
  · have hk := hg b (by rw [hv]; rfl)
    exact .inr ⟨b, cap, cur, hv, hb, (setRow_other _ _ _ _ hk.2).trans ((Below.heap_setCell w ⟨g, 5, none⟩ v b hk.1).trans hh), hr⟩

set_option maxRecDepth 100000 in
set_option maxHeartbeats 1000000 in
theorem with_2 (d : Dt) (a : Option Addr) (n cap base : Nat) (line : List UInt8) (hl : line.length ≤ 4294967200) (w : World) (hE : Env w) (hb : base ≤ w.heap.size) (hn : n ≤ 999999) (h1 : numsP line selfN = none) (hown : w.ownsRow base 111 3 (.slice a n cap) n (flatK d.l)) :
    Calls Tryz.prog 229 #[.agg (stv (mkS d a n cap)), .string (str line)] w (WithD base (withD d line) w) := by
  have HE := Lib.hid hE
  have HO := Lib.hid hown
  have HB := Lib.hid hb
  clear hE hown hb
  obtain ⟨r1, R1⟩ : ∃ r, Hid (numsP line selfN = r) := ⟨_, Lib.hid rfl⟩
  obtain ⟨r2, R2⟩ : ∃ r, Hid (numsP line nodeN = r) := ⟨_, Lib.hid rfl⟩
  obtain ⟨r3, R3⟩ : ∃ r, Hid (numsP line slotsN = r) := ⟨_, Lib.hid rfl⟩
  obtain ⟨s, HS⟩ : ∃ s, Hid (mkS d a n cap = s) := ⟨_, Lib.hid rfl⟩
  rw [HS.out]
  obtain ⟨j1, j2, j3⟩ := three_sts w s Sv.zero (.cells #[.string ⟨#[115, 101, 108, 102]⟩, .string ⟨#[109, 97, 115, 116, 101, 114]⟩, .string ⟨#[99, 117, 114, 114, 101, 110, 116]⟩, .string ⟨#[118, 111, 116, 101]⟩, .string ⟨#[99, 111, 110, 102, 105, 103]⟩] 9)
  have J1 := Lib.hid j1
  have J2 := Lib.hid j2
  have J3 := Lib.hid j3
  have JR := Lib.hid (reads_new ((w.alloc (.cells (stv s) 73)).alloc (.cells (stv Sv.zero) 73)) 9 (strV selfN) #[.string ⟨#[115, 101, 108, 102]⟩, .string ⟨#[109, 97, 115, 116, 101, 114]⟩, .string ⟨#[99, 117, 114, 114, 101, 110, 116]⟩, .string ⟨#[118, 111, 116, 101]⟩, .string ⟨#[99, 111, 110, 102, 105, 103]⟩] w.heap.size (w.heap.size + 1 + 1) 5 (by simp) rfl rfl (by omega))
  have JE := Lib.hid (env_three (a := .cells (stv s) 73) (b := .cells (stv Sv.zero) 73) (c := .cells #[.string ⟨#[115, 101, 108, 102]⟩, .string ⟨#[109, 97, 115, 116, 101, 114]⟩, .string ⟨#[99, 117, 114, 114, 101, 110, 116]⟩, .string ⟨#[118, 111, 116, 101]⟩, .string ⟨#[99, 111, 110, 102, 105, 103]⟩] 9) HE.out)
  clear j1 j2 j3
  obtain ⟨res, HRES⟩ : ∃ r, Hid (withD d line = r) := ⟨_, Lib.hid rfl⟩
  rw [HRES.out]
  have C1 := Lib.hid (numbers_at line hl selfN 5 r1 rfl R1.out (some ⟨w.heap.size + 1 + 1, 0, none⟩) 5 w.heap.size _ JE.out (by decide) JR.out)
  go_enter Tryz.func229, Tryz.ntmps229
  go_wp2_with (first | refine st_alloc rfl ?_)
  with_reducible refine C1.out.mono ?_
  rintro e w1 ⟨hb1, hcase⟩
  have K1 := Lib.hid (J1.out.later hb1)
  have K2 := Lib.hid (J2.out.later hb1)
  have K3 := Lib.hid (J3.out.trans (hb1.mono J3.out.size))
  have KE := Lib.hid (JE.out.below hb1)
  have KO := Lib.hid (own_below HO.out K3.out)
  have KS : Hid (w.heap.size + 1 < w1.heap.size) := Lib.hid K2.out.lt
  have KG : Hid (w.heap.size < (((w.alloc (.cells (stv s) 73)).alloc (.cells (stv Sv.zero) 73)).alloc (.cells #[.string ⟨#[115, 101, 108, 102]⟩, .string ⟨#[109, 97, 115, 116, 101, 114]⟩, .string ⟨#[99, 117, 114, 114, 101, 110, 116]⟩, .string ⟨#[118, 111, 116, 101]⟩, .string ⟨#[99, 111, 110, 102, 105, 103]⟩] 9)).heap.size) := Lib.hid (by simp; omega)
  clear hb1 C1 JR JE J1 J2 J3
  rcases hcase with ⟨zs, A1, c1, hr1, rfl, hzc, hzm, hrd⟩ | ⟨hr1, rfl⟩
  · rw [← R1.out] at hr1; rw [h1] at hr1; cases hr1
  · clear hr1 KG
    have J1 := Lib.hid (K1.out.alloc (.cells #[.string ⟨#[110, 111, 100, 101]⟩, .string ⟨#[109, 97, 115, 116, 101, 114]⟩, .string ⟨#[99, 111, 110, 102, 105, 103]⟩] 9))
    have J2 := Lib.hid (K2.out.alloc (.cells #[.string ⟨#[110, 111, 100, 101]⟩, .string ⟨#[109, 97, 115, 116, 101, 114]⟩, .string ⟨#[99, 111, 110, 102, 105, 103]⟩] 9))
    have J3 := Lib.hid (K3.out.alloc K3.out.size (.cells #[.string ⟨#[110, 111, 100, 101]⟩, .string ⟨#[109, 97, 115, 116, 101, 114]⟩, .string ⟨#[99, 111, 110, 102, 105, 103]⟩] 9))
    have JR := Lib.hid (reads_new w1 9 (strV nodeN) #[.string ⟨#[110, 111, 100, 101]⟩, .string ⟨#[109, 97, 115, 116, 101, 114]⟩, .string ⟨#[99, 111, 110, 102, 105, 103]⟩] w.heap.size w1.heap.size 3 rfl rfl rfl (by have := KS.out; omega))
    have JE := Lib.hid (KE.out.alloc (.cells #[.string ⟨#[110, 111, 100, 101]⟩, .string ⟨#[109, 97, 115, 116, 101, 114]⟩, .string ⟨#[99, 111, 110, 102, 105, 103]⟩] 9))
    have C2 := Lib.hid (numbers_at line hl nodeN 3 r2 rfl R2.out (some ⟨w1.heap.size, 0, none⟩) 3 w.heap.size _ JE.out (by decide) JR.out)
    have KG : Hid (w.heap.size < (w1.alloc (.cells #[.string ⟨#[110, 111, 100, 101]⟩, .string ⟨#[109, 97, 115, 116, 101, 114]⟩, .string ⟨#[99, 111, 110, 102, 105, 103]⟩] 9)).heap.size) := Lib.hid (by have := KS.out; simp; omega)
    go_wp2_with (fail)
    with_reducible refine C2.out.mono ?_
    rintro e w2 ⟨hb2, hcase⟩
    have L1 := Lib.hid (J1.out.later hb2)
    have L2 := Lib.hid (J2.out.later hb2)
    have L3 := Lib.hid (J3.out.trans (hb2.mono J3.out.size))
    have LE := Lib.hid (JE.out.below hb2)
    have LS : Hid (w.heap.size + 1 < w2.heap.size) := Lib.hid L2.out.lt
    clear hb2 C2 JR JE J1 J2 J3 K1 K2 K3 KE KO
    rcases hcase with ⟨zs, A1, c1, hr2, rfl, hzc, hzm, hrd⟩ | ⟨hr2, rfl⟩
    · obtain ⟨z0, z1, z2, rfl⟩ := three (nums_len (R2.out.trans hr2))
      have HWD : Hid (res = some { d with l := d.l ++ [⟨z0, z1, z2⟩] }) := Lib.hid (by rw [← HRES.out]; exact with_node h1 (R2.out.trans hr2))
      have hrd0 := hrd w.heap.size (.inr KG.out)
      have hrdne := fun k hk => ((hrd k hk).2 (Nat.succ_pos _))
      clear hr2 hrd
      obtain ⟨ad, rfl, hltad, hne, _⟩ := hrd0.2 (Nat.succ_pos _)
      have HR1 : Hid (Reads w2 w.heap.size (some ad) 3 (zints [z0, z1, z2])) := Lib.hid hrd0
      clear hrd0
      have hrdall : ∀ k, k < (w1.alloc (.cells #[.string ⟨#[110, 111, 100, 101]⟩, .string ⟨#[109, 97, 115, 116, 101, 114]⟩, .string ⟨#[99, 111, 110, 102, 105, 103]⟩] 9)).heap.size → ad.block ≠ k := fun k hk => by obtain ⟨ad', e, _, h, _⟩ := hrdne k (.inr hk); cases e; exact h
      clear hrdne
      simp only [List.length_cons, List.length_nil, Nat.zero_add, Nat.reduceAdd] at hzc ⊢
      have HADN : Hid (∀ k, (Value.slice a n cap).ownBlock = some k → ad.block ≠ k) := Lib.hid fun k hk => (hrdall k (Nat.lt_trans (HO.out.lt k hk).2 KG.out))
      clear hrdall
      have HC : Hid (∀ w', Reads w' w.heap.size (some ad) 3 (zints [z0, z1, z2]) → w'.cell? ad = some (.int .i64 z0) ∧ w'.cell? ⟨ad.block, ad.off + 1, none⟩ = some (.int .i64 z1) ∧ w'.cell? ⟨ad.block, ad.off + 2, none⟩ = some (.int .i64 z2)) := Lib.hid fun _ h => cells3 h
      obtain ⟨i0, hi0, hz0, hz1, hz2⟩ := info_parts kn_info
      have hlow : ∀ b, (Value.slice a n cap).ownBlock = some b → base ≤ b ∧ b < w.heap.size := fun b e => HO.out.lt b e
      have ho5 : (w2.drew.alloc (.cells #[.int .i64 z0, .int .i64 z1, .int .i64 z2] 111)).ownsRow base 111 3 (.slice a n cap) n (flatK d.l) := World.ownsRow.alloc (show w2.drew.ownsRow _ _ _ _ _ _ from own_below HO.out L3.out.drew) _
      have hr5 := KnAt.one w2.drew ⟨z0, z1, z2⟩ 111
      have hs5 : base ≤ (w2.drew.alloc (.cells #[.int .i64 z0, .int .i64 z1, .int .i64 z2] 111)).heap.size := by simp; have := HB.out; have := LS.out; show base ≤ w2.heap.size + 1; omega
      obtain ⟨v6, w6, hrun, ho6, hg6, hob⟩ := run_append_kn (P := Tryz.prog) (w2.drew.alloc (.cells #[.int .i64 z0, .int .i64 z1, .int .i64 z2] 111)) base 68 68 111 i0 _ Tryz.underlying68 hi0 hz0 hz1 hz2 rfl (.slice a n cap) n _ ho5 (some ⟨w2.heap.size, 0, none⟩) 1 1 [⟨z0, z1, z2⟩] hr5 (by omega) hs5
      obtain ⟨A6, c6, rfl, _, _, _⟩ := own_kn ho6
      have HRUN := Lib.hid hrun
      have HBK : Hid (∀ b, (Value.slice A6 (n + 1) c6).ownBlock = some b → b ≠ w.heap.size ∧ b ≠ w.heap.size + 1) := Lib.hid fun b e => by
        have hsz : w.heap.size + 1 < w2.heap.size := LS.out
        rcases hob with h | h
        · rw [h] at e; have := (hlow b e).2; omega
        · rw [h] at e; injection e with e; subst e; simp; omega
      have HO6 := Lib.hid ho6
      have hne0 : some w.heap.size ≠ (Value.slice a n cap).ownBlock := fun e => by have := (hlow _ e.symm).2; omega
      have hne1 : some (w.heap.size + 1) ≠ (Value.slice a n cap).ownBlock := fun e => by have := (hlow _ e.symm).2; omega
      have P1 : StAt w6 w.heap.size s := Blk.grown (L1.out.drew.alloc (.cells #[.int .i64 z0, .int .i64 z1, .int .i64 z2] 111)) hg6 hne0
      have P2 : StAt w6 (w.heap.size + 1) Sv.zero := Blk.grown (L2.out.drew.alloc (.cells #[.int .i64 z0, .int .i64 z1, .int .i64 z2] 111)) hg6 hne1
      have P3 : Below base w w6 := ((L3.out.drew.alloc (Nat.le_of_lt (Nat.lt_trans (Nat.lt_succ_self _) (show w.heap.size + 1 < w2.drew.heap.size from LS.out))) (.cells #[.int .i64 z0, .int .i64 z1, .int .i64 z2] 111)).mono HB.out).grown hg6 hs5 (fun b e => (hlow b e).1)
      have X1 := Lib.hid (P1.set5 A6 (n + 1) c6)
      have X2 := Lib.hid (P2.far (p := ⟨w.heap.size, 5, none⟩) (by show w.heap.size + 1 ≠ w.heap.size; omega) (.slice A6 (n + 1) c6))
      have X3 := Lib.hid (below_set P3 (p := ⟨w.heap.size, 5, none⟩) HB.out (.slice A6 (n + 1) c6))
      have q5 := (P1.box).2.2.2.2.2
      have qf := P1.fz
      have HZ : Hid ((⟨s.i, s.m, s.c, s.v, s.f, A6, n + 1, c6, s.t⟩ : Sv) = mkS { d with l := d.l ++ [⟨z0, z1, z2⟩] } A6 (n + 1) c6) := Lib.hid (by rw [← HS.out]; rfl)
      have d1 : w2.drew.cell? ⟨w.heap.size, 5, none⟩ = some (.slice a n cap) := by have := L1.out.drew.box.2.2.2.2.2; rw [← HS.out] at this; exact this
      have e1 : (w2.drew.alloc (.cells #[.int .i64 z0, .int .i64 z1, .int .i64 z2] 111)).cell? ⟨w.heap.size, 5, none⟩ = some (.slice a n cap) := by have := (L1.out.drew.alloc (.cells #[.int .i64 z0, .int .i64 z1, .int .i64 z2] 111)).box.2.2.2.2.2; rw [← HS.out] at this; exact this
      have e1b : (w2.alloc (.cells #[.int .i64 z0, .int .i64 z1, .int .i64 z2] 111)).drew.cell? ⟨w.heap.size, 5, none⟩ = some (.slice a n cap) := e1
      have d2 := HC.out _ (reads_drew HR1.out)
      have e2 : _ ∧ _ ∧ _ := HC.out (w2.drew.alloc (.cells #[.int .i64 z0, .int .i64 z1, .int .i64 z2] 111)) ((reads_drew HR1.out).below ((Below.refl _ _).alloc (Nat.le_refl _) _))
      have hfar : ∀ p : Addr, p.block = ad.block → w6.cell? p = (w2.drew.alloc (.cells #[.int .i64 z0, .int .i64 z1, .int .i64 z2] 111)).cell? p := fun p hp => World.cell?_of_block (hg6.block p.block (by rw [hp]; simp; exact Nat.lt_succ_of_lt (show ad.block < w2.heap.size from hltad)) (fun e => HADN.out _ (by rw [← e]) hp.symm))
      have g2 : w6.cell? ad = some (.int .i64 z0) ∧ w6.cell? ⟨ad.block, ad.off + 1, none⟩ = some (.int .i64 z1) ∧ w6.cell? ⟨ad.block, ad.off + 2, none⟩ = some (.int .i64 z2) := ⟨(hfar ad rfl).trans e2.1, (hfar ⟨ad.block, ad.off + 1, none⟩ rfl).trans e2.2.1, (hfar ⟨ad.block, ad.off + 2, none⟩ rfl).trans e2.2.2⟩
      have hf2 : ∀ p : Addr, p.block = ad.block → (w6.setCell ⟨w.heap.size, 5, none⟩ (.slice A6 (n + 1) c6)).cell? p = w6.cell? p := fun p hp => World.cell?_setCell_far _ _ _ _ (by rw [hp]; exact fun e => hne e.symm)
      have h2 : (w6.setCell ⟨w.heap.size, 5, none⟩ (.slice A6 (n + 1) c6)).cell? ad = some (.int .i64 z0) ∧ (w6.setCell ⟨w.heap.size, 5, none⟩ (.slice A6 (n + 1) c6)).cell? ⟨ad.block, ad.off + 1, none⟩ = some (.int .i64 z1) ∧ (w6.setCell ⟨w.heap.size, 5, none⟩ (.slice A6 (n + 1) c6)).cell? ⟨ad.block, ad.off + 2, none⟩ = some (.int .i64 z2) := ⟨(hf2 ad rfl).trans g2.1, (hf2 ⟨ad.block, ad.off + 1, none⟩ rfl).trans g2.2.1, (hf2 ⟨ad.block, ad.off + 2, none⟩ rfl).trans g2.2.2⟩
      clear hrun hob ho5 hr5 ho6 hg6 P1 P2 P3 hi0 hz0 hz1 hz2 hfar hf2 hne0 hne1 hlow hs5
      go_wp2
      refine wp_region_held_drew (S := fun w' => w'.cell? ad = some (.int .i64 z0) ∧ w'.cell? ⟨ad.block, ad.off + 1, none⟩ = some (.int .i64 z1) ∧ w'.cell? ⟨ad.block, ad.off + 2, none⟩ = some (.int .i64 z2)) (by kernel_rfl) d2 (fun hHeld => ?_)
      refine wpAnyH_take (i := 0) (oi := ⟨some 46, .fieldAddr 73 (.tmp 2) 3, 0, "conf.go:170", _, none⟩) (v := .pointer (some ⟨w.heap.size, 5, none⟩)) rfl (by kernel_rfl) (by kernel_rfl) (by kernel_rfl) (fun _ _ _ h => h) (Or.inl ⟨by rfl, ?_⟩) (by assumption) ?_
      · (intro w' hSw; obtain ⟨s0, s1, s2⟩ := hSw; go_simp)
      try simp only [Act.put, List.setIfInBounds_toArray, List.set_cons_zero, List.set_cons_succ]
      refine wpAnyH_take (i := 2) (oi := ⟨some 48, .move (.tmp 8), 61, "conf.go:170", _, none⟩) (v := .slice (some ad) 3 c1) rfl (by kernel_rfl) (by kernel_rfl) (by kernel_rfl) (fun _ _ _ h => h) (Or.inl ⟨by rfl, ?_⟩) (by assumption) ?_
      · (intro w' hSw; obtain ⟨s0, s1, s2⟩ := hSw; go_simp)
      try simp only [Act.put, List.setIfInBounds_toArray, List.set_cons_zero, List.set_cons_succ]
      refine wpAnyH_take (i := 3) (oi := ⟨some 49, .indexAddr 61 (.tmp 48) (.const (.int .i64 0)), 0, "conf.go:170", _, none⟩) (v := .pointer (some ad)) rfl (by kernel_rfl) (by kernel_rfl) (by kernel_rfl) (fun _ _ _ h => h) (Or.inl ⟨by rfl, ?_⟩) (by assumption) ?_
      · (intro w' hSw; obtain ⟨s0, s1, s2⟩ := hSw; go_simp)
      try simp only [Act.put, List.setIfInBounds_toArray, List.set_cons_zero, List.set_cons_succ]
      refine wpAnyH_take (i := 4) (oi := ⟨some 50, .load 3 (.tmp 49), 3, "conf.go:170", _, none⟩) (v := .int .i64 z0) rfl (by kernel_rfl) (by kernel_rfl) (by kernel_rfl) (fun _ _ _ h => h) (Or.inl ⟨by rfl, ?_⟩) (by assumption) ?_
      · (intro w' hSw; obtain ⟨s0, s1, s2⟩ := hSw; go_simp)
      try simp only [Act.put, List.setIfInBounds_toArray, List.set_cons_zero, List.set_cons_succ]
      refine wpAnyH_take (i := 5) (oi := ⟨some 51, .move (.tmp 8), 61, "conf.go:170", _, none⟩) (v := .slice (some ad) 3 c1) rfl (by kernel_rfl) (by kernel_rfl) (by kernel_rfl) (fun _ _ _ h => h) (Or.inl ⟨by rfl, ?_⟩) (by assumption) ?_
      · (intro w' hSw; obtain ⟨s0, s1, s2⟩ := hSw; go_simp)
      try simp only [Act.put, List.setIfInBounds_toArray, List.set_cons_zero, List.set_cons_succ]
      refine wpAnyH_take (i := 6) (oi := ⟨some 52, .indexAddr 61 (.tmp 51) (.const (.int .i64 1)), 0, "conf.go:170", _, none⟩) (v := .pointer (some ⟨ad.block, ad.off + 1, none⟩)) rfl (by kernel_rfl) (by kernel_rfl) (by kernel_rfl) (fun _ _ _ h => h) (Or.inl ⟨by rfl, ?_⟩) (by assumption) ?_
      · (intro w' hSw; obtain ⟨s0, s1, s2⟩ := hSw; go_simp)
      try simp only [Act.put, List.setIfInBounds_toArray, List.set_cons_zero, List.set_cons_succ]
      refine wpAnyH_take (i := 7) (oi := ⟨some 53, .load 3 (.tmp 52), 3, "conf.go:170", _, none⟩) (v := .int .i64 z1) rfl (by kernel_rfl) (by kernel_rfl) (by kernel_rfl) (fun _ _ _ h => h) (Or.inl ⟨by rfl, ?_⟩) (by assumption) ?_
      · (intro w' hSw; obtain ⟨s0, s1, s2⟩ := hSw; go_simp)
      try simp only [Act.put, List.setIfInBounds_toArray, List.set_cons_zero, List.set_cons_succ]
      refine wpAnyH_take (i := 8) (oi := ⟨some 54, .move (.tmp 8), 61, "conf.go:170", _, none⟩) (v := .slice (some ad) 3 c1) rfl (by kernel_rfl) (by kernel_rfl) (by kernel_rfl) (fun _ _ _ h => h) (Or.inl ⟨by rfl, ?_⟩) (by assumption) ?_
      · (intro w' hSw; obtain ⟨s0, s1, s2⟩ := hSw; go_simp)
      try simp only [Act.put, List.setIfInBounds_toArray, List.set_cons_zero, List.set_cons_succ]
      refine wpAnyH_take (i := 9) (oi := ⟨some 55, .indexAddr 61 (.tmp 54) (.const (.int .i64 2)), 0, "conf.go:170", _, none⟩) (v := .pointer (some ⟨ad.block, ad.off + 2, none⟩)) rfl (by kernel_rfl) (by kernel_rfl) (by kernel_rfl) (fun _ _ _ h => h) (Or.inl ⟨by rfl, ?_⟩) (by assumption) ?_
      · (intro w' hSw; obtain ⟨s0, s1, s2⟩ := hSw; go_simp)
      try simp only [Act.put, List.setIfInBounds_toArray, List.set_cons_zero, List.set_cons_succ]
      refine wpAnyH_take (i := 10) (oi := ⟨some 56, .load 3 (.tmp 55), 3, "conf.go:170", _, none⟩) (v := .int .i64 z2) rfl (by kernel_rfl) (by kernel_rfl) (by kernel_rfl) (fun _ _ _ h => h) (Or.inl ⟨by rfl, ?_⟩) (by assumption) ?_
      · (intro w' hSw; obtain ⟨s0, s1, s2⟩ := hSw; go_simp)
      try simp only [Act.put, List.setIfInBounds_toArray, List.set_cons_zero, List.set_cons_succ]
      refine wpAnyH_take (i := 11) (oi := ⟨some 57, .build 111 #[(0, .tmp 50), (1, .tmp 53), (2, .tmp 56)], 111, "conf.go:170", _, none⟩) (v := .agg #[.int .i64 z0, .int .i64 z1, .int .i64 z2]) rfl (by kernel_rfl) (by kernel_rfl) (by kernel_rfl) (fun _ _ _ h => h) (Or.inl ⟨by rfl, ?_⟩) (by assumption) ?_
      · (intro w' hSw; obtain ⟨s0, s1, s2⟩ := hSw; go_simp)
      try simp only [Act.put, List.setIfInBounds_toArray, List.set_cons_zero, List.set_cons_succ]
      refine wpAnyH_ready (rs := [1, 12]) (by kernel_rfl) (by simp) ?_
      refine AllReadyH.cons rfl (fun K hK => ?_) (AllReadyH.cons rfl (fun K hK => ?_) AllReadyH.nil)
      · go_simp
        refine hK.out _ _ d2 (fun hHeld => ?_)
        clear hK K
        try simp only [Act.put, List.setIfInBounds_toArray, List.set_cons_zero, List.set_cons_succ]
        refine wpAnyH_ready (rs := [12]) (by kernel_rfl) (by simp) ?_
        refine AllReadyH.cons rfl (fun K hK => ?_) AllReadyH.nil
        go_simp
        refine hK.out _ _ e2 (fun hHeld => ?_)
        clear hK K
        try simp only [Act.put, List.setIfInBounds_toArray, List.set_cons_zero, List.set_cons_succ]
        refine wpAnyH_ready (rs := [13]) (by kernel_rfl) (by simp) ?_
        refine AllReadyH.cons rfl (fun K hK => ?_) AllReadyH.nil
        refine step_append_kn _ (by rfl) (.tmp 47) (.tmp 58) 68 (by rfl) _ _ 1 1 (by rfl) (by rfl) HRUN.out ?_
        refine hK.out _ _ g2 (fun hHeld => ?_)
        clear hK K
        try simp only [Act.put, List.setIfInBounds_toArray]
        refine wpAnyH_take (i := 14) (oi := ⟨some 60, .fieldAddr 73 (.tmp 2) 3, 0, "conf.go:170", _, none⟩) (v := .pointer (some ⟨w.heap.size, 5, none⟩)) rfl (by kernel_rfl) (by kernel_rfl) (by kernel_rfl) (fun _ _ _ h => h) (Or.inl ⟨by rfl, ?_⟩) (by assumption) ?_
        · (intro w' hSw; obtain ⟨s0, s1, s2⟩ := hSw; go_simp)
        try simp only [Act.put]
        refine wpAnyH_ready (rs := [15]) (by kernel_rfl) (by simp) ?_
        refine AllReadyH.cons rfl (fun K hK => ?_) AllReadyH.nil
        go_simp
        refine hK.out _ _ h2 (fun hHeld => ?_)
        clear hK K
        try simp only [Act.put, List.setIfInBounds_toArray, List.set_cons_zero, List.set_cons_succ]
        refine wpAnyH_done (by kernel_rfl) ?_ _
        clear hHeld
        go_wp2_with (first | (refine st_load rfl X1.out rfl ?_) | (refine st_store rfl rfl X2.out rfl ?_))
        exact bodyPost_ret (results_st rfl _ _ (w.heap.size + 1) _ rfl (X2.out.store _)) rfl ⟨below_row X3.out (by have := HB.out; omega) _, .inl ⟨_, A6, n + 1, c6, HWD.out, by rw [HZ.out]; rfl, own_row6 HO6.out HBK.out⟩⟩
      · go_simp
        refine hK.out _ _ e2 (fun hHeld => ?_)
        clear hK K
        try simp only [Act.put, List.setIfInBounds_toArray, List.set_cons_zero, List.set_cons_succ]
        refine wpAnyH_ready (rs := [1]) (by kernel_rfl) (by simp) ?_
        refine AllReadyH.cons rfl (fun K hK => ?_) AllReadyH.nil
        go_simp
        refine hK.out _ _ e2 (fun hHeld => ?_)
        clear hK K
        try simp only [Act.put, List.setIfInBounds_toArray, List.set_cons_zero, List.set_cons_succ]
        refine wpAnyH_ready (rs := [13]) (by kernel_rfl) (by simp) ?_
        refine AllReadyH.cons rfl (fun K hK => ?_) AllReadyH.nil
        refine step_append_kn _ (by rfl) (.tmp 47) (.tmp 58) 68 (by rfl) _ _ 1 1 (by rfl) (by rfl) HRUN.out ?_
        refine hK.out _ _ g2 (fun hHeld => ?_)
        clear hK K
        try simp only [Act.put, List.setIfInBounds_toArray]
        refine wpAnyH_take (i := 14) (oi := ⟨some 60, .fieldAddr 73 (.tmp 2) 3, 0, "conf.go:170", _, none⟩) (v := .pointer (some ⟨w.heap.size, 5, none⟩)) rfl (by kernel_rfl) (by kernel_rfl) (by kernel_rfl) (fun _ _ _ h => h) (Or.inl ⟨by rfl, ?_⟩) (by assumption) ?_
        · (intro w' hSw; obtain ⟨s0, s1, s2⟩ := hSw; go_simp)
        try simp only [Act.put]
        refine wpAnyH_ready (rs := [15]) (by kernel_rfl) (by simp) ?_
        refine AllReadyH.cons rfl (fun K hK => ?_) AllReadyH.nil
        go_simp
        refine hK.out _ _ h2 (fun hHeld => ?_)
        clear hK K
        try simp only [Act.put, List.setIfInBounds_toArray, List.set_cons_zero, List.set_cons_succ]
        refine wpAnyH_done (by kernel_rfl) ?_ _
        clear hHeld
        go_wp2_with (first | (refine st_load rfl X1.out rfl ?_) | (refine st_store rfl rfl X2.out rfl ?_))
        exact bodyPost_ret (results_st rfl _ _ (w.heap.size + 1) _ rfl (X2.out.store _)) rfl ⟨below_row X3.out (by have := HB.out; omega) _, .inl ⟨_, A6, n + 1, c6, HWD.out, by rw [HZ.out]; rfl, own_row6 HO6.out HBK.out⟩⟩
    · have J1 := Lib.hid (L1.out.alloc (.cells #[.string ⟨#[115, 108, 111, 116, 115]⟩, .string ⟨#[101, 112, 111, 99, 104]⟩] 9))
      have J2 := Lib.hid (L2.out.alloc (.cells #[.string ⟨#[115, 108, 111, 116, 115]⟩, .string ⟨#[101, 112, 111, 99, 104]⟩] 9))
      have J3 := Lib.hid (L3.out.alloc L3.out.size (.cells #[.string ⟨#[115, 108, 111, 116, 115]⟩, .string ⟨#[101, 112, 111, 99, 104]⟩] 9))
      have JR := Lib.hid (reads_new w2 9 (strV slotsN) #[.string ⟨#[115, 108, 111, 116, 115]⟩, .string ⟨#[101, 112, 111, 99, 104]⟩] w.heap.size w2.heap.size 2 rfl rfl rfl (by have := LS.out; omega))
      have JE := Lib.hid (LE.out.alloc (.cells #[.string ⟨#[115, 108, 111, 116, 115]⟩, .string ⟨#[101, 112, 111, 99, 104]⟩] 9))
      have C3 := Lib.hid (numbers_at line hl slotsN 2 r3 rfl R3.out (some ⟨w2.heap.size, 0, none⟩) 2 w.heap.size _ JE.out (by decide) JR.out)
      have KG2 : Hid (w.heap.size < (w2.alloc (.cells #[.string ⟨#[115, 108, 111, 116, 115]⟩, .string ⟨#[101, 112, 111, 99, 104]⟩] 9)).heap.size) := Lib.hid (by have := LS.out; simp; omega)
      have hr2' := R2.out.trans hr2
      have LS2 := LS
      go_wp2_with (fail)
      with_reducible refine C3.out.mono ?_
      rintro e w3 ⟨hb3, hcase⟩
      have M1 := Lib.hid (J1.out.later hb3)
      have M2 := Lib.hid (J2.out.later hb3)
      have M3 := Lib.hid (J3.out.trans (hb3.mono J3.out.size))
      have ME := Lib.hid (JE.out.below hb3)
      have MS : Hid (w.heap.size + 1 < w3.heap.size) := Lib.hid M2.out.lt
      clear hb3 C3 JR JE J1 J2 J3 L1 L2 L3 LE
      rcases hcase with ⟨zs, A1, c1, hr3, rfl, hzc, hzm, hrd⟩ | ⟨hr3, rfl⟩
      · obtain ⟨z0, z1, rfl⟩ := two (nums_len (R3.out.trans hr3))
        have HWD : Hid (res = (wsP d.t z0 z1 line).map fun T => { d with t := T }) := Lib.hid (by rw [← HRES.out]; exact with_slots h1 hr2' (R3.out.trans hr3))
        have hrd0 := hrd w.heap.size (.inr KG2.out)
        have hrd1 := hrd (w.heap.size + 1) (.inr (by have := LS2.out; simp; omega))
        clear hr3 hrd hr2 hr2'
        obtain ⟨ad, rfl, hltad, hne, _⟩ := hrd0.2 (Nat.succ_pos _)
        have hne1 : ad.block ≠ w.heap.size + 1 := by obtain ⟨ad', e, _, h, _⟩ := hrd1.2 (Nat.succ_pos _); cases e; exact h
        clear hrd1
        have HR1 : Hid (Reads w3 w.heap.size (some ad) 2 (zints [z0, z1])) := Lib.hid hrd0
        clear hrd0
        have HNB : Hid (ad.block ≠ w.heap.size + 1) := Lib.hid hne1
        simp only [List.length_cons, List.length_nil, Nat.zero_add, Nat.reduceAdd] at hzc ⊢
        have HD2 := cells2 (reads_drew HR1.out)
        have HEd : Hid (Env w3.drew) := Lib.hid (ME.out.drewN 1)
        have HST : Hid (s.t = d.t) := Lib.hid (by rw [← HS.out]; rfl)
        go_wp2
        refine wp_region_held_drew (S := fun w' => (StAt w' w.heap.size s ∧ w'.cell? ad = some (.int .i64 z0) ∧ w'.cell? ⟨ad.block, ad.off + 1, none⟩ = some (.int .i64 z1)) ∧ (∃ u, StAt w' (w.heap.size + 1) u) ∧ Below w.heap.size w w' ∧ ad.block < w'.heap.size) (by kernel_rfl) ⟨⟨M1.out.drew, HD2⟩, ⟨_, M2.out.drew⟩, M3.out.drew, hltad⟩ (fun hHeld => ?_)
        refine wpAnyH_take (i := 0) (oi := ⟨some 69, .load 73 (.tmp 2), 73, "conf.go:174", _, none⟩) (v := .agg (stv s)) rfl (by kernel_rfl) (by kernel_rfl) (by kernel_rfl) (fun _ _ _ h => h) (yields_st rfl fun _ h => h.1.1) (by assumption) ?_
        try simp only [Act.put, List.setIfInBounds_toArray, List.set_cons_zero, List.set_cons_succ]
        refine wpAnyH_take (i := 1) (oi := ⟨some 70, .move (.tmp 10), 61, "conf.go:174", _, none⟩) (v := .slice (some ad) 2 c1) rfl (by kernel_rfl) (by kernel_rfl) (by kernel_rfl) (fun _ _ _ h => h) (Or.inl ⟨by rfl, ?_⟩) (by assumption) ?_
        · (intro w' hSw; obtain ⟨⟨_, s0, s1⟩, _⟩ := hSw; go_simp)
        try simp only [Act.put, List.setIfInBounds_toArray, List.set_cons_zero, List.set_cons_succ]
        refine wpAnyH_take (i := 2) (oi := ⟨some 71, .indexAddr 61 (.tmp 70) (.const (.int .i64 0)), 0, "conf.go:174", _, none⟩) (v := .pointer (some ad)) rfl (by kernel_rfl) (by kernel_rfl) (by kernel_rfl) (fun _ _ _ h => h) (Or.inl ⟨by rfl, ?_⟩) (by assumption) ?_
        · (intro w' hSw; obtain ⟨⟨_, s0, s1⟩, _⟩ := hSw; go_simp)
        try simp only [Act.put, List.setIfInBounds_toArray, List.set_cons_zero, List.set_cons_succ]
        refine wpAnyH_take (i := 3) (oi := ⟨some 72, .load 3 (.tmp 71), 3, "conf.go:174", _, none⟩) (v := .int .i64 z0) rfl (by kernel_rfl) (by kernel_rfl) (by kernel_rfl) (fun _ _ _ h => h) (Or.inl ⟨by rfl, ?_⟩) (by assumption) ?_
        · (intro w' hSw; obtain ⟨⟨_, s0, s1⟩, _⟩ := hSw; go_simp)
        try simp only [Act.put, List.setIfInBounds_toArray, List.set_cons_zero, List.set_cons_succ]
        refine wpAnyH_take (i := 4) (oi := ⟨some 73, .move (.tmp 10), 61, "conf.go:174", _, none⟩) (v := .slice (some ad) 2 c1) rfl (by kernel_rfl) (by kernel_rfl) (by kernel_rfl) (fun _ _ _ h => h) (Or.inl ⟨by rfl, ?_⟩) (by assumption) ?_
        · (intro w' hSw; obtain ⟨⟨_, s0, s1⟩, _⟩ := hSw; go_simp)
        try simp only [Act.put, List.setIfInBounds_toArray, List.set_cons_zero, List.set_cons_succ]
        refine wpAnyH_take (i := 5) (oi := ⟨some 74, .indexAddr 61 (.tmp 73) (.const (.int .i64 1)), 0, "conf.go:174", _, none⟩) (v := .pointer (some ⟨ad.block, ad.off + 1, none⟩)) rfl (by kernel_rfl) (by kernel_rfl) (by kernel_rfl) (fun _ _ _ h => h) (Or.inl ⟨by rfl, ?_⟩) (by assumption) ?_
        · (intro w' hSw; obtain ⟨⟨_, s0, s1⟩, _⟩ := hSw; go_simp)
        try simp only [Act.put, List.setIfInBounds_toArray, List.set_cons_zero, List.set_cons_succ]
        refine wpAnyH_take (i := 6) (oi := ⟨some 75, .load 3 (.tmp 74), 3, "conf.go:174", _, none⟩) (v := .int .i64 z1) rfl (by kernel_rfl) (by kernel_rfl) (by kernel_rfl) (fun _ _ _ h => h) (Or.inl ⟨by rfl, ?_⟩) (by assumption) ?_
        · (intro w' hSw; obtain ⟨⟨_, s0, s1⟩, _⟩ := hSw; go_simp)
        try simp only [Act.put, List.setIfInBounds_toArray, List.set_cons_zero, List.set_cons_succ]
        refine wpAnyH_take (i := 7) (oi := ⟨some 76, .move (.tmp 1), 9, "conf.go:174", _, none⟩) (v := .string (str line)) rfl (by kernel_rfl) (by kernel_rfl) (by kernel_rfl) (fun _ _ _ h => h) (Or.inl ⟨by rfl, ?_⟩) (by assumption) ?_
        · (intro w' hSw; obtain ⟨⟨_, s0, s1⟩, _⟩ := hSw; go_simp)
        try simp only [Act.put, List.setIfInBounds_toArray, List.set_cons_zero, List.set_cons_succ]
        refine wpAnyH_ready (rs := [8]) (by kernel_rfl) (by simp) ?_
        refine AllReadyH.cons rfl (fun K hK => ?_) AllReadyH.nil
        go_simp
        refine (withslots_any s z0 z1 line hl _ HEd.out).mono ?_
        rintro e w4 ⟨hb4, hcase⟩
        obtain ⟨⟨hA, hs0, hs1⟩, ⟨u0, hU⟩, hB, hlad⟩ := hHeld
        have hs0' := (hb4.cell (p := ad) hlad).trans hs0
        have hs1' := (hb4.cell (p := ⟨ad.block, ad.off + 1, none⟩) hlad).trans hs1
        have hA4 := hA.later hb4
        have hU4 := hU.later hb4
        have hB4 := hB.trans (hb4.mono hB.size)
        have hl4 := Nat.lt_of_lt_of_le hlad hb4.size
        clear hA hs0 hs1 hU hB hlad hb4
        rcases hcase with ⟨s2, hs2, rfl⟩ | ⟨hs2, rfl⟩
        · have HW3 : ∃ T, wsP s.t z0 z1 line = some T ∧ s2 = withT s T := by
            cases hq : wsP s.t z0 z1 line with
            | none => rw [hq] at hs2; cases hs2
            | some T => rw [hq] at hs2; simp at hs2; exact ⟨T, rfl, hs2.symm⟩
          obtain ⟨T, hT, rfl⟩ := HW3
          have HW2 : Hid (res = some { d with t := T }) := Lib.hid (by rw [HWD.out, ← HST.out, hT]; rfl)
          have HZ2 : Hid (withT s T = mkS { d with t := T } a n cap) := Lib.hid (by rw [← HS.out]; rfl)
          clear hs2 hT
          refine hK.out _ _ ⟨⟨hA4, hs0', hs1'⟩, ⟨u0, hU4⟩, hB4, hl4⟩ (fun hHeld => ?_)
          clear hK K hA4 hs0' hs1' hU4 hB4 hl4
          try simp only [Act.put, List.setIfInBounds_toArray, List.set_cons_zero, List.set_cons_succ]
          refine wpAnyH_take (i := 9) (oi := ⟨some 78, .extract (.tmp 77) 0, 73, "conf.go:174", _, none⟩) (v := .agg (stv (withT s T))) rfl (by kernel_rfl) (by kernel_rfl) (by kernel_rfl) (fun _ _ _ h => h) (Or.inl ⟨by rfl, ?_⟩) (by assumption) ?_
          · (intro w' hSw; clear hSw; go_simp)
          try simp only [Act.put, List.setIfInBounds_toArray, List.set_cons_zero, List.set_cons_succ]
          refine wpAnyH_take (i := 10) (oi := ⟨some 79, .extract (.tmp 77) 1, 4, "conf.go:174", _, none⟩) (v := .bool true) rfl (by kernel_rfl) (by kernel_rfl) (by kernel_rfl) (fun _ _ _ h => h) (Or.inl ⟨by rfl, ?_⟩) (by assumption) ?_
          · (intro w' hSw; clear hSw; go_simp)
          try simp only [Act.put, List.setIfInBounds_toArray, List.set_cons_zero, List.set_cons_succ]
          refine wpAnyH_ready (rs := [11]) (by kernel_rfl) (by simp) ?_
          refine AllReadyH.cons (o := ⟨none, .store 73 (.tmp 4) (.tmp 78), 0, "conf.go:174", _, none⟩) rfl (fun K hK => ?_) AllReadyH.nil
          rw [if_pos (by rfl)]
          obtain ⟨⟨hA, hs0, hs1⟩, ⟨u1, hU⟩, hB, hlad⟩ := hHeld
          have hb5 := below_row hB (g := w.heap.size + 1) (by omega) (stv (withT s T))
          have hU5 := Lib.hid (hU.store (withT s T))
          have hX := Lib.hid hb5
          refine wp_store_row 73 (.tmp 4) (.tmp 78) rfl (w.heap.size + 1) (stv (withT s T)) rfl rfl _ (stv u1) hU (st_size (withT s T)) (by rw [stv_size, stv_size]) (stv_cells (withT s T)) ?_
          refine hK.out _ _ ⟨⟨hA.row_far (by omega) _, (cell_row_far hs0 (fun e => HNB.out e)).trans hs0, (cell_row_far hs1 (fun e => HNB.out e)).trans hs1⟩, ⟨_, hU.store (withT s T)⟩, hb5, by rw [size_setRow]; exact hlad⟩ (fun hHeld => ?_)
          clear hK K hA hs0 hs1 hU hB hlad
          try simp only [Act.put]
          refine wpAnyH_take (i := 12) (oi := ⟨some 5, .assign (.tmp 79), 4, "conf.go:174", _, none⟩) (v := .bool true) rfl (by kernel_rfl) (by kernel_rfl) (by kernel_rfl) (fun _ _ _ h => h) (Or.inl ⟨by rfl, ?_⟩) (by assumption) ?_
          · (intro w' hSw; clear hSw; go_simp)
          try simp only [Act.put, List.setIfInBounds_toArray, List.set_cons_zero, List.set_cons_succ]
          refine wpAnyH_done (by kernel_rfl) ?_ _
          clear hHeld
          go_wp2
          exact bodyPost_ret (results_st rfl _ _ (w.heap.size + 1) _ rfl hU5.out) rfl ⟨hX.out.mono HB.out, .inl ⟨_, a, n, cap, HW2.out, by rw [HZ2.out]; rfl, own_below HO.out hX.out⟩⟩
        · have HW2 : Hid (res = none) := Lib.hid (by
            rw [HWD.out, ← HST.out]
            cases hq : wsP s.t z0 z1 line with
            | none => rfl
            | some T => rw [hq] at hs2; cases hs2)
          clear hs2
          refine hK.out _ _ ⟨⟨hA4, hs0', hs1'⟩, ⟨u0, hU4⟩, hB4, hl4⟩ (fun hHeld => ?_)
          clear hK K hA4 hs0' hs1' hU4 hB4 hl4
          try simp only [Act.put, List.setIfInBounds_toArray, List.set_cons_zero, List.set_cons_succ]
          refine wpAnyH_take (i := 9) (oi := ⟨some 78, .extract (.tmp 77) 0, 73, "conf.go:174", _, none⟩) (v := .agg (stv Sv.zero)) rfl (by kernel_rfl) (by kernel_rfl) (by kernel_rfl) (fun _ _ _ h => h) (Or.inl ⟨by rfl, ?_⟩) (by assumption) ?_
          · (intro w' hSw; clear hSw; go_simp)
          try simp only [Act.put, List.setIfInBounds_toArray, List.set_cons_zero, List.set_cons_succ]
          refine wpAnyH_take (i := 10) (oi := ⟨some 79, .extract (.tmp 77) 1, 4, "conf.go:174", _, none⟩) (v := .bool false) rfl (by kernel_rfl) (by kernel_rfl) (by kernel_rfl) (fun _ _ _ h => h) (Or.inl ⟨by rfl, ?_⟩) (by assumption) ?_
          · (intro w' hSw; clear hSw; go_simp)
          try simp only [Act.put, List.setIfInBounds_toArray, List.set_cons_zero, List.set_cons_succ]
          refine wpAnyH_ready (rs := [11]) (by kernel_rfl) (by simp) ?_
          refine AllReadyH.cons (o := ⟨none, .store 73 (.tmp 4) (.tmp 78), 0, "conf.go:174", _, none⟩) rfl (fun K hK => ?_) AllReadyH.nil
          rw [if_pos (by rfl)]
          obtain ⟨⟨hA, hs0, hs1⟩, ⟨u1, hU⟩, hB, hlad⟩ := hHeld
          have hb5 := below_row hB (g := w.heap.size + 1) (by omega) (stv Sv.zero)
          have hU5 := Lib.hid (hU.store Sv.zero)
          have hX := Lib.hid hb5
          refine wp_store_row 73 (.tmp 4) (.tmp 78) rfl (w.heap.size + 1) (stv Sv.zero) rfl rfl _ (stv u1) hU (st_size Sv.zero) (by rw [stv_size, stv_size]) (stv_cells Sv.zero) ?_
          refine hK.out _ _ ⟨⟨hA.row_far (by omega) _, (cell_row_far hs0 (fun e => HNB.out e)).trans hs0, (cell_row_far hs1 (fun e => HNB.out e)).trans hs1⟩, ⟨_, hU.store Sv.zero⟩, hb5, by rw [size_setRow]; exact hlad⟩ (fun hHeld => ?_)
          clear hK K hA hs0 hs1 hU hB hlad
          try simp only [Act.put]
          refine wpAnyH_take (i := 12) (oi := ⟨some 5, .assign (.tmp 79), 4, "conf.go:174", _, none⟩) (v := .bool false) rfl (by kernel_rfl) (by kernel_rfl) (by kernel_rfl) (fun _ _ _ h => h) (Or.inl ⟨by rfl, ?_⟩) (by assumption) ?_
          · (intro w' hSw; clear hSw; go_simp)
          try simp only [Act.put, List.setIfInBounds_toArray, List.set_cons_zero, List.set_cons_succ]
          refine wpAnyH_done (by kernel_rfl) ?_ _
          clear hHeld
          go_wp2
          exact bodyPost_ret (results_st rfl _ _ (w.heap.size + 1) _ rfl hU5.out) rfl ⟨hX.out.mono HB.out, .inr ⟨HW2.out, rfl⟩⟩
      · have HWD : Hid (res = none) := Lib.hid (by rw [← HRES.out]; exact with_none h1 hr2' (R3.out.trans hr3))
        clear hr3 hr2 hr2'
        go_wp2_with (first | (refine st_build rfl ?_) | (refine st_store rfl rfl M2.out rfl ?_))
        exact bodyPost_ret (results_st rfl _ _ (w.heap.size + 1) _ rfl (M2.out.store _)) rfl ⟨(below_row M3.out (by omega) _).mono HB.out, .inr ⟨HWD.out, rfl⟩⟩
end Go.Proofs.YteoodompphhkbaaGreatDoor.K

/- Read -/
namespace Go.Proofs.YteoodompphhkbaaGreatDoor.K
set_option maxRecDepth 100000
open Go.RowKit C

theorem with_any (d : Dt) (a : Option Addr) (n cap base : Nat) (line : List UInt8) (hl : line.length ≤ 4294967200) (w : World) (hE : Env w) (hb : base ≤ w.heap.size) (hn : n ≤ 999999) (hown : w.ownsRow base 111 3 (.slice a n cap) n (flatK d.l)) :
    Calls Tryz.prog 229 #[.agg (stv (mkS d a n cap)), .string (str line)] w (WithD base (withD d line) w) := by
  cases h : numsP line selfN with
  | some zs => exact with_1 zs d a n cap base line hl w hE hb h hown
  | none => exact with_2 d a n cap base line hl w hE hb hn h hown

/-- what a text's lines say -/
def readP : Nat → Dt → List UInt8 → Option Dt
  | _, d, [] => some d
  | 0, _, _ :: _ => none
  | k + 1, d, c :: r => match withD d (cutL (c :: r) 10).1 with
    | some d' => readP k d' (cutL (c :: r) 10).2.1
    | none => none
theorem read_nil (k : Nat) (d : Dt) : readP k d [] = some d := by cases k <;> rfl
theorem read_some {k : Nat} {d d' : Dt} {t : List UInt8} (ht : t ≠ []) (h : withD d (cutL t 10).1 = some d') : readP (k + 1) d t = readP k d' (cutL t 10).2.1 := by
  cases t with
  | nil => exact absurd rfl ht
  | cons c r => rw [readP, h]
theorem read_none {k : Nat} {d : Dt} {t : List UInt8} (ht : t ≠ []) (h : withD d (cutL t 10).1 = none) : readP (k + 1) d t = none := by
  cases t with
  | nil => exact absurd rfl ht
  | cons c r => rw [readP, h]
theorem with_len {d d' : Dt} {line : List UInt8} (h : withD d line = some d') : d'.l.length ≤ d.l.length + 1 := by
  unfold withD at h
  split at h
  · split at h
    · injection h with h; subst h; simp
    · cases h
  · split at h
    · split at h
      · injection h with h; subst h; simp
      · cases h
    · split at h
      · split at h
        · rename_i a b _
          cases hw : wsP d.t a b line with
          | none => rw [hw] at h; cases h
          | some T => rw [hw] at h; simp at h; subst h; simp
        · cases h
      · cases h

/-- a State whose known ones lie in memory, and whether there is one, is handed back -/
def ReadPost (o : Option Dt) (w : World) (e : Ending) (w' : World) : Prop :=
  Below w.heap.size w w' ∧ ((∃ d a n cap, o = some d ∧ e = .returned (.tuple #[.agg (stv (mkS d a n cap)), .bool true]) ∧ KnAt w' a n d.l ∧ n ≤ 1000000 ∧ ∀ ad, a = some ad → w.heap.size ≤ ad.block) ∨ (o = none ∧ e = .returned (.tuple #[.agg (stv Sv.zero), .bool false])))
theorem own_row_far {w : World} {base n g k : Nat} {v : Value} {xs : List Value} {cs : Array Value} {e : TypeId} (h : w.ownsRow base e k v n xs) (hg : g < base) : (w.setRow g cs).ownsRow base e k v n xs := by
  refine ⟨h.1, ?_⟩
  rcases h.2 with h0 | ⟨b, cap, cur, hv, hb, hh, hr⟩
  · exact .inl h0
  · exact .inr ⟨b, cap, cur, hv, hb, (setRow_other _ _ _ _ (by omega)).trans hh, hr⟩
theorem kn_of_own {w : World} {base n cap : Nat} {a : Option Addr} {l : List Kn} {e : TypeId} (h : w.ownsRow base e 3 (.slice a n cap) n (flatK l)) : KnAt w a n l := by
  obtain ⟨A2, c2, hv, _, _, hkn⟩ := own_kn h
  injection hv with hv1 hv2 hv3
  subst hv1
  exact hkn
theorem own_low {w : World} {base n cap k : Nat} {a : Option Addr} {xs : List Value} {e : TypeId} (h : w.ownsRow base e k (.slice a n cap) n xs) : ∀ ad, a = some ad → base ≤ ad.block := fun ad e1 => by
  subst e1
  rcases h.2 with ⟨h0, _⟩ | ⟨b, c, cur, hv, hb, _⟩
  · cases h0
  · injection hv with h1 h2 h3
    injection h1 with h1
    subst h1
    exact hb
def strSz : Value → Nat
  | .string b => b.size
  | _ => 0

set_option maxRecDepth 100000 in
set_option maxHeartbeats 1000000 in
theorem read_any (t : List UInt8) (ht : t.length ≤ 100000) (w : World) (hE : Env w) :
    Calls Tryz.prog 157 #[.string (str t)] w (ReadPost (readP t.length Dt.zero t) w) := by
  have HE := Lib.hid hE
  clear hE
  obtain ⟨j1, j2, j3, _⟩ := two_sts (w := w) (s := Sv.zero) (u := Sv.zero) (Below.refl _ _)
  have J1 := Lib.hid j1
  have J2 := Lib.hid j2
  have J3 := Lib.hid j3
  have JZ : Hid (StAt ((w.alloc (.cells (stv Sv.zero) 73)).alloc (.cells (stv Sv.zero) 73)) (w.heap.size + 1) (mkS Dt.zero none 0 0)) := Lib.hid j2
  have JS : Hid (w.heap.size + 2 ≤ ((w.alloc (.cells (stv Sv.zero) 73)).alloc (.cells (stv Sv.zero) 73)).heap.size) := Lib.hid (by simp)
  clear j1 j2 j3
  obtain ⟨R, HR⟩ : ∃ R, Hid (readP t.length Dt.zero t = R) := ⟨_, Lib.hid rfl⟩
  rw [HR.out]
  go_enter Tryz.func157, Tryz.ntmps157
  go_wp2_with (first | refine st_alloc rfl ?_)
  go_loopw [5] (fun r wr => ∃ (rest : List UInt8) (d : Dt) (a : Option Addr) (n cap m : Nat), r = .string (str rest) ∧ Hid (R = readP m d rest) ∧ rest.length ≤ m ∧ Hid (n + rest.length ≤ t.length) ∧ Hid (StAt wr w.heap.size Sv.zero) ∧ Hid (StAt wr (w.heap.size + 1) (mkS d a n cap)) ∧ Hid (Below w.heap.size w wr) ∧ Hid (w.heap.size + 2 ≤ wr.heap.size) ∧ Hid (wr.ownsRow (w.heap.size + 2) 111 3 (.slice a n cap) n (flatK d.l))) (fun r _ => strSz r)
  case atStart =>
    exact ⟨t, Dt.zero, none, 0, 0, t.length, rfl, Lib.hid HR.out.symm, Nat.le_refl _, Lib.hid (by omega), J1, JZ, J3, JS, Lib.hid ⟨rfl, .inl ⟨rfl, rfl⟩⟩⟩
  case round =>
    obtain ⟨rest, d, a, n, cap, m, rfl, HRD, hm, hn, K1, K2, K3, KS, KO⟩ := hrel
    by_cases he : rest = []
    · subst he
      have HX : Hid (R = some d) := Lib.hid (by rw [HRD.out, read_nil])
      have hq : (str []).toList.isEmpty = true := by rw [str_toList]; rfl
      have HK := Lib.hid (kn_of_own (own_row_far (g := w.heap.size) (cs := stv (mkS d a n cap)) KO.out (by omega)))
      go_wp2_with (first | (refine st_load rfl K2.out rfl ?_) | (refine st_store rfl rfl K1.out rfl ?_))
      exact bodyPost_ret (results_st rfl _ _ w.heap.size _ rfl (K1.out.store _)) rfl ⟨below_row K3.out (Nat.le_refl _) _, .inl ⟨d, a, n, cap, HX.out, rfl, HK.out, by have := hn.out; omega, fun ad e => Nat.le_trans (by omega) (own_low KO.out ad e)⟩⟩
    · have hq : (str rest).toList.isEmpty = false := by rw [str_toList]; simpa using he
      have hsh := S.cutL_shorter (c := 10) he
      have hfl := S.cutL_first_le rest 10
      have hnn := hn.out
      obtain ⟨m, rfl⟩ : ∃ k, m = k + 1 := ⟨m - 1, by have := List.length_pos_iff.2 he; omega⟩
      have HS1 : Hid (∀ d', withD d (cutL rest 10).1 = some d' → R = readP m d' (cutL rest 10).2.1) := Lib.hid fun d' h => by rw [HRD.out, read_some he h]
      have HS2 : Hid (withD d (cutL rest 10).1 = none → R = none) := Lib.hid fun h => by rw [HRD.out, read_none he h]
      have hsz : (str rest).size = rest.length := rfl
      have HRL := Lib.hid hsz
      clear he hsz
      go_wp2_with (fail)
      refine (cut1_any rest 10 (by omega) _).mono ?_
      rintro e w1 ⟨rfl, hb1⟩
      have L1 := Lib.hid (K1.out.later hb1)
      have L2 := Lib.hid (K2.out.later hb1)
      have L3 := Lib.hid (K3.out.trans (hb1.mono K3.out.size))
      have LS : Hid (w.heap.size + 2 ≤ w1.heap.size) := Lib.hid (Nat.le_trans KS.out hb1.size)
      have LO := Lib.hid (own_below KO.out hb1)
      clear hb1
      generalize cutL rest 10 = cc at *
      obtain ⟨c1, c2, c3⟩ := cc
      simp only at hsh hfl HS1 HS2 ⊢
      obtain ⟨wd, HWD⟩ : ∃ o, Hid (withD d c1 = o) := ⟨_, Lib.hid rfl⟩
      rw [HWD.out] at HS1 HS2
      go_wp2_with (first | (refine st_load rfl L2.out rfl ?_))
      refine (with_any d a n cap (w.heap.size + 2) c1 (by omega) _ (HE.out.below L3.out) LS.out (by omega) LO.out).mono ?_
      rw [HWD.out]
      rintro e w2 ⟨hb2, hcase⟩
      have M1 := Lib.hid (L1.out.below hb2 (by omega))
      have M2 := Lib.hid (L2.out.below hb2 (by omega))
      have M3 := Lib.hid (L3.out.trans (hb2.mono (by omega)))
      have MS : Hid (w.heap.size + 2 ≤ w2.heap.size) := Lib.hid (Nat.le_trans LS.out hb2.size)
      clear hb2
      rcases hcase with ⟨d', a', n', cap', rfl, rfl, hown⟩ | ⟨rfl, rfl⟩
      · have HN := Lib.hid (HS1.out d' rfl)
        have hnl : n' ≤ n + 1 := by
          have h1 := with_len HWD.out
          have h2 := hown.1
          have h3 := LO.out.1
          rw [flat_len] at h2 h3
          omega
        have NO := Lib.hid (own_row_far (g := w.heap.size + 1) (cs := stv (mkS d' a' n' cap')) hown (by omega))
        have N1 := Lib.hid (M1.out.row_far (g := w.heap.size + 1) (by omega) (stv (mkS d' a' n' cap')))
        have N2 := Lib.hid (M2.out.store (mkS d' a' n' cap'))
        have N3 := Lib.hid (below_row M3.out (g := w.heap.size + 1) (by omega) (stv (mkS d' a' n' cap')))
        have NS : Hid (w.heap.size + 2 ≤ (w2.setRow (w.heap.size + 1) (stv (mkS d' a' n' cap'))).heap.size) := Lib.hid (by rw [size_setRow]; exact MS.out)
        clear hown
        go_wp2_with (first | (refine st_store rfl rfl M2.out rfl ?_))
        go_roundw
        case rel => exact ⟨c2, d', a', n', cap', m, rfl, HN, by omega, Lib.hid (by omega), N1, N2, N3, NS, NO⟩
        case measure => simp [strSz]; show c2.length < rest.length; omega
      · have HN := Lib.hid (HS2.out rfl)
        have N1 := Lib.hid (M1.out.row_far (g := w.heap.size + 1) (by omega) (stv Sv.zero))
        have N3 := Lib.hid (below_row M3.out (g := w.heap.size + 1) (by omega) (stv Sv.zero))
        go_wp2_with (first | (refine st_build rfl ?_) | (refine st_store rfl rfl M2.out rfl ?_) | (refine st_store rfl rfl N1.out rfl ?_))
        exact bodyPost_ret (results_st rfl _ _ w.heap.size _ rfl (N1.out.store _)) rfl ⟨below_row N3.out (Nat.le_refl _) _, .inr ⟨HN.out, rfl⟩⟩
end Go.Proofs.YteoodompphhkbaaGreatDoor.K

/- COwn -/
namespace Go.Proofs.YteoodompphhkbaaGreatDoor.K.C
set_option maxRecDepth 100000
open Go.RowKit Go.Lib

def sorted (l : List Int) : List Int := l.mergeSort fun x y => decide (x ≤ y)
theorem sorted_perm (l : List Int) : (sorted l).Perm l := List.mergeSort_perm l _
theorem sorted_len (l : List Int) : (sorted l).length = l.length := (sorted_perm l).length_eq
theorem mem_sorted {l : List Int} {x : Int} : x ∈ sorted l ↔ x ∈ l := (sorted_perm l).mem_iff
theorem sorted_le (l : List Int) : (sorted l).Pairwise (· ≤ ·) := by
  have h := List.pairwise_mergeSort (le := fun x y : Int => decide (x ≤ y)) (fun a b c h1 h2 => by simp at *; omega) (fun a b => by simp; omega) l
  unfold sorted
  exact h.imp (fun h => by simpa using h)

theorem keeps_iff (zs : List Int) {j : Nat} (h : j < zs.length) (h0 : 0 < j) : keeps zs.toArray j = true ↔ zs[j] ≠ zs[j - 1] := by
  unfold keeps
  have e1 : zs.toArray[j]! = zs[j] := by simp [getElem!_pos, h]
  have e2 : zs.toArray[j - 1]! = zs[j - 1] := by simp [getElem!_pos, show j - 1 < zs.length by omega]
  simp [e1, e2, show ¬ j = 0 by omega]
theorem upto_mem (zs : List Int) : ∀ m, m ≤ zs.length → ∀ x, x ∈ compactUpTo zs.toArray m ↔ x ∈ zs.take m
  | 0, _, x => by simp [compactUpTo]
  | m + 1, h, x => by
    have ih := upto_mem zs m (by omega)
    have e1 : zs.toArray[m]! = zs[m] := by simp [getElem!_pos, show m < zs.length by omega]
    have e2 : zs.take (m + 1) = zs.take m ++ [zs[m]] := by rw [List.take_add_one, List.getElem?_eq_getElem (by omega)]; rfl
    rw [compactUpTo_succ, e1, e2, List.mem_append, List.mem_append, ih x]
    by_cases hk : keeps zs.toArray m = true
    · rw [if_pos hk]
    · rw [if_neg hk]
      have hm0 : 0 < m := by
        rcases Nat.eq_zero_or_pos m with h0 | h0
        · subst h0; exact absurd (keeps_lt_one _ 0 (by omega)) hk
        · exact h0
      have he : zs[m] = zs[m - 1] := by
        by_cases e : zs[m] = zs[m - 1]
        · exact e
        · exact absurd ((keeps_iff zs (by omega) hm0).2 e) hk
      constructor
      · rintro (h' | h')
        · exact .inl h'
        · cases h'
      · rintro (h' | h')
        · exact .inl h'
        · simp only [List.mem_singleton] at h'
          refine .inl ?_
          rw [h', he]
          exact List.mem_take_iff_getElem.2 ⟨m - 1, by omega, rfl⟩
theorem upto_lt (zs : List Int) (hs : zs.Pairwise (· ≤ ·)) : ∀ m, m ≤ zs.length → (compactUpTo zs.toArray m).Pairwise (· < ·)
  | 0, _ => by simp [compactUpTo]
  | m + 1, h => by
    have ih := upto_lt zs hs m (by omega)
    have e1 : zs.toArray[m]! = zs[m] := by simp [getElem!_pos, show m < zs.length by omega]
    rw [compactUpTo_succ, e1]
    by_cases hk : keeps zs.toArray m = true
    · rw [if_pos hk, List.pairwise_append]
      refine ⟨ih, by simp, fun a ha b hb => ?_⟩
      simp only [List.mem_singleton] at hb
      subst hb
      rw [upto_mem zs m (by omega)] at ha
      obtain ⟨j, hj, rfl⟩ := List.mem_take_iff_getElem.1 ha
      have hne := (keeps_iff zs (by omega) (by omega)).1 hk
      have h1 : zs[m - 1] ≤ zs[m] := List.pairwise_iff_getElem.1 hs (m - 1) m (by omega) (by omega) (by omega)
      have h2 : zs[j] ≤ zs[m - 1] := by
        rcases Nat.lt_or_ge j (m - 1) with h' | h'
        · exact List.pairwise_iff_getElem.1 hs j (m - 1) (by omega) (by omega) h'
        · have e : j = m - 1 := by omega
          subst e; omega
      omega
    · rw [if_neg hk, List.append_nil]; exact ih
theorem comp_mem (zs : List Int) (x : Int) : x ∈ Lib.compact zs ↔ x ∈ zs := by
  have h := upto_mem zs zs.length (Nat.le_refl _) x
  rwa [List.take_length] at h
theorem comp_lt {zs : List Int} (hs : zs.Pairwise (· ≤ ·)) : (Lib.compact zs).Pairwise (· < ·) := upto_lt zs hs zs.length (Nat.le_refl _)

/-- the owners of the slots ahead of k that are ids -/
def ownTo (t : Tab) (k : Nat) : List Int := ((List.range k).filter fun i => idB (t.o i)).map t.o
theorem ownTo_yes {t : Tab} {k : Nat} (h : idB (t.o k) = true) : ownTo t (k + 1) = ownTo t k ++ [t.o k] := by
  unfold ownTo; rw [List.range_succ, List.filter_append, List.filter_cons, if_pos h, List.filter_nil, List.map_append]; rfl
theorem ownTo_no {t : Tab} {k : Nat} (h : idB (t.o k) = false) : ownTo t (k + 1) = ownTo t k := by
  unfold ownTo; rw [List.range_succ, List.filter_append, List.filter_cons, if_neg (by rw [h]; simp), List.filter_nil, List.append_nil]
theorem ownTo_len (t : Tab) (k : Nat) : (ownTo t k).length ≤ k := by
  unfold ownTo
  have := List.length_filter_le (fun i => idB (t.o i)) (List.range k)
  simpa using this
theorem ownTo_mem {t : Tab} {k : Nat} {x : Int} : x ∈ ownTo t k ↔ ∃ i, i < k ∧ idB (t.o i) = true ∧ t.o i = x := by
  unfold ownTo
  simp only [List.mem_map, List.mem_filter, List.mem_range]
  exact ⟨fun ⟨i, ⟨h1, h2⟩, h3⟩ => ⟨i, h1, h2, h3⟩, fun ⟨i, h1, h2, h3⟩ => ⟨i, ⟨h1, h2⟩, h3⟩⟩
def ownersL (t : Tab) : List Int := Lib.compact (sorted (ownTo t 64))
theorem owners_mem {t : Tab} {x : Int} : x ∈ ownersL t ↔ ∃ i, i < 64 ∧ idB (t.o i) = true ∧ t.o i = x := by
  unfold ownersL; rw [comp_mem, mem_sorted, ownTo_mem]
theorem owners_lt (t : Tab) : (ownersL t).Pairwise (· < ·) := comp_lt (sorted_le _)

theorem zints_len (l : List Int) : (zints l).length = l.length := by simp [zints]
theorem zints_append (l m : List Int) : zints (l ++ m) = zints l ++ zints m := by simp [zints]
theorem own_z {w : World} {base n : Nat} {v : Value} {xs : List Value} (h : w.ownsRow base 3 1 v n xs) :
    ∃ A cap, v = .slice A n cap ∧ n ≤ cap ∧ cap ≤ 9223372036854775807 ∧ (∀ g, w.heap.size ≤ g ∨ g < base → Reads w g A n xs) := own_reads h

theorem sort_any (base n : Nat) (v : Value) (zs : List Int) (w : World) (hn : n ≤ 64) (hown : w.ownsRow base 3 1 v n (zints zs)) :
    Calls Tryz.prog 196 #[v] w fun e w' => e = .returned (.tuple #[]) ∧ w'.ownsRow base 3 1 v n (zints (sorted zs)) ∧ w.grownBy w' v.ownBlock := by
  have hl : zs.length = n := by have := hown.1; rw [zints_len] at this; omega
  rcases hown.2 with ⟨rfl, rfl⟩ | ⟨g, cap, cur, rfl, hb, hh, hnc, hcm, hcs, ht⟩
  · obtain rfl := List.eq_nil_of_length_eq_zero hl
    refine (Tryz.slices_Sort_int_none none 0 w).mono ?_
    rintro e w' ⟨rfl, rfl⟩
    exact ⟨rfl, by rw [show sorted [] = [] by simp [sorted]]; exact hown, World.grownBy.refl _ _⟩
  · subst hl
    rw [Nat.mul_one] at ht
    have hH := holds_of_blockI (ss := zs) hh ht
    refine (Tryz.slices_Sort_int g 0 cap zs w hH (Array.getElem?_eq_some_iff.1 hh).1 (by omega)).mono ?_
    rintro e w' ⟨rfl, k, os, rfl⟩
    exact ⟨rfl, ownsRow_sortedI (by simp) hb hh hnc hcm hcs, grownBy_sortedI _⟩

theorem compact_any (B base n : Nat) (v : Value) (zs : List Int) (w0 w : World) (hn : n ≤ 64) (hown : w.ownsRow base 3 1 v n (zints zs)) (hB : Below B w0 w) (hbase : B ≤ base) :
    Calls Tryz.prog 202 #[v] w fun e w' => ∃ v', e = .returned v' ∧ w'.ownsRow base 3 1 v' (Lib.compact zs).length (zints (Lib.compact zs)) ∧ Below B w0 w' := by
  have hl : zs.length = n := by have := hown.1; rw [zints_len] at this; omega
  by_cases hv : v = .slice none 0 0
  · subst hv
    have hz : zs = [] := by
      rcases hown.2 with ⟨_, h⟩ | ⟨g, cap, cur, h, _⟩
      · exact List.eq_nil_of_length_eq_zero (by omega)
      · cases h
    subst hz
    refine (Tryz.slices_Compact_int_empty none 0 w).mono ?_
    rintro e w' ⟨rfl, rfl⟩
    have h0 : n = 0 := hl.symm
    subst h0
    exact ⟨_, rfl, hown, hB⟩
  · obtain ⟨g, cap, rfl, hbg, _, hnc, hcm, _, hH⟩ := holds_of_ownsRow hown hv
    subst hl
    refine (Tryz.slices_Compact_int g 0 cap zs w hH (by omega) hnc).mono ?_
    rintro e w' ⟨rfl, q, rfl⟩
    have hle := Lib.compact_length_le zs
    have h := Lib.ownsRow_putRow (q := q) (k := (Lib.compact zs).length) (ys := Lib.compact zs ++ List.replicate (zs.length - (Lib.compact zs).length) 0) hown (by simp; omega) hle
    rw [List.take_left] at h
    exact ⟨_, rfl, h, Lib.below_putRow hB (by omega)⟩

/-- a list of numbers is handed back, in memory of its own -/
def ListsZ (l : List Int) (w : World) (e : Ending) (w' : World) : Prop :=
  Below w.heap.size w w' ∧ ∃ A c, e = .returned (.slice A l.length c) ∧ l.length ≤ c ∧ c ≤ 9223372036854775807 ∧ ∀ g, w'.heap.size ≤ g ∨ g < w.heap.size → Reads w' g A l.length (zints l)

set_option maxRecDepth 100000 in
set_option maxHeartbeats 2000000 in
theorem owners_any (t : Tab) (w : World) : Calls Tryz.prog 131 #[.agg (tb t)] w (ListsZ (ownersL t) w) := by
  obtain ⟨i0, hi0, hz0, hz1, hz2⟩ := info_parts int_info
  have HI : Hid (Tryz.prog.info? 3 = some i0) := hi0
  have HZ0 := Lib.hid hz0
  have HZ1 := Lib.hid hz1
  have HZ2 := Lib.hid hz2
  have hT := Lib.hid (TabAt.new w t)
  have hb0 := Lib.hid ((Below.refl w.heap.size w).alloc (Nat.le_refl _) (.cells (tb t) 71))
  have HOL : Hid (ownersL t = Lib.compact (sorted (ownTo t 64))) := Lib.hid rfl
  generalize ownersL t = OL at *
  clear hi0 hz0 hz1 hz2
  go_enter Tryz.func131, Tryz.ntmps131
  go_wp2_with (refine at_owners rfl hT.out rfl ?_)
  go_loopw [3, 8] (fun va i wr => ∃ k : Nat, k ≤ 64 ∧ i = .int .i64 k ∧ Hid (Below w.heap.size w wr) ∧ Hid (wr.ownsRow w.heap.size 3 1 va (ownTo t k).length (zints (ownTo t k)))) (fun _ i _ => 64 - (intOf i).toNat)
  case atStart => exact ⟨0, by omega, rfl, hb0, Lib.hid ⟨rfl, .inl ⟨rfl, rfl⟩⟩⟩
  case round =>
    obtain ⟨k, hk, rfl, hb, hown⟩ := hrel
    have hle := ownTo_len t k
    by_cases hlt : k < 64
    · have hidx := index_row t.o hlt
      obtain ⟨b, HB⟩ : ∃ b, Hid (betB 1 4294967296 (t.o k) = b) := ⟨_, Lib.hid rfl⟩
      cases b
      · have HS := Lib.hid (ownTo_no (t := t) (k := k) HB.out)
        generalize ownTo t k = F at *
        go_wp2_with (fail)
        refine (isid_any _ _).mono ?_
        rintro e w2 ⟨rfl, rfl⟩
        rw [HB.out]
        go_wp2
        go_roundw
        case rel => exact ⟨k + 1, by omega, by go_num, hb, by rw [HS.out]; exact hown⟩
        case measure => simp [intOf]; omega
      · have HS := Lib.hid (ownTo_yes (t := t) (k := k) HB.out)
        have hbs := hb.out.size
        generalize ownTo t k = F at *
        go_wp2_with (fail)
        refine (isid_any _ _).mono ?_
        rintro e w2 ⟨rfl, rfl⟩
        rw [HB.out]
        go_wp2_with (at_builtin; refine wpList_append_own _ rfl _ _ 61 rfl w.heap.size 3 i0 (.int .i64 0) 1 8 Tryz.underlying61 HI.out HZ0.out HZ1.out HZ2.out rfl (by decide) _ _ _ rfl (hown.out.alloc _) ⟨wr.heap.size, 0, none⟩ 1 1 [.int .i64 (t.o k)] rfl rfl (cell_one_new _ _ _) (by simp [Value.oneCell']) (by unfold maxLen; omega) (by omega) (by simp; omega) ?_; intro v' w3 hown' hg3 hv3; clear hv3)
        have hb3 := Lib.hid ((hb.out.alloc hbs _).grown hg3 (by simp; omega) (fun g e => (hown.out.lt g e).1))
        have HO3 := Lib.hid hown'
        clear hown' hg3
        go_wp2
        go_roundw
        case rel => exact ⟨k + 1, by omega, by go_num, hb3, Lib.hid (by rw [HS.out, zints_append]; simpa [zints] using HO3.out)⟩
        case measure => simp [intOf]; omega
    · obtain rfl : k = 64 := by omega
      generalize ownTo t 64 = F at *
      have hs := hb.out.size
      go_wp2_with (fail)
      refine (sort_any _ F.length _ F _ hle hown.out).mono ?_
      rintro e w3 ⟨rfl, hown3, hg3⟩
      have HB3 := Lib.hid (hb.out.grown hg3 hs (fun g e => (hown.out.lt g e).1))
      have HO3 := Lib.hid hown3
      clear hown3 hg3
      go_wp2_with (fail)
      refine (compact_any w.heap.size w.heap.size F.length _ (sorted F) w _ hle HO3.out HB3.out (Nat.le_refl _)).mono ?_
      rintro e w4 ⟨v4, rfl, hown4, hb4⟩
      rw [← HOL.out] at hown4
      obtain ⟨A, c, rfl, hnc, hcm, hr⟩ := own_reads hown4
      go_wp2
      go_ret
      exact ⟨hb4, A, c, rfl, hnc, hcm, hr⟩
end Go.Proofs.YteoodompphhkbaaGreatDoor.K.C

/- Held -/
namespace Go.Proofs.YteoodompphhkbaaGreatDoor.K
set_option maxRecDepth 100000
open Go.RowKit C

/-- the epochs with which somebody has slots, one for each slot -/
def epRaw (t : Tab) (o : Int) : List Int := (slotsTo (ofN t o) 64).map t.e
def epsL (t : Tab) (o : Int) : List Int := Lib.compact (sorted (epRaw t o))
/-- the slots that somebody has with one epoch -/
def setOE (t : Tab) (o e : Int) : Nat := pick fun i => (t.o i == o) && (t.e i == e)
theorem of_slots (t : Tab) (o : Int) {i : Nat} : i ∈ slotsTo (ofN t o) 64 ↔ i < 64 ∧ t.o i = o := by
  rw [slotsTo_mem]
  constructor
  · rintro ⟨h1, h2⟩
    unfold ofN at h2
    rw [pick_bit _ h1] at h2
    exact ⟨h1, by simpa using h2⟩
  · rintro ⟨h1, h2⟩
    refine ⟨h1, ?_⟩
    unfold ofN
    rw [pick_bit _ h1]
    simpa using h2
theorem epRaw_snoc {t : Tab} {o : Int} {k m : Nat} (h : (slotsTo (ofN t o) 64)[k]? = some m) : ((slotsTo (ofN t o) 64).take (k + 1)).map t.e = ((slotsTo (ofN t o) 64).take k).map t.e ++ [t.e m] := by
  rw [C.take_snoc h, List.map_append]; rfl
def withTo (t : Tab) (o e : Int) (k : Nat) : Nat := ors (((slotsTo (ofN t o) 64).take k).filter fun i => t.e i == e)
theorem withTo_yes {t : Tab} {o e : Int} {k m : Nat} (h : (slotsTo (ofN t o) 64)[k]? = some m) (he : (t.e m == e) = true) : withTo t o e (k + 1) = withTo t o e k ||| pw m := by
  unfold withTo; rw [C.take_snoc h, List.filter_append, List.filter_cons, if_pos he, List.filter_nil, ors_snoc]; rfl
theorem withTo_no {t : Tab} {o e : Int} {k m : Nat} (h : (slotsTo (ofN t o) 64)[k]? = some m) (he : (t.e m == e) = false) : withTo t o e (k + 1) = withTo t o e k := by
  unfold withTo; rw [C.take_snoc h, List.filter_append, List.filter_cons, if_neg (by rw [he]; simp), List.filter_nil, List.append_nil]
theorem withTo_lt (t : Tab) (o e : Int) (k : Nat) : withTo t o e k < 18446744073709551616 := ors_lt fun i hi => by
  have h1 := List.mem_of_mem_take (List.mem_filter.1 hi).1
  exact ((of_slots t o).1 h1).1
theorem withTo_all (t : Tab) (o e : Int) {n : Nat} (hn : (slotsTo (ofN t o) 64).length = n) : withTo t o e n = setOE t o e := by
  subst hn
  refine (pick_eq (withTo_lt t o e _) fun i hi => ?_).symm
  unfold withTo
  rw [List.take_length, ors_bit, Bool.eq_iff_iff, decide_eq_true_eq, List.mem_filter, of_slots]
  simp [hi]
set_option maxRecDepth 100000 in
set_option maxHeartbeats 1000000 in
theorem epochsof_any (t : Tab) (o : Int) (w : World) : Calls Tryz.prog 160 #[.agg (tb t), .int .i64 o] w (ListsZ (epsL t o) w) := by
  obtain ⟨i0, hi0, hz0, hz1, hz2⟩ := info_parts int_info
  have HI : Hid (Tryz.prog.info? 3 = some i0) := hi0
  have HZ0 := Lib.hid hz0
  have HZ1 := Lib.hid hz1
  have HZ2 := Lib.hid hz2
  have HT := Lib.hid (TabAt.new w t)
  have HB0 := Lib.hid ((Below.refl w.heap.size w).alloc (Nat.le_refl _) (.cells (tb t) 71))
  have HOL : Hid (epsL t o = Lib.compact (sorted (epRaw t o))) := Lib.hid rfl
  generalize epsL t o = OL at *
  clear hi0 hz0 hz1 hz2
  go_enter Tryz.func160, Tryz.ntmps160
  go_wp2_with (first | refine at_load rfl HT.out rfl ?_)
  refine (of_any t o _).mono ?_
  rintro e w1 ⟨rfl, hb1⟩
  have K1 := Lib.hid (HT.out.later hb1)
  have KB := Lib.hid (HB0.out.trans (hb1.mono HB0.out.size))
  clear hb1 HT HB0
  go_wp2_with (fail)
  refine (list_any (ofN t o) (pick_lt _) _).mono ?_
  rintro e w2 ⟨hb2, A2, c2, rfl, hnc, hcm, hrd⟩
  have L1 := Lib.hid (K1.out.later hb2)
  have LB := Lib.hid (KB.out.trans (hb2.mono KB.out.size))
  have LR := Lib.hid (hrd w.heap.size (.inr K1.out.lt))
  clear hb2 hrd K1 KB
  have HS : Hid (∀ k m, (slotsTo (ofN t o) 64)[k]? = some m → ((slotsTo (ofN t o) 64).take (k + 1)).map t.e = ((slotsTo (ofN t o) 64).take k).map t.e ++ [t.e m]) := Lib.hid fun k m h => epRaw_snoc h
  have HLT : Hid (∀ m, m ∈ slotsTo (ofN t o) 64 → m < 64) := Lib.hid fun m hm => (slotsTo_mem.1 hm).1
  have hle := slotsTo_le (ofN t o) 64
  have HRW : Hid (epRaw t o = (slotsTo (ofN t o) 64).map t.e) := Lib.hid rfl
  generalize slotsTo (ofN t o) 64 = L at *
  go_wp2
  go_loopw [5, 13] (fun va i wr => ∃ k : Nat, k ≤ L.length ∧ i = .int .i64 k ∧ Hid (Below w2.heap.size w2 wr) ∧ Hid (wr.ownsRow w2.heap.size 3 1 va k (zints ((L.take k).map t.e)))) (fun _ i _ => L.length - (intOf i).toNat)
  case atStart => exact ⟨0, by omega, rfl, Lib.hid (Below.refl _ _), Lib.hid ⟨rfl, .inl ⟨rfl, rfl⟩⟩⟩
  case round =>
    obtain ⟨k, hk, rfl, hb, hown⟩ := hrel
    by_cases hlt : k < L.length
    · obtain ⟨ad, u, rfl, hu, hc⟩ := (LR.out.below hb.out).at_ hlt
      obtain ⟨m, hm⟩ : ∃ m, L[k]? = some m := ⟨L[k], List.getElem?_eq_getElem hlt⟩
      rw [C.ints_at hm] at hu
      injection hu with hu
      subst hu
      have hm64 := HLT.out m (List.mem_of_getElem? hm)
      have hm0 : (0 : Int) ≤ m := by omega
      have hm1 : (m : Int) < 64 := by omega
      have HSN := Lib.hid (HS.out k m hm)
      have hE := (L1.out.later hb.out).e hm64
      have hbs := hb.out.size
      clear hm
      go_wp2_with (at_builtin; refine wpList_append_own _ rfl _ _ 61 rfl w2.heap.size 3 i0 (.int .i64 0) 1 8 Tryz.underlying61 HI.out HZ0.out HZ1.out HZ2.out rfl (by decide) _ _ _ rfl (hown.out.alloc _) ⟨wr.heap.size, 0, none⟩ 1 1 [.int .i64 (t.e m)] rfl rfl (cell_one_new _ _ _) (by simp [Value.oneCell']) (by unfold maxLen; omega) (by omega) (by simp; omega) ?_; intro v' w4 hown' hg3 _)
      have HB4 : Hid (Below w2.heap.size w2 w4) := Lib.hid ((hb.out.alloc hbs _).grown hg3 (by simp; omega) (fun g e => (hown.out.lt g e).1))
      go_wp2
      go_roundw
      case rel => exact ⟨k + 1, by omega, by go_num, HB4, Lib.hid (by rw [HSN.out, zints_append]; simpa [zints] using hown')⟩
      case measure => simp [intOf]; omega
    · obtain rfl : k = L.length := by omega
      have HO : Hid (wr.ownsRow w2.heap.size 3 1 u5 L.length (zints (epRaw t o))) := Lib.hid (by
        have := hown.out
        rw [List.take_length] at this
        rw [HRW.out]; exact this)
      have HRL : Hid ((epRaw t o).length = L.length) := Lib.hid (by rw [HRW.out]; simp)
      clear hown
      generalize epRaw t o = RW at *
      go_wp2_with (fail)
      refine (sort_any w2.heap.size L.length _ RW _ (by omega) HO.out).mono ?_
      rintro e w3 ⟨rfl, hown3, hg3⟩
      have HB3 : Hid (Below w2.heap.size w2 w3) := Lib.hid (hb.out.grown hg3 hb.out.size (fun g e => (HO.out.lt g e).1))
      have HO3 := Lib.hid hown3
      clear hown3 hg3
      go_wp2_with (fail)
      refine (compact_any w2.heap.size w2.heap.size L.length _ (sorted RW) w2 _ (by omega) HO3.out HB3.out (Nat.le_refl _)).mono ?_
      rintro e w4 ⟨v', rfl, hown4, hb4⟩
      obtain ⟨A5, c5, rfl, hnc5, hcm5, hr5⟩ := own_z hown4
      rw [← HOL.out] at hnc5 hr5 ⊢
      have HR5 := Lib.hid hr5
      have HB5 := Lib.hid hb4
      clear hown4 hr5 hb4
      go_wp2
      go_ret
      exact ⟨LB.out.trans (HB5.out.mono LB.out.size), A5, c5, rfl, hnc5, hcm5, fun g hg => HR5.out g (by have := LB.out.size; omega)⟩

set_option maxRecDepth 100000 in
set_option maxHeartbeats 1000000 in
theorem slotswith_any (t : Tab) (o e : Int) (w : World) : Calls Tryz.prog 161 #[.agg (tb t), .int .i64 o, .int .i64 e] w fun d w' => d = .returned (.int .u64 ((setOE t o e : Nat) : Int)) ∧ Below w.heap.size w w' := by
  have HT := Lib.hid (TabAt.new w t)
  have HB0 := Lib.hid ((Below.refl w.heap.size w).alloc (Nat.le_refl _) (.cells (tb t) 71))
  go_enter Tryz.func161, Tryz.ntmps161
  go_wp2_with (first | refine at_load rfl HT.out rfl ?_)
  refine (of_any t o _).mono ?_
  rintro e1 w1 ⟨rfl, hb1⟩
  have K1 := Lib.hid (HT.out.later hb1)
  have KB := Lib.hid (HB0.out.trans (hb1.mono HB0.out.size))
  clear hb1 HT HB0
  go_wp2_with (fail)
  refine (list_any (ofN t o) (pick_lt _) _).mono ?_
  rintro e1 w2 ⟨hb2, A2, c2, rfl, hnc, hcm, hrd⟩
  have L1 := Lib.hid (K1.out.later hb2)
  have LB := Lib.hid (KB.out.trans (hb2.mono KB.out.size))
  have LR := Lib.hid (hrd w.heap.size (.inr K1.out.lt))
  clear hb2 hrd K1 KB
  have HS1 : Hid (∀ k m, (slotsTo (ofN t o) 64)[k]? = some m → (t.e m == e) = true → withTo t o e (k + 1) = withTo t o e k ||| pw m) := Lib.hid fun k m h he => withTo_yes h he
  have HS0 : Hid (∀ k m, (slotsTo (ofN t o) 64)[k]? = some m → (t.e m == e) = false → withTo t o e (k + 1) = withTo t o e k) := Lib.hid fun k m h he => withTo_no h he
  have HLT : Hid (∀ m, m ∈ slotsTo (ofN t o) 64 → m < 64) := Lib.hid fun m hm => (slotsTo_mem.1 hm).1
  have HAL : Hid (∀ n, (slotsTo (ofN t o) 64).length = n → withTo t o e n = setOE t o e) := Lib.hid fun n h => withTo_all t o e h
  have hle := slotsTo_le (ofN t o) 64
  have H00 : Hid (withTo t o e 0 = 0) := Lib.hid rfl
  generalize slotsTo (ofN t o) 64 = L at *
  go_wp2
  go_loopw [7, 15] (fun q i wr => ∃ k : Nat, k ≤ L.length ∧ i = .int .i64 k ∧ q = .int .u64 ((withTo t o e k : Nat) : Int) ∧ Hid (Below w2.heap.size w2 wr)) (fun _ i _ => L.length - (intOf i).toNat)
  case atStart => exact ⟨0, by omega, rfl, by rw [H00.out]; rfl, Lib.hid (Below.refl _ _)⟩
  case round =>
    obtain ⟨k, hk, rfl, rfl, hb⟩ := hrel
    by_cases hlt : k < L.length
    · obtain ⟨ad, u, rfl, hu, hc⟩ := (LR.out.below hb.out).at_ hlt
      obtain ⟨m, hm⟩ : ∃ m, L[k]? = some m := ⟨L[k], List.getElem?_eq_getElem hlt⟩
      rw [C.ints_at hm] at hu
      injection hu with hu
      subst hu
      have hm64 := HLT.out m (List.mem_of_getElem? hm)
      have hm0 : (0 : Int) ≤ m := by omega
      have hm1 : (m : Int) < 64 := by omega
      have hE := (L1.out.later hb.out).e hm64
      have HY := Lib.hid (HS1.out k m hm)
      have HN := Lib.hid (HS0.out k m hm)
      have HP : Hid (IntKind.u64.wrap (2 ^ m) = ((pw m : Nat) : Int)) := Lib.hid (one_int hm64)
      have hwl := withTo_lt t o e k
      have HOR := Lib.hid (or_int hwl hm64)
      clear hm hwl
      generalize withTo t o e k = q at *
      by_cases he : t.e m = e
      · have hq : (t.e m == e) = true := by simpa using he
        have HX := Lib.hid (HY.out hq)
        clear he HY HN
        go_wp2
        go_roundw
        case rel => exact ⟨k + 1, by omega, by go_num, by rw [HX.out, ← HOR.out, ← HP.out], hb⟩
        case measure => simp [intOf]; omega
      · have hq : (t.e m == e) = false := by simpa using he
        have HX := Lib.hid (HN.out hq)
        clear he HY HN
        go_wp2
        go_roundw
        case rel => exact ⟨k + 1, by omega, by go_num, by rw [HX.out], hb⟩
        case measure => simp [intOf]; omega
    · obtain rfl : k = L.length := by omega
      have HX := Lib.hid (HAL.out _ rfl)
      go_wp2
      go_ret
      exact ⟨by rw [HX.out]; rfl, LB.out.trans (hb.out.mono LB.out.size)⟩
end Go.Proofs.YteoodompphhkbaaGreatDoor.K

/- Right -/
namespace Go.Proofs.YteoodompphhkbaaGreatDoor.K
set_option maxRecDepth 100000
open Go.RowKit C

/-- are the owners those who are known -/
def ownB (i : Int) (l : List Kn) (t : Tab) : Bool := (ownersL t).all fun o => o == i || anyB l o
def rtB (s : Sv) (l : List Kn) : Bool := okB s.t && ownB s.i l s.t
theorem own_no {i : Int} {l : List Kn} {t : Tab} {o : Int} (ho : o ∈ ownersL t) (h1 : o ≠ i) (h2 : anyB l o = false) : ownB i l t = false := by
  unfold ownB
  rw [List.all_eq_false]
  exact ⟨o, ho, by simp [h1, h2]⟩
theorem own_yes {i : Int} {l : List Kn} {t : Tab} (h : ∀ (j : Nat) (o : Int), (ownersL t)[j]? = some o → (o == i || anyB l o) = true) : ownB i l t = true := by
  unfold ownB
  rw [List.all_eq_true]
  intro o ho
  obtain ⟨j, hj, rfl⟩ := List.getElem_of_mem ho
  exact h j _ (List.getElem?_eq_getElem hj)
theorem owners_len (t : Tab) : (ownersL t).length ≤ 64 := by
  unfold ownersL
  have h1 := Lib.compact_length_le (sorted (ownTo t 64))
  have h2 := sorted_len (ownTo t 64)
  have h3 := ownTo_len t 64
  omega

set_option maxRecDepth 100000 in
set_option maxHeartbeats 1000000 in
theorem righttable_any (s : Sv) (l : List Kn) (w : World) (hl : KnAt w s.a s.n l) (hN : s.n ≤ 9223372036854775807) : Calls Tryz.prog 234 #[.agg (stv s)] w (Says (rtB s l) w) := by
  have HS : Hid (StAt (w.alloc (.cells (stv s) 73)) w.heap.size s) := Lib.hid (StAt.new w s)
  have HB0 : Hid (Below w.heap.size w (w.alloc (.cells (stv s) 73))) := Lib.hid ((Below.refl _ w).alloc (Nat.le_refl _) _)
  have HL := Lib.hid (hl.up HB0.out)
  have HN := Lib.hid hN
  clear hl hN
  obtain ⟨b1, B1⟩ : ∃ b, Hid (okB s.t = b) := ⟨_, Lib.hid rfl⟩
  have HR : Hid (rtB s l = (b1 && ownB s.i l s.t)) := Lib.hid (by rw [← B1.out]; rfl)
  generalize rtB s l = R at *
  go_enter Tryz.func234, Tryz.ntmps234
  go_wp2_with (first | refine st_table rfl HS.out rfl ?_)
  refine (right_any s.t _).mono ?_
  rintro e w1 ⟨rfl, hb1⟩
  have K1 := Lib.hid (HS.out.later hb1)
  have KB := Lib.hid (HB0.out.trans (hb1.mono HB0.out.size))
  have KL := Lib.hid (HL.out.below hb1)
  clear hb1 HS HB0 HL
  rw [B1.out]
  cases b1
  · go_wp2
    go_ret
    exact ⟨by rw [HR.out]; rfl, KB.out⟩
  · have HR2 : Hid (R = ownB s.i l s.t) := Lib.hid (by rw [HR.out]; rfl)
    clear HR
    go_wp2_with (first | refine st_table rfl K1.out rfl ?_)
    refine (owners_any s.t _).mono ?_
    rintro e w2 ⟨hb2, A2, c2, rfl, hnc, hcm, hrd⟩
    have L1 := Lib.hid (K1.out.later hb2)
    have LB := Lib.hid (KB.out.trans (hb2.mono KB.out.size))
    have LL := Lib.hid (KL.out.below hb2)
    have LR := Lib.hid (hrd w.heap.size (.inr K1.out.lt))
    clear hb2 hrd K1 KB KL
    have HNO : Hid (∀ o, o ∈ ownersL s.t → o ≠ s.i → anyB l o = false → R = false) := Lib.hid fun o h1 h2 h3 => by rw [HR2.out]; exact own_no h1 h2 h3
    have HYE : Hid ((∀ (j : Nat) (o : Int), (ownersL s.t)[j]? = some o → (o == s.i || anyB l o) = true) → R = true) := Lib.hid fun h => by rw [HR2.out]; exact own_yes h
    have hle := owners_len s.t
    generalize ownersL s.t = L at *
    go_wp2
    go_loopw [13] (fun i wr => ∃ k : Nat, k ≤ L.length ∧ i = .int .i64 k ∧ Hid (Below w2.heap.size w2 wr) ∧ Hid (∀ (j : Nat) (o : Int), j < k → L[j]? = some o → (o == s.i || anyB l o) = true)) (fun i _ => L.length - (intOf i).toNat)
    case atStart => exact ⟨0, by omega, rfl, Lib.hid (Below.refl _ _), Lib.hid fun j _ hj => absurd hj (by omega)⟩
    case round =>
      obtain ⟨k, hk, rfl, hb, hall⟩ := hrel
      by_cases hlt : k < L.length
      · obtain ⟨ad, u, rfl, hu, hc⟩ := (LR.out.below hb.out).at_ hlt
        obtain ⟨o, ho, rfl⟩ := zints_at hu
        clear hu
        have HO := Lib.hid ho
        clear ho
        have M1 := Lib.hid (L1.out.later hb.out)
        obtain ⟨c0, _⟩ := M1.out.box
        by_cases hi : o = s.i
        · have hq : (o == s.i) = true := by simpa using hi
          have hq2 : (o != s.i) = false := by simpa using hi
          have HY : Hid ((o == s.i || anyB l o) = true) := Lib.hid (by rw [hq]; rfl)
          subst hi
          clear hq hq2
          go_wp2
          go_roundw
          case rel => exact ⟨k + 1, by omega, by go_num, hb, Lib.hid fun j o' hj hjo => by
            rcases Nat.lt_or_ge j k with h | h
            · exact hall.out j o' h hjo
            · obtain rfl : k = j := by omega
              rw [HO.out] at hjo; injection hjo with hjo; rw [← hjo]; exact HY.out⟩
          case measure => simp [intOf]; omega
        · have hq : (o == s.i) = false := by simpa using hi
          have hq2 : (o != s.i) = true := by simpa using hi
          have HI := Lib.hid hi
          clear hi
          obtain ⟨b2, B2⟩ : ∃ b, Hid (anyB l o = b) := ⟨_, Lib.hid rfl⟩
          go_wp2_with (first | refine st_load rfl M1.out rfl ?_)
          refine (knows_any s l o _ (LL.out.below hb.out) HN.out).mono ?_
          rintro e w3 ⟨rfl, hb3⟩
          have HB3 := Lib.hid (hb.out.trans (hb3.mono hb.out.size))
          clear hb3 hc
          rw [B2.out]
          cases b2
          · go_wp2
            go_ret
            exact ⟨by rw [HNO.out o (List.mem_of_getElem? HO.out) HI.out B2.out]; rfl, LB.out.trans (HB3.out.mono LB.out.size)⟩
          · go_wp2
            go_roundw
            case rel => exact ⟨k + 1, by omega, by go_num, HB3, Lib.hid fun j o' hj hjo => by
              rcases Nat.lt_or_ge j k with h | h
              · exact hall.out j o' h hjo
              · obtain rfl : k = j := by omega
                rw [HO.out] at hjo; injection hjo with hjo; rw [← hjo, B2.out]; simp⟩
            case measure => simp [intOf]; omega
      · obtain rfl : k = L.length := by omega
        have HY := Lib.hid (HYE.out fun j o hj => hall.out j o (List.getElem?_eq_some_iff.1 hj).1 hj)
        go_wp2
        go_ret
        exact ⟨by rw [HY.out]; rfl, LB.out.trans (hb.out.mono LB.out.size)⟩

/-- is a state right -/
def okS (s : Sv) (l : List Kn) : Bool := betB 1 4294967296 s.i && folB s.i s.m && epsB s.c s.v s.f && fewB s l && rtB s l
set_option maxRecDepth 100000 in
set_option maxHeartbeats 1000000 in
theorem sright_any (s : Sv) (l : List Kn) (w : World) (hl : KnAt w s.a s.n l) (hN : s.n ≤ 9223372036854775807) : Calls Tryz.prog 158 #[.agg (stv s)] w (Says (okS s l) w) := by
  have HS : Hid (StAt (w.alloc (.cells (stv s) 73)) w.heap.size s) := Lib.hid (StAt.new w s)
  have HB0 : Hid (Below w.heap.size w (w.alloc (.cells (stv s) 73))) := Lib.hid ((Below.refl _ w).alloc (Nat.le_refl _) _)
  have HL := Lib.hid (hl.up HB0.out)
  have HN := Lib.hid hN
  clear hl hN
  obtain ⟨b1, B1⟩ : ∃ b, Hid (betB 1 4294967296 s.i = b) := ⟨_, Lib.hid rfl⟩
  obtain ⟨b2, B2⟩ : ∃ b, Hid (folB s.i s.m = b) := ⟨_, Lib.hid rfl⟩
  obtain ⟨b3, B3⟩ : ∃ b, Hid (epsB s.c s.v s.f = b) := ⟨_, Lib.hid rfl⟩
  obtain ⟨b4, B4⟩ : ∃ b, Hid (fewB s l = b) := ⟨_, Lib.hid rfl⟩
  obtain ⟨b5, B5⟩ : ∃ b, Hid (rtB s l = b) := ⟨_, Lib.hid rfl⟩
  have HX : Hid (okS s l = (b1 && b2 && b3 && b4 && b5)) := Lib.hid (by rw [← B1.out, ← B2.out, ← B3.out, ← B4.out, ← B5.out]; rfl)
  generalize okS s l = R at *
  obtain ⟨c0, c1, c2, c3, c4, c5⟩ := HS.out.box
  go_enter Tryz.func158, Tryz.ntmps158
  go_wp2_with (fail)
  refine (cid_any _ _).mono ?_
  rintro e w1 ⟨rfl, rfl⟩
  rw [B1.out]
  cases b1
  · go_wp2
    go_ret
    exact ⟨by rw [HX.out]; rfl, HB0.out⟩
  · go_wp2_with (fail)
    refine (fol_any _ _ _).mono ?_
    rintro e w1 ⟨rfl, rfl⟩
    rw [B2.out]
    cases b2
    · go_wp2
      go_ret
      exact ⟨by rw [HX.out]; rfl, HB0.out⟩
    · go_wp2_with (fail)
      refine (eps_any _ _ _ _).mono ?_
      rintro e w1 ⟨rfl, hb1⟩
      have K1 := Lib.hid (HS.out.later hb1)
      have KB := Lib.hid (HB0.out.trans (hb1.mono HB0.out.size))
      have KL := Lib.hid (HL.out.below hb1)
      clear hb1 c0 c1 c2 c3 c4 c5
      rw [B3.out]
      cases b3
      · go_wp2
        go_ret
        exact ⟨by rw [HX.out]; rfl, KB.out⟩
      · go_wp2_with (first | refine st_load rfl K1.out rfl ?_)
        refine (rightknown_any s l _ KL.out).mono ?_
        rintro e w2 ⟨rfl, hb2⟩
        have L1 := Lib.hid (K1.out.later hb2)
        have LB := Lib.hid (KB.out.trans (hb2.mono KB.out.size))
        have LL := Lib.hid (KL.out.below hb2)
        clear hb2
        rw [B4.out]
        cases b4
        · go_wp2
          go_ret
          exact ⟨by rw [HX.out]; rfl, LB.out⟩
        · go_wp2_with (first | refine st_load rfl L1.out rfl ?_)
          refine (righttable_any s l _ LL.out HN.out).mono ?_
          rintro e w3 ⟨rfl, hb3⟩
          rw [B5.out]
          cases b5
          · go_wp2
            go_ret
            exact ⟨by rw [HX.out]; rfl, LB.out.trans (hb3.mono LB.out.size)⟩
          · go_wp2
            go_ret
            exact ⟨by rw [HX.out]; rfl, LB.out.trans (hb3.mono LB.out.size)⟩
end Go.Proofs.YteoodompphhkbaaGreatDoor.K

/- Line -/
namespace Go.Proofs.YteoodompphhkbaaGreatDoor.K
set_option maxRecDepth 100000
open Go.RowKit C

theorem join_strs (L : List (List UInt8)) (sep : List UInt8) (base : Nat) (v : Value) (w : World) (h : w.ownsRow base 9 1 v L.length (strV L)) (hL : L.length ≤ 100000) (hj : (Lib.join L sep).length ≤ 4294967296) :
    Calls Tryz.prog 162 #[v, .string (str sep)] w (AStr (Lib.join L sep) w) := by
  rcases h.2 with ⟨rfl, hn⟩ | ⟨b, cap, cur, rfl, hb, hh, hnc, hcm, _⟩
  · have : L = [] := by simpa [strV] using hn
    subst this
    exact (Tryz.strings_Join_none none 0 _ w).mono fun _ _ ⟨he, hw⟩ => ⟨he, hw ▸ Below.refl _ _⟩
  · have hlt : b < w.heap.size := (Array.getElem?_eq_some_iff.1 hh).1
    have hm : (L.map fun p => str p).map (·.data.toList) = L := by
      rw [List.map_map]
      exact (List.map_congr_left fun a _ => rfl).trans (List.map_id L)
    have hsd : (str sep).data.toList = sep := rfl
    have hl : (L.map fun p => str p).length = L.length := by simp
    have key := Tryz.strings_Join b 0 cap (L.map fun p => str p) (str sep) w (fun j x hx => by
      have := h.cells rfl j (.string x) (by unfold strV; rw [List.getElem?_map] at hx ⊢; cases e : L[j]? <;> simp_all)
      rw [S.add_mk] at this
      rw [Nat.zero_add]; exact this) hlt (by omega) (by omega) (by rw [hm, hsd]; omega)
    rw [hm, hsd, hl] at key
    exact key

/-- a part of a line: a word, a number, a set -/
inductive Pt where
  | w (b : List UInt8)
  | n (z : Int)
  | s (m : Nat)
def Pt.val : Pt → Value
  | .w b => .iface 9 (.string (str b))
  | .n z => .iface 3 (.int .i64 z)
  | .s m => .iface 31 (.int .u64 (m : Int))
def Pt.out : Pt → List UInt8
  | .w b => b
  | .n z => dg z
  | .s m => S.txt m
def Pt.ok : Pt → Prop
  | .w _ => True
  | .n z => 0 ≤ z ∧ z ≤ 9223372036854775807
  | .s m => m < 18446744073709551616
def lineP (P : List Pt) : List UInt8 := Lib.join (P.map Pt.out) [32] ++ [10]
theorem pt_at {P : List Pt} {k : Nat} {p : Pt} {u : Value} (h : P[k]? = some p) (hu : (P.map Pt.val)[k]? = some u) : u = p.val := by
  rw [List.getElem?_map, h] at hu; simp at hu; exact hu.symm
theorem outs_snoc {P : List Pt} {k : Nat} {p : Pt} (h : P[k]? = some p) : (P.take (k + 1)).map Pt.out = (P.take k).map Pt.out ++ [p.out] := by
  rw [List.take_add_one, h]; simp
theorem str_info : (Tryz.prog.info? 9).map (fun i => (i.zero, i.size, i.bytes)) = some (some (.string ⟨#[]⟩), 1, 16) := by kernel_rfl

theorem ta_ww (v : Value) (w : World) : (Instr.typeAssert (.iface 9 v) 20 9 true).run Tryz.prog w = .ok (.tuple #[v, .bool true]) w := by kernel_rfl
theorem ta_nw (v : Value) (w : World) : (Instr.typeAssert (.iface 3 v) 20 9 true).run Tryz.prog w = .ok (.tuple #[.string ⟨#[]⟩, .bool false]) w := by kernel_rfl
theorem ta_nn (v : Value) (w : World) : (Instr.typeAssert (.iface 3 v) 20 3 true).run Tryz.prog w = .ok (.tuple #[v, .bool true]) w := by kernel_rfl
theorem ta_sw (v : Value) (w : World) : (Instr.typeAssert (.iface 31 v) 20 9 true).run Tryz.prog w = .ok (.tuple #[.string ⟨#[]⟩, .bool false]) w := by kernel_rfl
theorem ta_sn (v : Value) (w : World) : (Instr.typeAssert (.iface 31 v) 20 3 true).run Tryz.prog w = .ok (.tuple #[.int .i64 0, .bool false]) w := by kernel_rfl
theorem ta_ss (v : Value) (w : World) : (Instr.typeAssert (.iface 31 v) 20 31 true).run Tryz.prog w = .ok (.tuple #[v, .bool true]) w := by kernel_rfl
set_option maxRecDepth 100000 in
set_option maxHeartbeats 2000000 in
theorem lineof_any (P : List Pt) (A : Option Addr) (c g : Nat) (w : World) (hE : Env w) (hP : P.length ≤ 20) (hok : ∀ p ∈ P, p.ok) (hj : (Lib.join (P.map Pt.out) [32]).length ≤ 4294967295) (hR : Reads w g A P.length (P.map Pt.val)) :
    Calls Tryz.prog 159 #[.slice A P.length c] w (AStr (lineP P) w) := by
  obtain ⟨i0, hi0, hz0, hz1, hz2⟩ := info_parts str_info
  have HI : Hid (Tryz.prog.info? 9 = some i0) := hi0
  have HZ0 := Lib.hid hz0
  have HZ1 := Lib.hid hz1
  have HZ2 := Lib.hid hz2
  have HE := Lib.hid hE
  have HR := Lib.hid hR
  have HOK := Lib.hid hok
  have HJ := Lib.hid hj
  clear hi0 hz0 hz1 hz2 hE hR hok hj
  go_enter Tryz.func159, Tryz.ntmps159
  go_wp2
  go_loopw [3, 11] (fun va i wr => ∃ k : Nat, k ≤ P.length ∧ i = .int .i64 k ∧ Hid (Below w.heap.size w wr) ∧ Hid (wr.ownsRow w.heap.size 9 1 va k (strV ((P.take k).map Pt.out)))) (fun _ i _ => P.length - (intOf i).toNat)
  case atStart => exact ⟨0, by omega, rfl, Lib.hid (Below.refl _ _), Lib.hid ⟨rfl, .inl ⟨rfl, rfl⟩⟩⟩
  case round =>
    obtain ⟨k, hk, rfl, hb, hown⟩ := hrel
    by_cases hlt : k < P.length
    · obtain ⟨ad, u, rfl, hu, hc⟩ := (HR.out.below hb.out).at_ hlt
      obtain ⟨p, hp⟩ : ∃ p, P[k]? = some p := ⟨_, List.getElem?_eq_getElem hlt⟩
      obtain rfl := pt_at hp hu
      clear hu
      have HS := Lib.hid (outs_snoc hp)
      have hpo := HOK.out p (List.mem_of_getElem? hp)
      have hbs := hb.out.size
      clear hp
      cases p with
      | w b =>
        simp only [Pt.val] at hc
        have ta := ta_ww (.string (str b))
        go_wp2_with (at_builtin; refine wpList_append_own _ rfl _ _ 225 rfl w.heap.size 9 i0 (.string ⟨#[]⟩) 1 16 Tryz.underlying225 HI.out HZ0.out HZ1.out HZ2.out rfl (by decide) _ _ _ rfl (hown.out.alloc _) ⟨wr.heap.size, 0, none⟩ 1 1 [.string (str (b))] rfl rfl (cell_one_new _ _ _) (by simp [Value.oneCell']) (by unfold maxLen; omega) (by omega) (by simp; omega) ?_; intro v' w4 hown' hg3 _)
        have HB4 : Hid (Below w.heap.size w w4) := Lib.hid ((hb.out.alloc hbs _).grown hg3 (by simp; omega) (fun g e => (hown.out.lt g e).1))
        go_wp2
        go_roundw
        case rel => exact ⟨k + 1, by omega, by go_num, HB4, Lib.hid (by rw [HS.out, strV_append]; simpa [strV, Pt.out] using hown')⟩
        case measure => simp [intOf]; omega
      | n z =>
        simp only [Pt.val] at hc
        have ta := ta_nw (.int .i64 z)
        have ta2 := ta_nn (.int .i64 z)
        go_wp2_with (fail)
        refine (itoa_any z hpo.1 hpo.2 _ (HE.out.below hb.out)).mono ?_
        rintro e w3 ⟨rfl, hb3⟩
        have HB3 := Lib.hid (hb.out.trans (hb3.mono hb.out.size))
        have HO3 := Lib.hid (own_below hown.out hb3)
        clear hb3 hc
        have hbs := HB3.out.size
        go_wp2_with (at_builtin; refine wpList_append_own _ rfl _ _ 225 rfl w.heap.size 9 i0 (.string ⟨#[]⟩) 1 16 Tryz.underlying225 HI.out HZ0.out HZ1.out HZ2.out rfl (by decide) _ _ _ rfl (HO3.out.alloc _) ⟨w3.heap.size, 0, none⟩ 1 1 [.string (str (dg z))] rfl rfl (cell_one_new _ _ _) (by simp [Value.oneCell']) (by unfold maxLen; omega) (by omega) (by simp; omega) ?_; intro v' w4 hown' hg3 _)
        have HB4 : Hid (Below w.heap.size w w4) := Lib.hid ((HB3.out.alloc hbs _).grown hg3 (by simp; omega) (fun g e => (HO3.out.lt g e).1))
        go_wp2
        go_roundw
        case rel => exact ⟨k + 1, by omega, by go_num, HB4, Lib.hid (by rw [HS.out, strV_append]; simpa [strV, Pt.out] using hown')⟩
        case measure => simp [intOf]; omega
      | s m =>
        simp only [Pt.val] at hc
        have ta := ta_sw (.int .u64 (m : Int))
        have ta2 := ta_sn (.int .u64 (m : Int))
        have ta3 := ta_ss (.int .u64 (m : Int))
        go_wp2_with (fail)
        refine (S.text_any m hpo _).mono ?_
        rintro e w3 ⟨rfl, hb3⟩
        have HB3 := Lib.hid (hb.out.trans (hb3.mono hb.out.size))
        have HO3 := Lib.hid (own_below hown.out hb3)
        clear hb3 hc
        have hbs := HB3.out.size
        go_wp2_with (at_builtin; refine wpList_append_own _ rfl _ _ 225 rfl w.heap.size 9 i0 (.string ⟨#[]⟩) 1 16 Tryz.underlying225 HI.out HZ0.out HZ1.out HZ2.out rfl (by decide) _ _ _ rfl (HO3.out.alloc _) ⟨w3.heap.size, 0, none⟩ 1 1 [.string (str (S.txt m))] rfl rfl (cell_one_new _ _ _) (by simp [Value.oneCell']) (by unfold maxLen; omega) (by omega) (by simp; omega) ?_; intro v' w4 hown' hg3 _)
        have HB4 : Hid (Below w.heap.size w w4) := Lib.hid ((HB3.out.alloc hbs _).grown hg3 (by simp; omega) (fun g e => (HO3.out.lt g e).1))
        go_wp2
        go_roundw
        case rel => exact ⟨k + 1, by omega, by go_num, HB4, Lib.hid (by rw [HS.out, strV_append]; simpa [strV, Pt.out] using hown')⟩
        case measure => simp [intOf]; omega
    · obtain rfl : k = P.length := by omega
      have HO : Hid (wr.ownsRow w.heap.size 9 1 u3 (P.map Pt.out).length (strV (P.map Pt.out))) := Lib.hid (by
        have := hown.out
        rw [List.take_length] at this
        rw [List.length_map]; exact this)
      have HLP : Hid (lineP P = Lib.join (P.map Pt.out) [32] ++ [10]) := Lib.hid rfl
      have hjl := HJ.out
      have hs1 : (str (Lib.join (P.map Pt.out) [32])).size = (Lib.join (P.map Pt.out) [32]).length := rfl
      go_wp2_with (fail)
      refine (join_strs (P.map Pt.out) [32] w.heap.size _ _ HO.out (by rw [List.length_map]; omega) (by have := HJ.out; omega)).mono ?_
      rintro e w3 ⟨rfl, hb3⟩
      have HB3 := Lib.hid (hb.out.trans (hb3.mono hb.out.size))
      clear hb3
      go_wp2
      go_ret
      exact ⟨by rw [HLP.out, ← S.str_app]; rfl, HB3.out⟩
end Go.Proofs.YteoodompphhkbaaGreatDoor.K

/- Txt -/
namespace Go.Proofs.YteoodompphhkbaaGreatDoor.K
set_option maxRecDepth 100000

/-- a number's digits -/
def digL (n : Nat) : List UInt8 := if n < 10 then [UInt8.ofNat (48 + n)] else digL (n / 10) ++ [UInt8.ofNat (48 + n % 10)]
termination_by n
decreasing_by omega
theorem digL_small {n : Nat} (h : n < 10) : digL n = [UInt8.ofNat (48 + n)] := by rw [digL]; rw [if_pos h]
theorem digL_big {n : Nat} (h : ¬ n < 10) : digL n = digL (n / 10) ++ digL (n % 10) := by
  rw [digL, if_neg h, digL_small (show n % 10 < 10 by omega)]
theorem digL_len : ∀ (k n : Nat), n < 10 ^ (k + 1) → (digL n).length ≤ k + 1
  | 0, n, h => by rw [digL_small (by simpa using h)]; simp
  | k + 1, n, h => by
    by_cases hn : n < 10
    · rw [digL_small hn]; simp
    · rw [digL_big hn, List.length_append, digL_small (show n % 10 < 10 by omega)]
      have := digL_len k (n / 10) (by rw [Nat.pow_succ] at h; omega)
      simp; omega
def val (l : List UInt8) : Nat := l.foldl (fun a c => 10 * a + (c.toNat - 48)) 0
end Go.Proofs.YteoodompphhkbaaGreatDoor.K

/-
  WHAT IS PROVED: the text of a state as lines, and how long it is at most. No condition.
-/
namespace Go.Proofs.YteoodompphhkbaaGreatDoor.K
set_option maxRecDepth 100000
open Go.RowKit C

theorem dec_eq : ∀ n, Lib.decDigits n = digL n := by
  intro n
  induction n using Nat.strongRecOn with
  | ind n ih =>
    unfold Lib.decDigits digL
    by_cases h : n < 10
    · rw [dif_pos h, if_pos h]
    · rw [dif_neg h, if_neg h, ih (n / 10) (by omega)]
theorem dg_eq (z : Int) : dg z = digL z.toNat := dec_eq _
theorem dg_len {z : Int} (h : z < 10000000000000000000) : (dg z).length ≤ 19 := by
  rw [dg_eq]
  exact digL_len 18 _ (by have : (10 : Nat) ^ (18 + 1) = 10000000000000000000 := by decide
                          omega)
def selfP (s : Sv) : List Pt := [.w [115, 101, 108, 102], .n s.i, .w [109, 97, 115, 116, 101, 114], .n s.m, .w [99, 117, 114, 114, 101, 110, 116], .n s.c, .w [118, 111, 116, 101], .n s.v, .w [99, 111, 110, 102, 105, 103], .n s.f]
def nodeP (k : Kn) : List Pt := [.w [110, 111, 100, 101], .n k.i, .w [109, 97, 115, 116, 101, 114], .n k.m, .w [99, 111, 110, 102, 105, 103], .n k.c]
def slotsP (t : Tab) (o e : Int) : List Pt := [.w [115, 108, 111, 116, 115], .n o, .w [101, 112, 111, 99, 104], .n e, .w [58], .s (setOE t o e)]
def epLines (t : Tab) (o : Int) : List (List UInt8) := (epsL t o).map fun e => lineP (slotsP t o e)
def tabLines (t : Tab) : List (List UInt8) := (ownersL t).flatMap (epLines t)
def linesS (s : Sv) (l : List Kn) : List (List UInt8) := (lineP (selfP s) :: l.map fun k => lineP (nodeP k)) ++ tabLines s.t
def txS (s : Sv) (l : List Kn) : List UInt8 := Lib.join (linesS s l) []
theorem join_nil : ∀ L : List (List UInt8), Lib.join L [] = L.flatten
  | [] => rfl
  | a :: L => by
    rw [Lib.join_cons, List.flatten_cons]
    congr 1
    unfold Lib.joinTail
    simp
theorem eps_len (t : Tab) (o : Int) : (epsL t o).length ≤ 64 := by
  unfold epsL
  have h1 := Lib.compact_length_le (sorted (epRaw t o))
  have h2 := sorted_len (epRaw t o)
  have h3 : (epRaw t o).length ≤ 64 := by unfold epRaw; rw [List.length_map]; exact slotsTo_le _ _
  omega
theorem flat_le {α β : Type} (f : α → List β) (c : Nat) : ∀ (L : List α), (∀ x ∈ L, (f x).length ≤ c) → (L.flatMap f).length ≤ L.length * c
  | [], _ => by simp
  | x :: L, h => by
    have h1 := flat_le f c L fun y hy => h y (List.mem_cons_of_mem _ hy)
    have h2 := h x (List.mem_cons_self ..)
    rw [List.flatMap_cons, List.length_append, List.length_cons, Nat.add_mul]
    omega
theorem tabLines_len (t : Tab) : (tabLines t).length ≤ 4096 := by
  unfold tabLines
  have h1 := flat_le (epLines t) 64 (ownersL t) fun o _ => by unfold epLines; rw [List.length_map]; exact eps_len t o
  have h2 := owners_len t
  omega
theorem sum_le {c : Nat} : ∀ (L : List (List UInt8)), (∀ x ∈ L, x.length ≤ c) → L.flatten.length ≤ L.length * c
  | [], _ => by simp
  | x :: L, h => by
    have h1 := sum_le L fun y hy => h y (List.mem_cons_of_mem _ hy)
    have h2 := h x (List.mem_cons_self ..)
    rw [List.flatten_cons, List.length_append, List.length_cons, Nat.add_mul]
    omega
theorem stx_len (m : Nat) : (S.txt m).length ≤ 384 := by
  have h := S.tx_len (S.upto m 64)
  have h2 := S.upto_le (s := m) (n := 64) (Nat.le_refl _)
  show (S.tx (S.upto m 64)).length ≤ _
  omega

/-! ### what a right state's parts are -/
theorem eps_mem {t : Tab} {o e : Int} (h : e ∈ epsL t o) : ∃ i, i < 64 ∧ t.o i = o ∧ t.e i = e := by
  unfold epsL at h
  rw [comp_mem, C.mem_sorted] at h
  unfold epRaw at h
  obtain ⟨i, hi, rfl⟩ := List.mem_map.1 h
  obtain ⟨h1, h2⟩ := (of_slots t o).1 hi
  exact ⟨i, h1, h2, rfl⟩
theorem ok_parts {s : Sv} {l : List Kn} (h : okS s l = true) : (1 ≤ s.i ∧ s.i ≤ 4294967296) ∧ (0 ≤ s.m ∧ s.m ≤ 4294967296) ∧ (0 ≤ s.c ∧ s.c ≤ 281474976710656) ∧ (0 ≤ s.v ∧ s.v ≤ 281474976710656) ∧ (0 ≤ s.f ∧ s.f ≤ 281474976710656) ∧ s.n ≤ 15 ∧ rkB s.i l = true ∧ okB s.t = true ∧ ownB s.i l s.t = true := by
  unfold okS epsB fewB rtB folB at h
  simp only [Bool.and_eq_true, Bool.or_eq_true, bet_iff, decide_eq_true_eq, beq_iff_eq, bne_iff_ne] at h
  obtain ⟨⟨⟨⟨h1, h2⟩, ⟨h3, h4⟩, h5⟩, h6, h7⟩, h8, h9⟩ := h
  refine ⟨h1, ?_, h3, ?_, ?_, h6, h7, h8, h9⟩ <;> omega
theorem kn_parts {i : Int} {l : List Kn} (h : rkB i l = true) {k : Kn} (hk : k ∈ l) : (1 ≤ k.i ∧ k.i ≤ 4294967296) ∧ (0 ≤ k.m ∧ k.m ≤ 4294967296) ∧ (0 ≤ k.c ∧ k.c ≤ 281474976710656) ∧ k.i ≠ i := by
  obtain ⟨j, hj, rfl⟩ := List.getElem_of_mem hk
  have h1 := rk_iff.1 h j hj
  rw [at_some (List.getElem?_eq_getElem hj)] at h1
  unfold stepB knB folB at h1
  simp only [Bool.and_eq_true, Bool.or_eq_true, bet_iff, decide_eq_true_eq, beq_iff_eq, bne_iff_ne] at h1
  obtain ⟨⟨⟨⟨h2, h3⟩, h4⟩, h5⟩, _⟩ := h1
  refine ⟨h2, ?_, h4, h5⟩
  omega
theorem own_parts {t : Tab} {o : Int} (h : o ∈ ownersL t) : 1 ≤ o ∧ o ≤ 4294967296 := by
  obtain ⟨i, _, h1, rfl⟩ := owners_mem.1 h
  exact bet_iff.1 h1
theorem ep_parts {t : Tab} (ht : okB t = true) {o e : Int} (ho : o ∈ ownersL t) (h : e ∈ epsL t o) : 0 ≤ e ∧ e ≤ 281474976710656 := by
  obtain ⟨i, hi, h1, rfl⟩ := eps_mem h
  have h2 := own_parts ho
  have h3 := ok_held ht hi
  omega

/-! ### lengths -/
theorem self_len {s : Sv} {l : List Kn} (h : okS s l = true) : (Lib.join ((selfP s).map Pt.out) [32]).length ≤ 200 := by
  obtain ⟨h1, h2, h3, h4, h5, _⟩ := ok_parts h
  have d1 := dg_len (z := s.i) (by omega)
  have d2 := dg_len (z := s.m) (by omega)
  have d3 := dg_len (z := s.c) (by omega)
  have d4 := dg_len (z := s.v) (by omega)
  have d5 := dg_len (z := s.f) (by omega)
  simp [selfP, Pt.out, Lib.join_cons, Lib.joinTail]
  omega
theorem node_len {i : Int} {l : List Kn} (h : rkB i l = true) {k : Kn} (hk : k ∈ l) : (Lib.join ((nodeP k).map Pt.out) [32]).length ≤ 200 := by
  obtain ⟨h1, h2, h3, _⟩ := kn_parts h hk
  have d1 := dg_len (z := k.i) (by omega)
  have d2 := dg_len (z := k.m) (by omega)
  have d3 := dg_len (z := k.c) (by omega)
  simp [nodeP, Pt.out, Lib.join_cons, Lib.joinTail]
  omega
theorem slots_len {t : Tab} (ht : okB t = true) {o e : Int} (ho : o ∈ ownersL t) (h : e ∈ epsL t o) : (Lib.join ((slotsP t o e).map Pt.out) [32]).length ≤ 500 := by
  have h1 := own_parts ho
  have h2 := ep_parts ht ho h
  have d1 := dg_len (z := o) (by omega)
  have d2 := dg_len (z := e) (by omega)
  have d3 := stx_len (setOE t o e)
  simp [slotsP, Pt.out, Lib.join_cons, Lib.joinTail]
  omega
theorem self_ok {s : Sv} {l : List Kn} (h : okS s l = true) : ∀ p ∈ selfP s, p.ok := by
  obtain ⟨h1, h2, h3, h4, h5, _⟩ := ok_parts h
  intro p hp
  simp only [selfP, List.mem_cons, List.not_mem_nil, or_false] at hp
  rcases hp with rfl | rfl | rfl | rfl | rfl | rfl | rfl | rfl | rfl | rfl <;> first | exact trivial | (show 0 ≤ _ ∧ _ ≤ _; omega)
theorem node_ok {i : Int} {l : List Kn} (h : rkB i l = true) {k : Kn} (hk : k ∈ l) : ∀ p ∈ nodeP k, p.ok := by
  obtain ⟨h1, h2, h3, _⟩ := kn_parts h hk
  intro p hp
  simp only [nodeP, List.mem_cons, List.not_mem_nil, or_false] at hp
  rcases hp with rfl | rfl | rfl | rfl | rfl | rfl <;> first | exact trivial | (show 0 ≤ _ ∧ _ ≤ _; omega)
theorem slots_ok {t : Tab} (ht : okB t = true) {o e : Int} (ho : o ∈ ownersL t) (h : e ∈ epsL t o) : ∀ p ∈ slotsP t o e, p.ok := by
  have h1 := own_parts ho
  have h2 := ep_parts ht ho h
  intro p hp
  simp only [slotsP, List.mem_cons, List.not_mem_nil, or_false] at hp
  rcases hp with rfl | rfl | rfl | rfl | rfl | rfl <;> first | exact trivial | exact pick_lt _ | (show 0 ≤ _ ∧ _ ≤ _; omega)
theorem line_len (P : List Pt) : (lineP P).length = (Lib.join (P.map Pt.out) [32]).length + 1 := by simp [lineP]
theorem lines_each {s : Sv} {l : List Kn} (h : okS s l = true) : ∀ x ∈ linesS s l, x.length ≤ 501 := by
  obtain ⟨_, _, _, _, _, _, h7, h8, _⟩ := ok_parts h
  intro x hx
  unfold linesS at hx
  rw [List.mem_append] at hx
  rcases hx with hx | hx
  · rcases List.mem_cons.1 hx with rfl | hx
    · rw [line_len]; have := self_len h; omega
    · obtain ⟨k, hk, rfl⟩ := List.mem_map.1 hx
      rw [line_len]; have := node_len h7 hk; omega
  · unfold tabLines epLines at hx
    obtain ⟨o, ho, hx⟩ := List.mem_flatMap.1 hx
    obtain ⟨e, he, rfl⟩ := List.mem_map.1 hx
    rw [line_len]; have := slots_len h8 ho he; omega
theorem lines_len {s : Sv} {l : List Kn} (h : okS s l = true) (hl : l.length = s.n) : (linesS s l).length ≤ 4112 := by
  obtain ⟨_, _, _, _, _, h6, _⟩ := ok_parts h
  have := tabLines_len s.t
  unfold linesS
  simp
  omega
theorem txS_len {s : Sv} {l : List Kn} (h : okS s l = true) (hl : l.length = s.n) : (txS s l).length ≤ 2060112 := by
  unfold txS
  rw [join_nil]
  have h1 := sum_le (linesS s l) (lines_each h)
  have h2 := lines_len h hl
  omega
end Go.Proofs.YteoodompphhkbaaGreatDoor.K

/- Ctext -/
namespace Go.Proofs.YteoodompphhkbaaGreatDoor.K
set_option maxRecDepth 100000
open Go.RowKit C

/-- what lies beside a row of one's own that grows -/
def RdF (v : Value) (w : World) (A : Option Addr) (n : Nat) (xs : List Value) : Prop := ∀ g, (v.ownBlock = some g ∨ w.heap.size ≤ g) → Reads w g A n xs
section
variable {v v' : Value} {w w' : World} {A : Option Addr} {n : Nat} {xs : List Value}
theorem RdF.below (h : RdF v w A n xs) (hb : Below w.heap.size w w') : RdF v w' A n xs := fun g hg => by
  rcases hg with hg | hg
  · exact (h g (.inl hg)).below hb
  · exact ((h w.heap.size (.inr (Nat.le_refl _))).below hb).other hg
theorem RdF.push (h : RdF v w A n xs) (hg : w.grownBy w' v.ownBlock) (hv : v'.ownBlock = v.ownBlock ∨ v'.ownBlock = some w.heap.size) : RdF v' w' A n xs := fun g hgg => by
  have h0 := h w.heap.size (.inr (Nat.le_refl _))
  refine ⟨h0.1, fun hn => ?_⟩
  obtain ⟨ad, e, hlt, _, hc⟩ := h0.2 hn
  have hne : some ad.block ≠ v.ownBlock := fun e2 => by
    obtain ⟨ad', e3, _, h4, _⟩ := (h ad.block (.inl e2.symm)).2 hn
    rw [e] at e3; injection e3 with e3; subst e3; exact h4 rfl
  refine ⟨ad, e, Nat.lt_of_lt_of_le hlt hg.size, fun e2 => ?_, fun j u hu => (World.cell?_of_block (hg.block (ad.add j).block (by rw [block_of_add]; exact hlt) (by rw [block_of_add]; exact hne))).trans (hc j u hu)⟩
  subst e2
  rcases hgg with hgg | hgg
  · rcases hv with hv | hv
    · exact hne (hgg.symm.trans hv)
    · rw [hv] at hgg; injection hgg with hgg; omega
  · have := hg.size; omega
theorem RdF.alloc (h : RdF v w A n xs) (o : Obj) : RdF v (w.alloc o) A n xs := h.below ((Below.refl _ _).alloc (Nat.le_refl _) o)
end
theorem rdF_of {v : Value} {w w' : World} {A : Option Addr} {n : Nat} {xs : List Value} (h : ∀ g, w'.heap.size ≤ g ∨ g < w.heap.size → Reads w' g A n xs) (hv : ∀ g, v.ownBlock = some g → g < w.heap.size) : RdF v w' A n xs := fun g hg => by
  rcases hg with hg | hg
  · exact h g (.inr (hv g hg))
  · exact h g (.inl hg)
/-- a row of one cell that was just made -/
theorem own_one (w : World) (t : TypeId) (v : Value) : (w.alloc (.cells #[v] t)).ownsRow w.heap.size t 1 (.slice (some ⟨w.heap.size, 0, none⟩) 1 1) 1 [v] :=
  ⟨rfl, .inr ⟨w.heap.size, 1, #[v], rfl, Nat.le_refl _, Blk.new w t #[v], Nat.le_refl _, by unfold maxLen; omega, rfl, rfl⟩⟩
theorem lineof_at (P : List Pt) (n : Nat) (hn : P.length = n) (A : Option Addr) (c g : Nat) (w : World) (hE : Env w) (hP : n ≤ 20) (hok : ∀ p ∈ P, p.ok) (hj : (Lib.join (P.map Pt.out) [32]).length ≤ 4294967295) (hR : Reads w g A n (P.map Pt.val)) :
    Calls Tryz.prog 159 #[.slice A n c] w (AStr (lineP P) w) := by
  subst hn
  exact lineof_any P A c g w hE hP hok hj hR
/-- a text and an error are handed back -/
def TextPost (b : List UInt8) (f : Int) (w : World) (e : Ending) (w' : World) : Prop := e = .returned (.tuple #[.string (str b), .int .i64 f]) ∧ Below w.heap.size w w'
theorem text_no (s : Sv) (l : List Kn) (w : World) (hl : KnAt w s.a s.n l) (hN : s.n ≤ 9223372036854775807) (h : okS s l = false) : Calls Tryz.prog 86 #[.agg (stv s)] w (TextPost [] 10 w) := by
  have HS : Hid (StAt (w.alloc (.cells (stv s) 73)) w.heap.size s) := Lib.hid (StAt.new w s)
  have HB0 : Hid (Below w.heap.size w (w.alloc (.cells (stv s) 73))) := Lib.hid ((Below.refl _ w).alloc (Nat.le_refl _) _)
  have HL := Lib.hid (hl.up HB0.out)
  have HX := Lib.hid h
  clear hl h
  go_enter Tryz.func86, Tryz.ntmps86
  go_wp2_with (first | refine st_load rfl HS.out rfl ?_)
  refine (sright_any s l _ HL.out hN).mono ?_
  rintro e w1 ⟨rfl, hb1⟩
  rw [HX.out]
  go_wp2
  go_ret2
  exact ⟨rfl, HB0.out.trans (hb1.mono HB0.out.size)⟩

theorem take_kn {l : List Kn} {k : Nat} {r : Kn} (h : l[k]? = some r) : (l.take (k + 1)).map (fun k => lineP (nodeP k)) = (l.take k).map (fun k => lineP (nodeP k)) ++ [lineP (nodeP r)] := by
  rw [List.take_add_one, h]; simp
theorem take_ow {t : Tab} {L : List Int} {k : Nat} {o : Int} (h : L[k]? = some o) : (L.take (k + 1)).flatMap (epLines t) = (L.take k).flatMap (epLines t) ++ epLines t o := by
  rw [List.take_add_one, h]; simp
theorem take_ep {t : Tab} {o : Int} {L : List Int} {k : Nat} {e : Int} (h : L[k]? = some e) : (L.take (k + 1)).map (fun e => lineP (slotsP t o e)) = (L.take k).map (fun e => lineP (slotsP t o e)) ++ [lineP (slotsP t o e)] := by
  rw [List.take_add_one, h]; simp
/-- lines in a row of one's own -/
def Ls (base : Nat) (w : World) (v : Value) (L : List (List UInt8)) : Prop := w.ownsRow base 9 1 v L.length (strV L) ∧ v.ownBlock ≠ none
theorem Ls.push {base : Nat} {w w' : World} {v v' : Value} {L : List (List UInt8)} {b : List UInt8} (h : w'.ownsRow base 9 1 v' (L.length + 1) (strV L ++ [Value.string (str b)])) (hv : v'.ownBlock = v.ownBlock ∨ v'.ownBlock = some w.heap.size) (h0 : v.ownBlock ≠ none) : Ls base w' v' (L ++ [b]) := by
  refine ⟨?_, ?_⟩
  · rw [strV_append, List.length_append]; exact h
  · rcases hv with hv | hv <;> rw [hv]
    · exact h0
    · simp
theorem Ls.below {base : Nat} {w w' : World} {v : Value} {L : List (List UInt8)} (h : Ls base w v L) (hb : Below w.heap.size w w') : Ls base w' v L := ⟨own_below h.1 hb, h.2⟩

set_option maxRecDepth 100000 in
set_option maxHeartbeats 1500000 in
theorem text_yes (s : Sv) (l : List Kn) (w : World) (hE : Env w) (hl : KnAt w s.a s.n l) (h : okS s l = true) : Calls Tryz.prog 86 #[.agg (stv s)] w (TextPost (txS s l) 0 w) := by
  obtain ⟨i0, hi0, hz0, hz1, hz2⟩ := info_parts str_info
  have HI : Hid (Tryz.prog.info? 9 = some i0) := hi0
  have HZ0 := Lib.hid hz0
  have HZ1 := Lib.hid hz1
  have HZ2 := Lib.hid hz2
  have HS : Hid (StAt (w.alloc (.cells (stv s) 73)) w.heap.size s) := Lib.hid (StAt.new w s)
  have HB0 : Hid (Below w.heap.size w (w.alloc (.cells (stv s) 73))) := Lib.hid ((Below.refl _ w).alloc (Nat.le_refl _) _)
  have HE := Lib.hid (hE.below HB0.out)
  have HL := Lib.hid (hl.up HB0.out)
  have HX := Lib.hid h
  have hln := hl.1
  have hparts := ok_parts h
  have HSL := Lib.hid (self_len h)
  have HSO := Lib.hid (self_ok h)
  have HNL : Hid (∀ k, k ∈ l → (Lib.join ((nodeP k).map Pt.out) [32]).length ≤ 200) := Lib.hid fun k hk => node_len hparts.2.2.2.2.2.2.1 hk
  have HNO : Hid (∀ k, k ∈ l → ∀ p ∈ nodeP k, p.ok) := Lib.hid fun k hk => node_ok hparts.2.2.2.2.2.2.1 hk
  have HTL : Hid (∀ o e, o ∈ ownersL s.t → e ∈ epsL s.t o → (Lib.join ((slotsP s.t o e).map Pt.out) [32]).length ≤ 500) := Lib.hid fun o e ho he => slots_len hparts.2.2.2.2.2.2.2.1 ho he
  have HTO : Hid (∀ o e, o ∈ ownersL s.t → e ∈ epsL s.t o → ∀ p ∈ slotsP s.t o e, p.ok) := Lib.hid fun o e ho he => slots_ok hparts.2.2.2.2.2.2.2.1 ho he
  have HLN := Lib.hid (lines_len h hln)
  have HTX := Lib.hid (txS_len h hln)
  have hn15 : s.n ≤ 15 := hparts.2.2.2.2.2.1
  have HOW := Lib.hid (owners_len s.t)
  have HEL : Hid (∀ o, (epsL s.t o).length ≤ 64) := Lib.hid fun o => eps_len s.t o
  have HLI : Hid (linesS s l = (lineP (selfP s) :: l.map fun k => lineP (nodeP k)) ++ (ownersL s.t).flatMap (epLines s.t)) := Lib.hid rfl
  have HTS : Hid (txS s l = Lib.join (linesS s l) []) := Lib.hid rfl
  obtain ⟨TX, HT2⟩ : ∃ x, Hid (txS s l = x) := ⟨_, Lib.hid rfl⟩
  rw [HT2.out] at HTX HTS ⊢
  generalize linesS s l = LN at *
  clear hi0 hz0 hz1 hz2 hE hl h hparts HT2
  obtain ⟨si, sm, sc, sv, sf, A, n, cap, T⟩ := s
  simp only at HL HSL HSO HTL HTO hn15 hln HOW HEL HLI
  go_enter Tryz.func86, Tryz.ntmps86
  go_wp2_with (first | refine st_load rfl HS.out rfl ?_)
  refine (sright_any _ l _ HL.out (by show n ≤ _; omega)).mono ?_
  rintro e w1 ⟨rfl, hb1⟩
  rw [HX.out]
  have K1 := Lib.hid (HS.out.later hb1)
  have KB := Lib.hid (HB0.out.trans (hb1.mono HB0.out.size))
  have KL := Lib.hid (HL.out.below hb1)
  have KE := Lib.hid (HE.out.below hb1)
  clear hb1 HS HB0 HL HE
  obtain ⟨c0, c1, c2, c3, c4, c5⟩ := K1.out.box
  simp only at c0 c1 c2 c3 c4 c5
  have JR := Lib.hid (reads_new w1 20 ((selfP ⟨si, sm, sc, sv, sf, A, n, cap, T⟩).map Pt.val) #[.iface 9 (.string ⟨#[115, 101, 108, 102]⟩), .iface 3 (.int .i64 si), .iface 9 (.string ⟨#[109, 97, 115, 116, 101, 114]⟩), .iface 3 (.int .i64 sm), .iface 9 (.string ⟨#[99, 117, 114, 114, 101, 110, 116]⟩), .iface 3 (.int .i64 sc), .iface 9 (.string ⟨#[118, 111, 116, 101]⟩), .iface 3 (.int .i64 sv), .iface 9 (.string ⟨#[99, 111, 110, 102, 105, 103]⟩), .iface 3 (.int .i64 sf)] w.heap.size w1.heap.size 10 rfl rfl rfl (by have := K1.out.lt; omega))
  have JE := Lib.hid (KE.out.alloc (.cells #[.iface 9 (.string ⟨#[115, 101, 108, 102]⟩), .iface 3 (.int .i64 si), .iface 9 (.string ⟨#[109, 97, 115, 116, 101, 114]⟩), .iface 3 (.int .i64 sm), .iface 9 (.string ⟨#[99, 117, 114, 114, 101, 110, 116]⟩), .iface 3 (.int .i64 sc), .iface 9 (.string ⟨#[118, 111, 116, 101]⟩), .iface 3 (.int .i64 sv), .iface 9 (.string ⟨#[99, 111, 110, 102, 105, 103]⟩), .iface 3 (.int .i64 sf)] 20))
  have C1 := Lib.hid (lineof_at (selfP ⟨si, sm, sc, sv, sf, A, n, cap, T⟩) 10 rfl (some ⟨w1.heap.size, 0, none⟩) 10 w.heap.size _ JE.out (by decide) HSO.out (by have := HSL.out; omega) JR.out)
  have J1 := Lib.hid (K1.out.alloc (.cells #[.iface 9 (.string ⟨#[115, 101, 108, 102]⟩), .iface 3 (.int .i64 si), .iface 9 (.string ⟨#[109, 97, 115, 116, 101, 114]⟩), .iface 3 (.int .i64 sm), .iface 9 (.string ⟨#[99, 117, 114, 114, 101, 110, 116]⟩), .iface 3 (.int .i64 sc), .iface 9 (.string ⟨#[118, 111, 116, 101]⟩), .iface 3 (.int .i64 sv), .iface 9 (.string ⟨#[99, 111, 110, 102, 105, 103]⟩), .iface 3 (.int .i64 sf)] 20))
  have J3 := Lib.hid (KB.out.alloc KB.out.size (.cells #[.iface 9 (.string ⟨#[115, 101, 108, 102]⟩), .iface 3 (.int .i64 si), .iface 9 (.string ⟨#[109, 97, 115, 116, 101, 114]⟩), .iface 3 (.int .i64 sm), .iface 9 (.string ⟨#[99, 117, 114, 114, 101, 110, 116]⟩), .iface 3 (.int .i64 sc), .iface 9 (.string ⟨#[118, 111, 116, 101]⟩), .iface 3 (.int .i64 sv), .iface 9 (.string ⟨#[99, 111, 110, 102, 105, 103]⟩), .iface 3 (.int .i64 sf)] 20))
  have JL := Lib.hid (KL.out.below ((Below.refl _ w1).alloc (Nat.le_refl _) (.cells #[.iface 9 (.string ⟨#[115, 101, 108, 102]⟩), .iface 3 (.int .i64 si), .iface 9 (.string ⟨#[109, 97, 115, 116, 101, 114]⟩), .iface 3 (.int .i64 sm), .iface 9 (.string ⟨#[99, 117, 114, 114, 101, 110, 116]⟩), .iface 3 (.int .i64 sc), .iface 9 (.string ⟨#[118, 111, 116, 101]⟩), .iface 3 (.int .i64 sv), .iface 9 (.string ⟨#[99, 111, 110, 102, 105, 103]⟩), .iface 3 (.int .i64 sf)] 20)))
  go_wp2_with (fail)
  with_reducible refine C1.out.mono ?_
  rintro e w2 ⟨rfl, hb2⟩
  have L1 := Lib.hid (J1.out.later hb2)
  have LB := Lib.hid (J3.out.trans (hb2.mono J3.out.size))
  have LE := Lib.hid (JE.out.below hb2)
  have LL := Lib.hid (JL.out.below hb2)
  clear hb2 C1 JR JE J1 J3 JL K1 KB KE KL c0 c1 c2 c3 c4 c5
  obtain ⟨line1, HL1⟩ : ∃ x, Hid (lineP (selfP ⟨si, sm, sc, sv, sf, A, n, cap, T⟩) = x) := ⟨_, Lib.hid rfl⟩
  rw [HL1.out] at HLI ⊢
  have MO := Lib.hid (own_one w2 9 (.string (str line1)))
  have hw2 : w.heap.size < w2.heap.size := L1.out.lt
  obtain ⟨_, _, _, _, _, c5⟩ := (L1.out.alloc (.cells #[.string (str line1)] 9)).box
  simp only at c5
  go_wp2
  go_loopw [4, 43] (fun va i wr => ∃ k : Nat, k ≤ n ∧ i = .int .i64 k ∧ Hid (Below w2.heap.size w2 wr) ∧ Hid (Ls w2.heap.size wr va (line1 :: (l.take k).map fun k => lineP (nodeP k)))) (fun _ i _ => n - (intOf i).toNat)
  case atStart => exact ⟨0, by omega, rfl, Lib.hid ((Below.refl _ _).alloc (Nat.le_refl _) _), Lib.hid ⟨MO.out, fun h => by cases h⟩⟩
  case round =>
    obtain ⟨k, hk, rfl, hb, hls⟩ := hrel
    by_cases hlt : k < n
    · obtain ⟨ad, r, hA, hr, hlt2, d0, d1, d2⟩ := (LL.out.below hb.out).at_ hlt
      subst hA
      have HTK := Lib.hid (take_kn hr)
      have HRL := Lib.hid (HNL.out r (List.mem_of_getElem? hr))
      have HRO := Lib.hid (HNO.out r (List.mem_of_getElem? hr))
      obtain ⟨ri, rm, rc⟩ := r
      simp only at d0 d1 d2
      have hbs := hb.out.size
      have HK := Lib.hid (KBx.new wr ⟨ri, rm, rc⟩)
      obtain ⟨g0, g1, g2⟩ := HK.out.box
      simp only at g0 g1 g2
      have JR := Lib.hid (reads_new (wr.alloc (.cells #[.int .i64 ri, .int .i64 rm, .int .i64 rc] 111)) 20 ((nodeP ⟨ri, rm, rc⟩).map Pt.val) #[.iface 9 (.string ⟨#[110, 111, 100, 101]⟩), .iface 3 (.int .i64 ri), .iface 9 (.string ⟨#[109, 97, 115, 116, 101, 114]⟩), .iface 3 (.int .i64 rm), .iface 9 (.string ⟨#[99, 111, 110, 102, 105, 103]⟩), .iface 3 (.int .i64 rc)] w.heap.size (wr.heap.size + 1) 6 (by simp) rfl rfl (by omega))
      have JE := Lib.hid (((LE.out.below hb.out).alloc (.cells #[.int .i64 ri, .int .i64 rm, .int .i64 rc] 111)).alloc (.cells #[.iface 9 (.string ⟨#[110, 111, 100, 101]⟩), .iface 3 (.int .i64 ri), .iface 9 (.string ⟨#[109, 97, 115, 116, 101, 114]⟩), .iface 3 (.int .i64 rm), .iface 9 (.string ⟨#[99, 111, 110, 102, 105, 103]⟩), .iface 3 (.int .i64 rc)] 20))
      have C1 := Lib.hid (lineof_at (nodeP ⟨ri, rm, rc⟩) 6 rfl (some ⟨wr.heap.size + 1, 0, none⟩) 6 w.heap.size _ JE.out (by decide) HRO.out (by have := HRL.out; omega) JR.out)
      have JB : Hid (Below wr.heap.size wr ((wr.alloc (.cells #[.int .i64 ri, .int .i64 rm, .int .i64 rc] 111)).alloc (.cells #[.iface 9 (.string ⟨#[110, 111, 100, 101]⟩), .iface 3 (.int .i64 ri), .iface 9 (.string ⟨#[109, 97, 115, 116, 101, 114]⟩), .iface 3 (.int .i64 rm), .iface 9 (.string ⟨#[99, 111, 110, 102, 105, 103]⟩), .iface 3 (.int .i64 rc)] 20))) := Lib.hid (((Below.refl _ _).alloc (Nat.le_refl _) _).alloc (by simp) _)
      go_wp2_with (fail)
      with_reducible refine C1.out.mono ?_
      rintro e w4 ⟨rfl, hb4⟩
      have PB := Lib.hid (JB.out.trans (hb4.mono JB.out.size))
      have QB := Lib.hid (hb.out.trans (PB.out.mono hbs))
      have QL := Lib.hid (hls.out.below PB.out)
      have QO := Lib.hid QL.out.1
      have hql : (line1 :: (l.take k).map fun k => lineP (nodeP k)).length ≤ 17 := by simp; omega
      obtain ⟨line2, HL2⟩ : ∃ x, Hid (lineP (nodeP ⟨ri, rm, rc⟩) = x) := ⟨_, Lib.hid rfl⟩
      rw [HL2.out] at HTK ⊢
      have hqs := QB.out.size
      clear hb4 C1 JR JE JB HK d0 d1 d2 g0 g1 g2 hr
      obtain ⟨LA, HLA⟩ : ∃ x, Hid ((line1 :: (l.take k).map fun k => lineP (nodeP k)) = x) := ⟨_, Lib.hid rfl⟩
      rw [HLA.out] at QL QO hql
      have HRN := Lib.hid (reads_new w4 9 [.string (str line2)] #[.string (str line2)] w.heap.size w4.heap.size 1 rfl rfl rfl (by omega))
      go_wp2_with (at_builtin; refine wpList_append_cells _ rfl (.tmp 47) (.tmp 62) 225 rfl w2.heap.size 9 i0 _ 16 Tryz.underlying225 HI.out HZ0.out HZ1.out HZ2.out rfl _ _ _ rfl (QO.out.alloc _) _ _ 1 1 [.string (str (line2))] rfl HRN.out (fun u hu => by simp at hu; subst hu; rfl) (by unfold maxLen; omega) (by omega) (by simp; omega) ?_; intro v' w6 hown' hg3 hob)
      have HB6 : Hid (Below w2.heap.size w2 w6) := Lib.hid ((QB.out.alloc hqs _).grown hg3 (by simp; omega) (fun g e => (QO.out.lt g e).1))
      have HP := Lib.hid (Ls.push hown' hob QL.out.2)
      go_wp2
      go_roundw
      case rel => exact ⟨k + 1, by omega, by go_num, HB6, Lib.hid (by rw [HTK.out, ← List.cons_append, HLA.out]; exact HP.out)⟩
      case measure => simp [intOf]; omega
    · obtain rfl : n = k := by omega
      have HLS : Hid (Ls w2.heap.size wr u4 (line1 :: l.map fun k => lineP (nodeP k))) := Lib.hid (by
        have := hls.out
        rw [List.take_of_length_le (by omega)] at this
        exact this)
      have HAL : Hid ((line1 :: l.map fun k => lineP (nodeP k)).length ≤ 16) := Lib.hid (by simp; omega)
      generalize (line1 :: l.map fun k => lineP (nodeP k)) = LA at *
      have N1 := Lib.hid (L1.out.later hb.out)
      clear hls MO
      go_wp2_with (first | refine st_table rfl N1.out rfl ?_)
      refine (owners_any T _).mono ?_
      rintro e w3 ⟨hb3, A2, c2, rfl, hnc, hcm, hrd⟩
      have OB := Lib.hid (hb.out.trans (hb3.mono hb.out.size))
      have OL := Lib.hid (HLS.out.below hb3)
      have OR := Lib.hid (rdF_of (v := u4) hrd fun g e => (HLS.out.1.lt g e).2)
      clear hb3 hrd N1 HLS
      obtain ⟨LW, HLW⟩ : ∃ x, Hid (ownersL T = x) := ⟨_, Lib.hid rfl⟩
      rw [HLW.out] at hnc HOW HLI HTL HTO OR ⊢
      go_wp2
      go_loopw [4, 69] (fun va i wr => ∃ k : Nat, k ≤ LW.length ∧ i = .int .i64 k ∧ Hid (Below w2.heap.size w2 wr) ∧ Hid (Ls w2.heap.size wr va (LA ++ (LW.take k).flatMap (epLines T))) ∧ Hid (RdF va wr A2 LW.length (zints LW))) (fun _ i _ => LW.length - (intOf i).toNat)
      case atStart => exact ⟨0, by omega, rfl, OB, Lib.hid (by simpa using OL.out), OR⟩
      case round =>
        obtain ⟨k, hk, rfl, hb, hls, hrf⟩ := hrel
        obtain ⟨w8, rfl⟩ : ∃ x, x = wr := ⟨_, rfl⟩
        by_cases hlt : k < LW.length
        · obtain ⟨ad, u, rfl, hu, hc⟩ := (hrf.out w8.heap.size (.inr (Nat.le_refl _))).at_ hlt
          obtain ⟨o, ho, rfl⟩ := zints_at hu
          clear hu
          have HOM := Lib.hid (List.mem_of_getElem? ho)
          have HTK := Lib.hid (take_ow (t := T) ho)
          have HEN := HEL.out o
          have HKL : Hid ((LA ++ (LW.take k).flatMap (epLines T)).length ≤ 16 + 4096) := Lib.hid (by
            have h1 := flat_le (epLines T) 64 (LW.take k) fun o _ => by unfold epLines; rw [List.length_map]; exact HEL.out o
            have h2 : (LW.take k).length ≤ 64 := by rw [List.length_take]; have := HOW.out; omega
            have h3 := HAL.out
            rw [List.length_append]; omega)
          clear ho
          have N1 := Lib.hid (L1.out.later hb.out)
          go_wp2_with (first | refine st_table rfl N1.out rfl ?_)
          refine (epochsof_any T o _).mono ?_
          rintro e w9 ⟨hb9, A3, c3, rfl, hnc3, hcm3, hrd3⟩
          have PB := Lib.hid (hb.out.trans (hb9.mono hb.out.size))
          have PL := Lib.hid (hls.out.below hb9)
          have PR := Lib.hid (hrf.out.below hb9)
          have P3 := Lib.hid (rdF_of (v := u4) hrd3 fun g e => (hls.out.1.lt g e).2)
          have HEP : Hid (epLines T o = (epsL T o).map fun e => lineP (slotsP T o e)) := Lib.hid rfl
          clear hb9 hrd3 N1 hc hls hrf
          obtain ⟨LE3, HLE⟩ : ∃ x, Hid (epsL T o = x) := ⟨_, Lib.hid rfl⟩
          have HT1 : Hid (∀ e, e ∈ LE3 → (Lib.join ((slotsP T o e).map Pt.out) [32]).length ≤ 500) := Lib.hid fun e he => HTL.out o e HOM.out (by rw [HLE.out]; exact he)
          have HT2 : Hid (∀ e, e ∈ LE3 → ∀ p ∈ slotsP T o e, p.ok) := Lib.hid fun e he => HTO.out o e HOM.out (by rw [HLE.out]; exact he)
          rw [HLE.out] at hnc3 HEN HEP P3 ⊢
          obtain ⟨LB2, HLB⟩ : ∃ x, Hid (LA ++ (LW.take k).flatMap (epLines T) = x) := ⟨_, Lib.hid rfl⟩
          rw [HLB.out] at PL HKL
          go_wp2
          go_loopw [4, 78] (fun va i wr => ∃ j : Nat, j ≤ LE3.length ∧ i = .int .i64 j ∧ Hid (Below w2.heap.size w2 wr) ∧ Hid (Ls w2.heap.size wr va (LB2 ++ (LE3.take j).map fun e => lineP (slotsP T o e))) ∧ Hid (RdF va wr (some ad) LW.length (zints LW)) ∧ Hid (RdF va wr A3 LE3.length (zints LE3))) (fun _ i _ => LE3.length - (intOf i).toNat)
          case atStart => exact ⟨0, by omega, rfl, PB, Lib.hid (by simpa using PL.out), PR, P3⟩
          case round =>
            obtain ⟨j, hj, rfl, hb, hls, hrf, hr3⟩ := hrel
            by_cases hlt3 : j < LE3.length
            · obtain ⟨ad3, u, rfl, hu, hc⟩ := (hr3.out wr.heap.size (.inr (Nat.le_refl _))).at_ hlt3
              obtain ⟨e, he, rfl⟩ := zints_at hu
              clear hu
              have HTE := Lib.hid (take_ep (t := T) (o := o) he)
              have HX1 := Lib.hid (HT1.out e (List.mem_of_getElem? he))
              have HX2 := Lib.hid (HT2.out e (List.mem_of_getElem? he))
              have hbs := hb.out.size
              have N1 := Lib.hid (L1.out.later hb.out)
              have HKK : Hid ((LB2 ++ (LE3.take j).map fun e => lineP (slotsP T o e)).length ≤ 5000) := Lib.hid (by
                have h1 := HKL.out
                rw [List.length_append, List.length_map, List.length_take]; omega)
              clear he
              go_wp2_with (first | refine st_table rfl N1.out rfl ?_)
              refine (slotswith_any T o e _).mono ?_
              rintro e1 w4 ⟨rfl, hb4⟩
              have QB := Lib.hid (hb.out.trans (hb4.mono hbs))
              have QE := Lib.hid (LE.out.below QB.out)
              have JR := Lib.hid (reads_new w4 20 ((slotsP T o e).map Pt.val) #[.iface 9 (.string ⟨#[115, 108, 111, 116, 115]⟩), .iface 3 (.int .i64 o), .iface 9 (.string ⟨#[101, 112, 111, 99, 104]⟩), .iface 3 (.int .i64 e), .iface 9 (.string ⟨#[58]⟩), .iface 31 (.int .u64 ((setOE T o e : Nat) : Int))] w.heap.size w4.heap.size 6 rfl rfl rfl (by have := QB.out.size; omega))
              have JE := Lib.hid (QE.out.alloc (.cells #[.iface 9 (.string ⟨#[115, 108, 111, 116, 115]⟩), .iface 3 (.int .i64 o), .iface 9 (.string ⟨#[101, 112, 111, 99, 104]⟩), .iface 3 (.int .i64 e), .iface 9 (.string ⟨#[58]⟩), .iface 31 (.int .u64 ((setOE T o e : Nat) : Int))] 20))
              have C1 := Lib.hid (lineof_at (slotsP T o e) 6 rfl (some ⟨w4.heap.size, 0, none⟩) 6 w.heap.size _ JE.out (by decide) HX2.out (by have := HX1.out; omega) JR.out)
              have JB : Hid (Below wr.heap.size wr (w4.alloc (.cells #[.iface 9 (.string ⟨#[115, 108, 111, 116, 115]⟩), .iface 3 (.int .i64 o), .iface 9 (.string ⟨#[101, 112, 111, 99, 104]⟩), .iface 3 (.int .i64 e), .iface 9 (.string ⟨#[58]⟩), .iface 31 (.int .u64 ((setOE T o e : Nat) : Int))] 20))) := Lib.hid (hb4.alloc hb4.size _)
              clear hb4 hc N1
              go_wp2_with (fail)
              with_reducible refine C1.out.mono ?_
              rintro e1 w5 ⟨rfl, hb5⟩
              have PB5 := Lib.hid (JB.out.trans (hb5.mono JB.out.size))
              have RB := Lib.hid (hb.out.trans (PB5.out.mono hbs))
              have RL := Lib.hid (hls.out.below PB5.out)
              have RO := Lib.hid RL.out.1
              have R2 := Lib.hid ((hrf.out.below PB5.out).alloc (.cells #[.string (str (lineP (slotsP T o e)))] 9))
              have R3 := Lib.hid ((hr3.out.below PB5.out).alloc (.cells #[.string (str (lineP (slotsP T o e)))] 9))
              obtain ⟨line2, HL2⟩ : ∃ x, Hid (lineP (slotsP T o e) = x) := ⟨_, Lib.hid rfl⟩
              rw [HL2.out] at HTE R2 R3 ⊢
              have hqs := RB.out.size
              have hkk := HKK.out
              clear hb5 C1 JR JE JB hls hrf hr3
              obtain ⟨LC, HLC⟩ : ∃ x, Hid ((LB2 ++ (LE3.take j).map fun e => lineP (slotsP T o e)) = x) := ⟨_, Lib.hid rfl⟩
              rw [HLC.out] at RL RO hkk
              have HRN := Lib.hid (reads_new w5 9 [.string (str line2)] #[.string (str line2)] w.heap.size w5.heap.size 1 rfl rfl rfl (by omega))
              go_wp2_with (at_builtin; refine wpList_append_cells _ rfl (.tmp 82) (.tmp 98) 225 rfl w2.heap.size 9 i0 _ 16 Tryz.underlying225 HI.out HZ0.out HZ1.out HZ2.out rfl _ _ _ rfl (RO.out.alloc _) _ _ 1 1 [.string (str (line2))] rfl HRN.out (fun u hu => by simp at hu; subst hu; rfl) (by unfold maxLen; omega) (by omega) (by simp; omega) ?_; intro v' w6 hown' hg3 hob)
              have HB6 : Hid (Below w2.heap.size w2 w6) := Lib.hid ((RB.out.alloc hqs _).grown hg3 (by simp; omega) (fun g e => (RO.out.lt g e).1))
              have HP := Lib.hid (Ls.push hown' hob RL.out.2)
              have HF2 := Lib.hid (R2.out.push hg3 hob)
              have HF3 := Lib.hid (R3.out.push hg3 hob)
              go_wp2
              go_roundw
              case rel => exact ⟨j + 1, by omega, by go_num, HB6, Lib.hid (by rw [HTE.out, ← List.append_assoc, HLC.out]; exact HP.out), HF2, HF3⟩
              case measure => simp [intOf]; omega
            · obtain rfl : j = LE3.length := by omega
              go_wp2
              go_roundw
              case rel => exact ⟨k + 1, by omega, by go_num, hb, Lib.hid (by
                have := hls.out
                rw [List.take_length, ← HEP.out] at this
                rw [HTK.out, ← List.append_assoc, HLB.out]; exact this), hrf⟩
              case measure => simp [intOf]; omega
        · obtain rfl : k = LW.length := by omega
          have HLS : Hid (Ls w2.heap.size w8 u4 LN) := Lib.hid (by
            have := hls.out
            rw [List.take_length] at this
            rw [HLI.out]; exact this)
          have hln4 := HLN.out
          have htx := HTX.out
          go_wp2_with (fail)
          refine (join_strs LN [] w2.heap.size _ _ HLS.out.1 (by omega) (by rw [← HTS.out]; omega)).mono ?_
          rintro e w9 ⟨rfl, hb9⟩
          have ZB := Lib.hid (hb.out.trans (hb9.mono hb.out.size))
          clear hb9
          go_wp2
          go_ret2
          exact ⟨by rw [HTS.out]; rfl, LB.out.trans (ZB.out.mono LB.out.size)⟩
end Go.Proofs.YteoodompphhkbaaGreatDoor.K

/- Parse -/
namespace Go.Proofs.YteoodompphhkbaaGreatDoor.K
set_option maxRecDepth 100000
open Go.RowKit C

def okD (d : Dt) : Bool := okS (mkS d none d.l.length 0) d.l
def txD (d : Dt) : List UInt8 := txS (mkS d none d.l.length 0) d.l
theorem okD_eq (d : Dt) (a : Option Addr) (n cap : Nat) (h : d.l.length = n) : okS (mkS d a n cap) d.l = okD d := by subst h; rfl
theorem txD_eq (d : Dt) (a : Option Addr) (n cap : Nat) : txS (mkS d a n cap) d.l = txD d := rfl
/-- the state whose text it is -/
def parseD (t : List UInt8) : Option Dt := match readP t.length Dt.zero t with
  | some d => if okD d = true ∧ txD d = t then some d else none
  | none => none
/-- a State and an error are handed back, the known ones in new memory -/
def ParsePost2 (o : Option Dt) (w : World) (e : Ending) (w' : World) : Prop :=
  Below w.heap.size w w' ∧ ((∃ d a n cap, o = some d ∧ e = .returned (.tuple #[.agg (stv (mkS d a n cap)), .int .i64 0]) ∧ KnAt w' a n d.l ∧ n ≤ 1000000 ∧ ∀ ad, a = some ad → w.heap.size ≤ ad.block) ∨ (o = none ∧ e = .returned (.tuple #[.agg (stv Sv.zero), .int .i64 60])))
theorem kn_row_far {w : World} {a : Option Addr} {n g : Nat} {l : List Kn} {cs : Array Value} (h : KnAt w a n l) (hb : ∀ ad, a = some ad → ad.block ≠ g) : KnAt (w.setRow g cs) a n l :=
  ⟨h.1, fun hn => by
    obtain ⟨ad, e, hlt, hc⟩ := h.2 hn
    have hf : ∀ j, (w.setRow g cs).cell? (ad.add j) = w.cell? (ad.add j) := fun j => World.cell?_of_block (setRow_other w g _ cs (by rw [block_of_add]; exact hb ad e))
    refine ⟨ad, e, by rw [size_setRow]; exact hlt, fun i s hs => ?_⟩
    obtain ⟨c0, c1, c2⟩ := hc i s hs
    exact ⟨(hf _).trans c0, (hf _).trans c1, (hf _).trans c2⟩⟩

set_option maxRecDepth 100000 in
set_option maxHeartbeats 1000000 in
theorem cparse2_any (t : List UInt8) (ht : t.length ≤ 100000) (w : World) (hE : Env w) :
    Calls Tryz.prog 85 #[.string (str t)] w (ParsePost2 (parseD t) w) := by
  have HR : Hid (StAt (w.alloc (.cells (stv Sv.zero) 73)) w.heap.size Sv.zero) := Lib.hid (StAt.new w Sv.zero)
  have HB0 : Hid (Below w.heap.size w (w.alloc (.cells (stv Sv.zero) 73))) := Lib.hid ((Below.refl _ w).alloc (Nat.le_refl _) _)
  have HE := Lib.hid (hE.below HB0.out)
  have HPD : Hid (parseD t = match readP t.length Dt.zero t with
    | some d => if okD d = true ∧ txD d = t then some d else none
    | none => none) := Lib.hid rfl
  obtain ⟨R, HRR⟩ : ∃ R, Hid (parseD t = R) := ⟨_, Lib.hid rfl⟩
  rw [HRR.out] at HPD ⊢
  clear hE HRR
  go_enter Tryz.func85, Tryz.ntmps85
  go_wp2_with (first | refine st_alloc rfl ?_)
  refine (read_any t ht _ HE.out).mono ?_
  rintro e w1 ⟨hb1, hcase⟩
  have K1 := Lib.hid (HR.out.later hb1)
  have KB := Lib.hid (HB0.out.trans (hb1.mono HB0.out.size))
  have KE := Lib.hid (HE.out.below hb1)
  clear hb1 HR HB0 HE
  rcases hcase with ⟨d, a, n, cap, hd, rfl, hk, hn, hlow⟩ | ⟨hd, rfl⟩
  · have HPE : Hid (R = if okD d = true ∧ txD d = t then some d else none) := Lib.hid (by rw [HPD.out, hd])
    clear HPD hd
    have J2 := Lib.hid (StAt.new w1 (mkS d a n cap))
    have J1 := Lib.hid (K1.out.alloc (.cells (stv (mkS d a n cap)) 73))
    have JB := Lib.hid (KB.out.alloc KB.out.size (.cells (stv (mkS d a n cap)) 73))
    have JE := Lib.hid (KE.out.alloc (.cells (stv (mkS d a n cap)) 73))
    have JK := Lib.hid (hk.below ((Below.refl _ w1).alloc (Nat.le_refl _) (.cells (stv (mkS d a n cap)) 73)))
    have hdl := hk.1
    have HLOW : Hid (∀ ad, a = some ad → w.heap.size + 1 ≤ ad.block) := Lib.hid fun ad e => by have := hlow ad e; simpa using this
    clear hlow
    have hlt1 : w.heap.size < w1.heap.size := K1.out.lt
    obtain ⟨b, HB⟩ : ∃ b, Hid (okD d = b) := ⟨_, Lib.hid rfl⟩
    have HOK : Hid (okS (mkS d a n cap) d.l = b) := Lib.hid (by rw [okD_eq d a n cap hdl]; exact HB.out)
    cases b
    · have HX : Hid (R = none) := Lib.hid (by rw [HPE.out, HB.out]; simp)
      clear HPE hk
      go_wp2_with (first | refine st_alloc rfl ?_ | refine st_store_new rfl rfl rfl ?_ | (refine st_load rfl J2.out rfl ?_))
      refine (text_no (mkS d a n cap) d.l _ JK.out (by show n ≤ _; omega) HOK.out).mono ?_
      rintro e w2 ⟨rfl, hb2⟩
      have L1 := Lib.hid (J1.out.later hb2)
      have LB := Lib.hid (JB.out.trans (hb2.mono JB.out.size))
      clear hb2
      go_wp2_with (first | (refine st_build rfl ?_) | (refine st_store rfl rfl L1.out rfl ?_))
      exact bodyPost_ret (results_st rfl _ _ w.heap.size _ rfl (L1.out.store _)) rfl ⟨below_row LB.out (Nat.le_refl _) _, .inr ⟨HX.out, rfl⟩⟩
    · by_cases htx : txD d = t
      · have HX : Hid (R = some d) := Lib.hid (by rw [HPE.out, HB.out, if_pos ⟨rfl, htx⟩])
        have hq : ((str (txD d)).toList == (str t).toList) = true := by rw [str_toList, str_toList, htx]; simp
        clear HPE htx hk
        go_wp2_with (first | refine st_alloc rfl ?_ | refine st_store_new rfl rfl rfl ?_ | (refine st_load rfl J2.out rfl ?_))
        refine (text_yes (mkS d a n cap) d.l _ JE.out JK.out HOK.out).mono ?_
        rintro e w2 ⟨rfl, hb2⟩
        rw [txD_eq]
        have L1 := Lib.hid (J1.out.later hb2)
        have L2 := Lib.hid (J2.out.later hb2)
        have LB := Lib.hid (JB.out.trans (hb2.mono JB.out.size))
        have LK := Lib.hid (JK.out.below hb2)
        clear hb2
        go_wp2_with (first | (refine st_load rfl L2.out rfl ?_) | (refine st_store rfl rfl L1.out rfl ?_))
        exact bodyPost_ret (results_st rfl _ _ w.heap.size _ rfl (L1.out.store _)) rfl ⟨below_row LB.out (Nat.le_refl _) _, .inl ⟨d, a, n, cap, HX.out, rfl, kn_row_far LK.out (fun ad e => by have := HLOW.out ad e; omega), hn, fun ad e => by have := HLOW.out ad e; omega⟩⟩
      · have HX : Hid (R = none) := Lib.hid (by rw [HPE.out, if_neg (fun h => htx h.2)])
        have hq : ((str (txD d)).toList == (str t).toList) = false := by rw [str_toList, str_toList]; simpa using htx
        clear HPE htx hk
        go_wp2_with (first | refine st_alloc rfl ?_ | refine st_store_new rfl rfl rfl ?_ | (refine st_load rfl J2.out rfl ?_))
        refine (text_yes (mkS d a n cap) d.l _ JE.out JK.out HOK.out).mono ?_
        rintro e w2 ⟨rfl, hb2⟩
        rw [txD_eq]
        have L1 := Lib.hid (J1.out.later hb2)
        have LB := Lib.hid (JB.out.trans (hb2.mono JB.out.size))
        clear hb2
        go_wp2_with (first | (refine st_build rfl ?_) | (refine st_store rfl rfl L1.out rfl ?_))
        exact bodyPost_ret (results_st rfl _ _ w.heap.size _ rfl (L1.out.store _)) rfl ⟨below_row LB.out (Nat.le_refl _) _, .inr ⟨HX.out, rfl⟩⟩
  · have HX : Hid (R = none) := Lib.hid (by rw [HPD.out, hd])
    clear HPD hd
    have J1 := Lib.hid (K1.out.alloc (.cells (stv Sv.zero) 73))
    have JB := Lib.hid (KB.out.alloc KB.out.size (.cells (stv Sv.zero) 73))
    go_wp2_with (first | refine st_alloc rfl ?_ | refine st_store_new rfl rfl rfl ?_ | (refine st_build rfl ?_) | (refine st_store rfl rfl J1.out rfl ?_))
    exact bodyPost_ret (results_st rfl _ _ w.heap.size _ rfl (J1.out.store _)) rfl ⟨below_row JB.out (Nat.le_refl _) _, .inr ⟨HX.out, rfl⟩⟩
end Go.Proofs.YteoodompphhkbaaGreatDoor.K

/- Mathb -/
namespace Go.Proofs.YteoodompphhkbaaGreatDoor.K
set_option maxRecDepth 100000
open Go.RowKit C

/-! ### numbers are read back -/
/-! ### words and numbers in a line -/
def pre : List (List UInt8 × Int) → List UInt8 → List UInt8
  | [], tl => tl
  | [p], tl => p.1 ++ 32 :: (dg p.2 ++ tl)
  | p :: q :: ps, tl => p.1 ++ 32 :: (dg p.2 ++ 32 :: pre (q :: ps) tl)
/-! ### the three lines -/
def selfPs (d : Dt) : List (List UInt8 × Int) := [([115, 101, 108, 102], d.i), ([109, 97, 115, 116, 101, 114], d.m), ([99, 117, 114, 114, 101, 110, 116], d.c), ([118, 111, 116, 101], d.v), ([99, 111, 110, 102, 105, 103], d.f)]
def nodePs (k : Kn) : List (List UInt8 × Int) := [([110, 111, 100, 101], k.i), ([109, 97, 115, 116, 101, 114], k.m), ([99, 111, 110, 102, 105, 103], k.c)]
def slotsPs (o e : Int) : List (List UInt8 × Int) := [([115, 108, 111, 116, 115], o), ([101, 112, 111, 99, 104], e)]
def selfB (d : Dt) : List UInt8 := pre (selfPs d) []
def nodeB (k : Kn) : List UInt8 := pre (nodePs k) []
def slotsB (t : Tab) (o e : Int) : List UInt8 := pre (slotsPs o e) (32 :: 58 :: 32 :: S.txt (setOE t o e))
theorem self_line (d : Dt) (a : Option Addr) (n cap : Nat) : lineP (selfP (mkS d a n cap)) = selfB d ++ [10] := by
  simp [lineP, selfP, mkS, selfB, selfPs, pre, Pt.out, Lib.join_cons, Lib.joinTail]
theorem slots_line (t : Tab) (o e : Int) : lineP (slotsP t o e) = slotsB t o e ++ [10] := by
  simp [lineP, slotsP, slotsB, slotsPs, pre, Pt.out, Lib.join_cons, Lib.joinTail]
/-! ### what a line is read as -/
end Go.Proofs.YteoodompphhkbaaGreatDoor.K

/-
  WHAT IS PROVED: a right state's text is parsed as that state; two right states have the same text just if they are alike. No condition.
-/
namespace Go.Proofs.YteoodompphhkbaaGreatDoor.K
set_option maxRecDepth 100000
open Go.RowKit C

def unl (L : List (List UInt8)) : List UInt8 := (L.map (· ++ [10])).flatten
def prs (t : Tab) : List (Int × Int) := (ownersL t).flatMap fun o => (epsL t o).map fun e => (o, e)
def bodies (d : Dt) : List (List UInt8) := selfB d :: (d.l.map nodeB ++ (prs d.t).map fun p => slotsB d.t p.1 p.2)
theorem txD_unl (d : Dt) : txD d = unl (bodies d) := by
  unfold txD txS unl bodies
  rw [join_nil]
  congr 1
  unfold linesS tabLines
  rw [self_line, List.map_cons, List.map_append, List.map_map, List.map_map, List.cons_append]
  congr 2
  show (ownersL d.t).flatMap (epLines d.t) = _
  unfold prs
  rw [List.map_flatMap]
  congr 1
  funext o
  unfold epLines
  rw [List.map_map]
  refine List.map_congr_left fun e _ => ?_
  exact slots_line d.t o e
theorem unl_cons (b : List UInt8) (L : List (List UInt8)) : unl (b :: L) = b ++ 10 :: unl L := by simp [unl]
/-! ### tables that are alike -/
/-! ### the pairs of a table -/
def plt (p q : Int × Int) : Prop := p.1 < q.1 ∨ (p.1 = q.1 ∧ p.2 < q.2)
theorem eps_lt (t : Tab) (o : Int) : (epsL t o).Pairwise (· < ·) := comp_lt (sorted_le _)
theorem prs_lt (t : Tab) : (prs t).Pairwise plt := by
  unfold prs
  rw [List.pairwise_flatMap]
  refine ⟨fun o _ => ?_, ?_⟩
  · rw [List.pairwise_map]
    exact (eps_lt t o).imp fun h => .inr ⟨rfl, h⟩
  · refine (owners_lt t).imp fun {a b} h x hx y hy => ?_
    obtain ⟨e, _, rfl⟩ := List.mem_map.1 hx
    obtain ⟨f, _, rfl⟩ := List.mem_map.1 hy
    exact .inl h
theorem prs_nodup (t : Tab) : (prs t).Nodup := (prs_lt t).imp fun {p q} h e => by
  subst e
  rcases h with h | ⟨_, h⟩ <;> omega
theorem mem_prs {t : Tab} {o e : Int} : (o, e) ∈ prs t ↔ o ∈ ownersL t ∧ e ∈ epsL t o := by
  unfold prs
  rw [List.mem_flatMap]
  constructor
  · rintro ⟨a, ha, h⟩
    obtain ⟨b, hb, h⟩ := List.mem_map.1 h
    injection h with h1 h2
    subst h1; subst h2
    exact ⟨ha, hb⟩
  · rintro ⟨h1, h2⟩
    exact ⟨o, h1, List.mem_map.2 ⟨e, h2, rfl⟩⟩
theorem mem_eps {t : Tab} {o e : Int} : e ∈ epsL t o ↔ ∃ i, i < 64 ∧ t.o i = o ∧ t.e i = e := by
  constructor
  · exact eps_mem
  · rintro ⟨i, h1, h2, rfl⟩
    unfold epsL
    rw [comp_mem, C.mem_sorted]
    unfold epRaw
    exact List.mem_map.2 ⟨i, (of_slots t o).2 ⟨h1, h2⟩, rfl⟩
/-! ### the table that is read -/
/-! ### a right state's text is read as it -/
theorem parse_sound {t : List UInt8} {d : Dt} (h : parseD t = some d) : okD d = true ∧ txD d = t := by
  unfold parseD at h
  split at h
  · split at h
    · rename_i hc
      injection h with h
      subst h
      exact hc
    · cases h
  · cases h
theorem parse_no {t : List UInt8} (h : ∀ d, okD d = true → txD d ≠ t) : parseD t = none := by
  cases hp : parseD t with
  | none => rfl
  | some d => exact absurd (parse_sound hp).2 (h d (parse_sound hp).1)
end Go.Proofs.YteoodompphhkbaaGreatDoor.K

/- Len -/
namespace Go.Proofs.YteoodompphhkbaaGreatDoor.K
set_option maxRecDepth 100000
open Go.RowKit C

theorem dg_id {z : Int} (h : z ≤ 4294967296) : (dg z).length ≤ 10 := by
  rw [dg_eq]
  refine digL_len 9 _ ?_
  have : (10 : Nat) ^ (9 + 1) = 10000000000 := by decide
  rw [this]; omega
theorem dg_ep {z : Int} (h : z ≤ 281474976710656) : (dg z).length ≤ 15 := by
  rw [dg_eq]
  refine digL_len 14 _ ?_
  have : (10 : Nat) ^ (14 + 1) = 1000000000000000 := by decide
  rw [this]; omega
/-- how many slots a pair has -/
def cnt (t : Tab) (M : List Nat) (p : Int × Int) : Nat := M.countP fun i => decide ((t.o i, t.e i) = p)
theorem count_cons (t : Tab) (p : Int × Int) (L : List (Int × Int)) (hp : p ∉ L) : ∀ M : List Nat, M.countP (fun i => decide ((t.o i, t.e i) ∈ p :: L)) = cnt t M p + M.countP (fun i => decide ((t.o i, t.e i) ∈ L))
  | [] => rfl
  | i :: M => by
    have ih := count_cons t p L hp M
    unfold cnt at ih ⊢
    rw [List.countP_cons, List.countP_cons, List.countP_cons, ih]
    by_cases h1 : (t.o i, t.e i) = p
    · have h2 : (t.o i, t.e i) ∉ L := by rw [h1]; exact hp
      simp [h1, hp]
      omega
    · by_cases h2 : (t.o i, t.e i) ∈ L
      · simp [h1, h2]; omega
      · simp [h1, h2]
theorem sum_cnt (t : Tab) (M : List Nat) : ∀ L : List (Int × Int), L.Nodup → (L.map (cnt t M)).sum = M.countP (fun i => decide ((t.o i, t.e i) ∈ L))
  | [], _ => by simp
  | p :: L, h => by
    rw [List.nodup_cons] at h
    rw [List.map_cons, List.sum_cons, sum_cnt t M L h.2, count_cons t p L h.1 M]
theorem sum_prs (t : Tab) : ((prs t).map (cnt t (List.range 64))).sum ≤ 64 := by
  rw [sum_cnt t _ _ (prs_nodup t)]
  have := List.countP_le_length (p := fun i => decide ((t.o i, t.e i) ∈ prs t)) (l := List.range 64)
  simpa using this
theorem cnt_pos {t : Tab} {p : Int × Int} (h : p ∈ prs t) : 1 ≤ cnt t (List.range 64) p := by
  obtain ⟨o, e⟩ := p
  obtain ⟨i, hi, h1, h2⟩ := mem_eps.1 (mem_prs.1 h).2
  unfold cnt
  exact List.countP_pos_iff.2 ⟨i, by simpa using hi, by simp [h1, h2]⟩
theorem upto_cnt (t : Tab) (o e : Int) : (S.upto (setOE t o e) 64).length ≤ cnt t (List.range 64) (o, e) := by
  unfold S.upto cnt
  rw [List.length_map, ← List.countP_eq_length_filter]
  refine List.countP_mono_left fun i hi h => ?_
  have hb : (setOE t o e).testBit i = true := by
    unfold S.isStart at h
    simp only [Bool.and_eq_true] at h
    exact h.1
  have hx : (setOE t o e).testBit i = ((t.o i == o) && (t.e i == e)) := pick_bit _ (by simpa using hi)
  rw [hx] at hb
  simpa using hb
theorem stx_cnt (t : Tab) (o e : Int) : (S.txt (setOE t o e)).length ≤ 6 * cnt t (List.range 64) (o, e) := by
  have h := S.tx_len (S.upto (setOE t o e) 64)
  have h2 := upto_cnt t o e
  show (S.tx (S.upto (setOE t o e) 64)).length ≤ _
  omega
theorem slotsB_len {t : Tab} (ht : okB t = true) {p : Int × Int} (hp : p ∈ prs t) : (slotsB t p.1 p.2).length + 1 ≤ 48 * cnt t (List.range 64) p := by
  obtain ⟨o, e⟩ := p
  have hm := mem_prs.1 hp
  have h1 := own_parts hm.1
  have h2 := ep_parts ht hm.1 hm.2
  have d1 := dg_id (z := o) (by omega)
  have d2 := dg_ep (z := e) (by omega)
  have d3 := stx_cnt t o e
  have d4 := cnt_pos hp
  simp [slotsB, slotsPs, pre]
  omega
theorem unl_app (A B : List (List UInt8)) : unl (A ++ B) = unl A ++ unl B := by simp [unl]
theorem unl_len : ∀ L : List (List UInt8), (unl L).length = (L.map fun b => b.length + 1).sum
  | [] => rfl
  | b :: L => by rw [unl_cons, List.length_append, List.length_cons, unl_len L, List.map_cons, List.sum_cons]; omega
theorem sum_mono {α : Type} (f g : α → Nat) : ∀ L : List α, (∀ x ∈ L, f x ≤ g x) → (L.map f).sum ≤ (L.map g).sum
  | [], _ => Nat.le_refl _
  | x :: L, h => by
    have h1 := sum_mono f g L fun y hy => h y (List.mem_cons_of_mem _ hy)
    have h2 := h x (List.mem_cons_self ..)
    rw [List.map_cons, List.map_cons, List.sum_cons, List.sum_cons]
    omega
theorem sum_mul (c : Nat) {α : Type} (f : α → Nat) : ∀ L : List α, (L.map fun x => c * f x).sum = c * (L.map f).sum
  | [] => rfl
  | x :: L => by rw [List.map_cons, List.map_cons, List.sum_cons, List.sum_cons, sum_mul c f L, Nat.mul_add]
theorem sum_const (c : Nat) {α : Type} : ∀ L : List α, (L.map fun _ => c).sum = L.length * c
  | [] => by simp
  | x :: L => by rw [List.map_cons, List.sum_cons, sum_const c L, List.length_cons, Nat.add_mul]; omega
theorem txD_len {d : Dt} (h : okD d = true) : (txD d).length ≤ 4029 := by
  obtain ⟨h1, h2, h3, h4, h5, h6, h7, h8, _⟩ := ok_parts h
  have g1 : d.i ≤ 4294967296 := h1.2
  have g2 : d.m ≤ 4294967296 := h2.2
  have g3 : d.c ≤ 281474976710656 := h3.2
  have g4 : d.v ≤ 281474976710656 := h4.2
  have g5 : d.f ≤ 281474976710656 := h5.2
  have g6 : d.l.length ≤ 15 := h6
  have g7 : rkB d.i d.l = true := h7
  have g8 : okB d.t = true := h8
  have e1 : (selfB d).length ≤ 101 := by
    have a1 := dg_id g1
    have a2 := dg_id g2
    have a3 := dg_ep g3
    have a4 := dg_ep g4
    have a5 := dg_ep g5
    simp [selfB, selfPs, pre]
    omega
  have e2 : ((d.l.map nodeB).map fun b => b.length + 1).sum ≤ d.l.length * 57 := by
    rw [List.map_map, ← sum_const]
    refine sum_mono _ _ _ fun k hk => ?_
    obtain ⟨k1, k2, k3, _⟩ := kn_parts g7 hk
    have a1 := dg_id k1.2
    have a2 := dg_id k2.2
    have a3 := dg_ep k3.2
    simp [nodeB, nodePs, pre]
    omega
  have e3 : (((prs d.t).map fun p => slotsB d.t p.1 p.2).map fun b => b.length + 1).sum ≤ 48 * 64 := by
    rw [List.map_map]
    refine Nat.le_trans (sum_mono _ (fun p => 48 * cnt d.t (List.range 64) p) _ fun p hp => slotsB_len g8 hp) ?_
    rw [sum_mul]
    exact Nat.mul_le_mul_left 48 (sum_prs d.t)
  rw [txD_unl]
  unfold bodies
  rw [unl_cons, List.length_append, List.length_cons, unl_app, List.length_append, unl_len, unl_len]
  omega

/-! ### the first line -/
end Go.Proofs.YteoodompphhkbaaGreatDoor.K

/- KB -/
namespace Go.Proofs.YteoodompphhkbaaGreatDoor.K.Dsk
set_option maxRecDepth 100000
open C

def saveD (S : Ds) (d : Dt) : Int × Ds := if okD d = true then saveT S (txD d) else (10, S)
/-- what a load answers -/
def loadD (S : Ds) : Int × Option Dt :=
  if readE S nSt ≠ 0 then (readE S nSt, none) else match parseD (readB S nSt) with
    | some d => (0, some d)
    | none => (60, none)

/-! ### a load -/
end Go.Proofs.YteoodompphhkbaaGreatDoor.K.Dsk

/- Samest -/
namespace Go.Proofs.YteoodompphhkbaaGreatDoor.K
set_option maxRecDepth 100000
open Go.RowKit Go.Lib C

def triB (a b c x y z : Int) : Bool := decide (a = x) && (decide (b = y) && decide (c = z))
theorem same_ep (a b c x y z : Int) (w : World) : (Op.equalIn 10000 67 (.agg #[.int .i64 a, .int .i64 b, .int .i64 c]) (.agg #[.int .i64 x, .int .i64 y, .int .i64 z])).run Tryz.prog w = .ok (triB a b c x y z) w := by
  have u3 := Tryz.underlying3
  have a3 := Tryz.isAgg3
  have z3 := Tryz.sizeOf3
  have hS : Tryz.prog.underlying 67 = some (.struct (Tryz.prog.fieldsOf 67)) := by kernel_rfl
  have hp : Tryz.prog.stoodInHeld 67 = false := by kernel_rfl
  rw [show (10000 : Nat) = 9999 + 1 from rfl, run_equalIn_agg w 9999 67 _ _ hS hp]
  simp only [Program.fieldsOf, Tryz.underlying67]
  unfold triB
  go_simp
  by_cases h1 : a = x <;> by_cases h2 : b = y <;> by_cases h3 : c = z <;> simp [h1, h2, h3]
theorem same_kn (a b c x y z : Int) (w : World) : (Op.equalIn 10000 111 (.agg #[.int .i64 a, .int .i64 b, .int .i64 c]) (.agg #[.int .i64 x, .int .i64 y, .int .i64 z])).run Tryz.prog w = .ok (triB a b c x y z) w := by
  have u3 := Tryz.underlying3
  have a3 := Tryz.isAgg3
  have z3 := Tryz.sizeOf3
  have hS : Tryz.prog.underlying 111 = some (.struct (Tryz.prog.fieldsOf 111)) := by kernel_rfl
  have hp : Tryz.prog.stoodInHeld 111 = false := by kernel_rfl
  rw [show (10000 : Nat) = 9999 + 1 from rfl, run_equalIn_agg w 9999 111 _ _ hS hp]
  simp only [Program.fieldsOf, Tryz.underlying111]
  unfold triB
  go_simp
  by_cases h1 : a = x <;> by_cases h2 : b = y <;> by_cases h3 : c = z <;> simp [h1, h2, h3]
theorem guard_kn (op : BinOp) (p q : Operand) (a b c x y z : Int) (w : World) : (eqGuard op 111 p q (.agg #[.int .i64 a, .int .i64 b, .int .i64 c]) (.agg #[.int .i64 x, .int .i64 y, .int .i64 z])).run Tryz.prog w = .ok () w := run_eqGuard_agg w op 111 p q _ _ (by kernel_rfl)

def knEq (a b : Kn) : Bool := triB a.i a.m a.c b.i b.m b.c
def knsEq (la lb : List Kn) : Bool := (List.range la.length).all fun j => knEq (atK la j) (atK lb j)
theorem kns_no {la lb : List Kn} {j : Nat} (hj : j < la.length) (h : knEq (atK la j) (atK lb j) = false) : knsEq la lb = false := by
  unfold knsEq
  rw [List.all_eq_false]
  exact ⟨j, by simpa using hj, by rw [h]; simp⟩
theorem kns_yes {la lb : List Kn} (h : ∀ j, j < la.length → knEq (atK la j) (atK lb j) = true) : knsEq la lb = true := by
  unfold knsEq
  rw [List.all_eq_true]
  intro j hj
  exact h j (by simpa using hj)
theorem knEq_iff {a b : Kn} : knEq a b = true ↔ a = b := by
  obtain ⟨a1, a2, a3⟩ := a
  obtain ⟨b1, b2, b3⟩ := b
  unfold knEq triB
  simp
end Go.Proofs.YteoodompphhkbaaGreatDoor.K

/-
  WHAT IS PROVED: the contract of the comparison of two states. Condition: the known ones lie in memory.
-/
namespace Go.Proofs.YteoodompphhkbaaGreatDoor.K
set_option maxRecDepth 100000
open Go.RowKit Go.Lib C

end Go.Proofs.YteoodompphhkbaaGreatDoor.K

/- RSt -/
namespace Go.Proofs.YteoodompphhkbaaGreatDoor.K
set_option maxRecDepth 100000
set_option maxRecDepth 100000
open Go.RowKit Go.ChangeShapes Go.WideShapes Go.ChangeAt Go.WideElems C

section
variable {w w' : World} {b : Nat} {s : Sv}
end
/-! ### the operations on a whole State -/
section
variable {ops : Array Oper} {rest : List Oper} {Q : Exit → Act → World → Prop} {a : Act} {w : World} {dst : Option Tmp} {ty : TypeId} {pos : String} {after : Array Edge} {g : Option (Nat × Bool)} {x y : Operand} {b : Nat} {s u : Sv} {t : Tab}
end
/-! ### the arrays of a State -/
theorem stv_o (s : Sv) {i : Nat} (h : i < 64) : (stv s)[6 + i]? = some (.int .i64 (s.t.o i)) := by
  rw [stv_t]; unfold tbL; rw [List.getElem?_append_left (by rw [row_len]; exact h), row_at _ h]
theorem stv_e (s : Sv) {i : Nat} (h : i < 64) : (stv s)[70 + i]? = some (.int .i64 (s.t.e i)) := by
  rw [show 70 + i = 6 + (64 + i) by omega, stv_t]; unfold tbL; rw [List.getElem?_append_right (by rw [row_len]; omega), row_len, show 64 + i - 64 = i by omega, row_at _ h]
theorem StAt.o {w : World} {b : Nat} {s : Sv} (h : StAt w b s) {i : Nat} (hi : i < 64) : w.cell? ⟨b, 6 + i, none⟩ = some (.int .i64 (s.t.o i)) := (Blk.cell h _).trans (stv_o s hi)
theorem StAt.e {w : World} {b : Nat} {s : Sv} (h : StAt w b s) {i : Nat} (hi : i < 64) : w.cell? ⟨b, 70 + i, none⟩ = some (.int .i64 (s.t.e i)) := (Blk.cell h _).trans (stv_e s hi)
section
variable {ops : Array Oper} {rest : List Oper} {Q : Exit → Act → World → Prop} {a : Act} {w : World} {dst : Option Tmp} {ty : TypeId} {pos : String} {after : Array Edge} {g : Option (Nat × Bool)} {x : Operand} {b : Nat} {s : Sv}
end
end Go.Proofs.YteoodompphhkbaaGreatDoor.K

/- RMade -/
namespace Go.Proofs.YteoodompphhkbaaGreatDoor.K.R
set_option maxRecDepth 100000
set_option maxRecDepth 100000
open Go.RowKit Go.Lib C

theorem stv_set5 (s : Sv) (A : Option Addr) (n c : Nat) : (stv s).setIfInBounds 5 (.slice A n c) = stv { s with a := A, n := n, cap := c } := by
  apply Array.ext_getElem?
  intro i
  by_cases h : i = 5
  · subst h
    rw [Array.getElem?_setIfInBounds_self_of_lt (by rw [stv_size]; omega), stv_5]
  · rw [Array.getElem?_setIfInBounds_ne (by omega)]
    rcases Nat.lt_or_ge i 6 with h1 | h1
    · match i, h1 with
      | 0, _ => rw [stv_0, stv_0]
      | 1, _ => rw [stv_1, stv_1]
      | 2, _ => rw [stv_2, stv_2]
      | 3, _ => rw [stv_3, stv_3]
      | 4, _ => rw [stv_4, stv_4]
      | 5, _ => exact absurd rfl h
    · obtain ⟨j, rfl⟩ : ∃ j, i = 6 + j := ⟨i - 6, by omega⟩
      rw [stv_t, stv_t]
section
variable {ops : Array Oper} {rest : List Oper} {Q : Exit → Act → World → Prop} {a : Act} {w : World} {dst : Option Tmp} {ty : TypeId} {pos : String} {after : Array Edge} {g : Option (Nat × Bool)} {p0 p1 p2 p3 p4 p6 p7 : Tmp} {s : Sv}
end

theorem kn_of_own {w : World} {base n cap : Nat} {a : Option Addr} {l : List Kn} {e : TypeId} (h : w.ownsRow base e 3 (.slice a n cap) n (flatK l)) : KnAt w a n l := by
  obtain ⟨A2, c2, hv, _, _, hkn⟩ := own_kn h
  injection hv with hv1 hv2 hv3
  subst hv1
  exact hkn
theorem own_low {w : World} {base n cap k : Nat} {a : Option Addr} {xs : List Value} {e : TypeId} (h : w.ownsRow base e k (.slice a n cap) n xs) : ∀ ad, a = some ad → base ≤ ad.block := fun ad e1 => by
  subst e1
  rcases h.2 with ⟨h0, _⟩ | ⟨b, c, cur, hv, hb, _⟩
  · cases h0
  · injection hv with h1 h2 h3
    injection h1 with h1
    subst h1
    exact hb
end Go.Proofs.YteoodompphhkbaaGreatDoor.K.R

/- RQuiet -/
namespace Go.Proofs.YteoodompphhkbaaGreatDoor.K.R
set_option maxRecDepth 100000
open Go.RowKit C

/-- a world in which all that lay in w lies as it did -/
structure Later (w : World) where
  now : World
  below : Below w.heap.size w now
def Later.start (w : World) : Later w := ⟨w, Below.refl _ w⟩
instance (w : World) : Inhabited (Later w) := ⟨Later.start w⟩
theorem Later.cell {w : World} (p : Later w) {a : Addr} {v : Value} (h : w.cell? a = some v) : p.now.cell? a = some v := (p.below.cell (C.lt_of_cell h)).trans h
section
variable {ops : Array Oper} {rest : List Oper} {Q : Act → Prop} {a : Act} {w : World} {dst : Option Tmp} {ty : TypeId} {pos : String} {after : Array Edge} {g : Option (Nat × Bool)} {x : Operand} {b : Nat} {s : Sv}
end

/-! ### the document's small functions -/
set_option maxRecDepth 100000
end Go.Proofs.YteoodompphhkbaaGreatDoor.K.R

/- KLoad -/
namespace Go.Proofs.YteoodompphhkbaaGreatDoor.K.Dsk
set_option maxRecDepth 100000
set_option maxRecDepth 100000
open Go.RowKit Go.Lib C
variable {U : Nat → Prop}

def txO2 (d : Dt) : List UInt8 × Int := if okD d = true then (txD d, 0) else ([], 10)
theorem text_dk (d : Dt) (A : Option Addr) (n cap : Nat) (w : World) (hE : Env w) (hk : KnAt w A n d.l) (hN : n ≤ 9223372036854775807) : Calls Tryz.prog 86 #[.agg (stv (mkS d A n cap))] w (TextPost (txO2 d).1 (txO2 d).2 w) := by
  unfold txO2
  by_cases h : okD d = true
  · rw [if_pos h]
    exact text_yes (mkS d A n cap) d.l w hE hk (by rw [okD_eq d A n cap hk.1]; exact h)
  · rw [if_neg h]
    exact text_no (mkS d A n cap) d.l w hk hN (by rw [okD_eq d A n cap hk.1]; simpa using h)
theorem two_objs {w : World} {x y : Obj} : Below w.heap.size w ((w.alloc x).alloc y) ∧ ((w.alloc x).alloc y).heap.size = w.heap.size + 2 := ⟨((Below.refl _ w).alloc (Nat.le_refl _) x).alloc (by simp) y, by simp⟩

set_option maxHeartbeats 2000000 in
theorem save_any (d g : Nat) (S : Ds) (dt : Dt) (A : Option Addr) (n cap : Nat) (w : World) (hE : Env w) (h : Dk w d g U S) (hl : S.fs.length < 1000) (hk : KnAt w A n dt.l) (hN : n ≤ 9223372036854775807) :
    Calls Tryz.prog 41 #[.pointer (some ⟨d, 0, none⟩), .agg (stv (mkS dt A n cap))] w (SaveP w d g U (saveD S dt)) := by
  have hmf : ∀ (fn : Fn) (first cap : Array Value) (w : World), (Instr.makeFunc fn first cap).run Tryz.prog w = .ok (.func fn first cap) w := fun _ _ _ _ => rfl
  obtain ⟨t1, t2⟩ := two_objs (w := w) (x := .cells #[.pointer (some ⟨d, 0, none⟩)] 43) (y := .cells (stv (mkS dt A n cap)) 73)
  have J1 : Hid (Blk ((w.alloc (.cells #[.pointer (some ⟨d, 0, none⟩)] 43)).alloc (.cells (stv (mkS dt A n cap)) 73)) w.heap.size 43 #[.pointer (some ⟨d, 0, none⟩)]) := Lib.hid ((Blk.new w _ _).alloc _)
  have J2 : Hid (StAt ((w.alloc (.cells #[.pointer (some ⟨d, 0, none⟩)] 43)).alloc (.cells (stv (mkS dt A n cap)) 73)) (w.heap.size + 1) (mkS dt A n cap)) := Lib.hid (by
    have h := StAt.new (w.alloc (.cells #[.pointer (some ⟨d, 0, none⟩)] 43)) (mkS dt A n cap)
    have e : (w.alloc (.cells #[.pointer (some ⟨d, 0, none⟩)] 43)).heap.size = w.heap.size + 1 := by simp
    rw [e] at h
    exact h)
  have JB := Lib.hid t1
  have JE := Lib.hid (hE.below t1)
  have JK := Lib.hid (hk.below t1)
  have HD := Lib.hid h
  have hd := h.lt
  obtain ⟨R, HR⟩ : ∃ r, Hid (saveD S dt = r) := ⟨_, Lib.hid rfl⟩
  rw [HR.out]
  clear t1 t2 hE hk h
  go_enter Tryz.func41, Tryz.ntmps41
  go_wp2_with (first | ((with_reducible refine st_load (b := w.heap.size + 1) (s := mkS dt A n cap) ?_ ?_ ?_ ?_); (rfl); (with_reducible exact J2.out); (rfl)))
  refine (text_dk dt A n cap _ JE.out JK.out hN).mono ?_
  rintro e w1 ⟨rfl, hb1⟩
  have K1 := Lib.hid (Blk.below J1.out hb1 J1.out.lt)
  have KB := Lib.hid (JB.out.trans (hb1.mono JB.out.size))
  have KS := Lib.hid KB.out.size
  clear hb1 J1 J2 JB JE JK
  have hp0 : w1.cell? ⟨w.heap.size, 0, none⟩ = some (.pointer (some ⟨d, 0, none⟩)) := K1.out.cell 0
  have hlt1 : w.heap.size < w1.heap.size := K1.out.lt
  by_cases hok : okD dt = true
  · have hx : txO2 dt = (txD dt, 0) := by unfold txO2; rw [if_pos hok]
    have HX : Hid (R = saveT S (txD dt)) := Lib.hid (by rw [← HR.out]; unfold saveD; rw [if_pos hok])
    have hlen := Lib.hid (txD_len hok)
    rw [hx]
    clear hx hok HR
    obtain ⟨T, HT⟩ : ∃ t, Hid (txD dt = t) := ⟨_, Lib.hid rfl⟩
    rw [HT.out] at hlen HX ⊢
    have hb2 : Below w1.heap.size w1 (w1.alloc (.cells #[.string (str T)] 9)) := (Below.refl _ _).alloc (Nat.le_refl _) _
    obtain ⟨F, HF⟩ : ∃ F : Obj, Hid (Obj.cells #[.func (.func 88) #[] #[.pointer (some ⟨w.heap.size, 0, none⟩), .pointer (some ⟨w1.heap.size, 0, none⟩)], .func (.func 90) #[] #[.pointer (some ⟨w.heap.size, 0, none⟩)], .func (.func 92) #[] #[.pointer (some ⟨w.heap.size, 0, none⟩)]] 132 = F) := ⟨_, Lib.hid rfl⟩
    have hb3 : Below w1.heap.size w1 ((w1.alloc (.cells #[.string (str T)] 9)).alloc F) := hb2.alloc (by simp) F
    have hbk : Blk ((w1.alloc (.cells #[.string (str T)] 9)).alloc F) (w1.heap.size + 1) 132 #[.func (.func 88) #[] #[.pointer (some ⟨w.heap.size, 0, none⟩), .pointer (some ⟨w1.heap.size, 0, none⟩)], .func (.func 90) #[] #[.pointer (some ⟨w.heap.size, 0, none⟩)], .func (.func 92) #[] #[.pointer (some ⟨w.heap.size, 0, none⟩)]] := by
      rw [← HF.out]
      have h := Blk.new (w1.alloc (.cells #[.string (str T)] 9)) 132 #[.func (.func 88) #[] #[.pointer (some ⟨w.heap.size, 0, none⟩), .pointer (some ⟨w1.heap.size, 0, none⟩)], .func (.func 90) #[] #[.pointer (some ⟨w.heap.size, 0, none⟩)], .func (.func 92) #[] #[.pointer (some ⟨w.heap.size, 0, none⟩)]]
      have e : (w1.alloc (.cells #[.string (str T)] 9)).heap.size = w1.heap.size + 1 := by simp
      rw [e] at h
      exact h
    have HC := Lib.hid (inturn_any d g S T w.heap.size w1.heap.size (w1.heap.size + 1) _ (HD.out.below (KB.out.trans (hb3.mono KS.out))) hl (by have := hlen.out; omega) ((hb3.cell (p := ⟨w.heap.size, 0, none⟩) hlt1).trans hp0) (((Blk.new w1 _ _).alloc F).cell 0) ⟨hbk.cell 0, hbk.cell 1, hbk.cell 2⟩ (by omega) (by omega))
    have HB3 := Lib.hid (KB.out.trans (hb3.mono KS.out))
    rw [← HF.out] at HC HB3
    clear hb2 hb3 hbk HF
    go_wp2_with (fail)
    with_reducible refine HC.out.mono ?_
    rintro e w2 ⟨rfl, hk2, ht2⟩
    go_wp2
    go_ret
    exact ⟨by rw [HX.out]; rfl, by rw [HX.out]; exact hk2, (Turn.of_below HB3.out _).fd ht2⟩
  · have hx : txO2 dt = ([], 10) := by unfold txO2; rw [if_neg hok]
    have HX : Hid (R = (10, S)) := Lib.hid (by rw [← HR.out]; unfold saveD; rw [if_neg hok])
    rw [hx]
    clear hx hok HR
    go_wp2
    go_ret
    have hb : Below w.heap.size w (w1.alloc (.cells #[.string (str [])] 9)) := KB.out.alloc KS.out _
    exact ⟨by rw [HX.out]; rfl, by rw [HX.out]; exact HD.out.below hb, Turn.of_below hb _⟩

/-- what a load hands back: a state whose known ones lie in new memory, or an error -/
def LoadP (o : Int × Option Dt) (w : World) (e : Ending) (w' : World) : Prop :=
  Below w.heap.size w w' ∧ ((∃ d a n cap, o = (0, some d) ∧ e = .returned (.tuple #[.agg (stv (mkS d a n cap)), .int .i64 0]) ∧ KnAt w' a n d.l ∧ n ≤ 1000000 ∧ ∀ ad, a = some ad → w.heap.size ≤ ad.block) ∨ (o.2 = none ∧ o.1 ≠ 0 ∧ e = .returned (.tuple #[.agg (stv Sv.zero), .int .i64 o.1])))

set_option maxHeartbeats 2000000 in
theorem load_any (d g : Nat) (S : Ds) (w : World) (hE : Env w) (h : Dk w d g U S) : Calls Tryz.prog 40 #[.pointer (some ⟨d, 0, none⟩)] w (LoadP (loadD S) w) := by
  have hlen : (readB S nSt).length ≤ 100000 := by
    unfold readB
    split
    · cases hh : hasF S.fs nSt with
      | true => exact (h.good.small _ (getF_mem hh)).2
      | false => rw [getF_none hh]; simp
    · simp
  have HL := Lib.hid hlen
  have HD := Lib.hid h
  have J1 := Lib.hid (StAt.new w Sv.zero)
  have JB : Hid (Below w.heap.size w (w.alloc (.cells (stv Sv.zero) 73))) := Lib.hid ((Below.refl _ w).alloc (Nat.le_refl _) _)
  have JE := Lib.hid (hE.below JB.out)
  have JD := Lib.hid (h.below JB.out)
  obtain ⟨R, HR⟩ : ∃ r, Hid (loadD S = r) := ⟨_, Lib.hid rfl⟩
  rw [HR.out]
  obtain ⟨re, HRE⟩ : ∃ r, Hid (readE S nSt = r) := ⟨_, Lib.hid rfl⟩
  obtain ⟨rb, HRB⟩ : ∃ r, Hid (readB S nSt = r) := ⟨_, Lib.hid rfl⟩
  have HX : Hid (R = if re ≠ 0 then (re, none) else match parseD rb with
    | some d => (0, some d)
    | none => (60, none)) := Lib.hid (by rw [← HR.out, ← HRE.out, ← HRB.out]; rfl)
  rw [HRB.out] at HL
  have HRD := Lib.hid (read_any d g S nSt _ JD.out (by decide))
  rw [HRE.out, HRB.out] at HRD
  clear hlen h hE HR HRE HRB
  go_enter Tryz.func40, Tryz.ntmps40
  go_wp2_with (first | refine st_alloc rfl ?_)
  refine HRD.out.mono ?_
  rintro e w1 ⟨A, n, c, rfl, hn, hc, hm, ho, hb1⟩
  have K1 := Lib.hid (J1.out.later hb1)
  have KB := Lib.hid (JB.out.trans (hb1.mono JB.out.size))
  have KE := Lib.hid (JE.out.below hb1)
  have hr1 : Rd w1 no 1 A n (bs rb) := Rd.of_own ho rfl (fun _ _ f => f)
  have hcv := bytes_back (c := c) hr1.reads
  have hlt1 : w.heap.size < w1.heap.size := K1.out.lt
  clear hb1 ho hr1 J1 JB JE JD HRD
  by_cases hre : re = 0
  · subst hre
    have HX2 : Hid (R = match parseD rb with
      | some d => (0, some d)
      | none => (60, none)) := Lib.hid (by rw [HX.out]; simp)
    clear HX
    go_wp2_with (fail)
    refine (cparse2_any rb HL.out w1 KE.out).mono ?_
    rintro e w2 ⟨hb2, hcase⟩
    have L1 := Lib.hid (K1.out.later hb2)
    have LB := Lib.hid (KB.out.trans (hb2.mono KB.out.size))
    clear hb2 hcv
    rcases hcase with ⟨dt, a, m, cap, hp, rfl, hk, hm2, hlow⟩ | ⟨hp, rfl⟩
    · have HN : Hid (R = (0, some dt)) := Lib.hid (by rw [HX2.out, hp])
      have HK := Lib.hid hk
      have HLW := Lib.hid hlow
      clear hp hk hlow HX2
      go_wp2_with (first | ((with_reducible refine st_store (b := w.heap.size) (s := Sv.zero) (u := mkS dt a m cap) ?_ ?_ ?_ ?_ ?_); (rfl); (rfl); (with_reducible exact L1.out); (rfl)))
      exact bodyPost_ret (results_st rfl _ _ w.heap.size _ rfl (L1.out.store _)) rfl ⟨below_row LB.out (Nat.le_refl _) _, .inl ⟨dt, a, m, cap, HN.out, rfl, kn_row_far HK.out (fun ad e => by have := HLW.out ad e; omega), hm2, fun ad e => by have := HLW.out ad e; omega⟩⟩
    · have HN : Hid (R = (60, none)) := Lib.hid (by rw [HX2.out, hp])
      clear hp HX2
      go_wp2_with (first | ((with_reducible refine st_store (b := w.heap.size) (s := Sv.zero) (u := Sv.zero) ?_ ?_ ?_ ?_ ?_); (rfl); (rfl); (with_reducible exact L1.out); (rfl)))
      exact bodyPost_ret (results_st rfl _ _ w.heap.size _ rfl (L1.out.store _)) rfl ⟨below_row LB.out (Nat.le_refl _) _, .inr ⟨by rw [HN.out], by rw [HN.out]; simp, by rw [HN.out]; rfl⟩⟩
  · have q0 : (re != 0) = true := by simpa using hre
    have HN : Hid (R = (re, none)) := Lib.hid (by rw [HX.out, if_pos hre])
    have HRN : Hid (re ≠ 0) := Lib.hid hre
    clear HX hre hcv
    go_wp2_with (first | (refine st_build rfl ?_) | ((with_reducible refine st_store (b := w.heap.size) (s := Sv.zero) (u := Sv.zero) ?_ ?_ ?_ ?_ ?_); (rfl); (rfl); (with_reducible exact K1.out); (rfl)))
    exact bodyPost_ret (results_st rfl _ _ w.heap.size _ rfl (K1.out.store _)) rfl ⟨below_row KB.out (Nat.le_refl _) _, .inr ⟨by rw [HN.out], by rw [HN.out]; exact HRN.out, by rw [HN.out]; rfl⟩⟩
end Go.Proofs.YteoodompphhkbaaGreatDoor.K.Dsk

