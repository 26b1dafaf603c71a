/-
  WHAT IS PROVED: slices of entries and of bytes in memory (read, a row of the call's own, appended to); arguments of the types wire.Packet and []byte. No condition beyond sizes.
-/
import Derived.Test.YtneanlffllejnaaPlain
import Derived.Test.YtneanlffllejnaaInts
import Derived.Test.YtneanlffllejnaaBytes
import Derived.Test.YtneanlffllejnaaAppend
import Derived.Deep.Strs
import Derived.Deep.Matrix
import Derived.OpenShut
import Derived.OpenVars
namespace Go.Proofs.Ytneanlffllejnaa
open Go.RowKit Go.ChangeShapes Go.WideShapes Go.ChangeAt Go.WideElems

def inInt (z : Int) : Prop := -9223372036854775808 ≤ z ∧ z ≤ 9223372036854775807
def En.fits (s : En) : Prop := inInt s.id ∧ inInt s.st
/-- a replica's cells -/
def encR (r : En) : List Value := [.int .i64 r.id, .int .i64 r.st]
def flatR (l : List En) : List Value := l.flatMap encR
theorem flat_len : ∀ l : List En, (flatR l).length = l.length * 2
  | [] => rfl
  | r :: l => by have := flat_len l; simp [flatR, encR] at this ⊢; omega
theorem flat_append (l m : List En) : flatR (l ++ m) = flatR l ++ flatR m := by unfold flatR; rw [List.flatMap_append]
theorem flat_one (l : List En) : ∀ u ∈ flatR l, u.oneCell' = true := by
  intro u hu
  obtain ⟨r, _, hr⟩ := List.mem_flatMap.1 hu
  simp [encR] at hr
  rcases hr with rfl | rfl <;> rfl
theorem flat_get : ∀ {l : List En} {i : Nat} {r : En}, l[i]? = some r → (flatR l)[i * 2]? = some (.int .i64 r.id) ∧ (flatR l)[i * 2 + 1]? = some (.int .i64 r.st)
  | x :: l, 0, r, h => by simp at h; subst h; exact ⟨rfl, rfl⟩
  | x :: l, i + 1, r, h => by
    have := flat_get (l := l) (i := i) (r := r) (by simpa using h)
    rw [show (i + 1) * 2 = i * 2 + 2 by omega, show i * 2 + 2 + 1 = i * 2 + 1 + 2 by omega]
    exact this
theorem flat_at : ∀ {l : List En} {j : Nat} {u : Value}, (flatR l)[j]? = some u → ∃ i r, l[i]? = some r ∧ ((j = i * 2 ∧ u = .int .i64 r.id) ∨ (j = i * 2 + 1 ∧ u = .int .i64 r.st))
  | x :: l, 0, u, h => by simp [flatR, encR] at h; exact ⟨0, x, rfl, .inl ⟨rfl, h.symm⟩⟩
  | x :: l, 1, u, h => by simp [flatR, encR] at h; exact ⟨0, x, rfl, .inr ⟨rfl, h.symm⟩⟩
  | x :: l, j + 2, u, h => by
    obtain ⟨i, r, hi, h⟩ := flat_at (l := l) (j := j) (u := u) h
    refine ⟨i + 1, r, by simpa using hi, ?_⟩
    rcases h with ⟨e, h⟩ | ⟨e, h⟩
    · exact .inl ⟨by omega, h⟩
    · exact .inr ⟨by omega, h⟩

/-- the slice value '.slice A n c' holds the replicas l, in a block that is there -/
def EsAt (w : World) (A : Option Addr) (n : Nat) (l : List En) : Prop :=
  l.length = n ∧ (0 < n → ∃ ad, A = some ad ∧ ad.block < w.heap.size ∧ ∀ i s, l[i]? = some s → w.cell? (ad.add (i * 2)) = some (.int .i64 s.id) ∧ w.cell? (ad.add (i * 2 + 1)) = some (.int .i64 s.st))
theorem add_succ (x : Addr) (j : Nat) : x.add (j + 1) = ⟨x.block, x.off + (j + 1), none⟩ := by unfold Addr.add; rw [if_neg (by omega)]

section
variable {w w' : World} {A : Option Addr} {ad : Addr} {n k : Nat} {l : List En}
theorem EsAt.nil_ (w : World) (A : Option Addr) : EsAt w A 0 [] := ⟨rfl, fun h => absurd h (by omega)⟩
theorem EsAt.below (h : EsAt w A n l) (hb : Below w.heap.size w w') : EsAt w' A n l :=
  ⟨h.1, fun hn => by
    obtain ⟨ad, e, hlt, hc⟩ := h.2 hn
    refine ⟨ad, e, Nat.lt_of_lt_of_le hlt hb.size, fun i s hs => ?_⟩
    obtain ⟨c0, c1⟩ := hc i s hs
    exact ⟨(hb.cell (by rw [block_of_add]; exact hlt)).trans c0, (hb.cell (by rw [block_of_add]; exact hlt)).trans c1⟩⟩
theorem EsAt.at_ (h : EsAt w A n l) (hk : k < n) :
    ∃ ad s, A = some ad ∧ l[k]? = some s ∧ ad.block < w.heap.size ∧ w.cell? (ad.add (k * 2)) = some (.int .i64 s.id) ∧ w.cell? ⟨(ad.add (k * 2)).block, (ad.add (k * 2)).off + 1, none⟩ = some (.int .i64 s.st) := by
  obtain ⟨ad, e, hlt, hc⟩ := h.2 (by omega)
  have hl : k < l.length := by have := h.1; omega
  obtain ⟨c0, c1⟩ := hc k _ (List.getElem?_eq_getElem hl)
  rw [← add_of_add, add_succ] at c1
  exact ⟨ad, l[k], e, List.getElem?_eq_getElem hl, hlt, c0, c1⟩
theorem EsAt.take (h : EsAt w A n l) (hk : k ≤ n) : EsAt w A k (l.take k) := by
  refine ⟨by rw [List.length_take, h.1]; omega, fun hn => ?_⟩
  obtain ⟨ad, e, hlt, hc⟩ := h.2 (by omega)
  exact ⟨ad, e, hlt, fun i s hs => hc i s (by rw [List.getElem?_take] at hs; split at hs <;> simp_all)⟩
theorem EsAt.cut (h : EsAt w A n l) {cap : Nat} (hk : k ≤ n) (hc : n ≤ cap) :
    EsAt w (if cap = k then A else A.map (·.add (k * 2))) (n - k) (l.drop k) := by
  refine ⟨by rw [List.length_drop, h.1], fun hn => ?_⟩
  obtain ⟨ad, rfl, hlt, hcell⟩ := h.2 (by omega)
  rw [if_neg (by omega)]
  refine ⟨ad.add (k * 2), rfl, by rw [block_of_add]; exact hlt, fun i s hs => ?_⟩
  have hs' : l[k + i]? = some s := by rw [← hs, List.getElem?_drop]
  obtain ⟨c0, c1⟩ := hcell _ s hs'
  rw [add_of_add, add_of_add]
  rw [show k * 2 + i * 2 = (k + i) * 2 by omega, show k * 2 + (i * 2 + 1) = (k + i) * 2 + 1 by omega]
  exact ⟨c0, c1⟩
theorem EsAt.cells (h : EsAt w (some ad) n l) : ∀ j u, (flatR l)[j]? = some u → w.cell? (ad.add j) = some u := fun j u hu => by
  obtain ⟨i, r, hi, hr⟩ := flat_at hu
  have hn : 0 < n := by have := h.1; have := (List.getElem?_eq_some_iff.1 hi).1; omega
  obtain ⟨ad', e, _, hc⟩ := h.2 hn
  cases e
  obtain ⟨c0, c1⟩ := hc i r hi
  rcases hr with ⟨rfl, rfl⟩ | ⟨rfl, rfl⟩
  · exact c0
  · exact c1
theorem EsAt.of_cells {ad : Addr} (hl : l.length = n) (hlt : 0 < n → ad.block < w.heap.size) (hc : ∀ j u, (flatR l)[j]? = some u → w.cell? (ad.add j) = some u) : EsAt w (some ad) n l :=
  ⟨hl, fun hn => ⟨ad, rfl, hlt hn, fun _ _ hs => ⟨hc _ _ (flat_get hs).1, hc _ _ (flat_get hs).2⟩⟩⟩
end

/-- a row of the call's own -/
theorem own_reps {w : World} {base n : Nat} {e : TypeId} {v : Value} {l : List En} (h : w.ownsRow base e 2 v n (flatR l)) :
    ∃ A cap, v = .slice A n cap ∧ n ≤ cap ∧ cap ≤ 9223372036854775807 ∧ EsAt w A n l := by
  have hl : l.length = n := by have := h.1; rw [flat_len] at this; omega
  rcases h.2 with ⟨rfl, rfl⟩ | ⟨b, cap, cur, rfl, hb, hh, hnc, hcm, _⟩
  · obtain rfl := List.eq_nil_of_length_eq_zero hl
    exact ⟨none, 0, rfl, Nat.le_refl _, by omega, EsAt.nil_ _ _⟩
  · exact ⟨some ⟨b, 0, none⟩, cap, rfl, hnc, by unfold maxLen at hcm; omega, EsAt.of_cells hl (fun _ => (Array.getElem?_eq_some_iff.1 hh).1) (h.cells rfl)⟩

theorem cells_ent : Try.prog.cellsOf 48 = 2 := by kernel_rfl
theorem cells_pk : Try.prog.cellsOf 26 = 11 := by kernel_rfl
theorem cells_set : Try.prog.cellsOf 23 = 1 := by kernel_rfl
theorem cells_ents : Try.prog.cellsOf 24 = 1 := by kernel_rfl
theorem cells_u8 : Try.prog.cellsOf 5 = 1 := by kernel_rfl
theorem ent_info : (Try.prog.info? 48).map (fun i => (i.zero, i.size, i.bytes)) = some (some (.agg #[.int .i64 0, .int .i64 0]), 2, 16) := by kernel_rfl
theorem ent_info2 : (Try.prog.info? 49).map (fun i => (i.zero, i.size, i.bytes)) = some (some (.agg #[.int .i64 0, .int .i64 0]), 2, 16) := by kernel_rfl
theorem u8_info : (Try.prog.info? 5).map (fun i => (i.zero, i.size, i.bytes)) = some (some (.int .u8 0), 1, 1) := by kernel_rfl
theorem int_info : (Try.prog.info? 3).map (fun i => (i.zero, i.size, i.bytes)) = some (some (.int .i64 0), 1, 8) := by kernel_rfl
theorem info_parts {P : Program} {t : TypeId} {z : Option Value} {s b : Nat} (h : (P.info? t).map (fun i => (i.zero, i.size, i.bytes)) = some (z, s, b)) : ∃ i, P.info? t = some i ∧ i.zero = z ∧ i.size = s ∧ i.bytes = b := by
  cases hi : P.info? t with
  | none => rw [hi] at h; cases h
  | some i => rw [hi] at h; simp at h; exact ⟨i, rfl, h.1, h.2.1, h.2.2⟩

section
variable {H : Type} {enc : TypeId × Value → H}
set_option maxRecDepth 100000 in
theorem open_ent {W : World} {sp : Nat → Bool} {hd : Bool} {fuel : Nat} {cs : List Value} {x : DataW H × List MemPlace} (h : DataW.trod enc Try.prog W 0 sp hd fuel 48 cs = some x) :
    ∃ s : En, s.fits ∧ cs = [.int .i64 s.id, .int .i64 s.st] := by
  obtain ⟨y0, y1, m, _, hl, h0, h1⟩ := Go.ChangeShapes.trod_struct2 Try.underlying48 h
  rw [cells_ent] at hl
  match cs, hl with
  | [a, b], _ =>
    simp only [cells_int] at h0 h1
    obtain ⟨z0, e0, _, w0⟩ := DataW.trod_int Try.underlying3 h0
    obtain ⟨z1, e1, _, w1⟩ := DataW.trod_int Try.underlying3 h1
    simp at e0 e1
    subst e0; subst e1
    exact ⟨⟨z0, z1⟩, ⟨wf_i64 w0, wf_i64 w1⟩, rfl⟩
set_option maxRecDepth 100000 in
theorem open_ents {W : World} {fuel : Nat} {c : Value} {x : DataW H × List MemPlace} (hf : DataW.trod enc Try.prog W 0 (fun _ => true) true fuel 24 [c] = some x) :
    ∃ (A : Option Addr) (n cap : Nat) (l : List En), c = .slice A n cap ∧ l.length = n ∧ n ≤ cap ∧ cap ≤ 9223372036854775807 ∧ EsAt W A n l ∧ ∀ s ∈ l, s.fits := by
  rcases Go.Deep.open_slice Try.underlying24 hf with ⟨hcs, _⟩ | ⟨a, len, cap, m, q, D, Pl, hcs, _, hl, hm, hmm, _, hx⟩
  · simp at hcs
    subst hcs
    exact ⟨none, 0, 0, [], rfl, rfl, Nat.le_refl _, by omega, ⟨rfl, fun h => absurd h (by omega)⟩, fun z hz => by cases hz⟩
  · simp at hcs
    subst hcs
    simp only [if_true] at hmm
    have each : ∀ i, i < len → ∃ s : En, s.fits ∧ W.cell? (a.add (i * 2)) = some (.int .i64 s.id) ∧ W.cell? (a.add (i * 2 + 1)) = some (.int .i64 s.st) := fun i hi => by
      obtain ⟨cs', hc, hd⟩ := hx i (by omega)
      rw [cells_ent] at hc
      obtain ⟨s, hs, rfl⟩ := open_ent hd
      obtain ⟨_, _, hcell⟩ := World.cells?_some hc
      have c0 := hcell 0 (by omega)
      have c1 := hcell 1 (by omega)
      rw [add_of_add] at c0 c1
      exact ⟨s, hs, c0, c1⟩
    have : Inhabited En := ⟨⟨0, 0⟩⟩
    obtain ⟨g, hg⟩ := Go.Deep.choose_lt each
    refine ⟨some a, len, cap, (List.range len).map g, rfl, by simp, hl, hm, ⟨by simp, fun hn => ⟨a, rfl, ?_, fun i s hs => ?_⟩⟩, fun s hs => ?_⟩
    · have := lt_of_cell (hg 0 hn).2.1
      rwa [block_of_add] at this
    · rw [List.getElem?_map] at hs
      cases hi : (List.range len)[i]? with
      | none => rw [hi] at hs; cases hs
      | some j =>
        rw [hi] at hs
        simp at hs
        have hil : i < len := by
          have := (List.getElem?_eq_some_iff.1 hi).1
          simpa using this
        have hj : j = i := by
          have := (List.getElem?_eq_some_iff.1 hi).2
          simp at this
          exact this.symm
        subst hj; subst hs
        exact (hg j hil).2
    · obtain ⟨j, hj, rfl⟩ := List.mem_map.1 hs
      exact (hg j (by simpa using hj)).1
theorem wf_u64 {z : Int} (h : (Lit.int .u64 z).wf = true) : 0 ≤ z ∧ z ≤ 18446744073709551615 := by
  have e1 : IntKind.u64.min = 0 := rfl
  have e2 : IntKind.u64.max = 18446744073709551615 := by decide
  simp [Lit.wf] at h
  rw [e1, e2] at h
  exact h
def Pk.fits (p : Pk) : Prop := inInt p.kind ∧ inInt p.frm ∧ inInt p.ep ∧ inInt p.cf ∧ inInt p.ma ∧ inInt p.off ∧ inInt p.ab ∧ inInt p.ac ∧ p.sets ∧ ∀ e ∈ p.sec, e.fits
/-- a packet, as a value; S: its section -/
def vP (p : Pk) (S : Value) : Value := .agg #[.int .i64 p.kind, .int .i64 p.frm, .int .i64 p.ep, .int .i64 p.cf, .int .i64 p.ma, .int .u64 p.sl, .int .i64 p.off, .int .i64 p.ab, .int .i64 p.ac, .int .u64 p.as_, S]
theorem trod_struct11 {P : Program} {w : World} {base : Nat} {spare : Nat → Bool} {held : Bool} {t : TypeId} {f0 f1 f2 f3 f4 f5 f6 f7 f8 f9 f10 : Field} {fuel : Nat} {cs : List Value} {x : DataW H × List MemPlace} (ht : P.underlying t = some (.struct #[f0, f1, f2, f3, f4, f5, f6, f7, f8, f9, f10])) (h : DataW.trod enc P w base spare held fuel t cs = some x) :
    ∃ y0 y1 y2 y3 y4 y5 y6 y7 y8 y9 y10 n, cs.length = P.cellsOf t ∧ DataW.trod enc P w base spare held n f0.type ((cs.drop f0.offset).take (P.cellsOf f0.type)) = some y0 ∧ DataW.trod enc P w base spare held n f1.type ((cs.drop f1.offset).take (P.cellsOf f1.type)) = some y1 ∧ DataW.trod enc P w base spare held n f2.type ((cs.drop f2.offset).take (P.cellsOf f2.type)) = some y2 ∧ DataW.trod enc P w base spare held n f3.type ((cs.drop f3.offset).take (P.cellsOf f3.type)) = some y3 ∧ DataW.trod enc P w base spare held n f4.type ((cs.drop f4.offset).take (P.cellsOf f4.type)) = some y4 ∧ DataW.trod enc P w base spare held n f5.type ((cs.drop f5.offset).take (P.cellsOf f5.type)) = some y5 ∧ DataW.trod enc P w base spare held n f6.type ((cs.drop f6.offset).take (P.cellsOf f6.type)) = some y6 ∧ DataW.trod enc P w base spare held n f7.type ((cs.drop f7.offset).take (P.cellsOf f7.type)) = some y7 ∧ DataW.trod enc P w base spare held n f8.type ((cs.drop f8.offset).take (P.cellsOf f8.type)) = some y8 ∧ DataW.trod enc P w base spare held n f9.type ((cs.drop f9.offset).take (P.cellsOf f9.type)) = some y9 ∧ DataW.trod enc P w base spare held n f10.type ((cs.drop f10.offset).take (P.cellsOf f10.type)) = some y10 := by
  obtain ⟨xs, n, _, _, hl, hlen, hf⟩ := DataW.trod_struct ht h
  match xs, hlen with
  | [y0, y1, y2, y3, y4, y5, y6, y7, y8, y9, y10], _ => exact ⟨y0, y1, y2, y3, y4, y5, y6, y7, y8, y9, y10, n, hl, by simpa using hf 0 f0 rfl, by simpa using hf 1 f1 rfl, by simpa using hf 2 f2 rfl, by simpa using hf 3 f3 rfl, by simpa using hf 4 f4 rfl, by simpa using hf 5 f5 rfl, by simpa using hf 6 f6 rfl, by simpa using hf 7 f7 rfl, by simpa using hf 8 f8 rfl, by simpa using hf 9 f9 rfl, by simpa using hf 10 f10 rfl⟩
set_option maxRecDepth 100000 in
/-- AN ARGUMENT OF TYPE wire.Packet -/
theorem open_pk {W : World} {r : Reach} {b0 : Nat} {v : Value} {d : DataW H} {p : List MemPlace}
    (hval : Value.okWide Try.prog W r b0 26 v) (h0 : DataW.Trod enc Try.prog W 0 (fun _ => true) true 26 v d p) :
    ∃ (s : Pk) (A : Option Addr) (n cap : Nat), v = vP s (.slice A n cap) ∧ s.sec.length = n ∧ n ≤ cap ∧ cap ≤ 9223372036854775807 ∧ EsAt W A n s.sec ∧ s.fits := by
  obtain ⟨cs, rfl, _⟩ := okWide_struct Try.underlying26 hval
  obtain ⟨fuel, hf⟩ := h0
  obtain ⟨y0, y1, y2, y3, y4, y5, y6, y7, y8, y9, y10, n, hl, h0, h1, h2, h3, h4, h5, h6, h7, h8, h9, h10⟩ := trod_struct11 Try.underlying26 hf
  rw [cells_pk] at hl
  have e : (Value.agg cs).cells.toList = cs.toList := by simp [Value.cells]
  rw [e] at hl h0 h1 h2 h3 h4 h5 h6 h7 h8 h9 h10
  obtain ⟨c, rfl⟩ : ∃ c : List Value, cs = c.toArray := ⟨cs.toList, by simp⟩
  match c, hl with
  | [c0, c1, c2, c3, c4, c5, c6, c7, c8, c9, c10], _ =>
    simp only [cells_int, cells_set, cells_ents] at h0 h1 h2 h3 h4 h5 h6 h7 h8 h9 h10
    obtain ⟨z0, e0, _, w0⟩ := DataW.trod_int Try.underlying3 h0
    obtain ⟨z1, e1, _, w1⟩ := DataW.trod_int Try.underlying3 h1
    obtain ⟨z2, e2, _, w2⟩ := DataW.trod_int Try.underlying3 h2
    obtain ⟨z3, e3, _, w3⟩ := DataW.trod_int Try.underlying3 h3
    obtain ⟨z4, e4, _, w4⟩ := DataW.trod_int Try.underlying3 h4
    obtain ⟨z5, e5, _, w5⟩ := DataW.trod_int Try.underlying23 h5
    obtain ⟨z6, e6, _, w6⟩ := DataW.trod_int Try.underlying3 h6
    obtain ⟨z7, e7, _, w7⟩ := DataW.trod_int Try.underlying3 h7
    obtain ⟨z8, e8, _, w8⟩ := DataW.trod_int Try.underlying3 h8
    obtain ⟨z9, e9, _, w9⟩ := DataW.trod_int Try.underlying23 h9
    simp at e0 e1 e2 e3 e4 e5 e6 e7 e8 e9
    subst e0; subst e1; subst e2; subst e3; subst e4; subst e5; subst e6; subst e7; subst e8; subst e9
    obtain ⟨A, k, cap, l, rfl, hk, hc, hm, hE, hes⟩ := open_ents (c := c10) (by simpa using h10)
    exact ⟨⟨z0, z1, z2, z3, z4, z5, z6, z7, z8, z9, l⟩, A, k, cap, rfl, hk, hc, hm, hE, wf_i64 w0, wf_i64 w1, wf_i64 w2, wf_i64 w3, wf_i64 w4, wf_i64 w6, wf_i64 w7, wf_i64 w8, ⟨wf_u64 w5, wf_u64 w9⟩, hes⟩
end

section
variable {P : Program} (w : World)
/-- append at replicas: onto an own row, of a slice that may be nil -/
theorem run_append_reps (base : Nat) (t ty e : TypeId) (i : TypeInfo) (z : Value) (ht : P.underlying t = some (.slice e)) (hi : P.info? e = some i) (hz : i.zero = some z)
    (hsize : i.size = 2) (hby : i.bytes = 16) (hzs : z.cells.size = 2)
    (v : Value) (n : Nat) (xs : List En) (hown : w.ownsRow base e 2 v n (flatR xs))
    (A : Option Addr) (m c : Nat) (news : List En) (hr : EsAt w A m news)
    (h63 : n + m ≤ 1000000) (hbase : base ≤ w.heap.size) :
    ∃ v' w', (Builtin.append_ #[t, t] ty #[v, .slice A m c]).run P w = .ok v' w' ∧ w'.ownsRow base e 2 v' (n + m) (flatR (xs ++ news)) ∧ w.grownBy w' v.ownBlock ∧
      (v'.ownBlock = v.ownBlock ∨ v'.ownBlock = some w.heap.size) := by
  rw [flat_append]
  cases A with
  | none =>
    have hm : m = 0 := by
      rcases Nat.eq_zero_or_pos m with h0 | h0
      · exact h0
      · obtain ⟨ad, h, _⟩ := hr.2 h0
        cases h
    subst hm
    have hn : news = [] := List.eq_nil_of_length_eq_zero hr.1
    subst hn
    refine ⟨v, w, ?_, by simpa [flatR] using hown, World.grownBy.refl w _, .inl rfl⟩
    rcases hown.2 with ⟨rfl, rfl⟩ | ⟨b, cap, cur, rfl, _, _, hnc, _⟩
    · simp [Builtin.append_, run_underlying ht, sizeOf, typeInfo, hi, Builtin.lenOf, Builtin.firstCells]
    · simp [Builtin.append_, run_underlying ht, sizeOf, typeInfo, hi, Builtin.lenOf, Builtin.firstCells, hnc, storeCells]
  | some ad =>
    obtain ⟨v', w', hrun, h2, h3, _, h5⟩ := run_append_own_at (P := P) w base t ty e i z 2 16 ht hi hz hsize hby hzs (by omega) v n (flatR xs) hown ad m c (flatR news) (by rw [flat_len, hr.1]) hr.cells (flat_one _) (by unfold maxLen; omega) (by omega) hbase
    exact ⟨v', w', hrun, h2, h3, h5⟩

theorem wpList_append_reps {ops : Array Oper} {rest : List Oper} {o : Oper} {a : Act} {Q : Exit → Act → World → Prop} (hgd : o.guard = none) (s x : Operand) (t : TypeId)
    (ho : o.op = .call { callee := .builtin .append, args := #[s, x], argTypes := #[t, t] })
    (base : Nat) (e : TypeId) (i : TypeInfo) (z : Value) (ht : P.underlying t = some (.slice e)) (hi : P.info? e = some i) (hz : i.zero = some z)
    (hsize : i.size = 2) (hby : i.bytes = 16) (hzs : z.cells.size = 2)
    (v : Value) (n : Nat) (xs : List En) (hs : a.eval s = v) (hown : w.ownsRow base e 2 v n (flatR xs))
    (A : Option Addr) (m c : Nat) (news : List En) (hx : a.eval x = .slice A m c) (hr : EsAt w A m news)
    (h63 : n + m ≤ 1000000) (hbase : base ≤ w.heap.size)
    (h : ∀ v' w', w'.ownsRow base e 2 v' (n + m) (flatR (xs ++ news)) → w.grownBy w' v.ownBlock → (v'.ownBlock = v.ownBlock ∨ v'.ownBlock = some w.heap.size) → wpList P ops Q rest (a.put o.dst v') w') : wpList P ops Q (o :: rest) a w :=
  wpList_plain hgd fun K hK => by
    obtain ⟨v', w', hrun, h2, h3, h4⟩ := run_append_reps (P := P) w base t o.type e i z ht hi hz hsize hby hzs v n xs hown A m c news hr h63 hbase
    unfold Oper.wp execOp
    simp only [ho, resolve, invoke, builtin, Sem.run_bind, Sem.run_pure, Result.andThen_ok, List.map_toArray, List.map_cons, List.map_nil, hs, hx, hrun]
    exact hK _ _ (h v' w' h2 h3 h4)
end

section
variable {H : Type} {enc : TypeId × Value → H} {P : Program}
theorem byte_wf {n : Int} (h : (Lit.int .u8 n).wf = true) : ∃ c : UInt8, n = (c.toNat : Int) := by
  have h1 : IntKind.u8.min = 0 := rfl
  have h2 : IntKind.u8.max = 255 := rfl
  simp only [Lit.wf, Bool.and_eq_true, decide_eq_true_eq] at h
  exact ⟨UInt8.ofNat n.toNat, by simp; omega⟩
theorem bytes_wf : ∀ {zs : List Int}, (∀ n ∈ zs, (Lit.int .u8 n).wf = true) → ∃ l : List UInt8, zs = l.map fun c => (c.toNat : Int)
  | [], _ => ⟨[], rfl⟩
  | z :: zs, h => by
    obtain ⟨c, hc⟩ := byte_wf (h z (by simp))
    obtain ⟨l, hl⟩ := bytes_wf (zs := zs) (fun n hn => h n (by simp [hn]))
    exact ⟨c :: l, by rw [hc, hl]; rfl⟩
theorem reads_of_ints {W : World} {a : Addr} {len cap : Nat} {zs : List Int} (hl : len ≤ cap) (hz : zs.length = cap) (hwz : ∀ n ∈ zs, (Lit.int .u8 n).wf = true)
    (hcell : ∀ i, i < cap → W.cell? (a.add i) = some (.int .u8 (zs.getD i 0))) : ∃ l : List UInt8, l.length = len ∧ ∀ g, W.heap.size ≤ g → Reads W g (some a) len (bs l) := by
  obtain ⟨l0, hl0⟩ := bytes_wf hwz
  have hl0n : l0.length = cap := by rw [← hz, hl0]; simp
  refine ⟨l0.take len, by simp; omega, fun g hg => ⟨by simp [bs]; omega, fun hn => ?_⟩⟩
  have hlt : a.block < W.heap.size := by
    have := lt_of_cell (hcell 0 (by omega))
    rwa [block_of_add] at this
  refine ⟨a, rfl, hlt, by omega, fun j u hu => ?_⟩
  obtain ⟨c, hc, rfl⟩ := bs_at hu
  rw [List.getElem?_take] at hc
  by_cases hj : j < len
  · rw [if_pos hj] at hc
    rw [hcell j (by omega), hl0]
    simp [List.getD, hc]
  · rw [if_neg hj] at hc; cases hc

/-- AN ARGUMENT OF TYPE []byte -/
theorem open_bytes {t e : TypeId} (ht : P.underlying t = some (.slice e)) (he : P.underlying e = some (.int .u8)) (hc : P.cellsOf e = 1) {W : World} {r : Reach} {b0 : Nat} {v : Value} {d : DataW H} {p : List MemPlace}
    (hval : Value.okWide P W r b0 t v) (h0 : DataW.Trod enc P W 0 (fun _ => true) true t v d p) :
    ∃ (A : Option Addr) (n cap : Nat) (l : List UInt8), v = .slice A n cap ∧ l.length = n ∧ n ≤ cap ∧ cap ≤ 9223372036854775807 ∧ ∀ g, W.heap.size ≤ g → Reads W g A n (bs l) := by
  obtain ⟨a0, len, cap, rfl⟩ := okWide_slice ht hval
  obtain ⟨fuel, hf⟩ := h0
  rcases open_ints ht he hc hf with ⟨hcs, _⟩ | ⟨a, len', cap', zs, hcs, _, hl, hm, hz, _, hcell, hwz⟩
  · simp [Value.cells] at hcs
    obtain ⟨rfl, rfl, rfl⟩ := hcs
    exact ⟨none, 0, 0, [], rfl, rfl, Nat.le_refl _, by omega, fun g _ => Reads.none_⟩
  · simp [Value.cells] at hcs
    obtain ⟨rfl, rfl, rfl⟩ := hcs
    simp only [if_true] at hz
    obtain ⟨l, h1, h2⟩ := reads_of_ints hl hz hwz (fun i hi => hcell i (by omega))
    exact ⟨some a, len, cap, l, rfl, h1, hl, hm, h2⟩

end

/-! ### rows of bytes of the call's own -/
theorem bs_len (l : List UInt8) : (bs l).length = l.length := by simp [bs]
theorem bs_append (l m : List UInt8) : bs (l ++ m) = bs l ++ bs m := by simp [bs]
theorem bs_one (l : List UInt8) : ∀ u ∈ bs l, u.oneCell' = true := by
  intro u hu
  unfold bs at hu
  obtain ⟨c, _, rfl⟩ := List.mem_map.1 hu
  rfl
/-- v is a row of bytes of the call's own, in a block at or beyond B -/
def OwnB (w : World) (B : Nat) (v : Value) (l : List UInt8) : Prop := w.ownsRow B 5 1 v l.length (bs l)
theorem OwnB.reads {w : World} {B : Nat} {v : Value} {l : List UInt8} (h : OwnB w B v l) :
    ∃ A cap, v = .slice A l.length cap ∧ l.length ≤ cap ∧ cap ≤ 9223372036854775807 ∧ ∀ g, w.heap.size ≤ g → Reads w g A l.length (bs l) := by
  rcases h.2 with ⟨rfl, h0⟩ | ⟨b, cap, cur, rfl, hb, hh, hnc, hcm, hs⟩
  · obtain rfl := List.eq_nil_of_length_eq_zero h0
    exact ⟨none, 0, rfl, Nat.le_refl _, by omega, fun _ _ => Reads.none_⟩
  · have hlt : b < w.heap.size := (Array.getElem?_eq_some_iff.1 hh).1
    refine ⟨some ⟨b, 0, none⟩, cap, rfl, hnc, by unfold maxLen at hcm; omega, fun g hg => ⟨bs_len l, fun hn => ⟨_, rfl, hlt, by show b ≠ g; omega, ?_⟩⟩⟩
    exact h.cells rfl

end Go.Proofs.Ytneanlffllejnaa
