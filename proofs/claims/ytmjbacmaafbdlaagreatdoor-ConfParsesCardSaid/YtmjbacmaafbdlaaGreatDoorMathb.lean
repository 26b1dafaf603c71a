/-
  WHAT IS PROVED: a right state's text is read as that state (the tables alike slot by slot); its lines tell what stands in them. No condition.
-/
import Derived.Test.YtmjbacmaafbdlaaGreatDoorParse
import Derived.Lib.IndexMore
namespace Go.Proofs.YtmjbacmaafbdlaaGreatDoor
open Go.RowKit C

/-! ### numbers are read back -/
def valF (a : Nat) (l : List UInt8) : Nat := l.foldl (fun a c => 10 * a + (c.toNat - 48)) a
theorem valF_ge : ∀ (l : List UInt8) (a : Nat), a ≤ valF a l
  | [], a => Nat.le_refl _
  | c :: l, a => Nat.le_trans (by omega) (valF_ge l (10 * a + (c.toNat - 48)))
theorem parse_val : ∀ (l : List UInt8) (a : Nat), (∀ c ∈ l, isD c = true) → valF a l < 9223372036854775808 → Lib.parseUint10 a l = .ok (valF a l)
  | [], a, _, _ => rfl
  | c :: l, a, h, hv => by
    have hc := h c (List.mem_cons_self ..)
    unfold isD at hc
    simp at hc
    have hg := valF_ge l (10 * a + (c.toNat - 48))
    have hv' : valF (10 * a + (c.toNat - 48)) l < 9223372036854775808 := hv
    have e : a * 10 + (c.toNat - 48) = 10 * a + (c.toNat - 48) := by omega
    rw [Lib.parseUint10, if_pos ⟨hc.1, hc.2⟩, if_neg (by omega), if_neg (by omega), e, parse_val l _ (fun x hx => h x (List.mem_cons_of_mem _ hx)) hv']
    rfl
theorem atoi_dg {z : Int} (h0 : 0 ≤ z) (h1 : z ≤ 9223372036854775807) : atoiO (dg z) = some z := by
  rw [dg_eq]
  have hd := digL_isD z.toNat
  have hv : valF 0 (digL z.toNat) = z.toNat := val_digL z.toNat
  have hne := digL_ne z.toNat
  unfold atoiO Lib.atoiAll
  cases hl : digL z.toNat with
  | nil => exact absurd hl hne
  | cons c r =>
    rw [hl] at hd hv
    have hc := hd c (List.mem_cons_self ..)
    unfold isD at hc
    simp at hc
    have hp : Lib.parseMag (c :: r) = .ok z.toNat := by
      unfold Lib.parseMag
      rw [if_neg (by simp), parse_val _ _ hd (by rw [hv]; omega), hv]
    have h43 : c.toNat ≠ 43 := by omega
    have h45 : c.toNat ≠ 45 := by omega
    have hz : ¬ 9223372036854775808 ≤ z.toNat := by omega
    have hzz : ((z.toNat : Nat) : Int) = z := Int.toNat_of_nonneg h0
    simp [h43, h45, hp, hz, hzz]
theorem dg_no (z : Int) : ∀ x ∈ dg z, x ≠ 32 ∧ x ≠ 10 ∧ x ≠ 58 := fun x hx => by
  rw [dg_eq] at hx
  have h := digL_isD _ x hx
  unfold isD at h
  simp at h
  refine ⟨?_, ?_, ?_⟩ <;> (intro e; subst e; simp at h)

/-! ### words and numbers in a line -/
def pre : List (List UInt8 × Int) → List UInt8 → List UInt8
  | [], tl => tl
  | [p], tl => p.1 ++ 32 :: (dg p.2 ++ tl)
  | p :: q :: ps, tl => p.1 ++ 32 :: (dg p.2 ++ 32 :: pre (q :: ps) tl)
def okTl (tl : List UInt8) : Prop := tl = [] ∨ ∃ x, tl = 32 :: x
def okPs (ps : List (List UInt8 × Int)) : Prop := ∀ p ∈ ps, (∀ x ∈ p.1, x ≠ 32) ∧ 0 ≤ p.2 ∧ p.2 ≤ 9223372036854775807
theorem wordOf_pre {p : List UInt8 × Int} {ps : List (List UInt8 × Int)} {tl : List UInt8} (h : ∀ x ∈ p.1, x ≠ 32) : wordOf (pre (p :: ps) tl) = p.1 := by
  unfold wordOf
  cases ps <;> (rw [pre, S.cutL_at h])
theorem nums_pre : ∀ {ps : List (List UInt8 × Int)} {tl : List UInt8}, okTl tl → okPs ps → numsP (pre ps tl) (ps.map (·.1)) = some (ps.map (·.2))
  | [], _, _, _ => rfl
  | [p], tl, ht, h => by
    obtain ⟨h1, h2, h3⟩ := h p (List.mem_cons_self ..)
    have hd := fun x hx => (dg_no p.2 x hx).1
    have e : digOf (pre [p] tl) = dg p.2 := by
      unfold digOf
      rw [pre, S.cutL_at h1]
      rcases ht with rfl | ⟨x, rfl⟩
      · simp only [List.append_nil]; rw [S.cutL_none hd]
      · rw [S.cutL_at hd]
    rw [List.map_cons, List.map_nil, numsP, if_pos (wordOf_pre h1), e, atoi_dg h2 h3]
    rfl
  | p :: q :: ps, tl, ht, h => by
    obtain ⟨h1, h2, h3⟩ := h p (List.mem_cons_self ..)
    have hd := fun x hx => (dg_no p.2 x hx).1
    have e : digOf (pre (p :: q :: ps) tl) = dg p.2 := by
      unfold digOf
      rw [pre, S.cutL_at h1, S.cutL_at hd]
    have r : rest2 (pre (p :: q :: ps) tl) = pre (q :: ps) tl := by
      unfold rest2
      rw [pre, S.cutL_at h1, S.cutL_at hd]
    have ih := nums_pre (ps := q :: ps) ht (fun x hx => h x (List.mem_cons_of_mem _ hx))
    rw [List.map_cons, numsP, if_pos (wordOf_pre h1), e, atoi_dg h2 h3, r, ih]
    rfl
theorem nums_other {p : List UInt8 × Int} {ps : List (List UInt8 × Int)} {tl n : List UInt8} {ns : List (List UInt8)} (h : ∀ x ∈ p.1, x ≠ 32) (hn : p.1 ≠ n) : numsP (pre (p :: ps) tl) (n :: ns) = none := by
  rw [numsP, wordOf_pre h, if_neg hn]
theorem pre_no10 : ∀ {ps : List (List UInt8 × Int)} {tl : List UInt8}, (∀ w ∈ ps.map (·.1), ∀ x ∈ w, x ≠ 10) → (∀ x ∈ tl, x ≠ 10) → ∀ x ∈ pre ps tl, x ≠ 10
  | [], tl, _, ht, x, hx => ht x hx
  | [p], tl, hp, ht, x, hx => by
    rw [pre] at hx
    simp only [List.mem_append, List.mem_cons] at hx
    rcases hx with hx | rfl | hx | hx
    · exact hp p.1 (by simp) x hx
    · decide
    · exact (dg_no _ x hx).2.1
    · exact ht x hx
  | p :: q :: ps, tl, hp, ht, x, hx => by
    rw [pre] at hx
    simp only [List.mem_append, List.mem_cons] at hx
    rcases hx with hx | rfl | hx | rfl | hx
    · exact hp p.1 (by simp) x hx
    · decide
    · exact (dg_no _ x hx).2.1
    · decide
    · exact pre_no10 (ps := q :: ps) (fun y hy => hp y (by rw [List.map_cons]; exact List.mem_cons_of_mem _ hy)) ht x hx

/-! ### the three lines -/
def selfPs (d : Dt) : List (List UInt8 × Int) := [([115, 101, 108, 102], d.i), ([109, 97, 115, 116, 101, 114], d.m), ([99, 117, 114, 114, 101, 110, 116], d.c), ([118, 111, 116, 101], d.v), ([99, 111, 110, 102, 105, 103], d.f)]
def nodePs (k : Kn) : List (List UInt8 × Int) := [([110, 111, 100, 101], k.i), ([109, 97, 115, 116, 101, 114], k.m), ([99, 111, 110, 102, 105, 103], k.c)]
def slotsPs (o e : Int) : List (List UInt8 × Int) := [([115, 108, 111, 116, 115], o), ([101, 112, 111, 99, 104], e)]
def selfB (d : Dt) : List UInt8 := pre (selfPs d) []
def nodeB (k : Kn) : List UInt8 := pre (nodePs k) []
def slotsB (t : Tab) (o e : Int) : List UInt8 := pre (slotsPs o e) (32 :: 58 :: 32 :: S.txt (setOE t o e))
theorem self_line (d : Dt) (a : Option Addr) (n cap : Nat) : lineP (selfP (mkS d a n cap)) = selfB d ++ [10] := by
  simp [lineP, selfP, mkS, selfB, selfPs, pre, Pt.out, Lib.join_cons, Lib.joinTail]
theorem node_line (k : Kn) : lineP (nodeP k) = nodeB k ++ [10] := by
  simp [lineP, nodeP, nodeB, nodePs, pre, Pt.out, Lib.join_cons, Lib.joinTail]
theorem slots_line (t : Tab) (o e : Int) : lineP (slotsP t o e) = slotsB t o e ++ [10] := by
  simp [lineP, slotsP, slotsB, slotsPs, pre, Pt.out, Lib.join_cons, Lib.joinTail]
theorem stx_no (m : Nat) (hm : m < 18446744073709551616) : ∀ x ∈ S.txt m, x ≠ 10 := by
  have hc := S.canon_lt (S.canon_set hm)
  intro x hx
  have hx2 : x ∈ S.tx (S.stretches m) := hx
  revert hx2
  generalize S.stretches m = L at hc
  intro hx2
  have hpart : ∀ p : Nat × Nat, p.1 < 64 → p.2 < 64 → ∀ y ∈ S.part p, y ≠ 10 := by
    intro p h1 h2 y hy
    have hdig : ∀ n, n < 64 → ∀ z ∈ S.dig n, z ≠ 10 := by decide +kernel
    unfold S.part at hy
    split at hy
    · exact hdig _ h1 y hy
    · rcases List.mem_append.1 hy with hy | hy
      · exact hdig _ h1 y hy
      · rcases List.mem_cons.1 hy with rfl | hy
        · decide
        · exact hdig _ h2 y hy
  cases L with
  | nil => cases hx2
  | cons p r =>
    rw [S.tx] at hx2
    rcases List.mem_append.1 hx2 with h | h
    · exact hpart p (hc p (List.mem_cons_self ..)).1 (hc p (List.mem_cons_self ..)).2 x h
    · unfold S.tx' at h
      obtain ⟨q, hq, h⟩ := List.mem_flatMap.1 h
      have hq2 := hc q (List.mem_cons_of_mem _ hq)
      rcases List.mem_cons.1 h with rfl | h
      · decide
      · exact hpart q hq2.1 hq2.2 x h
theorem self_no (d : Dt) : ∀ x ∈ selfB d, x ≠ 10 := pre_no10 (show ∀ w ∈ selfN, ∀ x ∈ w, x ≠ 10 by decide) (fun x hx => by cases hx)
theorem node_no (k : Kn) : ∀ x ∈ nodeB k, x ≠ 10 := pre_no10 (show ∀ w ∈ nodeN, ∀ x ∈ w, x ≠ 10 by decide) (fun x hx => by cases hx)
theorem slots_no (t : Tab) (o e : Int) : ∀ x ∈ slotsB t o e, x ≠ 10 := pre_no10 (show ∀ w ∈ slotsN, ∀ x ∈ w, x ≠ 10 by decide) (fun x hx => by
  rcases List.mem_cons.1 hx with rfl | hx
  · decide
  · rcases List.mem_cons.1 hx with rfl | hx
    · decide
    · rcases List.mem_cons.1 hx with rfl | hx
      · decide
      · exact stx_no _ (pick_lt _) x hx)

/-! ### what a line is read as -/
theorem read_self {d d0 : Dt} (h : okPs (selfPs d)) : withD d0 (selfB d) = some { d0 with i := d.i, m := d.m, c := d.c, v := d.v, f := d.f } :=
  with_self (nums_pre (.inl rfl) h)
theorem read_node {k : Kn} {d0 : Dt} (h : okPs (nodePs k)) : withD d0 (nodeB k) = some { d0 with l := d0.l ++ [k] } := by
  obtain ⟨ki, km, kc⟩ := k
  exact with_node (nums_other (show ∀ x ∈ ([110, 111, 100, 101] : List UInt8), x ≠ 32 by decide) (show ([110, 111, 100, 101] : List UInt8) ≠ [115, 101, 108, 102] by decide)) (nums_pre (.inl rfl) h)
theorem cut3_at (a b : List UInt8) (h : ∀ x ∈ a, x ≠ 58) : (cut3 (a ++ 32 :: 58 :: 32 :: b)).2.1 = b := by
  have hi : Lib.index (a ++ 32 :: 58 :: 32 :: b) [32, 58, 32] = (a.length : Nat) := by
    refine Lib.index_first (by simp) (by simp [Lib.occAt]) (fun j hj => ?_)
    unfold Lib.occAt
    rw [← Bool.not_eq_true]
    intro hp
    obtain ⟨t, ht⟩ := List.isPrefixOf_iff_prefix.1 hp
    have h1 : ((a ++ 32 :: 58 :: 32 :: b).drop j)[1]? = some 58 := by rw [← ht]; rfl
    rw [List.getElem?_drop] at h1
    by_cases hlt : j + 1 < a.length
    · rw [List.getElem?_append_left hlt] at h1
      exact h 58 (List.mem_of_getElem? h1) rfl
    · have e : j + 1 = a.length := by omega
      rw [e, List.getElem?_append_right (Nat.le_refl _)] at h1
      simp at h1
  unfold cut3 Lib.cut
  rw [hi, if_pos (by omega)]
  show (a ++ 32 :: 58 :: 32 :: b).drop ((a.length : Int).toNat + 3) = b
  rw [Int.toNat_natCast, show a ++ 32 :: 58 :: 32 :: b = (a ++ [32, 58, 32]) ++ b by simp, List.drop_left' (by simp)]
theorem slots_cut (t : Tab) (o e : Int) : (cut3 (slotsB t o e)).2.1 = S.txt (setOE t o e) := by
  have h := cut3_at (pre (slotsPs o e) []) (S.txt (setOE t o e)) (by
    intro x hx
    simp only [slotsPs, pre, List.append_nil, List.mem_append, List.mem_cons] at hx
    rcases hx with hx | rfl | hx | rfl | hx | rfl | hx
    · simp at hx; rcases hx with rfl | rfl | rfl | rfl | rfl <;> decide
    · decide
    · exact (dg_no _ x hx).2.2
    · decide
    · simp at hx; rcases hx with rfl | rfl | rfl | rfl | rfl <;> decide
    · decide
    · exact (dg_no _ x hx).2.2)
  rw [← h]
  congr 3
  simp [slotsB, slotsPs, pre]
theorem read_slots {t T : Tab} {o e : Int} {d0 : Dt} (h : okPs (slotsPs o e)) (hT : d0.t = T) (hg : goodB T o e = true) :
    withD d0 (slotsB t o e) = some { d0 with t := claimP T o e (setOE t o e).testBit } := by
  have h32 : ∀ x ∈ ([115, 108, 111, 116, 115] : List UInt8), x ≠ 32 := by decide
  refine (with_slots (line := slotsB t o e) (a := o) (b := e) (nums_other h32 (show ([115, 108, 111, 116, 115] : List UInt8) ≠ [115, 101, 108, 102] by decide)) (nums_other h32 (show ([115, 108, 111, 116, 115] : List UInt8) ≠ [110, 111, 100, 101] by decide)) (nums_pre (.inr ⟨_, rfl⟩) h)).trans ?_
  rw [hT]
  unfold wsP
  rw [slots_cut, S.parse_txt (s := setOE t o e) (pick_lt _), if_pos rfl, if_pos hg]
  rfl
end Go.Proofs.YtmjbacmaafbdlaaGreatDoor

/-
  WHAT IS PROVED: a right state's text is parsed as that state; two right states have the same text just if they are alike. No condition.
-/
namespace Go.Proofs.YtmjbacmaafbdlaaGreatDoor
open Go.RowKit C

def unl (L : List (List UInt8)) : List UInt8 := (L.map (· ++ [10])).flatten
def prs (t : Tab) : List (Int × Int) := (ownersL t).flatMap fun o => (epsL t o).map fun e => (o, e)
def bodies (d : Dt) : List (List UInt8) := selfB d :: (d.l.map nodeB ++ (prs d.t).map fun p => slotsB d.t p.1 p.2)
theorem txD_unl (d : Dt) : txD d = unl (bodies d) := by
  unfold txD txS unl bodies
  rw [join_nil]
  congr 1
  unfold linesS tabLines
  rw [self_line, List.map_cons, List.map_append, List.map_map, List.map_map, List.cons_append]
  congr 2
  show (ownersL d.t).flatMap (epLines d.t) = _
  unfold prs
  rw [List.map_flatMap]
  congr 1
  funext o
  unfold epLines
  rw [List.map_map]
  refine List.map_congr_left fun e _ => ?_
  exact slots_line d.t o e
def foldW (d : Dt) : List (List UInt8) → Option Dt
  | [] => some d
  | b :: L => match withD d b with
    | some d' => foldW d' L
    | none => none
theorem foldW_append : ∀ (A : List (List UInt8)) (d : Dt) (B : List (List UInt8)) {d' : Dt}, foldW d A = some d' → foldW d (A ++ B) = foldW d' B
  | [], d, B, d', h => by injection h with h; subst h; rfl
  | b :: A, d, B, d', h => by
    rw [foldW] at h
    rw [List.cons_append, foldW]
    cases hw : withD d b with
    | none => rw [hw] at h; cases h
    | some d2 => rw [hw] at h; exact foldW_append A d2 B h
theorem unl_cons (b : List UInt8) (L : List (List UInt8)) : unl (b :: L) = b ++ 10 :: unl L := by simp [unl]
theorem read_unl : ∀ (L : List (List UInt8)) (k : Nat) (d : Dt), (∀ b ∈ L, ∀ x ∈ b, x ≠ 10) → (unl L).length ≤ k → readP k d (unl L) = foldW d L
  | [], k, d, _, _ => by show readP k d [] = _; rw [read_nil]; rfl
  | b :: L, k, d, h, hk => by
    have hb := h b (List.mem_cons_self ..)
    have hc : cutL (b ++ 10 :: unl L) 10 = (b, unl L, true) := S.cutL_at hb
    have hne : b ++ 10 :: unl L ≠ [] := by simp
    rw [unl_cons] at hk ⊢
    obtain ⟨k, rfl⟩ : ∃ j, k = j + 1 := ⟨k - 1, by simp at hk; omega⟩
    rw [foldW]
    cases hw : withD d b with
    | none => exact read_none hne (by rw [hc]; exact hw)
    | some d' =>
      rw [read_some (d' := d') hne (by rw [hc]; exact hw), hc]
      exact read_unl L k d' (fun x hx => h x (List.mem_cons_of_mem _ hx)) (by simp at hk ⊢; omega)
theorem bodies_no (d : Dt) : ∀ b ∈ bodies d, ∀ x ∈ b, x ≠ 10 := by
  intro b hb
  unfold bodies at hb
  rcases List.mem_cons.1 hb with rfl | hb
  · exact self_no d
  · rcases List.mem_append.1 hb with hb | hb
    · obtain ⟨k, _, rfl⟩ := List.mem_map.1 hb
      exact node_no k
    · obtain ⟨p, _, rfl⟩ := List.mem_map.1 hb
      exact slots_no _ _ _

/-! ### tables that are alike -/
theorem ownersL_congr {t u : Tab} (h : same t u) : ownersL t = ownersL u := by
  have e : ownTo t 64 = ownTo u 64 := by
    unfold ownTo
    have e1 : (List.range 64).filter (fun i => idB (t.o i)) = (List.range 64).filter (fun i => idB (u.o i)) := List.filter_congr fun i hi => by rw [(h i (by simpa using hi)).1]
    rw [e1]
    refine List.map_congr_left fun i hi => (h i ?_).1
    have := (List.mem_filter.1 hi).1
    simpa using this
  unfold ownersL; rw [e]
theorem ofN_congr {t u : Tab} (h : same t u) (o : Int) : ofN t o = ofN u o := pick_congr fun i hi => by rw [(h i hi).1]
theorem epsL_congr {t u : Tab} (h : same t u) (o : Int) : epsL t o = epsL u o := by
  have e : epRaw t o = epRaw u o := by
    unfold epRaw
    rw [ofN_congr h]
    exact List.map_congr_left fun i hi => (h i (slotsTo_mem.1 hi).1).2
  unfold epsL; rw [e]
theorem setOE_congr {t u : Tab} (h : same t u) (o e : Int) : setOE t o e = setOE u o e := pick_congr fun i hi => by rw [(h i hi).1, (h i hi).2]
theorem okB_congr {t u : Tab} (h : same t u) : okB t = okB u := by
  rw [Bool.eq_iff_iff, okB_iff, okB_iff]
  constructor
  · intro h1 i hi; rw [← (h i hi).1, ← (h i hi).2]; exact h1 i hi
  · intro h1 i hi; rw [(h i hi).1, (h i hi).2]; exact h1 i hi
theorem prs_congr {t u : Tab} (h : same t u) : prs t = prs u := by
  unfold prs; rw [ownersL_congr h]; congr 1; funext o; rw [epsL_congr h]
theorem slotsB_congr {t u : Tab} (h : same t u) (o e : Int) : slotsB t o e = slotsB u o e := by unfold slotsB; rw [setOE_congr h]
/-- two states are alike -/
def likeD (a b : Dt) : Prop := a.i = b.i ∧ a.m = b.m ∧ a.c = b.c ∧ a.v = b.v ∧ a.f = b.f ∧ a.l = b.l ∧ same a.t b.t
theorem same_sym {t u : Tab} (h : same t u) : same u t := fun i hi => ⟨(h i hi).1.symm, (h i hi).2.symm⟩
theorem same_trans {t u x : Tab} (h : same t u) (k : same u x) : same t x := fun i hi => ⟨(h i hi).1.trans (k i hi).1, (h i hi).2.trans (k i hi).2⟩
theorem like_sym {a b : Dt} (h : likeD a b) : likeD b a := ⟨h.1.symm, h.2.1.symm, h.2.2.1.symm, h.2.2.2.1.symm, h.2.2.2.2.1.symm, h.2.2.2.2.2.1.symm, same_sym h.2.2.2.2.2.2⟩
theorem like_trans {a b c : Dt} (h : likeD a b) (k : likeD b c) : likeD a c := by
  obtain ⟨h1, h2, h3, h4, h5, h6, h7⟩ := h
  obtain ⟨k1, k2, k3, k4, k5, k6, k7⟩ := k
  exact ⟨h1.trans k1, h2.trans k2, h3.trans k3, h4.trans k4, h5.trans k5, h6.trans k6, same_trans h7 k7⟩
theorem bodies_congr {a b : Dt} (h : likeD a b) : bodies a = bodies b := by
  obtain ⟨h1, h2, h3, h4, h5, h6, h7⟩ := h
  unfold bodies selfB selfPs
  rw [h1, h2, h3, h4, h5, h6, prs_congr h7]
  congr 2
  exact List.map_congr_left fun p _ => slotsB_congr h7 _ _
theorem txD_congr {a b : Dt} (h : likeD a b) : txD a = txD b := by rw [txD_unl, txD_unl, bodies_congr h]
theorem okD_congr {a b : Dt} (h : likeD a b) : okD a = okD b := by
  obtain ⟨h1, h2, h3, h4, h5, h6, h7⟩ := h
  unfold okD okS fewB rtB ownB
  show (betB 1 4294967296 a.i && folB a.i a.m && epsB a.c a.v a.f && (decide (a.l.length ≤ 15) && rkB a.i a.l) && (okB a.t && (ownersL a.t).all fun o => o == a.i || anyB a.l o)) = (betB 1 4294967296 b.i && folB b.i b.m && epsB b.c b.v b.f && (decide (b.l.length ≤ 15) && rkB b.i b.l) && (okB b.t && (ownersL b.t).all fun o => o == b.i || anyB b.l o))
  rw [h1, h2, h3, h4, h5, h6, okB_congr h7, ownersL_congr h7]

/-! ### the pairs of a table -/
def plt (p q : Int × Int) : Prop := p.1 < q.1 ∨ (p.1 = q.1 ∧ p.2 < q.2)
theorem eps_lt (t : Tab) (o : Int) : (epsL t o).Pairwise (· < ·) := comp_lt (sorted_le _)
theorem prs_lt (t : Tab) : (prs t).Pairwise plt := by
  unfold prs
  rw [List.pairwise_flatMap]
  refine ⟨fun o _ => ?_, ?_⟩
  · rw [List.pairwise_map]
    exact (eps_lt t o).imp fun h => .inr ⟨rfl, h⟩
  · refine (owners_lt t).imp fun {a b} h x hx y hy => ?_
    obtain ⟨e, _, rfl⟩ := List.mem_map.1 hx
    obtain ⟨f, _, rfl⟩ := List.mem_map.1 hy
    exact .inl h
theorem prs_nodup (t : Tab) : (prs t).Nodup := (prs_lt t).imp fun {p q} h e => by
  subst e
  rcases h with h | ⟨_, h⟩ <;> omega
theorem mem_prs {t : Tab} {o e : Int} : (o, e) ∈ prs t ↔ o ∈ ownersL t ∧ e ∈ epsL t o := by
  unfold prs
  rw [List.mem_flatMap]
  constructor
  · rintro ⟨a, ha, h⟩
    obtain ⟨b, hb, h⟩ := List.mem_map.1 h
    injection h with h1 h2
    subst h1; subst h2
    exact ⟨ha, hb⟩
  · rintro ⟨h1, h2⟩
    exact ⟨o, h1, List.mem_map.2 ⟨e, h2, rfl⟩⟩
theorem mem_eps {t : Tab} {o e : Int} : e ∈ epsL t o ↔ ∃ i, i < 64 ∧ t.o i = o ∧ t.e i = e := by
  constructor
  · exact eps_mem
  · rintro ⟨i, h1, h2, rfl⟩
    unfold epsL
    rw [comp_mem, C.mem_sorted]
    unfold epRaw
    exact List.mem_map.2 ⟨i, (of_slots t o).2 ⟨h1, h2⟩, rfl⟩
theorem pair_in {t : Tab} (ht : okB t = true) {i : Nat} (hi : i < 64) (h0 : t.o i ≠ 0) : (t.o i, t.e i) ∈ prs t := by
  rw [mem_prs, owners_mem, mem_eps]
  have := ok_held ht hi
  exact ⟨⟨i, hi, bet_iff.2 (by omega), rfl⟩, i, hi, rfl, rfl⟩

/-! ### the table that is read -/
def tabP (t : Tab) (ps : List (Int × Int)) : Tab := ⟨fun i => if (t.o i, t.e i) ∈ ps then t.o i else 0, fun i => if (t.o i, t.e i) ∈ ps then t.e i else 0⟩
theorem tabP_ok {t : Tab} (ht : okB t = true) (ps : List (Int × Int)) : okB (tabP t ps) = true := ok_of fun i hi => by
  have := ok_held ht hi
  unfold tabP
  by_cases h : (t.o i, t.e i) ∈ ps
  · simp only [h, if_true]; exact this
  · simp [h]
theorem tabP_all {t : Tab} (ht : okB t = true) : same (tabP t (prs t)) t := fun i hi => by
  have := ok_held ht hi
  unfold tabP
  by_cases h0 : t.o i = 0
  · have h1 : (t.o i, t.e i) ∉ prs t := fun h => by
      have := own_parts (mem_prs.1 h).1
      omega
    simp only [h1, if_false]
    omega
  · simp only [pair_in ht hi h0, if_true, and_self]
theorem tabP_nil (t : Tab) : same Tab.zero (tabP t []) := fun i _ => by simp [tabP, Tab.zero]
theorem claim_pair {t T : Tab} {qs : List (Int × Int)} {o e : Int} (hT : same T (tabP t qs)) (ho : o ≠ 0) (hq : (o, e) ∉ qs) : same (claimP T o e (setOE t o e).testBit) (tabP t (qs ++ [(o, e)])) := fun i hi => by
  have hb : (setOE t o e).testBit i = ((t.o i == o) && (t.e i == e)) := pick_bit _ hi
  obtain ⟨h1, h2⟩ := hT i hi
  show (if (setOE t o e).testBit i = true then newO T o e i else T.o i) = (tabP t (qs ++ [(o, e)])).o i ∧ (if (setOE t o e).testBit i = true then newE T o e i else T.e i) = (tabP t (qs ++ [(o, e)])).e i
  rw [hb]
  unfold tabP at h1 h2 ⊢
  by_cases hp : t.o i = o ∧ t.e i = e
  · obtain ⟨hp1, hp2⟩ := hp
    have hm : ¬ (t.o i, t.e i) ∈ qs := by rw [hp1, hp2]; exact hq
    simp only [hm, if_false] at h1 h2
    have hk : tookB T o e i = true := took_iff.2 ⟨by omega, .inl h1⟩
    simp [hp1, hp2, newO, newE, hk]
  · have hx : ((t.o i == o) && (t.e i == e)) = false := by
      rw [← Bool.not_eq_true]
      intro h
      simp at h
      exact hp h
    have hm : ((t.o i, t.e i) ∈ qs ++ [(o, e)]) ↔ (t.o i, t.e i) ∈ qs := by
      rw [List.mem_append, List.mem_singleton]
      constructor
      · rintro (h | h)
        · exact h
        · injection h with h3 h4; exact absurd ⟨h3, h4⟩ hp
      · exact .inl
    rw [hx]
    simp only [hm]
    exact ⟨h1, h2⟩
theorem fold_slots {t : Tab} (ht : okB t = true) : ∀ (ps qs : List (Int × Int)) (d : Dt), same d.t (tabP t qs) → (qs ++ ps).Nodup → (∀ p ∈ ps, p ∈ prs t) →
    ∃ T, foldW d (ps.map fun p => slotsB t p.1 p.2) = some { d with t := T } ∧ same T (tabP t (qs ++ ps))
  | [], qs, d, h, _, _ => ⟨d.t, rfl, by rw [List.append_nil]; exact h⟩
  | (o, e) :: ps, qs, d, h, hn, hp => by
    have hm := mem_prs.1 (hp (o, e) (List.mem_cons_self ..))
    have ho := own_parts hm.1
    have he := ep_parts ht hm.1 hm.2
    have hq : (o, e) ∉ qs := fun hq => by
      rw [List.nodup_append] at hn
      exact hn.2.2 _ hq _ (List.mem_cons_self ..) rfl
    have hg : goodB d.t o e = true := good_iff.2 ⟨by rw [okB_congr h]; exact tabP_ok ht qs, ho, he⟩
    have hok : okPs (slotsPs o e) := by
      intro p hp
      simp only [slotsPs, List.mem_cons, List.not_mem_nil, or_false] at hp
      rcases hp with rfl | rfl
      · exact ⟨show ∀ x ∈ ([115, 108, 111, 116, 115] : List UInt8), x ≠ 32 by decide, by show 0 ≤ o; omega, by show o ≤ _; omega⟩
      · exact ⟨show ∀ x ∈ ([101, 112, 111, 99, 104] : List UInt8), x ≠ 32 by decide, by show 0 ≤ e; omega, by show e ≤ _; omega⟩
    rw [List.map_cons, foldW, read_slots (t := t) hok rfl hg]
    have ih := fold_slots ht ps (qs ++ [(o, e)]) { d with t := claimP d.t o e (setOE t o e).testBit } (claim_pair h (by omega) hq) (by rw [List.append_assoc]; exact hn) (fun x hx => hp x (List.mem_cons_of_mem _ hx))
    obtain ⟨T, h1, h2⟩ := ih
    exact ⟨T, h1, by rw [List.append_assoc] at h2; exact h2⟩
theorem fold_nodes : ∀ (l : List Kn) (d : Dt), (∀ k ∈ l, okPs (nodePs k)) → foldW d (l.map nodeB) = some { d with l := d.l ++ l }
  | [], d, _ => by simp [foldW]
  | k :: l, d, h => by
    rw [List.map_cons, foldW, read_node (h k (List.mem_cons_self ..))]
    have := fold_nodes l { d with l := d.l ++ [k] } (fun x hx => h x (List.mem_cons_of_mem _ hx))
    simp only [List.append_assoc, List.singleton_append] at this
    exact this
theorem node_okPs {i : Int} {l : List Kn} (h : rkB i l = true) {k : Kn} (hk : k ∈ l) : okPs (nodePs k) := by
  obtain ⟨h1, h2, h3, _⟩ := kn_parts h hk
  intro p hp
  simp only [nodePs, List.mem_cons, List.not_mem_nil, or_false] at hp
  rcases hp with rfl | rfl | rfl
  · exact ⟨show ∀ x ∈ ([110, 111, 100, 101] : List UInt8), x ≠ 32 by decide, by show 0 ≤ k.i; omega, by show k.i ≤ _; omega⟩
  · exact ⟨show ∀ x ∈ ([109, 97, 115, 116, 101, 114] : List UInt8), x ≠ 32 by decide, by show 0 ≤ k.m; omega, by show k.m ≤ _; omega⟩
  · exact ⟨show ∀ x ∈ ([99, 111, 110, 102, 105, 103] : List UInt8), x ≠ 32 by decide, by show 0 ≤ k.c; omega, by show k.c ≤ _; omega⟩
theorem self_okPs {d : Dt} (h : okD d = true) : okPs (selfPs d) := by
  obtain ⟨h1, h2, h3, h4, h5, _⟩ := ok_parts h
  have h1' : 1 ≤ d.i ∧ d.i ≤ 4294967296 := h1
  have h2' : 0 ≤ d.m ∧ d.m ≤ 4294967296 := h2
  have h3' : 0 ≤ d.c ∧ d.c ≤ 281474976710656 := h3
  have h4' : 0 ≤ d.v ∧ d.v ≤ 281474976710656 := h4
  have h5' : 0 ≤ d.f ∧ d.f ≤ 281474976710656 := h5
  intro p hp
  simp only [selfPs, List.mem_cons, List.not_mem_nil, or_false] at hp
  rcases hp with rfl | rfl | rfl | rfl | rfl
  · exact ⟨show ∀ x ∈ ([115, 101, 108, 102] : List UInt8), x ≠ 32 by decide, by show 0 ≤ d.i; omega, by show d.i ≤ _; omega⟩
  · exact ⟨show ∀ x ∈ ([109, 97, 115, 116, 101, 114] : List UInt8), x ≠ 32 by decide, by show 0 ≤ d.m; omega, by show d.m ≤ _; omega⟩
  · exact ⟨show ∀ x ∈ ([99, 117, 114, 114, 101, 110, 116] : List UInt8), x ≠ 32 by decide, by show 0 ≤ d.c; omega, by show d.c ≤ _; omega⟩
  · exact ⟨show ∀ x ∈ ([118, 111, 116, 101] : List UInt8), x ≠ 32 by decide, by show 0 ≤ d.v; omega, by show d.v ≤ _; omega⟩
  · exact ⟨show ∀ x ∈ ([99, 111, 110, 102, 105, 103] : List UInt8), x ≠ 32 by decide, by show 0 ≤ d.f; omega, by show d.f ≤ _; omega⟩

/-! ### a right state's text is read as it -/
theorem read_tx {d : Dt} (h : okD d = true) : ∃ d', readP (txD d).length Dt.zero (txD d) = some d' ∧ likeD d' d := by
  obtain ⟨_, _, _, _, _, _, h7, h8, _⟩ := ok_parts h
  have h7' : rkB d.i d.l = true := h7
  have h8' : okB d.t = true := h8
  have e1 : foldW Dt.zero [selfB d] = some { Dt.zero with i := d.i, m := d.m, c := d.c, v := d.v, f := d.f } := by
    rw [foldW, read_self (self_okPs h)]; rfl
  have e2 := fold_nodes d.l { Dt.zero with i := d.i, m := d.m, c := d.c, v := d.v, f := d.f } fun k hk => node_okPs h7' hk
  obtain ⟨T, e3, hT⟩ := fold_slots h8' (prs d.t) [] { Dt.zero with i := d.i, m := d.m, c := d.c, v := d.v, f := d.f, l := [] ++ d.l } (tabP_nil d.t) (prs_nodup d.t) (fun p hp => hp)
  refine ⟨{ Dt.zero with i := d.i, m := d.m, c := d.c, v := d.v, f := d.f, l := [] ++ d.l, t := T }, ?_, rfl, rfl, rfl, rfl, rfl, List.nil_append _, same_trans hT (tabP_all h8')⟩
  rw [txD_unl, read_unl _ _ _ (bodies_no d) (Nat.le_refl _)]
  unfold bodies
  rw [show selfB d :: (d.l.map nodeB ++ (prs d.t).map fun p => slotsB d.t p.1 p.2) = [selfB d] ++ (d.l.map nodeB ++ (prs d.t).map fun p => slotsB d.t p.1 p.2) from rfl, foldW_append _ _ _ e1, foldW_append _ _ _ e2]
  exact e3
theorem parse_tx {d : Dt} (h : okD d = true) : ∃ d', parseD (txD d) = some d' ∧ likeD d' d := by
  obtain ⟨d', h1, h2⟩ := read_tx h
  refine ⟨d', ?_, h2⟩
  unfold parseD
  rw [h1]
  show (if okD d' = true ∧ txD d' = txD d then some d' else none) = some d'
  rw [if_pos ⟨by rw [okD_congr h2]; exact h, txD_congr h2⟩]
theorem parse_sound {t : List UInt8} {d : Dt} (h : parseD t = some d) : okD d = true ∧ txD d = t := by
  unfold parseD at h
  split at h
  · split at h
    · rename_i hc
      injection h with h
      subst h
      exact hc
    · cases h
  · cases h
theorem parse_no {t : List UInt8} (h : ∀ d, okD d = true → txD d ≠ t) : parseD t = none := by
  cases hp : parseD t with
  | none => rfl
  | some d => exact absurd (parse_sound hp).2 (h d (parse_sound hp).1)
theorem tx_inj {a b : Dt} (ha : okD a = true) (hb : okD b = true) (h : txD a = txD b) : likeD a b := by
  obtain ⟨a', h1, h2⟩ := read_tx ha
  obtain ⟨b', h3, h4⟩ := read_tx hb
  rw [h, h3] at h1
  injection h1 with h1
  subst h1
  exact like_trans (like_sym h2) h4
end Go.Proofs.YtmjbacmaafbdlaaGreatDoor
