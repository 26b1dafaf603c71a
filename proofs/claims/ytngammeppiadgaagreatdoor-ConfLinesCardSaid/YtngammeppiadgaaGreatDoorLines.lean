/-
  WHAT IS PROVED: a right state's text has as many line feeds as lines; each has a byte ahead of it that is no line feed and no blank; the pairs of owner and epoch that are met first are as many as the table's lines. No condition.
-/
import Derived.Test.YtngammeppiadgaaGreatDoorLen
namespace Go.Proofs.YtngammeppiadgaaGreatDoor
open Go.RowKit C

/-- the last byte is no line feed and no blank -/
def Good (b : List UInt8) : Prop := ∃ x, b.getLast? = some x ∧ x ≠ 10 ∧ x ≠ 32
theorem good_app {a b : List UInt8} (h : Good b) : Good (a ++ b) := by
  obtain ⟨x, h1, h2⟩ := h
  exact ⟨x, by rw [List.getLast?_append, h1]; rfl, h2⟩
theorem good_cons {c : UInt8} {b : List UInt8} (h : Good b) : Good (c :: b) := good_app (a := [c]) h
theorem good_all {b : List UInt8} (hn : b ≠ []) (h : ∀ x ∈ b, x ≠ 10 ∧ x ≠ 32) : Good b := by
  refine ⟨b.getLast hn, List.getLast?_eq_some_getLast hn, h _ (List.getLast_mem hn)⟩
theorem good_dg (z : Int) : Good (dg z) := good_all (by rw [dg_eq]; exact digL_ne _) fun x hx => ⟨(dg_no z x hx).2.1, (dg_no z x hx).1⟩
theorem good_pre {tl : List UInt8} (ht : tl = [] ∨ Good tl) : ∀ ps : List (List UInt8 × Int), ps ≠ [] → Good (pre ps tl)
  | [], h => absurd rfl h
  | [p], _ => by
    rw [pre]
    refine good_app (good_cons ?_)
    rcases ht with rfl | ht
    · rw [List.append_nil]; exact good_dg _
    · exact good_app ht
  | p :: q :: ps, _ => by
    rw [pre]
    exact good_app (good_cons (good_app (good_cons (good_pre ht (q :: ps) (by simp)))))
theorem good_part {p : Nat × Nat} (h1 : p.1 < 64) (h2 : p.2 < 64) : Good (S.part p) := by
  have hdig : ∀ n, n < 64 → S.dig n ≠ [] ∧ ∀ z ∈ S.dig n, z ≠ 10 ∧ z ≠ 32 := by decide +kernel
  unfold S.part
  split
  · exact good_all (hdig _ h1).1 (hdig _ h1).2
  · exact good_app (good_cons (good_all (hdig _ h2).1 (hdig _ h2).2))
theorem good_tail : ∀ L : List (Nat × Nat), (∀ p ∈ L, p.1 < 64 ∧ p.2 < 64) → L ≠ [] → Good (S.tx' L)
  | [], _, h => absurd rfl h
  | p :: r, hc, _ => by
    have hp := hc p (List.mem_cons_self ..)
    have e : S.tx' (p :: r) = (32 :: S.part p) ++ S.tx' r := by unfold S.tx'; rw [List.flatMap_cons]
    rw [e]
    cases r with
    | nil => show Good ((32 :: S.part p) ++ []); rw [List.append_nil]; exact good_cons (good_part hp.1 hp.2)
    | cons q r => exact good_app (good_tail (q :: r) (fun x hx => hc x (List.mem_cons_of_mem _ hx)) (by simp))
theorem good_stx {m : Nat} (hm : m < 18446744073709551616) (h0 : m ≠ 0) : Good (S.txt m) := by
  have hc := S.canon_lt (S.canon_set hm)
  have h2 := S.set_stretches hm
  show Good (S.tx (S.stretches m))
  cases hL : S.stretches m with
  | nil => rw [hL] at h2; exact absurd h2.symm h0
  | cons p r =>
    rw [hL] at hc
    have hp := hc p (List.mem_cons_self ..)
    rw [S.tx]
    cases r with
    | nil => show Good (S.part p ++ []); rw [List.append_nil]; exact good_part hp.1 hp.2
    | cons q r => exact good_app (good_tail (q :: r) (fun x hx => hc x (List.mem_cons_of_mem _ hx)) (by simp))
theorem good_bodies (d : Dt) : ∀ b ∈ bodies d, Good b := by
  intro b hb
  unfold bodies at hb
  rcases List.mem_cons.1 hb with rfl | hb
  · exact good_pre (.inl rfl) _ (by unfold selfPs; simp)
  · rcases List.mem_append.1 hb with hb | hb
    · obtain ⟨k, _, rfl⟩ := List.mem_map.1 hb
      exact good_pre (.inl rfl) _ (by unfold nodePs; simp)
    · obtain ⟨⟨o, e⟩, hp, rfl⟩ := List.mem_map.1 hb
      refine good_pre (.inr (good_cons (good_cons (good_cons (good_stx (show setOE d.t o e < _ from pick_lt _) ?_))))) _ (by unfold slotsPs; simp)
      obtain ⟨i, hi, h1, h2⟩ := mem_eps.1 (mem_prs.1 hp).2
      intro h
      have hx : (setOE d.t o e).testBit i = ((d.t.o i == o) && (d.t.e i == e)) := pick_bit _ hi
      have h3 : setOE d.t o e = 0 := h
      rw [h3, h1, h2] at hx
      simp at hx
theorem unl_ahead : ∀ (L : List (List UInt8)), (∀ b ∈ L, ∀ x ∈ b, x ≠ 10) → (∀ b ∈ L, Good b) → ∀ i : Nat, (unl L)[i]? = some 10 → 0 < i ∧ ∃ x, (unl L)[i - 1]? = some x ∧ x ≠ 10 ∧ x ≠ 32
  | [], _, _, i, h => by cases h
  | b :: L, hn, hg, i, h => by
    rw [unl_cons] at h ⊢
    have hb := hn b (List.mem_cons_self ..)
    obtain ⟨x, hx, hx2⟩ := hg b (List.mem_cons_self ..)
    have hb0 : 0 < b.length := by
      cases b with
      | nil => cases hx
      | cons _ _ => simp
    rw [List.getLast?_eq_getElem?] at hx
    by_cases h1 : i < b.length
    · rw [List.getElem?_append_left h1] at h
      exact absurd rfl (hb 10 (List.mem_of_getElem? h))
    · by_cases h2 : i = b.length
      · exact ⟨by omega, x, by rw [h2, List.getElem?_append_left (by omega)]; exact hx, hx2⟩
      · obtain ⟨j, rfl⟩ : ∃ j, i = b.length + 1 + j := ⟨i - b.length - 1, by omega⟩
        have he : ∀ j, (b ++ 10 :: unl L)[b.length + 1 + j]? = (unl L)[j]? := fun j => by
          rw [List.getElem?_append_right (by omega), show b.length + 1 + j - b.length = j + 1 by omega, List.getElem?_cons_succ]
        rw [he] at h
        obtain ⟨hj, y, hy, hy2⟩ := unl_ahead L (fun c hc => hn c (List.mem_cons_of_mem _ hc)) (fun c hc => hg c (List.mem_cons_of_mem _ hc)) j h
        refine ⟨by omega, y, ?_, hy2⟩
        rw [show b.length + 1 + j - 1 = b.length + 1 + (j - 1) by omega, he]
        exact hy
theorem ahead (d : Dt) {i : Nat} (h : (txD d)[i]? = some 10) : 0 < i ∧ ∃ x, (txD d)[i - 1]? = some x ∧ x ≠ 10 ∧ x ≠ 32 := by
  rw [txD_unl] at h ⊢
  exact unl_ahead _ (bodies_no d) (good_bodies d) i h
theorem unl_count : ∀ (L : List (List UInt8)), (∀ b ∈ L, ∀ x ∈ b, x ≠ 10) → (unl L).count 10 = L.length
  | [], _ => rfl
  | b :: L, hn => by
    rw [unl_cons, List.count_append, List.count_cons_self, unl_count L (fun c hc => hn c (List.mem_cons_of_mem _ hc)), List.count_eq_zero.2 (fun h => hn b (List.mem_cons_self ..) 10 h rfl), List.length_cons]
    omega
theorem feeds (d : Dt) : (txD d).count 10 = 1 + d.l.length + (prs d.t).length := by
  rw [txD_unl, unl_count _ (bodies_no d)]
  simp [bodies]
  omega
theorem last_feed (d : Dt) : (txD d)[(txD d).length - 1]? = some 10 := by
  rw [← List.getLast?_eq_getElem?, txD_unl]
  exact unl_last _ _
theorem count_step {T : List UInt8} {i : Nat} {c : UInt8} (h : T[i]? = some c) : (T.take (i + 1)).count 10 = (T.take i).count 10 + if c = 10 then 1 else 0 := by
  rw [List.take_add_one, h, List.count_append]
  by_cases hc : c = 10 <;> simp [hc]

/-! ### the pairs that are met first -/
def newTo (t : Tab) (i k : Nat) : Bool := (t.o i != 0) && (List.range k).all fun j => (t.o j != t.o i) || (t.e j != t.e i)
theorem newTo_succ (t : Tab) (i k : Nat) : newTo t i (k + 1) = (newTo t i k && ((t.o k != t.o i) || (t.e k != t.e i))) := by
  unfold newTo
  rw [List.range_succ, List.all_append, ← Bool.and_assoc]
  simp
def news (t : Tab) (k : Nat) : Nat := ((List.range k).filter fun i => newTo t i i).length
theorem news_succ (t : Tab) (k : Nat) : news t (k + 1) = news t k + if newTo t k k = true then 1 else 0 := by
  unfold news
  rw [List.range_succ, List.filter_append, List.length_append]
  by_cases h : newTo t k k = true <;> simp [h]
theorem new_iff {t : Tab} {i : Nat} : newTo t i i = true ↔ t.o i ≠ 0 ∧ ∀ j, j < i → ¬ (t.o j = t.o i ∧ t.e j = t.e i) := by
  unfold newTo
  simp only [Bool.and_eq_true, bne_iff_ne, List.all_eq_true, List.mem_range, Bool.or_eq_true, ne_eq]
  constructor
  · rintro ⟨h1, h2⟩
    exact ⟨h1, fun j hj e => (h2 j hj).elim (fun h => h e.1) (fun h => h e.2)⟩
  · rintro ⟨h1, h2⟩
    refine ⟨h1, fun j hj => ?_⟩
    by_cases h : t.o j = t.o i
    · exact .inr fun e => h2 j hj ⟨h, e⟩
    · exact .inl h
theorem first_met (t : Tab) : ∀ n i, i ≤ n → t.o i ≠ 0 → ∃ j, j ≤ i ∧ newTo t j j = true ∧ t.o j = t.o i ∧ t.e j = t.e i
  | n, i, hn, h0 => by
    by_cases h : newTo t i i = true
    · exact ⟨i, Nat.le_refl _, h, rfl, rfl⟩
    · have h1 : ¬ ∀ j, j < i → ¬ (t.o j = t.o i ∧ t.e j = t.e i) := fun hh => h (new_iff.2 ⟨h0, hh⟩)
      obtain ⟨j, hj⟩ := Classical.not_forall.1 h1
      obtain ⟨hji, hj⟩ := Classical.not_imp.1 hj
      have hj := Classical.not_not.1 hj
      cases n with
      | zero => omega
      | succ n =>
        obtain ⟨k, hk, h2, h3, h4⟩ := first_met t n j (by omega) (by rw [hj.1]; exact h0)
        exact ⟨k, by omega, h2, h3.trans hj.1, h4.trans hj.2⟩
theorem news_all {t : Tab} (ht : okB t = true) : news t 64 = (prs t).length := by
  have hnd : (((List.range 64).filter fun i => newTo t i i).map fun i => (t.o i, t.e i)).Nodup := by
    refine List.pairwise_map.2 ?_
    have hlt : ((List.range 64).filter fun i => newTo t i i).Pairwise (· < ·) := List.Pairwise.filter _ List.pairwise_lt_range
    refine List.Pairwise.imp_of_mem ?_ hlt
    intro i j _ hj hij e
    have := (new_iff.1 (List.mem_filter.1 hj).2).2 i hij
    exact this ⟨congrArg Prod.fst e, congrArg Prod.snd e⟩
  have hp : (((List.range 64).filter fun i => newTo t i i).map fun i => (t.o i, t.e i)).Perm (prs t) := by
    refine (List.perm_ext_iff_of_nodup hnd (prs_nodup t)).2 ?_
    rintro ⟨o, e⟩
    constructor
    · intro h
      obtain ⟨i, hi, he⟩ := List.mem_map.1 h
      have hi := List.mem_filter.1 hi
      rw [← he]
      exact pair_in ht (by simpa using hi.1) (new_iff.1 hi.2).1
    · intro h
      have hm := mem_prs.1 h
      obtain ⟨i, hi, h1, h2⟩ := mem_eps.1 hm.2
      have ho := own_parts hm.1
      obtain ⟨j, hj, h3, h4, h5⟩ := first_met t i i (Nat.le_refl _) (by rw [h1]; omega)
      exact List.mem_map.2 ⟨j, List.mem_filter.2 ⟨by simp; omega, h3⟩, by rw [h4, h5, h1, h2]⟩
  have := hp.length_eq
  rw [List.length_map] at this
  exact this
end Go.Proofs.YtngammeppiadgaaGreatDoor
