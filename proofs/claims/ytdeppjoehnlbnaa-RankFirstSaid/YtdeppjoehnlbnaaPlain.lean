/-
  WHAT IS PROVED: plain facts of replicas, who stands ahead, their order and ranks (lists alone). No condition.
-/
import Derived.Test.YtdeppjoehnlbnaaBase
import Derived.Lib.SlBy
import Derived.Sort.LotA
import Derived.Shelf.SlSortCmp.Insertion
namespace Go.Proofs.Ytdeppjoehnlbnaa
open Go.RowKit Go.Lib Go.Sort

/-- a replica -/
structure Rep where
  id : Int
  off : Int
deriving DecidableEq, Inhabited

def aheadB (a b : Rep) : Bool := decide (b.off < a.off) || (decide (a.off = b.off) && decide (a.id < b.id))
theorem ahead_iff {a b : Rep} : aheadB a b = true ↔ b.off < a.off ∨ a.off = b.off ∧ a.id < b.id := by unfold aheadB; simp
theorem ahead_no {a b : Rep} : aheadB a b = false ↔ ¬ (b.off < a.off ∨ a.off = b.off ∧ a.id < b.id) := by rw [← ahead_iff]; simp
theorem ahead_irr (a : Rep) : aheadB a a = false := ahead_no.2 (by omega)
theorem ahead_asym {a b : Rep} (h : aheadB a b = true) : aheadB b a = false := by rw [ahead_iff] at h; rw [ahead_no]; omega
theorem ahead_trans {a b c : Rep} (h : aheadB a b = true) (h' : aheadB b c = true) : aheadB a c = true := by rw [ahead_iff] at *; omega
theorem ahead_tot {a b : Rep} (h : aheadB a b = false) (h' : aheadB b a = false) : a = b := by
  rw [ahead_no] at *
  obtain ⟨i, o⟩ := a
  obtain ⟨i', o'⟩ := b
  simp at *
  omega
/-- what the program's comparison answers -/
def cf (a b : Rep) : Int := if compareInt b.off a.off = 0 then compareInt a.id b.id else compareInt b.off a.off
theorem lt_cf (a b : Rep) : ltOf cf a b = aheadB a b := by
  unfold ltOf cf compareInt aheadB
  by_cases h1 : b.off < a.off
  · simp [h1]
  · by_cases h2 : a.off < b.off
    · simp [h1, h2]; omega
    · have h3 : a.off = b.off := by omega
      simp [h3]
      by_cases h4 : a.id < b.id
      · simp [h4]
      · by_cases h5 : b.id < a.id <;> simp [h4, h5]
theorem swo_cf : SWO (ltOf cf) where
  irrefl x := by rw [lt_cf]; exact ahead_irr x
  trans x y z h1 h2 := by rw [lt_cf] at *; exact ahead_trans h1 h2
  ntrans x y z h1 h2 := by rw [lt_cf] at *; rw [ahead_no] at *; omega
theorem tot_cf (x y : Rep) (h : ltOf cf x y = false) (h' : ltOf cf y x = false) : x = y := by rw [lt_cf] at *; exact ahead_tot h h'

/-- replicas as they stand -/
def orderL (l : List Rep) : List Rep := l.mergeSort fun x y => !(ltOf cf) y x
theorem order_perm (l : List Rep) : (orderL l).Perm l := List.mergeSort_perm _ _
theorem order_len (l : List Rep) : (orderL l).length = l.length := (order_perm l).length_eq
theorem order_mem {l : List Rep} {r : Rep} : r ∈ orderL l ↔ r ∈ l := (order_perm l).mem_iff
theorem order_le (l : List Rep) : (orderL l).Pairwise fun x y => aheadB y x = false := by
  have h := List.pairwise_mergeSort (le := fun x y => !(ltOf cf) y x) (fun a b c h1 h2 => by
    simp only [lt_cf, Bool.not_eq_true'] at *
    rw [ahead_no] at *; omega) (fun a b => by
    simp only [lt_cf]
    cases h : aheadB b a with
    | false => rfl
    | true => simp [ahead_asym h]) l
  exact h.imp fun h => by simpa [lt_cf] using h
theorem order_ahead {l : List Rep} (h : l.Nodup) : (orderL l).Pairwise fun x y => aheadB x y = true := by
  have h1 := order_le l
  have h2 : (orderL l).Nodup := (order_perm l).nodup_iff.2 h
  exact h1.imp₂ (fun x y ha hne => by
    cases h : aheadB x y with
    | true => rfl
    | false => exact absurd (ahead_tot h ha) hne) h2
theorem order_same {l m : List Rep} (h : l.Perm m) : orderL l = orderL m := by
  have hp : (orderL l).Perm (orderL m) := (order_perm l).trans (h.trans (order_perm m).symm)
  exact hp.eq_of_pairwise (le := fun x y => aheadB y x = false) (fun a b _ _ h1 h2 => ahead_tot h2 h1) (order_le l) (order_le m)

def okB (r : Rep) : Bool := decide (1 ≤ r.id ∧ r.id ≤ 4294967296 ∧ 0 ≤ r.off ∧ r.off ≤ 281474976710656)
theorem ok_iff {r : Rep} : okB r = true ↔ 1 ≤ r.id ∧ r.id ≤ 4294967296 ∧ 0 ≤ r.off ∧ r.off ≤ 281474976710656 := by unfold okB; simp
theorem ok_no {r : Rep} : okB r = false ↔ ¬ (1 ≤ r.id ∧ r.id ≤ 4294967296 ∧ 0 ≤ r.off ∧ r.off ≤ 281474976710656) := by rw [← ok_iff]; simp
def ids (l : List Rep) : List Int := l.map (·.id)
theorem ids_take (l : List Rep) (k : Nat) : ids (l.take k) = (ids l).take k := by unfold ids; rw [List.map_take]
theorem ids_append (l m : List Rep) : ids (l ++ m) = ids l ++ ids m := by unfold ids; rw [List.map_append]
theorem ids_perm {l m : List Rep} (h : l.Perm m) : (ids l).Perm (ids m) := h.map _
theorem mem_ids {l : List Rep} {r : Rep} (h : r ∈ l) : r.id ∈ ids l := List.mem_map_of_mem h
theorem takeR_snoc {α : Type} {l : List α} {k : Nat} {z : α} (h : l[k]? = some z) : l.take (k + 1) = l.take k ++ [z] := by
  rw [List.take_add_one, h]; rfl
/-- each is right, no id twice -/
def goodB (l : List Rep) : Bool := l.all okB && decide (ids l).Nodup
theorem good_iff {l : List Rep} : goodB l = true ↔ (∀ r ∈ l, okB r = true) ∧ (ids l).Nodup := by unfold goodB; simp
def rightB (l : List Rep) : Bool := decide (l.length ≤ 16) && goodB l
theorem right_iff {l : List Rep} : rightB l = true ↔ l.length ≤ 16 ∧ (∀ r ∈ l, okB r = true) ∧ (ids l).Nodup := by
  unfold rightB; rw [Bool.and_eq_true, good_iff]; simp
theorem right_good {l : List Rep} (h : l.length ≤ 16) : rightB l = goodB l := by unfold rightB; simp [h]
theorem right_long {l : List Rep} (h : 16 < l.length) : rightB l = false := by unfold rightB; rw [decide_eq_false (by omega)]; rfl
theorem good_nil : goodB [] = true := by decide
theorem nodup_snoc {l : List Int} {x : Int} (h : l.Nodup) (hx : x ∉ l) : (l ++ [x]).Nodup := by
  rw [List.nodup_append]
  refine ⟨h, by simp, fun a ha b hb => ?_⟩
  simp at hb
  subst hb
  rintro rfl
  exact hx ha
theorem good_step {l : List Rep} {k : Nat} {r : Rep} (hr : l[k]? = some r) (h : goodB (l.take k) = true) (ho : okB r = true) (hi : r.id ∉ ids (l.take k)) : goodB (l.take (k + 1)) = true := by
  rw [good_iff] at *
  rw [takeR_snoc hr, ids_append]
  refine ⟨fun x hx => ?_, nodup_snoc h.2 hi⟩
  rcases List.mem_append.1 hx with hx | hx
  · exact h.1 x hx
  · simp at hx; rw [hx]; exact ho
theorem bad_id {l : List Rep} {k : Nat} {r : Rep} (hr : l[k]? = some r) (ho : okB r = false) : goodB l = false := by
  cases h : goodB l with
  | false => rfl
  | true => rw [(good_iff.1 h).1 r (List.mem_of_getElem? hr)] at ho; cases ho
theorem bad_twice {l : List Rep} {k : Nat} {r : Rep} (hr : l[k]? = some r) (hi : r.id ∈ ids (l.take k)) : goodB l = false := by
  cases h : goodB l with
  | false => rfl
  | true =>
    have hn := (good_iff.1 h).2
    have e : ids l = ids (l.take (k + 1)) ++ ids (l.drop (k + 1)) := by rw [← ids_append, List.take_append_drop]
    rw [e, List.nodup_append, takeR_snoc hr, ids_append, List.nodup_append] at hn
    exact absurd rfl (hn.1.2.2 _ hi r.id (by simp [ids]))
theorem right_nodup {l : List Rep} (h : rightB l = true) : l.Nodup := by
  have h2 := (right_iff.1 h).2.2
  unfold ids at h2
  rw [List.Nodup, List.pairwise_map] at h2
  exact h2.imp fun h e => h (by rw [e])
theorem right_perm {l m : List Rep} (h : l.Perm m) : rightB l = rightB m := by
  have key : ∀ {l m : List Rep}, l.Perm m → rightB l = true → rightB m = true := fun {l m} h h1 => by
    rw [right_iff] at *
    refine ⟨by rw [← h.length_eq]; exact h1.1, fun r hr => h1.2.1 r (h.mem_iff.2 hr), ?_⟩
    exact (ids_perm h).nodup_iff.1 h1.2.2
  cases h1 : rightB l with
  | true => exact (key h h1).symm
  | false =>
    cases h2 : rightB m with
    | false => rfl
    | true => rw [key h.symm h2] at h1; cases h1
theorem same_id {l : List Rep} (h : (ids l).Nodup) {a b : Rep} (ha : a ∈ l) (hb : b ∈ l) (e : a.id = b.id) : a = b := by
  obtain ⟨i, hi, rfl⟩ := List.getElem_of_mem ha
  obtain ⟨j, hj, rfl⟩ := List.getElem_of_mem hb
  have hl : (ids l).length = l.length := by simp [ids]
  have key : ∀ i j : Nat, (hi : i < l.length) → (hj : j < l.length) → i < j → l[i].id ≠ l[j].id := fun i j hi hj hij => by
    have := List.pairwise_iff_getElem.1 h i j (by omega) (by omega) hij
    simpa [ids] using this
  rcases Nat.lt_trichotomy i j with h1 | h1 | h1
  · exact absurd e (key i j hi hj h1)
  · subst h1; rfl
  · exact absurd e.symm (key j i hj hi h1)

/-- where the one of an id is in a list -/
def placeZ (l : List Rep) (id : Int) : Int := idxBy (fun _ y => decide (y.id = id)) l default
theorem placeF_no {id : Int} : ∀ (l : List Rep) (i : Nat), id ∉ ids l → idxByFrom (fun _ (y : Rep) => decide (y.id = id)) default l i = -1
  | [], _, _ => rfl
  | y :: l, i, h => by
    have h' : id ≠ y.id ∧ id ∉ ids l := by simpa [ids] using h
    have h1 : y.id ≠ id := fun e => h'.1 e.symm
    have h2 : id ∉ ids l := h'.2
    unfold idxByFrom
    simp [h1]
    exact placeF_no l (i + 1) h2
theorem placeF_yes {id : Int} : ∀ (p : List Rep) (r : Rep) (s : List Rep) (i : Nat), id ∉ ids p → r.id = id → idxByFrom (fun _ (y : Rep) => decide (y.id = id)) default (p ++ r :: s) i = ((i + p.length : Nat) : Int)
  | [], r, s, i, _, e => by simp [idxByFrom, e]
  | y :: p, r, s, i, h, e => by
    have h' : id ≠ y.id ∧ id ∉ ids p := by simpa [ids] using h
    have h1 : y.id ≠ id := fun e => h'.1 e.symm
    have h2 : id ∉ ids p := h'.2
    have := placeF_yes p r s (i + 1) h2 e
    simp only [List.cons_append, idxByFrom, h1, decide_false, Bool.false_eq_true, if_false, this]
    simp; omega
theorem place_no {l : List Rep} {id : Int} (h : id ∉ ids l) : placeZ l id = -1 := placeF_no l 0 h
theorem place_in {l : List Rep} {id : Int} (h : id ∈ ids l) : 0 ≤ placeZ l id := by
  obtain ⟨r, hr, e⟩ := List.mem_map.1 h
  obtain ⟨k, hk⟩ : ∃ k, idxByFrom (fun _ (y : Rep) => decide (y.id = id)) default l 0 = ((k : Nat) : Int) := by
    have : ∀ (l : List Rep) (i : Nat), r ∈ l → ∃ k : Nat, idxByFrom (fun _ (y : Rep) => decide (y.id = id)) default l i = (k : Int) := by
      intro l
      induction l with
      | nil => intro i h; cases h
      | cons y l ih =>
        intro i h
        by_cases hy : y.id = id
        · exact ⟨i, by simp [idxByFrom, hy]⟩
        · rcases List.mem_cons.1 h with rfl | h
          · exact absurd e hy
          · obtain ⟨k, hk⟩ := ih (i + 1) h
            exact ⟨k, by simp [idxByFrom, hy]; exact hk⟩
    exact this l 0 hr
  unfold placeZ idxBy
  rw [hk]
  omega

/-- how many stand ahead -/
def cnt (l : List Rep) (r : Rep) : Nat := l.countP fun x => aheadB x r
theorem cnt_le (l : List Rep) (r : Rep) : cnt l r ≤ l.length := List.countP_le_length
/-- a replica's rank -/
def rankZ (l : List Rep) (id : Int) : Int := placeZ (orderL l) id
theorem rank_no {l : List Rep} {id : Int} (h : id ∉ ids l) : rankZ l id = -1 := place_no fun hm => h ((ids_perm (order_perm l)).mem_iff.1 hm)
theorem rank_yes {l : List Rep} (h : rightB l = true) {r : Rep} (hr : r ∈ l) : rankZ l r.id = cnt l r := by
  have hn := right_nodup h
  have ho := order_ahead hn
  obtain ⟨p, s, e⟩ := List.append_of_mem (order_mem.2 hr)
  have hids : (ids (orderL l)).Nodup := (ids_perm (order_perm l)).nodup_iff.2 (right_iff.1 h).2.2
  have hc : cnt l r = p.length := by
    unfold cnt
    rw [← (order_perm l).countP_eq, e]
    rw [e, List.pairwise_append] at ho
    have h1 : ∀ x ∈ p, aheadB x r = true := fun x hx => ho.2.2 x hx r (by simp)
    have h2 : ∀ x ∈ r :: s, aheadB x r = false := fun x hx => by
      rcases List.mem_cons.1 hx with rfl | hx
      · exact ahead_irr x
      · exact ahead_asym ((List.pairwise_cons.1 ho.2.1).1 x hx)
    rw [List.countP_append, List.countP_eq_length.2 h1, List.countP_eq_zero.2 (fun x hx => by simp [h2 x hx])]
    rfl
  rw [hc]
  unfold rankZ placeZ idxBy
  rw [e] at hids ⊢
  rw [ids_append, List.nodup_append] at hids
  rw [placeF_yes p r s 0 (fun hm => hids.2.2 _ hm r.id (by simp [ids]) rfl) rfl]
  simp
theorem rank_in {l : List Rep} {id : Int} (h : rightB l = true) (hm : id ∈ ids l) : ∃ r ∈ l, r.id = id ∧ rankZ l id = cnt l r := by
  obtain ⟨r, hr, rfl⟩ := List.mem_map.1 hm
  exact ⟨r, hr, rfl, rank_yes h hr⟩
end Go.Proofs.Ytdeppjoehnlbnaa
