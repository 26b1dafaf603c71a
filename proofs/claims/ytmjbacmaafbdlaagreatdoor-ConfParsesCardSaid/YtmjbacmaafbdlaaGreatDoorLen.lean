/-
  WHAT IS PROVED: how long a right state's text is at most, and what it begins and ends with. No condition.
-/
import Derived.Test.YtmjbacmaafbdlaaGreatDoorMathb
namespace Go.Proofs.YtmjbacmaafbdlaaGreatDoor
open Go.RowKit C

theorem dg_id {z : Int} (h : z ≤ 4294967296) : (dg z).length ≤ 10 := by
  rw [dg_eq]
  refine digL_len 9 _ ?_
  have : (10 : Nat) ^ (9 + 1) = 10000000000 := by decide
  rw [this]; omega
theorem dg_ep {z : Int} (h : z ≤ 281474976710656) : (dg z).length ≤ 15 := by
  rw [dg_eq]
  refine digL_len 14 _ ?_
  have : (10 : Nat) ^ (14 + 1) = 1000000000000000 := by decide
  rw [this]; omega
/-- how many slots a pair has -/
def cnt (t : Tab) (M : List Nat) (p : Int × Int) : Nat := M.countP fun i => decide ((t.o i, t.e i) = p)
theorem count_cons (t : Tab) (p : Int × Int) (L : List (Int × Int)) (hp : p ∉ L) : ∀ M : List Nat, M.countP (fun i => decide ((t.o i, t.e i) ∈ p :: L)) = cnt t M p + M.countP (fun i => decide ((t.o i, t.e i) ∈ L))
  | [] => rfl
  | i :: M => by
    have ih := count_cons t p L hp M
    unfold cnt at ih ⊢
    rw [List.countP_cons, List.countP_cons, List.countP_cons, ih]
    by_cases h1 : (t.o i, t.e i) = p
    · have h2 : (t.o i, t.e i) ∉ L := by rw [h1]; exact hp
      simp [h1, hp]
      omega
    · by_cases h2 : (t.o i, t.e i) ∈ L
      · simp [h1, h2]; omega
      · simp [h1, h2]
theorem sum_cnt (t : Tab) (M : List Nat) : ∀ L : List (Int × Int), L.Nodup → (L.map (cnt t M)).sum = M.countP (fun i => decide ((t.o i, t.e i) ∈ L))
  | [], _ => by simp
  | p :: L, h => by
    rw [List.nodup_cons] at h
    rw [List.map_cons, List.sum_cons, sum_cnt t M L h.2, count_cons t p L h.1 M]
theorem sum_prs (t : Tab) : ((prs t).map (cnt t (List.range 64))).sum ≤ 64 := by
  rw [sum_cnt t _ _ (prs_nodup t)]
  have := List.countP_le_length (p := fun i => decide ((t.o i, t.e i) ∈ prs t)) (l := List.range 64)
  simpa using this
theorem cnt_pos {t : Tab} {p : Int × Int} (h : p ∈ prs t) : 1 ≤ cnt t (List.range 64) p := by
  obtain ⟨o, e⟩ := p
  obtain ⟨i, hi, h1, h2⟩ := mem_eps.1 (mem_prs.1 h).2
  unfold cnt
  exact List.countP_pos_iff.2 ⟨i, by simpa using hi, by simp [h1, h2]⟩
theorem upto_cnt (t : Tab) (o e : Int) : (S.upto (setOE t o e) 64).length ≤ cnt t (List.range 64) (o, e) := by
  unfold S.upto cnt
  rw [List.length_map, ← List.countP_eq_length_filter]
  refine List.countP_mono_left fun i hi h => ?_
  have hb : (setOE t o e).testBit i = true := by
    unfold S.isStart at h
    simp only [Bool.and_eq_true] at h
    exact h.1
  have hx : (setOE t o e).testBit i = ((t.o i == o) && (t.e i == e)) := pick_bit _ (by simpa using hi)
  rw [hx] at hb
  simpa using hb
theorem stx_cnt (t : Tab) (o e : Int) : (S.txt (setOE t o e)).length ≤ 6 * cnt t (List.range 64) (o, e) := by
  have h := S.tx_len (S.upto (setOE t o e) 64)
  have h2 := upto_cnt t o e
  show (S.tx (S.upto (setOE t o e) 64)).length ≤ _
  omega
theorem slotsB_len {t : Tab} (ht : okB t = true) {p : Int × Int} (hp : p ∈ prs t) : (slotsB t p.1 p.2).length + 1 ≤ 48 * cnt t (List.range 64) p := by
  obtain ⟨o, e⟩ := p
  have hm := mem_prs.1 hp
  have h1 := own_parts hm.1
  have h2 := ep_parts ht hm.1 hm.2
  have d1 := dg_id (z := o) (by omega)
  have d2 := dg_ep (z := e) (by omega)
  have d3 := stx_cnt t o e
  have d4 := cnt_pos hp
  simp [slotsB, slotsPs, pre]
  omega
theorem unl_app (A B : List (List UInt8)) : unl (A ++ B) = unl A ++ unl B := by simp [unl]
theorem unl_len : ∀ L : List (List UInt8), (unl L).length = (L.map fun b => b.length + 1).sum
  | [] => rfl
  | b :: L => by rw [unl_cons, List.length_append, List.length_cons, unl_len L, List.map_cons, List.sum_cons]; omega
theorem sum_mono {α : Type} (f g : α → Nat) : ∀ L : List α, (∀ x ∈ L, f x ≤ g x) → (L.map f).sum ≤ (L.map g).sum
  | [], _ => Nat.le_refl _
  | x :: L, h => by
    have h1 := sum_mono f g L fun y hy => h y (List.mem_cons_of_mem _ hy)
    have h2 := h x (List.mem_cons_self ..)
    rw [List.map_cons, List.map_cons, List.sum_cons, List.sum_cons]
    omega
theorem sum_mul (c : Nat) {α : Type} (f : α → Nat) : ∀ L : List α, (L.map fun x => c * f x).sum = c * (L.map f).sum
  | [] => rfl
  | x :: L => by rw [List.map_cons, List.map_cons, List.sum_cons, List.sum_cons, sum_mul c f L, Nat.mul_add]
theorem sum_const (c : Nat) {α : Type} : ∀ L : List α, (L.map fun _ => c).sum = L.length * c
  | [] => by simp
  | x :: L => by rw [List.map_cons, List.sum_cons, sum_const c L, List.length_cons, Nat.add_mul]; omega
theorem txD_len {d : Dt} (h : okD d = true) : (txD d).length ≤ 4029 := by
  obtain ⟨h1, h2, h3, h4, h5, h6, h7, h8, _⟩ := ok_parts h
  have g1 : d.i ≤ 4294967296 := h1.2
  have g2 : d.m ≤ 4294967296 := h2.2
  have g3 : d.c ≤ 281474976710656 := h3.2
  have g4 : d.v ≤ 281474976710656 := h4.2
  have g5 : d.f ≤ 281474976710656 := h5.2
  have g6 : d.l.length ≤ 15 := h6
  have g7 : rkB d.i d.l = true := h7
  have g8 : okB d.t = true := h8
  have e1 : (selfB d).length ≤ 101 := by
    have a1 := dg_id g1
    have a2 := dg_id g2
    have a3 := dg_ep g3
    have a4 := dg_ep g4
    have a5 := dg_ep g5
    simp [selfB, selfPs, pre]
    omega
  have e2 : ((d.l.map nodeB).map fun b => b.length + 1).sum ≤ d.l.length * 57 := by
    rw [List.map_map, ← sum_const]
    refine sum_mono _ _ _ fun k hk => ?_
    obtain ⟨k1, k2, k3, _⟩ := kn_parts g7 hk
    have a1 := dg_id k1.2
    have a2 := dg_id k2.2
    have a3 := dg_ep k3.2
    simp [nodeB, nodePs, pre]
    omega
  have e3 : (((prs d.t).map fun p => slotsB d.t p.1 p.2).map fun b => b.length + 1).sum ≤ 48 * 64 := by
    rw [List.map_map]
    refine Nat.le_trans (sum_mono _ (fun p => 48 * cnt d.t (List.range 64) p) _ fun p hp => slotsB_len g8 hp) ?_
    rw [sum_mul]
    exact Nat.mul_le_mul_left 48 (sum_prs d.t)
  rw [txD_unl]
  unfold bodies
  rw [unl_cons, List.length_append, List.length_cons, unl_app, List.length_append, unl_len, unl_len]
  omega

/-! ### the first line -/
def restD (d : Dt) : List UInt8 := unl (d.l.map nodeB ++ (prs d.t).map fun p => slotsB d.t p.1 p.2)
theorem txD_first (d : Dt) : txD d = selfB d ++ 10 :: restD d := by rw [txD_unl]; unfold bodies; rw [unl_cons]; rfl
theorem self_head (d : Dt) : (selfB d)[0]? = some 115 ∧ (selfB d)[1]? = some 101 := by
  unfold selfB selfPs
  constructor <;> rfl
theorem tx_head (d : Dt) : (txD d)[0]? = some 115 ∧ (txD d)[1]? = some 101 := by
  rw [txD_first]
  unfold selfB selfPs
  constructor <;> rfl
theorem rest_head (d : Dt) : ¬ ((restD d)[0]? = some 115 ∧ (restD d)[1]? = some 101) := by
  unfold restD
  rintro ⟨h0, h1⟩
  cases hl : d.l.map nodeB ++ (prs d.t).map fun p => slotsB d.t p.1 p.2 with
  | nil => rw [hl] at h0; cases h0
  | cons b L =>
    rw [hl, unl_cons] at h0 h1
    have hb : b ∈ d.l.map nodeB ++ (prs d.t).map fun p => slotsB d.t p.1 p.2 := by rw [hl]; exact List.mem_cons_self ..
    rcases List.mem_append.1 hb with hb | hb
    · obtain ⟨k, _, rfl⟩ := List.mem_map.1 hb
      unfold nodeB nodePs at h0
      exact absurd h0 (by show ¬ some (110 : UInt8) = some 115; decide)
    · obtain ⟨p, _, rfl⟩ := List.mem_map.1 hb
      unfold slotsB slotsPs at h1
      exact absurd h1 (by show ¬ some (108 : UInt8) = some 101; decide)
theorem first_cut {a b c e : List UInt8} (ha : ∀ x ∈ a, x ≠ 10) (hc : ∀ x ∈ c, x ≠ 10) (h : a ++ 10 :: b = c ++ 10 :: e) : a = c ∧ b = e := by
  have h1 := S.cutL_at (b := b) ha
  have h2 := S.cutL_at (b := e) hc
  rw [h, h2] at h1
  injection h1 with h3 h4
  injection h4 with h4 _
  exact ⟨h3.symm, h4.symm⟩
theorem cut_rest (d : Dt) : parseD (restD d) = none := parse_no fun d' _ h => rest_head d (by rw [← h]; exact tx_head d')
theorem cut_twice (d : Dt) : parseD (selfB d ++ 10 :: txD d) = none := parse_no fun d' _ h => by
  rw [txD_first d'] at h
  have := (first_cut (self_no d') (self_no d) h).2
  exact rest_head d' (by rw [this]; exact tx_head d)
theorem unl_last : ∀ (L : List (List UInt8)) (b : List UInt8), (unl (b :: L)).getLast? = some 10
  | [], b => by rw [unl_cons]; simp [unl]
  | c :: L, b => by
    have h := unl_last L c
    rw [unl_cons, List.getLast?_append, List.getLast?_cons, h]
    simp
theorem cut_in (d : Dt) {n : Nat} (hn : n ≤ (txD d).length) (h : n = 0 ∨ (txD d)[n - 1]? ≠ some 10) : parseD ((txD d).take n) = none := parse_no fun d' _ h2 => by
  have hlast : ((txD d).take n).getLast? = some 10 := by rw [← h2, txD_unl]; exact unl_last _ _
  rcases h with rfl | h
  · rw [List.take_zero] at hlast; cases hlast
  · rw [List.getLast?_eq_getElem?, List.length_take, Nat.min_eq_left hn, List.getElem?_take] at hlast
    split at hlast
    · exact h hlast
    · cases hlast
end Go.Proofs.YtmjbacmaafbdlaaGreatDoor
