/-
  WHAT IS PROVED: digits of numbers, words and numbers in a text, plain facts about lists. No condition.
-/
import Derived.Test.YtmjbacmaafbdlaaGreatDoorBytes
import Derived.Test.YtmjbacmaafbdlaaGreatDoorHeld
import Derived.Test.YtmjbacmaafbdlaaGreatDoorRight
import Derived.Test.YtmjbacmaafbdlaaGreatDoorLine
namespace Go.Proofs.YtmjbacmaafbdlaaGreatDoor

/-- a number's digits -/
def digL (n : Nat) : List UInt8 := if n < 10 then [UInt8.ofNat (48 + n)] else digL (n / 10) ++ [UInt8.ofNat (48 + n % 10)]
termination_by n
decreasing_by omega
theorem digL_small {n : Nat} (h : n < 10) : digL n = [UInt8.ofNat (48 + n)] := by rw [digL]; rw [if_pos h]
theorem digL_big {n : Nat} (h : ¬ n < 10) : digL n = digL (n / 10) ++ digL (n % 10) := by
  rw [digL, if_neg h, digL_small (show n % 10 < 10 by omega)]
theorem digL_len : ∀ (k n : Nat), n < 10 ^ (k + 1) → (digL n).length ≤ k + 1
  | 0, n, h => by rw [digL_small (by simpa using h)]; simp
  | k + 1, n, h => by
    by_cases hn : n < 10
    · rw [digL_small hn]; simp
    · rw [digL_big hn, List.length_append, digL_small (show n % 10 < 10 by omega)]
      have := digL_len k (n / 10) (by rw [Nat.pow_succ] at h; omega)
      simp; omega
theorem digL_ne (n : Nat) : digL n ≠ [] := by
  by_cases hn : n < 10
  · rw [digL_small hn]; simp
  · rw [digL_big hn, digL_small (show n % 10 < 10 by omega)]; simp

def isD (c : UInt8) : Bool := decide (48 ≤ c.toNat) && decide (c.toNat ≤ 57)
def val (l : List UInt8) : Nat := l.foldl (fun a c => 10 * a + (c.toNat - 48)) 0
theorem val_nil : val [] = 0 := rfl
theorem val_snoc (l : List UInt8) (c : UInt8) : val (l ++ [c]) = 10 * val l + (c.toNat - 48) := by unfold val; rw [List.foldl_append]; rfl
theorem val_take : ∀ (l : List UInt8) (k : Nat), (∀ c ∈ l, isD c = true) → k ≤ l.length → val (l.take k) < 10 ^ k
  | l, 0, _, _ => by simp [val_nil]
  | l, k + 1, h, hk => by
    obtain ⟨c, hc⟩ : ∃ c, l[k]? = some c := ⟨_, List.getElem?_eq_getElem (by omega)⟩
    have h1 := val_take l k h (by omega)
    have h2 := h c (List.mem_of_getElem? hc)
    unfold isD at h2
    simp at h2
    rw [take_snoc hc, val_snoc, Nat.pow_succ]
    omega
theorem val_lt (l : List UInt8) (h : ∀ c ∈ l, isD c = true) : val l < 10 ^ l.length := by
  have := val_take l l.length h (Nat.le_refl _)
  rwa [List.take_length] at this
theorem d_toNat {n : Nat} (h : n < 10) : (UInt8.ofNat (48 + n)).toNat = 48 + n := by simp; omega
theorem digL_isD : ∀ (n : Nat), ∀ c ∈ digL n, isD c = true := by
  intro n
  induction n using Nat.strongRecOn with
  | ind n ih =>
    intro c hc
    by_cases hn : n < 10
    · rw [digL_small hn] at hc
      simp at hc
      subst hc
      have := d_toNat hn
      unfold isD
      simp at this ⊢
      omega
    · rw [digL_big hn, List.mem_append] at hc
      rcases hc with hc | hc
      · exact ih (n / 10) (by omega) c hc
      · exact ih (n % 10) (by omega) c hc
theorem val_digL : ∀ (n : Nat), val (digL n) = n := by
  intro n
  induction n using Nat.strongRecOn with
  | ind n ih =>
    by_cases hn : n < 10
    · rw [digL_small hn, show [UInt8.ofNat (48 + n)] = [] ++ [UInt8.ofNat (48 + n)] from rfl, val_snoc, d_toNat hn, val_nil]; omega
    · rw [digL_big hn, digL_small (show n % 10 < 10 by omega), val_snoc, ih (n / 10) (by omega), d_toNat (show n % 10 < 10 by omega)]; omega
theorem digL_head : ∀ (n : Nat), (digL n).head? = some 48 → n = 0 := by
  intro n
  induction n using Nat.strongRecOn with
  | ind n ih =>
    intro h
    by_cases hn : n < 10
    · rw [digL_small hn] at h
      simp at h
      have h2 := congrArg UInt8.toNat h
      simp at h2
      omega
    · rw [digL_big hn, List.head?_append] at h
      cases hx : (digL (n / 10)).head? with
      | none => exact absurd (List.head?_eq_none_iff.1 hx) (digL_ne _)
      | some c =>
        rw [hx] at h
        have := ih (n / 10) (by omega) (hx.trans h)
        omega

/-- the digits at a place, sixteen at most -/
def run (s : List UInt8) (a : Nat) : List UInt8 := ((s.drop a).take 16).takeWhile isD
def numF (s : List UInt8) (a : Nat) : Nat × Nat × Bool := (val (run s a), a + (run s a).length, decide (run s a ≠ []) && (decide ((run s a).head? ≠ some 48) || decide ((run s a).length = 1)))
theorem run_le (s : List UInt8) (a : Nat) : (run s a).length ≤ 16 ∧ a + (run s a).length ≤ a + (s.length - a) := by
  unfold run
  have h1 := (List.takeWhile_sublist (p := isD) (l := (s.drop a).take 16)).length_le
  rw [List.length_take, List.length_drop] at h1
  omega
theorem run_isD (s : List UInt8) (a : Nat) : ∀ c ∈ run s a, isD c = true := fun c hc => List.all_eq_true.1 (List.all_takeWhile (p := isD) (l := (s.drop a).take 16)) c hc
theorem run_get {s : List UInt8} {a j : Nat} (h : j < (run s a).length) : ∃ c, s[a + j]? = some c ∧ (run s a)[j]? = some c ∧ isD c = true ∧ j < 16 := by
  have hr := run_le s a
  obtain ⟨c, hc⟩ : ∃ c, (run s a)[j]? = some c := ⟨_, List.getElem?_eq_getElem h⟩
  refine ⟨c, ?_, hc, run_isD s a c (List.mem_of_getElem? hc), by omega⟩
  obtain ⟨t, ht⟩ : run s a <+: (s.drop a).take 16 := List.takeWhile_prefix isD
  have : ((s.drop a).take 16)[j]? = some c := by rw [← ht, List.getElem?_append_left h]; exact hc
  rw [List.getElem?_take, if_pos (by omega), List.getElem?_drop] at this
  exact this
/-- why the digits end -/
theorem run_end (s : List UInt8) (a : Nat) (ha : a ≤ s.length) : (run s a).length = 16 ∨ a + (run s a).length = s.length ∨ ∃ c, s[a + (run s a).length]? = some c ∧ isD c = false := by
  have hr := run_le s a
  by_cases h1 : (run s a).length = 16
  · exact .inl h1
  by_cases h2 : a + (run s a).length = s.length
  · exact .inr (.inl h2)
  refine .inr (.inr ?_)
  have hlt : a + (run s a).length < s.length := by omega
  refine ⟨s[a + (run s a).length], List.getElem?_eq_getElem hlt, ?_⟩
  cases hd : isD s[a + (run s a).length] with
  | false => rfl
  | true =>
    exfalso
    have hl : (run s a).length < ((s.drop a).take 16).length := by rw [List.length_take, List.length_drop]; omega
    have hg : ((s.drop a).take 16)[(run s a).length] = s[a + (run s a).length] := by
      rw [List.getElem_take, List.getElem_drop]
    have hsplit := List.takeWhile_append_dropWhile (p := isD) (l := (s.drop a).take 16)
    have hdw : ((s.drop a).take 16).dropWhile isD ≠ [] := by
      intro e
      have := congrArg List.length hsplit
      rw [e, List.append_nil] at this
      unfold run at hl
      omega
    have hh := List.head_dropWhile_not isD hdw
    have hix : ((s.drop a).take 16)[(run s a).length]? = some ((((s.drop a).take 16).dropWhile isD).head hdw) := by
      conv => lhs; rw [← hsplit]
      rw [List.getElem?_append_right (by unfold run; omega)]
      rw [show (run s a).length - (List.takeWhile isD ((s.drop a).take 16)).length = 0 by unfold run; omega]
      rw [← List.head?_eq_getElem?, List.head?_eq_some_head hdw]
    rw [List.getElem?_eq_getElem hl] at hix
    injection hix with hix
    rw [hg] at hix
    rw [← hix, hd] at hh
    simp at hh
/-- a number that stands in a text is read -/
theorem num_digL {s rest : List UInt8} {a n : Nat} (hs : s.drop a = digL n ++ rest) (hn : n < 10 ^ 16) (hr : ∀ c, rest.head? = some c → isD c = false) : run s a = digL n := by
  have hl := digL_len 15 n hn
  unfold run
  rw [hs, List.take_append, List.take_of_length_le (by omega)]
  rw [List.takeWhile_append_of_pos (fun c hc => digL_isD n c hc)]
  have : (rest.take (16 - (digL n).length)).takeWhile isD = [] := by
    cases rest with
    | nil => simp
    | cons c r =>
      have hc := hr c rfl
      cases 16 - (digL n).length with
      | zero => simp
      | succ k => simp [hc]
  rw [this, List.append_nil]
theorem numF_digL {s rest : List UInt8} {a n : Nat} (hs : s.drop a = digL n ++ rest) (hn : n < 10 ^ 16) (hr : ∀ c, rest.head? = some c → isD c = false) : numF s a = (n, a + (digL n).length, true) := by
  unfold numF
  rw [num_digL hs hn hr, val_digL]
  have h1 := digL_ne n
  by_cases h0 : (digL n).head? = some 48
  · have := digL_head n h0
    subst this
    simp [digL_small]
  · simp [h1, h0]
def wordF (s : List UInt8) (a : Nat) (w : List UInt8) : Nat × Bool := if s.length < a + w.length + 1 then (a, false) else (a + w.length + 1, decide ((s.drop a).take (w.length + 1) = w ++ [32]))
/-- words with numbers behind them -/
def pairsF (s : List UInt8) : List (List UInt8) → Bool → Nat → List Nat → List Nat × Nat × Bool
  | [], _, a, acc => (acc, a, true)
  | w :: ws, first, a, acc =>
    if first = false ∧ s[a]? ≠ some 32 then ([], a, false)
    else
      let b := if first = true then a else a + 1
      if (wordF s b w).2 = false then ([], b, false)
      else if (numF s (wordF s b w).1).2.2 = false then ([], b, false)
      else pairsF s ws false (numF s (wordF s b w).1).2.1 (acc ++ [(numF s (wordF s b w).1).1])
end Go.Proofs.YtmjbacmaafbdlaaGreatDoor

/-
  WHAT IS PROVED: the text of a state as lines, and how long it is at most. No condition.
-/
namespace Go.Proofs.YtmjbacmaafbdlaaGreatDoor
open Go.RowKit C

theorem dec_eq : ∀ n, Lib.decDigits n = digL n := by
  intro n
  induction n using Nat.strongRecOn with
  | ind n ih =>
    unfold Lib.decDigits digL
    by_cases h : n < 10
    · rw [dif_pos h, if_pos h]
    · rw [dif_neg h, if_neg h, ih (n / 10) (by omega)]
theorem dg_eq (z : Int) : dg z = digL z.toNat := dec_eq _
theorem dg_len {z : Int} (h : z < 10000000000000000000) : (dg z).length ≤ 19 := by
  rw [dg_eq]
  exact digL_len 18 _ (by have : (10 : Nat) ^ (18 + 1) = 10000000000000000000 := by decide
                          omega)
def selfP (s : Sv) : List Pt := [.w [115, 101, 108, 102], .n s.i, .w [109, 97, 115, 116, 101, 114], .n s.m, .w [99, 117, 114, 114, 101, 110, 116], .n s.c, .w [118, 111, 116, 101], .n s.v, .w [99, 111, 110, 102, 105, 103], .n s.f]
def nodeP (k : Kn) : List Pt := [.w [110, 111, 100, 101], .n k.i, .w [109, 97, 115, 116, 101, 114], .n k.m, .w [99, 111, 110, 102, 105, 103], .n k.c]
def slotsP (t : Tab) (o e : Int) : List Pt := [.w [115, 108, 111, 116, 115], .n o, .w [101, 112, 111, 99, 104], .n e, .w [58], .s (setOE t o e)]
def epLines (t : Tab) (o : Int) : List (List UInt8) := (epsL t o).map fun e => lineP (slotsP t o e)
def tabLines (t : Tab) : List (List UInt8) := (ownersL t).flatMap (epLines t)
def linesS (s : Sv) (l : List Kn) : List (List UInt8) := (lineP (selfP s) :: l.map fun k => lineP (nodeP k)) ++ tabLines s.t
def txS (s : Sv) (l : List Kn) : List UInt8 := Lib.join (linesS s l) []
theorem join_nil : ∀ L : List (List UInt8), Lib.join L [] = L.flatten
  | [] => rfl
  | a :: L => by
    rw [Lib.join_cons, List.flatten_cons]
    congr 1
    unfold Lib.joinTail
    simp
theorem eps_len (t : Tab) (o : Int) : (epsL t o).length ≤ 64 := by
  unfold epsL
  have h1 := Lib.compact_length_le (sorted (epRaw t o))
  have h2 := sorted_len (epRaw t o)
  have h3 : (epRaw t o).length ≤ 64 := by unfold epRaw; rw [List.length_map]; exact slotsTo_le _ _
  omega
theorem flat_le {α β : Type} (f : α → List β) (c : Nat) : ∀ (L : List α), (∀ x ∈ L, (f x).length ≤ c) → (L.flatMap f).length ≤ L.length * c
  | [], _ => by simp
  | x :: L, h => by
    have h1 := flat_le f c L fun y hy => h y (List.mem_cons_of_mem _ hy)
    have h2 := h x (List.mem_cons_self ..)
    rw [List.flatMap_cons, List.length_append, List.length_cons, Nat.add_mul]
    omega
theorem tabLines_len (t : Tab) : (tabLines t).length ≤ 4096 := by
  unfold tabLines
  have h1 := flat_le (epLines t) 64 (ownersL t) fun o _ => by unfold epLines; rw [List.length_map]; exact eps_len t o
  have h2 := owners_len t
  omega
theorem sum_le {c : Nat} : ∀ (L : List (List UInt8)), (∀ x ∈ L, x.length ≤ c) → L.flatten.length ≤ L.length * c
  | [], _ => by simp
  | x :: L, h => by
    have h1 := sum_le L fun y hy => h y (List.mem_cons_of_mem _ hy)
    have h2 := h x (List.mem_cons_self ..)
    rw [List.flatten_cons, List.length_append, List.length_cons, Nat.add_mul]
    omega
theorem stx_len (m : Nat) : (S.txt m).length ≤ 384 := by
  have h := S.tx_len (S.upto m 64)
  have h2 := S.upto_le (s := m) (n := 64) (Nat.le_refl _)
  show (S.tx (S.upto m 64)).length ≤ _
  omega

/-! ### what a right state's parts are -/
theorem eps_mem {t : Tab} {o e : Int} (h : e ∈ epsL t o) : ∃ i, i < 64 ∧ t.o i = o ∧ t.e i = e := by
  unfold epsL at h
  rw [comp_mem, C.mem_sorted] at h
  unfold epRaw at h
  obtain ⟨i, hi, rfl⟩ := List.mem_map.1 h
  obtain ⟨h1, h2⟩ := (of_slots t o).1 hi
  exact ⟨i, h1, h2, rfl⟩
theorem ok_parts {s : Sv} {l : List Kn} (h : okS s l = true) : (1 ≤ s.i ∧ s.i ≤ 4294967296) ∧ (0 ≤ s.m ∧ s.m ≤ 4294967296) ∧ (0 ≤ s.c ∧ s.c ≤ 281474976710656) ∧ (0 ≤ s.v ∧ s.v ≤ 281474976710656) ∧ (0 ≤ s.f ∧ s.f ≤ 281474976710656) ∧ s.n ≤ 15 ∧ rkB s.i l = true ∧ okB s.t = true ∧ ownB s.i l s.t = true := by
  unfold okS epsB fewB rtB folB at h
  simp only [Bool.and_eq_true, Bool.or_eq_true, bet_iff, decide_eq_true_eq, beq_iff_eq, bne_iff_ne] at h
  obtain ⟨⟨⟨⟨h1, h2⟩, ⟨h3, h4⟩, h5⟩, h6, h7⟩, h8, h9⟩ := h
  refine ⟨h1, ?_, h3, ?_, ?_, h6, h7, h8, h9⟩ <;> omega
theorem kn_parts {i : Int} {l : List Kn} (h : rkB i l = true) {k : Kn} (hk : k ∈ l) : (1 ≤ k.i ∧ k.i ≤ 4294967296) ∧ (0 ≤ k.m ∧ k.m ≤ 4294967296) ∧ (0 ≤ k.c ∧ k.c ≤ 281474976710656) ∧ k.i ≠ i := by
  obtain ⟨j, hj, rfl⟩ := List.getElem_of_mem hk
  have h1 := rk_iff.1 h j hj
  rw [at_some (List.getElem?_eq_getElem hj)] at h1
  unfold stepB knB folB at h1
  simp only [Bool.and_eq_true, Bool.or_eq_true, bet_iff, decide_eq_true_eq, beq_iff_eq, bne_iff_ne] at h1
  obtain ⟨⟨⟨⟨h2, h3⟩, h4⟩, h5⟩, _⟩ := h1
  refine ⟨h2, ?_, h4, h5⟩
  omega
theorem own_parts {t : Tab} {o : Int} (h : o ∈ ownersL t) : 1 ≤ o ∧ o ≤ 4294967296 := by
  obtain ⟨i, _, h1, rfl⟩ := owners_mem.1 h
  exact bet_iff.1 h1
theorem ep_parts {t : Tab} (ht : okB t = true) {o e : Int} (ho : o ∈ ownersL t) (h : e ∈ epsL t o) : 0 ≤ e ∧ e ≤ 281474976710656 := by
  obtain ⟨i, hi, h1, rfl⟩ := eps_mem h
  have h2 := own_parts ho
  have h3 := ok_held ht hi
  omega

/-! ### lengths -/
theorem self_len {s : Sv} {l : List Kn} (h : okS s l = true) : (Lib.join ((selfP s).map Pt.out) [32]).length ≤ 200 := by
  obtain ⟨h1, h2, h3, h4, h5, _⟩ := ok_parts h
  have d1 := dg_len (z := s.i) (by omega)
  have d2 := dg_len (z := s.m) (by omega)
  have d3 := dg_len (z := s.c) (by omega)
  have d4 := dg_len (z := s.v) (by omega)
  have d5 := dg_len (z := s.f) (by omega)
  simp [selfP, Pt.out, Lib.join_cons, Lib.joinTail]
  omega
theorem node_len {i : Int} {l : List Kn} (h : rkB i l = true) {k : Kn} (hk : k ∈ l) : (Lib.join ((nodeP k).map Pt.out) [32]).length ≤ 200 := by
  obtain ⟨h1, h2, h3, _⟩ := kn_parts h hk
  have d1 := dg_len (z := k.i) (by omega)
  have d2 := dg_len (z := k.m) (by omega)
  have d3 := dg_len (z := k.c) (by omega)
  simp [nodeP, Pt.out, Lib.join_cons, Lib.joinTail]
  omega
theorem slots_len {t : Tab} (ht : okB t = true) {o e : Int} (ho : o ∈ ownersL t) (h : e ∈ epsL t o) : (Lib.join ((slotsP t o e).map Pt.out) [32]).length ≤ 500 := by
  have h1 := own_parts ho
  have h2 := ep_parts ht ho h
  have d1 := dg_len (z := o) (by omega)
  have d2 := dg_len (z := e) (by omega)
  have d3 := stx_len (setOE t o e)
  simp [slotsP, Pt.out, Lib.join_cons, Lib.joinTail]
  omega
theorem self_ok {s : Sv} {l : List Kn} (h : okS s l = true) : ∀ p ∈ selfP s, p.ok := by
  obtain ⟨h1, h2, h3, h4, h5, _⟩ := ok_parts h
  intro p hp
  simp only [selfP, List.mem_cons, List.not_mem_nil, or_false] at hp
  rcases hp with rfl | rfl | rfl | rfl | rfl | rfl | rfl | rfl | rfl | rfl <;> first | exact trivial | (show 0 ≤ _ ∧ _ ≤ _; omega)
theorem node_ok {i : Int} {l : List Kn} (h : rkB i l = true) {k : Kn} (hk : k ∈ l) : ∀ p ∈ nodeP k, p.ok := by
  obtain ⟨h1, h2, h3, _⟩ := kn_parts h hk
  intro p hp
  simp only [nodeP, List.mem_cons, List.not_mem_nil, or_false] at hp
  rcases hp with rfl | rfl | rfl | rfl | rfl | rfl <;> first | exact trivial | (show 0 ≤ _ ∧ _ ≤ _; omega)
theorem slots_ok {t : Tab} (ht : okB t = true) {o e : Int} (ho : o ∈ ownersL t) (h : e ∈ epsL t o) : ∀ p ∈ slotsP t o e, p.ok := by
  have h1 := own_parts ho
  have h2 := ep_parts ht ho h
  intro p hp
  simp only [slotsP, List.mem_cons, List.not_mem_nil, or_false] at hp
  rcases hp with rfl | rfl | rfl | rfl | rfl | rfl <;> first | exact trivial | exact pick_lt _ | (show 0 ≤ _ ∧ _ ≤ _; omega)
theorem line_len (P : List Pt) : (lineP P).length = (Lib.join (P.map Pt.out) [32]).length + 1 := by simp [lineP]
theorem lines_each {s : Sv} {l : List Kn} (h : okS s l = true) : ∀ x ∈ linesS s l, x.length ≤ 501 := by
  obtain ⟨_, _, _, _, _, _, h7, h8, _⟩ := ok_parts h
  intro x hx
  unfold linesS at hx
  rw [List.mem_append] at hx
  rcases hx with hx | hx
  · rcases List.mem_cons.1 hx with rfl | hx
    · rw [line_len]; have := self_len h; omega
    · obtain ⟨k, hk, rfl⟩ := List.mem_map.1 hx
      rw [line_len]; have := node_len h7 hk; omega
  · unfold tabLines epLines at hx
    obtain ⟨o, ho, hx⟩ := List.mem_flatMap.1 hx
    obtain ⟨e, he, rfl⟩ := List.mem_map.1 hx
    rw [line_len]; have := slots_len h8 ho he; omega
theorem lines_len {s : Sv} {l : List Kn} (h : okS s l = true) (hl : l.length = s.n) : (linesS s l).length ≤ 4112 := by
  obtain ⟨_, _, _, _, _, h6, _⟩ := ok_parts h
  have := tabLines_len s.t
  unfold linesS
  simp
  omega
theorem txS_len {s : Sv} {l : List Kn} (h : okS s l = true) (hl : l.length = s.n) : (txS s l).length ≤ 2060112 := by
  unfold txS
  rw [join_nil]
  have h1 := sum_le (linesS s l) (lines_each h)
  have h2 := lines_len h hl
  omega
end Go.Proofs.YtmjbacmaafbdlaaGreatDoor
