/-
  WHAT IS PROVED: the document's reader: its line, what it makes of a right state's text, the contract of its Parse. Conditions: a text has at most 100000 bytes.
-/
import Derived.Test.YtmjbacmaafbdlaaGreatDoorRLineB
import Derived.Test.YtmjbacmaafbdlaaGreatDoorRLineC
import Derived.Test.YtmjbacmaafbdlaaGreatDoorRLineA
import Derived.Test.YtmjbacmaafbdlaaGreatDoorMathb
import Derived.Test.YtmjbacmaafbdlaaGreatDoorRText

/-
  WHAT IS PROVED: the contract of the document's reader of a line. Conditions: a line has at most 100000 bytes; the State lies in a variable, its known ones in a row of its own.
-/
namespace Go.Proofs.YtmjbacmaafbdlaaGreatDoor.R
open Go.RowKit Go.Lib C

theorem line_any (d : Dt) (a : Option Addr) (n cap b base : Nat) (l : List UInt8) (first : Bool) (hl : l.length ≤ 100000) (w : World) (hS : RAt w b (mkS d a n cap)) (hb : b < base) (hbase : base ≤ w.heap.size) (hn : n ≤ 100000)
    (hown : w.ownsRow base 60 3 (.slice a n cap) n (flatK d.l)) :
    Calls Tryz.prog 13 #[.pointer (some ⟨b, 0, none⟩), .string (str l), .bool first] w (LineP (lineF d l first) b base w) := by
  cases first with
  | true => exact line_first d a n cap b base l hl w hS hb hn hown
  | false =>
    cases hok : (pairsF l nodeN true 0 []).2.2 with
    | true => exact line_node d a n cap b base l hl w hS hb hbase hn hown hok
    | false => exact line_slots d a n cap b base l hl w hS hb hn hown hok
end Go.Proofs.YtmjbacmaafbdlaaGreatDoor.R

/-
  WHAT IS PROVED: a right state's text is read by the document's reader as that state (the tables alike slot by slot). No condition.
-/
namespace Go.Proofs.YtmjbacmaafbdlaaGreatDoor.R
open Go.RowKit Go.Lib C

/-! ### words and numbers at a place -/
theorem drop_len {s X : List UInt8} {a : Nat} (h : s.drop a = X) (hx : X ≠ []) : a + X.length = s.length := by
  have h1 := congrArg List.length h
  rw [List.length_drop] at h1
  have : 0 < X.length := List.length_pos_iff.2 hx
  omega
theorem drop_more {s X Y : List UInt8} {a : Nat} (h : s.drop a = X ++ Y) : s.drop (a + X.length) = Y := by
  rw [← List.drop_drop, h, List.drop_left]
theorem wordF_at {s w X : List UInt8} {a : Nat} (h : s.drop a = w ++ 32 :: X) : wordF s a w = (a + w.length + 1, true) := by
  have hl := drop_len h (by simp)
  rw [List.length_append, List.length_cons] at hl
  unfold wordF
  rw [if_neg (by omega), h]
  congr 1
  rw [decide_eq_true_eq, show w ++ 32 :: X = (w ++ [32]) ++ X by simp, List.take_left' (by simp)]
theorem wordF_not {s w X : List UInt8} {a : Nat} (h : s.drop a = X) (hx : X.take (w.length + 1) ≠ w ++ [32]) : (wordF s a w).2 = false := by
  unfold wordF
  split
  · rfl
  · rw [h]
    exact decide_eq_false hx
theorem head_tl {tl : List UInt8} (h : okTl tl) : ∀ c, tl.head? = some c → isD c = false := by
  intro c hc
  rcases h with rfl | ⟨x, rfl⟩
  · cases hc
  · simp at hc; subst hc; decide
/-- numbers that are small enough -/
def smPs (ps : List (List UInt8 × Int)) : Prop := ∀ p ∈ ps, 0 ≤ p.2 ∧ p.2 < 10000000000000000
theorem ten16 : (10 : Nat) ^ 16 = 10000000000000000 := by decide
theorem pairs_pre (s : List UInt8) : ∀ (ps : List (List UInt8 × Int)) (first : Bool) (a : Nat) (acc : List Nat) (tl : List UInt8), ps ≠ [] → okTl tl → smPs ps →
    (first = true → s.drop a = pre ps tl) → (first = false → s.drop a = 32 :: pre ps tl) →
    pairsF s (ps.map (·.1)) first a acc = (acc ++ ps.map (fun p => p.2.toNat), s.length - tl.length, true)
  | [], _, _, _, _, h, _, _, _, _ => absurd rfl h
  | [p], first, a, acc, tl, _, ht, hs, h1, h2 => by
    obtain ⟨hp0, hp1⟩ := hs p (List.mem_cons_self ..)
    obtain ⟨b, hb, hd⟩ : ∃ b, (if first = true then a else a + 1) = b ∧ s.drop b = p.1 ++ 32 :: (dg p.2 ++ tl) := by
      cases first with
      | true => exact ⟨a, rfl, h1 rfl⟩
      | false =>
        refine ⟨a + 1, rfl, ?_⟩
        have := drop_more (X := [32]) (h2 rfl)
        exact this
    have hg : ¬ (first = false ∧ s[a]? ≠ some 32) := by
      rintro ⟨rfl, h⟩
      have := congrArg List.head? (h2 rfl)
      rw [List.head?_drop] at this
      exact h this
    have hw := wordF_at hd
    have hd2 : s.drop (b + p.1.length + 1) = digL p.2.toNat ++ tl := by
      have := drop_more (X := p.1 ++ [32]) (Y := dg p.2 ++ tl) (by rw [hd]; simp)
      rw [← dg_eq, ← this]
      congr 1
      simp; omega
    have hn := numF_digL hd2 (by rw [ten16]; omega) (head_tl ht)
    have hlen : b + p.1.length + 1 + (digL p.2.toNat).length = s.length - tl.length := by
      have := drop_len hd (by simp)
      rw [dg_eq] at this
      simp at this
      omega
    rw [List.map_cons, List.map_nil, pairsF, if_neg hg]
    dsimp only
    rw [hb, hw]
    dsimp only
    rw [if_neg (by simp), hn]
    dsimp only
    rw [if_neg (by simp), pairsF, hlen]
    simp
  | p :: q :: ps, first, a, acc, tl, _, ht, hs, h1, h2 => by
    obtain ⟨hp0, hp1⟩ := hs p (List.mem_cons_self ..)
    obtain ⟨b, hb, hd⟩ : ∃ b, (if first = true then a else a + 1) = b ∧ s.drop b = p.1 ++ 32 :: (dg p.2 ++ 32 :: pre (q :: ps) tl) := by
      cases first with
      | true => exact ⟨a, rfl, h1 rfl⟩
      | false =>
        refine ⟨a + 1, rfl, ?_⟩
        have := drop_more (X := [32]) (h2 rfl)
        exact this
    have hg : ¬ (first = false ∧ s[a]? ≠ some 32) := by
      rintro ⟨rfl, h⟩
      have := congrArg List.head? (h2 rfl)
      rw [List.head?_drop] at this
      exact h this
    have hw := wordF_at hd
    have hd2 : s.drop (b + p.1.length + 1) = digL p.2.toNat ++ 32 :: pre (q :: ps) tl := by
      have := drop_more (X := p.1 ++ [32]) (Y := dg p.2 ++ 32 :: pre (q :: ps) tl) (by rw [hd]; simp)
      rw [← dg_eq, ← this]
      congr 1
      simp; omega
    have hn := numF_digL hd2 (by rw [ten16]; omega) (head_tl (.inr ⟨_, rfl⟩))
    have hd3 := drop_more hd2
    have ih := pairs_pre s (q :: ps) false (b + p.1.length + 1 + (digL p.2.toNat).length) (acc ++ [p.2.toNat]) tl (by simp) ht (fun x hx => hs x (List.mem_cons_of_mem _ hx)) (fun h => by cases h) (fun _ => hd3)
    rw [List.map_cons, pairsF, if_neg hg]
    dsimp only
    rw [hb, hw]
    dsimp only
    rw [if_neg (by simp), hn]
    dsimp only
    rw [if_neg (by simp), ih]
    simp

/-! ### the three lines -/
theorem sm_self {d : Dt} (h : okD d = true) : smPs (selfPs d) := by
  obtain ⟨h1, h2, h3, h4, h5, _⟩ := ok_parts h
  have h1' : 1 ≤ d.i ∧ d.i ≤ 4294967296 := h1
  have h2' : 0 ≤ d.m ∧ d.m ≤ 4294967296 := h2
  have h3' : 0 ≤ d.c ∧ d.c ≤ 281474976710656 := h3
  have h4' : 0 ≤ d.v ∧ d.v ≤ 281474976710656 := h4
  have h5' : 0 ≤ d.f ∧ d.f ≤ 281474976710656 := h5
  intro p hp
  simp only [selfPs, List.mem_cons, List.not_mem_nil, or_false] at hp
  rcases hp with rfl | rfl | rfl | rfl | rfl <;> dsimp only <;> omega
theorem sm_node {i : Int} {l : List Kn} (h : rkB i l = true) {k : Kn} (hk : k ∈ l) : smPs (nodePs k) := by
  obtain ⟨h1, h2, h3, _⟩ := kn_parts h hk
  intro p hp
  simp only [nodePs, List.mem_cons, List.not_mem_nil, or_false] at hp
  rcases hp with rfl | rfl | rfl <;> dsimp only <;> omega
theorem sm_slots {o e : Int} (ho : 1 ≤ o ∧ o ≤ 4294967296) (he : 0 ≤ e ∧ e ≤ 281474976710656) : smPs (slotsPs o e) := by
  intro p hp
  simp only [slotsPs, List.mem_cons, List.not_mem_nil, or_false] at hp
  rcases hp with rfl | rfl <;> dsimp only <;> omega
theorem nat_cast {z : Int} (h : 0 ≤ z) : ((z.toNat : Nat) : Int) = z := Int.toNat_of_nonneg h
theorem line_self {d d0 : Dt} (h : smPs (selfPs d)) : lineF d0 (selfB d) true = some { d0 with i := d.i, m := d.m, c := d.c, v := d.v, f := d.f } := by
  have hp := pairs_pre (selfB d) (selfPs d) true 0 [] [] (by simp [selfPs]) (.inl rfl) h (fun _ => rfl) (fun h => by cases h)
  have hp2 : pairsF (selfB d) selfN true 0 [] = ([d.i.toNat, d.m.toNat, d.c.toNat, d.v.toNat, d.f.toNat], (selfB d).length, true) := hp
  unfold lineF
  rw [if_pos rfl, hp2]
  dsimp only
  rw [if_pos rfl, nat_cast (h _ (by simp [selfPs] : (([115, 101, 108, 102] : List UInt8), d.i) ∈ selfPs d)).1,
    nat_cast (h _ (by simp [selfPs] : (([109, 97, 115, 116, 101, 114] : List UInt8), d.m) ∈ selfPs d)).1,
    nat_cast (h _ (by simp [selfPs] : (([99, 117, 114, 114, 101, 110, 116] : List UInt8), d.c) ∈ selfPs d)).1,
    nat_cast (h _ (by simp [selfPs] : (([118, 111, 116, 101] : List UInt8), d.v) ∈ selfPs d)).1,
    nat_cast (h _ (by simp [selfPs] : (([99, 111, 110, 102, 105, 103] : List UInt8), d.f) ∈ selfPs d)).1]
theorem line_nodeB {k : Kn} {d0 : Dt} (h : smPs (nodePs k)) : lineF d0 (nodeB k) false = some { d0 with l := d0.l ++ [k] } := by
  have hp := pairs_pre (nodeB k) (nodePs k) true 0 [] [] (by simp [nodePs]) (.inl rfl) h (fun _ => rfl) (fun h => by cases h)
  have hp2 : pairsF (nodeB k) nodeN true 0 [] = ([k.i.toNat, k.m.toNat, k.c.toNat], (nodeB k).length, true) := hp
  unfold lineF
  rw [if_neg (by simp), hp2]
  dsimp only
  rw [if_pos rfl, nat_cast (h _ (by simp [nodePs] : (([110, 111, 100, 101] : List UInt8), k.i) ∈ nodePs k)).1,
    nat_cast (h _ (by simp [nodePs] : (([109, 97, 115, 116, 101, 114] : List UInt8), k.m) ∈ nodePs k)).1,
    nat_cast (h _ (by simp [nodePs] : (([99, 111, 110, 102, 105, 103] : List UInt8), k.c) ∈ nodePs k)).1]
theorem ref_txt {s : Nat} (hs : s < 18446744073709551616) : S.refParse (S.txt s) = some (S.stretches s) ∧ S.refSet (S.txt s) = s := by
  have h : S.refParse (S.txt s) = some (S.stretches s) := S.ref_iff.2 ⟨S.canon_set hs, rfl⟩
  exact ⟨h, by rw [S.refSet_some h, S.set_stretches hs]⟩
/-- a table with some slots given -/
def setT (T : Tab) (o e : Int) (s : Nat) : Tab := ⟨fun i => if i < 64 ∧ s.testBit i = true then o else T.o i, fun i => if i < 64 ∧ s.testBit i = true then e else T.e i⟩
theorem line_slotsB {t : Tab} {o e : Int} {d0 : Dt} (h : smPs (slotsPs o e)) : lineF d0 (slotsB t o e) false = some { d0 with t := setT d0.t o e (setOE t o e) } := by
  have hp := pairs_pre (slotsB t o e) (slotsPs o e) true 0 [] (32 :: 58 :: 32 :: S.txt (setOE t o e)) (by simp [slotsPs]) (.inr ⟨_, rfl⟩) h (fun _ => rfl) (fun h => by cases h)
  have hp2 : pairsF (slotsB t o e) slotsN true 0 [] = ([o.toNat, e.toNat], (slotsB t o e).length - (32 :: 58 :: 32 :: S.txt (setOE t o e)).length, true) := hp
  obtain ⟨X, hX⟩ : ∃ X, slotsB t o e = X ++ (32 :: 58 :: 32 :: S.txt (setOE t o e)) := ⟨pre (slotsPs o e) [], by simp [slotsB, slotsPs, pre]⟩
  have hE : (slotsB t o e).length - (32 :: 58 :: 32 :: S.txt (setOE t o e)).length = X.length := by rw [hX, List.length_append]; omega
  rw [hE] at hp2
  have hn : (pairsF (slotsB t o e) nodeN true 0 []).2.2 = false := by
    have hw : (wordF (slotsB t o e) 0 [110, 111, 100, 101]).2 = false := wordF_not (X := slotsB t o e) rfl (by simp [slotsB, slotsPs, pre])
    show (pairsF (slotsB t o e) ([110, 111, 100, 101] :: [[109, 97, 115, 116, 101, 114], [99, 111, 110, 102, 105, 103]]) true 0 []).2.2 = false
    rw [pairsF, if_neg (by simp)]
    dsimp only
    rw [if_pos rfl, if_pos hw]
  have hd1 : ((slotsB t o e).drop X.length).take 3 = [32, 58, 32] := by rw [hX, List.drop_left]; rfl
  have hd2 : (slotsB t o e).drop (X.length + 3) = S.txt (setOE t o e) := by rw [hX, ← List.drop_drop, List.drop_left]; rfl
  obtain ⟨hr1, hr2⟩ := ref_txt (s := setOE t o e) (pick_lt _)
  unfold lineF
  rw [if_neg (by simp)]
  generalize pairsF (slotsB t o e) nodeN true 0 [] = pn at hn
  obtain ⟨q1, q2, q3⟩ := pn
  dsimp only at hn
  subst hn
  rw [hp2]
  dsimp only
  rw [hd2, hr1, hr2, if_pos ⟨hd1, rfl⟩, nat_cast (h _ (by simp [slotsPs] : (([115, 108, 111, 116, 115] : List UInt8), o) ∈ slotsPs o e)).1, nat_cast (h _ (by simp [slotsPs] : (([101, 112, 111, 99, 104] : List UInt8), e) ∈ slotsPs o e)).1]
  split
  · rename_i hc
    injection hc with _ hc
    injection hc with _ hc
    cases hc
  · rfl

/-! ### all lines -/
/-- what the document's reader makes of lines -/
def foldR (d : Dt) : Bool → List (List UInt8) → Option Dt
  | _, [] => some d
  | f, b :: L => match lineF d b f with
    | some d' => foldR d' false L
    | none => none
theorem foldR_append : ∀ (A : List (List UInt8)) (d : Dt) (B : List (List UInt8)) {d' : Dt}, foldR d false A = some d' → foldR d false (A ++ B) = foldR d' false B
  | [], d, B, d', h => by injection h with h; subst h; rfl
  | b :: A, d, B, d', h => by
    rw [foldR] at h
    rw [List.cons_append, foldR]
    cases hw : lineF d b false with
    | none => rw [hw] at h; cases h
    | some d2 => rw [hw] at h; exact foldR_append A d2 B h
theorem foldR_nodes {i : Int} {L : List Kn} (hL : rkB i L = true) : ∀ (l : List Kn) (d : Dt), (∀ k ∈ l, k ∈ L) → foldR d false (l.map nodeB) = some { d with l := d.l ++ l }
  | [], d, _ => by simp [foldR]
  | k :: l, d, h => by
    rw [List.map_cons, foldR, line_nodeB (sm_node hL (h k (List.mem_cons_self ..)))]
    have := foldR_nodes hL l { d with l := d.l ++ [k] } (fun x hx => h x (List.mem_cons_of_mem _ hx))
    simp only [List.append_assoc, List.singleton_append] at this
    exact this
theorem setT_pair {t T : Tab} {qs : List (Int × Int)} {o e : Int} (hT : same T (tabP t qs)) : same (setT T o e (setOE t o e)) (tabP t (qs ++ [(o, e)])) := fun i hi => by
  have hb : (setOE t o e).testBit i = ((t.o i == o) && (t.e i == e)) := pick_bit _ hi
  obtain ⟨h1, h2⟩ := hT i hi
  show (if i < 64 ∧ (setOE t o e).testBit i = true then o else T.o i) = (tabP t (qs ++ [(o, e)])).o i ∧ (if i < 64 ∧ (setOE t o e).testBit i = true then e else T.e i) = (tabP t (qs ++ [(o, e)])).e i
  rw [hb]
  unfold tabP at h1 h2 ⊢
  by_cases hp : t.o i = o ∧ t.e i = e
  · obtain ⟨hp1, hp2⟩ := hp
    simp [hp1, hp2, hi]
  · have hx : ((t.o i == o) && (t.e i == e)) = false := by
      rw [← Bool.not_eq_true]
      intro h
      simp at h
      exact hp h
    have hm : ((t.o i, t.e i) ∈ qs ++ [(o, e)]) ↔ (t.o i, t.e i) ∈ qs := by
      rw [List.mem_append, List.mem_singleton]
      constructor
      · rintro (h | h)
        · exact h
        · injection h with h3 h4; exact absurd ⟨h3, h4⟩ hp
      · exact .inl
    rw [hx]
    simp only [hm]
    simp only [Bool.false_eq_true, and_false, if_false]
    exact ⟨h1, h2⟩
theorem foldR_slots {t : Tab} (ht : okB t = true) : ∀ (ps qs : List (Int × Int)) (d : Dt), same d.t (tabP t qs) → (∀ p ∈ ps, p ∈ prs t) →
    ∃ T, foldR d false (ps.map fun p => slotsB t p.1 p.2) = some { d with t := T } ∧ same T (tabP t (qs ++ ps))
  | [], qs, d, h, _ => ⟨d.t, rfl, by rw [List.append_nil]; exact h⟩
  | (o, e) :: ps, qs, d, h, hp => by
    have hm := mem_prs.1 (hp (o, e) (List.mem_cons_self ..))
    have ho := own_parts hm.1
    have he := ep_parts ht hm.1 hm.2
    rw [List.map_cons, foldR, line_slotsB (t := t) (sm_slots ho he)]
    have ih := foldR_slots ht ps (qs ++ [(o, e)]) { d with t := setT d.t o e (setOE t o e) } (setT_pair h) (fun x hx => hp x (List.mem_cons_of_mem _ hx))
    obtain ⟨T, h1, h2⟩ := ih
    exact ⟨T, h1, by rw [List.append_assoc] at h2; exact h2⟩
/-- A RIGHT STATE's LINES ARE READ AS IT -/
theorem foldR_bodies {d : Dt} (h : okD d = true) : ∃ d', foldR Dt.zero true (bodies d) = some d' ∧ likeD d' d := by
  obtain ⟨_, _, _, _, _, _, h7, h8, _⟩ := ok_parts h
  have h7' : rkB d.i d.l = true := h7
  have h8' : okB d.t = true := h8
  have e2 := foldR_nodes h7' d.l { Dt.zero with i := d.i, m := d.m, c := d.c, v := d.v, f := d.f } fun k hk => hk
  obtain ⟨T, e3, hT⟩ := foldR_slots h8' (prs d.t) [] { Dt.zero with i := d.i, m := d.m, c := d.c, v := d.v, f := d.f, l := [] ++ d.l } (tabP_nil d.t) (fun p hp => hp)
  refine ⟨{ Dt.zero with i := d.i, m := d.m, c := d.c, v := d.v, f := d.f, l := [] ++ d.l, t := T }, ?_, rfl, rfl, rfl, rfl, rfl, List.nil_append _, same_trans hT (tabP_all h8')⟩
  unfold bodies
  rw [foldR, line_self (sm_self h)]
  dsimp only
  rw [foldR_append _ _ _ e2]
  exact e3

/-! ### a text is its lines -/
/-- what the document's reader makes of a text -/
def readF : Nat → Dt → Bool → List UInt8 → Option Dt
  | 0, d, _, _ => some d
  | k + 1, d, f, t => if (cutL t 10).2.2 = true then (match lineF d (cutL t 10).1 f with
    | some d' => readF k d' false (cutL t 10).2.1
    | none => none) else some d
theorem readF_unl : ∀ (L : List (List UInt8)) (k : Nat) (d : Dt) (f : Bool), (∀ b ∈ L, ∀ x ∈ b, x ≠ 10) → (unl L).length ≤ k → readF k d f (unl L) = foldR d f L
  | [], k, d, f, _, _ => by
    cases k with
    | zero => rfl
    | succ k =>
      have hc : cutL (unl []) 10 = (unl [], [], false) := S.cutL_none (fun x hx => by cases hx)
      rw [readF, hc, if_neg (by simp)]
      rfl
  | b :: L, k, d, f, h, hk => by
    have hb := h b (List.mem_cons_self ..)
    have hc : cutL (b ++ 10 :: unl L) 10 = (b, unl L, true) := S.cutL_at hb
    rw [unl_cons] at hk ⊢
    obtain ⟨k, rfl⟩ : ∃ j, k = j + 1 := ⟨k - 1, by simp at hk; omega⟩
    rw [foldR, readF, hc, if_pos rfl]
    cases hw : lineF d b f with
    | none => rfl
    | some d' =>
      exact readF_unl L k d' false (fun x hx => h x (List.mem_cons_of_mem _ hx)) (by simp at hk ⊢; omega)
/-- A RIGHT STATE's TEXT IS READ AS IT -/
theorem readF_tx {d : Dt} (h : okD d = true) : ∃ d', readF (txD d).length Dt.zero true (txD d) = some d' ∧ likeD d' d := by
  obtain ⟨d', h1, h2⟩ := foldR_bodies h
  exact ⟨d', by rw [txD_unl, readF_unl _ _ _ _ (bodies_no d) (Nat.le_refl _)]; exact h1, h2⟩
end Go.Proofs.YtmjbacmaafbdlaaGreatDoor.R

/-
  WHAT IS PROVED: the contract of the document's Parse. Condition: a text has at most 100000 bytes.
-/
namespace Go.Proofs.YtmjbacmaafbdlaaGreatDoor.R
open Go.RowKit Go.Lib C

/-! ### what it answers -/
/-- the state whose text it is, as the document's reader finds it -/
def finD (t : List UInt8) : Option Dt → Option Dt
  | some d => if okD d = true ∧ txD d = t then some d else none
  | none => none
def rparseD (t : List UInt8) : Option Dt := finD t (readF t.length Dt.zero true t)
theorem rparse_tx {d : Dt} (h : okD d = true) : ∃ d', rparseD (txD d) = some d' ∧ likeD d' d := by
  obtain ⟨d', h1, h2⟩ := readF_tx h
  refine ⟨d', ?_, h2⟩
  unfold rparseD
  rw [h1]
  show (if okD d' = true ∧ txD d' = txD d then some d' else none) = some d'
  rw [if_pos ⟨by rw [okD_congr h2]; exact h, txD_congr h2⟩]
theorem rparse_sound {t : List UInt8} {d : Dt} (h : rparseD t = some d) : okD d = true ∧ txD d = t := by
  unfold rparseD at h
  generalize readF t.length Dt.zero true t = o at h
  cases o with
  | none => cases h
  | some d0 =>
    rw [finD] at h
    split at h
    · rename_i hc
      injection h with h
      subst h
      exact hc
    · cases h
theorem lineF_len {d x : Dt} {l : List UInt8} {f : Bool} (h : lineF d l f = some x) : x.l.length ≤ d.l.length + 1 := by
  unfold lineF at h
  split at h
  · split at h
    · split at h
      · injection h with h; subst h; simp
      · cases h
    · cases h
  · split at h
    · split at h
      · injection h with h; subst h; simp
      · cases h
    · split at h
      · split at h
        · injection h with h; subst h; simp
        · cases h
      · cases h
theorem ok_zero : okD Dt.zero = false := by
  cases h : okD Dt.zero with
  | false => rfl
  | true =>
    obtain ⟨h1, _⟩ := ok_parts h
    have h1' : 1 ≤ (0 : Int) ∧ (0 : Int) ≤ 4294967296 := h1
    omega
theorem readF_end {m : Nat} {d : Dt} {f : Bool} {t : List UInt8} (h : ∀ x ∈ t, x ≠ 10) : readF m d f t = some d := by
  cases m with
  | zero => rfl
  | succ m => rw [readF, S.cutL_none h, if_neg (by simp)]
theorem readF_line {m : Nat} {d : Dt} {f : Bool} {l r : List UInt8} (h : ∀ x ∈ l, x ≠ 10) : readF (m + 1) d f (l ++ 10 :: r) = (match lineF d l f with
    | some d' => readF m d' false r
    | none => none) := by
  rw [readF, S.cutL_at h, if_pos rfl]
theorem str_get {t : List UInt8} {i : Nat} (h : i < (str t).size) : t[i]? = some (str t)[i] := by
  have : i < t.length := h
  rw [List.getElem?_eq_getElem this]; rfl
theorem byte_no {t : List UInt8} {i : Nat} {k : UInt8} (h : i < (str t).size) (hn : t[i]? ≠ some k) : (((str t)[i].toNat : Int) == (k.toNat : Int)) = false := by
  rw [str_get h] at hn
  rw [beq_eq_false_iff_ne]
  intro e
  apply hn
  congr 1
  exact UInt8.toNat_inj.1 (by omega)
theorem byte_yes {t : List UInt8} {i : Nat} {k : UInt8} (h : i < (str t).size) (hn : t[i]? = some k) : (((str t)[i].toNat : Int) == (k.toNat : Int)) = true := by
  rw [str_get h] at hn
  injection hn with hn
  rw [hn]; simp
/-- the bytes of a text from one place up to another -/
def seg (t : List UInt8) (a b : Nat) : List UInt8 := (t.drop a).take (b - a)
theorem seg_nil (t : List UInt8) (a : Nat) : seg t a a = [] := by unfold seg; simp
theorem seg_snoc {t : List UInt8} {a b : Nat} {c : UInt8} (hab : a ≤ b) (h : t[b]? = some c) : seg t a (b + 1) = seg t a b ++ [c] := by
  unfold seg
  rw [show b + 1 - a = (b - a) + 1 by omega, List.take_add_one, List.getElem?_drop, show a + (b - a) = b by omega, h]
  rfl
theorem seg_split {t : List UInt8} {a b : Nat} {c : UInt8} (hab : a ≤ b) (h : t[b]? = some c) : t.drop a = seg t a b ++ c :: t.drop (b + 1) := by
  have hlt := (List.getElem?_eq_some_iff.1 h).1
  have h1 : (t.drop a).drop (b - a) = c :: t.drop (b + 1) := by
    rw [List.drop_drop, show a + (b - a) = b by omega, List.drop_eq_getElem_cons hlt]
    congr 1
    exact (List.getElem?_eq_some_iff.1 h).2
  have h2 := (List.take_append_drop (b - a) (t.drop a)).symm
  rw [h1] at h2
  exact h2
theorem seg_end {t : List UInt8} {a : Nat} : seg t a t.length = t.drop a := by
  unfold seg
  exact List.take_of_length_le (by rw [List.length_drop]; exact Nat.le_refl _)
theorem seg_len {t : List UInt8} {a b : Nat} (hb : b ≤ t.length) (hab : a ≤ b) : (seg t a b).length = b - a := by
  unfold seg
  rw [List.length_take, List.length_drop]
  omega
/-- a State and whether there is one are handed back -/
def RParseP (o : Option Dt) (w : World) (e : Ending) (w' : World) : Prop :=
  Below w.heap.size w w' ∧ ((∃ d a n cap, o = some d ∧ e = .returned (.tuple #[.agg (stv (mkS d a n cap)), .bool true]) ∧ KnAt w' a n d.l ∧ n ≤ 100001) ∨ (o = none ∧ e = .returned (.tuple #[.agg (stv Sv.zero), .bool false])))
theorem str_seg (t : List UInt8) (a b : Nat) : (str t).extract a b = str (seg t a b) := str_ext2 t a b

set_option maxRecDepth 100000 in
set_option maxHeartbeats 4000000 in
theorem rparse_any (t : List UInt8) (ht : t.length ≤ 100000) (w : World) : Calls Tryz.prog 6 #[.string (str t)] w (RParseP (rparseD t) w) := by
  have hz : (str t).size ≤ 100000 := ht
  have hzs : (str t).size = t.length := str_size t
  have hb1 : Below w.heap.size w (w.alloc (.cells (stv Sv.zero) 36)) := (Below.refl _ w).alloc (Nat.le_refl _) _
  have J1 : Hid (RAt ((w.alloc (.cells (stv Sv.zero) 36)).alloc (.cells (stv Sv.zero) 36)) w.heap.size Sv.zero) := Lib.hid ((RAt.new w Sv.zero).alloc _)
  have J2 : Hid (RAt ((w.alloc (.cells (stv Sv.zero) 36)).alloc (.cells (stv Sv.zero) 36)) (w.heap.size + 1) (mkS Dt.zero none 0 0)) := Lib.hid (show RAt ((w.alloc (.cells (stv Sv.zero) 36)).alloc (.cells (stv Sv.zero) 36)) (w.heap.size + 1) Sv.zero by have := RAt.new (w.alloc (.cells (stv Sv.zero) 36)) Sv.zero; simpa using this)
  have J3 : Hid (Below w.heap.size w ((w.alloc (.cells (stv Sv.zero) 36)).alloc (.cells (stv Sv.zero) 36))) := Lib.hid (hb1.alloc hb1.size _)
  have JS : Hid (w.heap.size + 2 ≤ ((w.alloc (.cells (stv Sv.zero) 36)).alloc (.cells (stv Sv.zero) 36)).heap.size) := Lib.hid (by simp)
  obtain ⟨R, HR⟩ : ∃ R, Hid (rparseD t = R) := ⟨_, Lib.hid rfl⟩
  obtain ⟨R0, HR0⟩ : ∃ R0, Hid (readF t.length Dt.zero true t = R0) := ⟨_, Lib.hid rfl⟩
  have HPD : Hid (R = finD t R0) := Lib.hid (by rw [← HR.out, ← HR0.out]; rfl)
  rw [HR.out]
  clear hb1 HR
  go_enter Tryz.func6, Tryz.ntmps6
  go_wp2_with (first | refine rt_alloc rfl ?_)
  go_loopw [5, 6] (fun ls ks wr => ∃ (k la m : Nat) (d : Dt) (a : Option Addr) (n cap : Nat), k ≤ t.length ∧ la ≤ k ∧ ls = .int .i64 la ∧ ks = .int .i64 k ∧ Hid (∀ x ∈ seg t la k, x ≠ 10) ∧ Hid (R0 = readF m d (decide (la = 0)) (t.drop la)) ∧ t.length - la ≤ m ∧ n ≤ la ∧ Hid (la = 0 → d = Dt.zero) ∧ Hid (RAt wr w.heap.size Sv.zero) ∧ Hid (RAt wr (w.heap.size + 1) (mkS d a n cap)) ∧ Hid (Below w.heap.size w wr) ∧ Hid (w.heap.size + 2 ≤ wr.heap.size) ∧ Hid (wr.ownsRow (w.heap.size + 2) 60 3 (.slice a n cap) n (flatK d.l))) (fun _ k _ => t.length - (RowKit.intOf k).toNat)
  case atStart =>
    exact ⟨0, 0, t.length, Dt.zero, none, 0, 0, by omega, by omega, rfl, rfl, Lib.hid (by rw [seg_nil]; intro x hx; cases hx), Lib.hid (HR0.out.symm), by omega, by omega, Lib.hid (fun _ => rfl), J1, J2, J3, JS, Lib.hid ⟨rfl, .inl ⟨rfl, rfl⟩⟩⟩
  case round =>
    clear J1 J2 J3 JS
    obtain ⟨w2, rfl⟩ : ∃ w2, w2 = wr := ⟨_, rfl⟩
    obtain ⟨k, la, m, d, a, n, cap, hk, hla, rfl, rfl, HN, HRD, hm, hnl, HZ, K1, K2, K3, KS, KO⟩ := hrel
    by_cases hlt : k < t.length
    · have hks : k < (str t).size := hlt
      have d1 : decide (k < (str t).size) = true := by rw [decide_eq_true_eq]; exact hks
      by_cases h10 : t[k]? = some 10
      · have q10 : (((str t)[k].toNat : Int) == 10) = true := byte_yes hks h10
        have HSP := Lib.hid (seg_split hla h10)
        have hsl : (seg t la k).length = k - la := seg_len hk hla
        obtain ⟨m, rfl⟩ : ∃ j, m = j + 1 := ⟨m - 1, by omega⟩
        have HL : Hid (R0 = match lineF d (seg t la k) (decide (la = 0)) with
            | some d' => readF m d' false (t.drop (k + 1))
            | none => none) := Lib.hid (by rw [HRD.out, HSP.out, readF_line HN.out])
        have HSE := Lib.hid (str_seg t la k)
        obtain ⟨f, HF, q0⟩ : ∃ f, Hid (decide (la = 0) = f) ∧ ((la : Int) == 0) = f := ⟨_, Lib.hid rfl, by
          by_cases h : la = 0
          · subst h; rfl
          · rw [decide_eq_false h, beq_eq_false_iff_ne]; omega⟩
        rw [HF.out] at HL
        have hx := HSE.out
        generalize seg t la k = sg at *
        have i1 : (la : Int) ≤ (k : Int) := by omega
        have i2 : (k : Int) ≤ ((str t).size : Int) := by omega
        obtain ⟨o, HO⟩ : ∃ o, Hid (lineF d sg f = o) := ⟨_, Lib.hid rfl⟩
        rw [HO.out] at HL
        clear h10 hlt
        go_wp2_with (fail)
        refine (line_any d a n cap (w.heap.size + 1) (w.heap.size + 2) sg f (by omega) w2 K2.out (by omega) KS.out (by omega) KO.out).mono ?_
        rw [HO.out]
        rintro e w3 ⟨hb3, d', a', n', cap', rfl, hd', hn', hs', hown'⟩
        have M1 := Lib.hid (K1.out.below hb3 (by omega))
        have M2 := Lib.hid hs'
        have M3 := Lib.hid (K3.out.trans (hb3.mono (by omega)))
        have MS : Hid (w.heap.size + 2 ≤ w3.heap.size) := Lib.hid (Nat.le_trans KS.out hb3.size)
        have MO := Lib.hid hown'
        clear hb3 hs' hown'
        cases o with
        | none =>
          have HX : Hid (R = none) := Lib.hid (by rw [HPD.out, HL.out]; rfl)
          simp only [Option.isSome_none]
          go_wp2_with (first | (refine rt_build rfl ?_) | (refine rt_store (b := w.heap.size) (s := Sv.zero) (u := Sv.zero) rfl rfl M1.out rfl ?_))
          exact bodyPost_ret (results_rt rfl _ _ w.heap.size _ rfl (M1.out.store _)) rfl ⟨below_row M3.out (Nat.le_refl _) _, .inr ⟨HX.out, rfl⟩⟩
        | some x =>
          obtain rfl := hd' x rfl
          have hnx : n' ≤ n + 1 := by
            have h1 := lineF_len HO.out
            have h2 := MO.out.1
            have h3 := KO.out.1
            rw [flat_len] at h2 h3
            omega
          simp only [Option.isSome_some]
          go_wp2
          go_roundw
          case rel => exact ⟨k + 1, k + 1, m, x, a', n', cap', by omega, by omega, by go_num, by go_num, Lib.hid (by rw [seg_nil]; intro x hx; cases hx), Lib.hid (by rw [show decide (k + 1 = 0) = false from decide_eq_false (by omega)]; exact HL.out), by omega, by omega, Lib.hid (fun h => absurd h (by omega)), M1, M2, M3, MS, MO⟩
          case measure => simp [RowKit.intOf]; omega
      · have q10 : (((str t)[k].toNat : Int) == 10) = false := byte_no hks h10
        have HN2 : Hid (∀ x ∈ seg t la (k + 1), x ≠ 10) := Lib.hid (by
          obtain ⟨c, hc⟩ : ∃ c, t[k]? = some c := ⟨_, List.getElem?_eq_getElem hlt⟩
          rw [seg_snoc hla hc]
          intro x hx
          rcases List.mem_append.1 hx with hx | hx
          · exact HN.out x hx
          · simp at hx; subst hx; intro e; subst e; exact h10 hc)
        clear h10 hlt
        go_wp2
        go_roundw
        case rel => exact ⟨k + 1, la, m, d, a, n, cap, by omega, by omega, rfl, by go_num, HN2, HRD, hm, hnl, HZ, K1, K2, K3, KS, KO⟩
        case measure => simp [RowKit.intOf]; omega
    · obtain rfl : k = t.length := by omega
      have d1 : decide (t.length < (str t).size) = false := by rw [decide_eq_false_iff_not]; omega
      have HE : Hid (R = if okD d = true ∧ txD d = t then some d else none) := Lib.hid (by
        have h1 : R0 = some d := by rw [HRD.out]; exact readF_end (by rw [← seg_end]; exact HN.out)
        rw [HPD.out, h1]; rfl)
      have hdl : d.l.length = n := by have := KO.out.1; rw [flat_len] at this; omega
      have KK := Lib.hid (kn_of_own KO.out)
      clear hlt
      by_cases h0 : la = 0
      · have HX : Hid (R = none) := Lib.hid (by rw [HE.out, HZ.out h0, if_neg (fun h => by rw [ok_zero] at h; cases h.1)])
        subst h0
        go_wp2_with (first | (refine rt_build rfl ?_) | (refine rt_store (b := w.heap.size) (s := Sv.zero) (u := Sv.zero) rfl rfl K1.out rfl ?_))
        exact bodyPost_ret (results_rt rfl _ _ w.heap.size _ rfl (K1.out.store _)) rfl ⟨below_row K3.out (Nat.le_refl _) _, .inr ⟨HX.out, rfl⟩⟩
      · have q0 : ((la : Int) == 0) = false := by rw [beq_eq_false_iff_ne]; omega
        obtain ⟨b, HB⟩ : ∃ b, Hid (okD d = b) := ⟨_, Lib.hid rfl⟩
        have HRT : Hid (∀ w', KnAt w' a n d.l → Calls Tryz.prog 14 #[.agg (stv (mkS d a n cap))] w' (Says b w')) := Lib.hid fun w' hk' => by
          rw [← HB.out, ← okD_eq d a n cap hdl]
          exact rright_any (mkS d a n cap) d.l w' hk' (by show n ≤ _; omega)
        cases b with
        | false =>
          have HX : Hid (R = none) := Lib.hid (by rw [HE.out, HB.out]; simp)
          go_wp2_with (first | ((with_reducible refine rt_load (b := w.heap.size + 1) (s := mkS d a n cap) ?_ ?_ ?_ ?_); (rfl); (with_reducible exact K2.out); (rfl)))
          refine (HRT.out _ KK.out).mono ?_
          rintro e w3 ⟨rfl, hb3⟩
          have M1 := Lib.hid (K1.out.later hb3)
          have M3 := Lib.hid (K3.out.trans (hb3.mono (by have := KS.out; omega)))
          clear hb3
          go_wp2_with (first | (refine rt_build rfl ?_) | (refine rt_store (b := w.heap.size) (s := Sv.zero) (u := Sv.zero) rfl rfl M1.out rfl ?_))
          exact bodyPost_ret (results_rt rfl _ _ w.heap.size _ rfl (M1.out.store _)) rfl ⟨below_row M3.out (Nat.le_refl _) _, .inr ⟨HX.out, rfl⟩⟩
        | true =>
          go_wp2_with (first | ((with_reducible refine rt_load (b := w.heap.size + 1) (s := mkS d a n cap) ?_ ?_ ?_ ?_); (rfl); (with_reducible exact K2.out); (rfl)))
          refine (HRT.out _ KK.out).mono ?_
          rintro e w3 ⟨rfl, hb3⟩
          have M1 := Lib.hid (K1.out.later hb3)
          have M2 := Lib.hid (K2.out.later hb3)
          have M3 := Lib.hid (K3.out.trans (hb3.mono (by have := KS.out; omega)))
          have MK := Lib.hid (KK.out.below hb3)
          have MS : Hid (w.heap.size + 2 ≤ w3.heap.size) := Lib.hid (Nat.le_trans KS.out hb3.size)
          have MO := Lib.hid (own_below KO.out hb3)
          clear hb3
          go_wp2_with (first | ((with_reducible refine rt_load (b := w.heap.size + 1) (s := mkS d a n cap) ?_ ?_ ?_ ?_); (rfl); (with_reducible exact M2.out); (rfl)))
          refine (rtext_any d a n cap _ MK.out HB.out).mono ?_
          rintro e w4 ⟨rfl, hb4⟩
          have N1 := Lib.hid (M1.out.later hb4)
          have N2 := Lib.hid (M2.out.later hb4)
          have N3 := Lib.hid (M3.out.trans (hb4.mono (by have := MS.out; omega)))
          have NO := Lib.hid (own_below MO.out hb4)
          have NS : Hid (w.heap.size + 2 ≤ w4.heap.size) := Lib.hid (Nat.le_trans MS.out hb4.size)
          clear hb4
          by_cases htx : txD d = t
          · have HX : Hid (R = some d) := Lib.hid (by rw [HE.out, HB.out, if_pos ⟨rfl, htx⟩])
            have hq : ((str (txD d)).toList == (str t).toList) = true := by rw [str_toList, str_toList, htx]; simp
            have hq2 : ((str (txD d)).toList != (str t).toList) = false := by rw [str_toList, str_toList, htx]; simp
            clear htx
            go_wp2_with (first | ((with_reducible refine rt_load (b := w.heap.size + 1) (s := mkS d a n cap) ?_ ?_ ?_ ?_); (rfl); (with_reducible exact N2.out); (rfl)) | (refine rt_store (b := w.heap.size) (s := Sv.zero) (u := mkS d a n cap) rfl rfl N1.out rfl ?_))
            exact bodyPost_ret (results_rt rfl _ _ w.heap.size _ rfl (N1.out.store _)) rfl ⟨below_row N3.out (Nat.le_refl _) _, .inl ⟨d, a, n, cap, HX.out, rfl, kn_row_far2 (kn_of_own NO.out) (fun ad e => by have := own_low NO.out ad e; omega), by omega⟩⟩
          · have HX : Hid (R = none) := Lib.hid (by rw [HE.out, if_neg (fun h => htx h.2)])
            have hq : ((str (txD d)).toList == (str t).toList) = false := by rw [str_toList, str_toList]; simpa using htx
            have hq2 : ((str (txD d)).toList != (str t).toList) = true := by rw [str_toList, str_toList]; simpa using htx
            clear htx
            go_wp2_with (first | (refine rt_build rfl ?_) | (refine rt_store (b := w.heap.size) (s := Sv.zero) (u := Sv.zero) rfl rfl N1.out rfl ?_))
            exact bodyPost_ret (results_rt rfl _ _ w.heap.size _ rfl (N1.out.store _)) rfl ⟨below_row N3.out (Nat.le_refl _) _, .inr ⟨HX.out, rfl⟩⟩
end Go.Proofs.YtmjbacmaafbdlaaGreatDoor.R
