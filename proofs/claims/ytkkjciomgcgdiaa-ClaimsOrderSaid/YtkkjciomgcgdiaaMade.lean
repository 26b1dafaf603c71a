/-
  WHAT IS PROVED: contracts of the law ClaimsOrder's own functions: are claims' epochs unlike; the table behind claims. Condition: none.
-/
import Derived.Test.YtkkjciomgcgdiaaCls
import Derived.Test.YtkkjciomgcgdiaaClaim
import Derived.Laws.RangeAny
namespace Go.Proofs.Ytkkjciomgcgdiaa
open Go.RowKit

/-- a claim of an id, with an epoch above 0 -/
def fineB (c : Cl) : Bool := idB c.id && decide (1 ≤ c.ep ∧ c.ep ≤ 281474976710656)
theorem fine_iff {c : Cl} : fineB c = true ↔ (1 ≤ c.id ∧ c.id ≤ 4294967296) ∧ 1 ≤ c.ep ∧ c.ep ≤ 281474976710656 := by unfold fineB idB; rw [Bool.and_eq_true, bet_iff, decide_eq_true_eq]
/-- is a claim's epoch none of those of others -/
def newB (c : Cl) (l : List Cl) : Bool := l.all fun d => decide (c.ep ≠ d.ep)
def unlikeTo : List Cl → Nat → Bool
  | _, 0 => true
  | l, k + 1 => unlikeTo l k && (match l[k]? with | some c => fineB c && newB c (l.take k) | none => true)
def unlikeB (l : List Cl) : Bool := unlikeTo l l.length
theorem unlike_iff (l : List Cl) : ∀ k, unlikeTo l k = true ↔ ∀ i c, i < k → l[i]? = some c → fineB c = true ∧ newB c (l.take i) = true
  | 0 => by simp [unlikeTo]
  | k + 1 => by
    unfold unlikeTo
    rw [Bool.and_eq_true, unlike_iff l k]
    constructor
    · rintro ⟨h1, h2⟩ i c hi hc
      rcases Nat.lt_or_ge i k with h | h
      · exact h1 i c h hc
      · obtain rfl : i = k := by omega
        rw [hc] at h2
        simpa using h2
    · intro h
      refine ⟨fun i c hi hc => h i c (by omega) hc, ?_⟩
      cases e : l[k]? with
      | none => rfl
      | some c => have := h k c (by omega) e; simp [this]
theorem new_iff {c : Cl} {l : List Cl} : newB c l = true ↔ ∀ d ∈ l, c.ep ≠ d.ep := by unfold newB; simp [List.all_eq_true]
/-- of claims of unlike epochs two with one epoch are one -/
theorem unlike_one {l : List Cl} (h : unlikeB l = true) {c d : Cl} (hc : c ∈ l) (hd : d ∈ l) (e : c.ep = d.ep) : c = d := by
  have h' := (unlike_iff l l.length).1 h
  obtain ⟨i, hi, rfl⟩ := List.getElem_of_mem hc
  obtain ⟨j, hj, rfl⟩ := List.getElem_of_mem hd
  rcases Nat.lt_trichotomy i j with hij | rfl | hij
  · have := new_iff.1 (h' j l[j] hj (List.getElem?_eq_getElem hj)).2 l[i] (List.mem_take_iff_getElem.2 ⟨i, by omega, rfl⟩)
    exact absurd e.symm this
  · rfl
  · have := new_iff.1 (h' i l[i] hi (List.getElem?_eq_getElem hi)).2 l[j] (List.mem_take_iff_getElem.2 ⟨j, by omega, rfl⟩)
    exact absurd e this
theorem unlike_fine {l : List Cl} (h : unlikeB l = true) {c : Cl} (hc : c ∈ l) : fineB c = true := by
  obtain ⟨i, hi, rfl⟩ := List.getElem_of_mem hc
  exact ((unlike_iff l l.length).1 h i _ hi (List.getElem?_eq_getElem hi)).1

/-- the table behind claims -/
def madeT (l : List Cl) : Tab := l.foldl (fun t c => claimP t c.id c.ep c.s.testBit) Tab.zero
theorem made_snoc (l : List Cl) (c : Cl) : madeT (l ++ [c]) = claimP (madeT l) c.id c.ep c.s.testBit := by simp [madeT]
theorem zero_ok : okB Tab.zero = true := by decide +kernel
theorem made_ok {l : List Cl} : (∀ c ∈ l, fineB c = true) → okB (madeT l) = true := by
  suffices h : ∀ k, k ≤ l.length → (∀ c ∈ l, fineB c = true) → okB (madeT (l.take k)) = true by
    intro hf
    have := h l.length (Nat.le_refl _) hf
    rwa [List.take_length] at this
  intro k
  induction k with
  | zero => intro _ _; rw [List.take_zero]; exact zero_ok
  | succ k ih =>
    intro hk hf
    have e : l.take (k + 1) = l.take k ++ [l[k]] := by rw [List.take_add_one, List.getElem?_eq_getElem (by omega)]; rfl
    rw [e, made_snoc]
    have h2 := fine_iff.1 (hf l[k] (List.getElem_mem _))
    exact claim_ok (good_iff.2 ⟨ih (by omega) hf, h2.1, by omega, h2.2.2⟩)
theorem made_good {l : List Cl} {k : Nat} {c : Cl} (hf : ∀ c ∈ l, fineB c = true) (hc : l[k]? = some c) : goodB (madeT (l.take k)) c.id c.ep = true := by
  have h2 := fine_iff.1 (hf c (List.mem_of_getElem? hc))
  exact good_iff.2 ⟨made_ok fun d hd => hf d (List.mem_of_mem_take hd), h2.1, by omega, h2.2.2⟩
theorem cl_snoc {l : List Cl} {k : Nat} {m : Cl} (h : l[k]? = some m) : l.take (k + 1) = l.take k ++ [m] := by
  rw [List.take_add_one, h]; rfl

set_option maxRecDepth 100000 in
set_option maxHeartbeats 2000000 in
theorem made_any (A : Option Addr) (n c : Nat) (l : List Cl) (W : World) (hnc : n ≤ c) (hc : c ≤ 9223372036854775807) (hr : ClsAt W A n l) (hs : ∀ s ∈ l, s.fits) (hf : ∀ c ∈ l, fineB c = true) :
    Calls Try.prog 25 #[.slice A n c] W fun e w' => e = .returned (.agg (tb (madeT l))) ∧ Below W.heap.size W w' := by
  have hl := hr.1
  have HL := Lib.hid hl
  have HR0 := Lib.hid hr
  have HF := Lib.hid hf
  have HSF := Lib.hid hs
  have HT : Hid (TabAt ((W.alloc (.cells (tb Tab.zero) 24)).alloc (.cells (tb Tab.zero) 24)) W.heap.size Tab.zero) := Lib.hid ((TabAt.new W Tab.zero).alloc _)
  have hT2 : TabAt ((W.alloc (.cells (tb Tab.zero) 24)).alloc (.cells (tb Tab.zero) 24)) (W.heap.size + 1) Tab.zero := by
    have := TabAt.new (W.alloc (.cells (tb Tab.zero) 24)) Tab.zero
    simpa using this
  have HT2 := Lib.hid hT2
  have HB : Hid (Below W.heap.size W ((W.alloc (.cells (tb Tab.zero) 24)).alloc (.cells (tb Tab.zero) 24))) := ((Below.refl W.heap.size W).alloc (Nat.le_refl _) _).alloc (by simp) _
  clear hl hr hf hs hT2
  go_enter Try.func25, Try.ntmps25
  go_wp2_with (refine at_alloc rfl ?_)
  go_loopw [8] (fun i wr => ∃ k : Nat, k ≤ n ∧ i = .int .i64 k ∧ Hid (Below W.heap.size W wr) ∧ Hid (TabAt wr W.heap.size Tab.zero) ∧ Hid (TabAt wr (W.heap.size + 1) (madeT (l.take k)))) (fun i _ => n - (intOf i).toNat)
  case atStart => exact ⟨0, by omega, rfl, HB, HT, HT2⟩
  case round =>
    obtain ⟨k, hk, rfl, hb, hT, hU⟩ := hrel
    by_cases hlt : k < n
    · obtain ⟨ad, r, rfl, hr0, hlt2, c0, c1, c2⟩ := (HR0.out.below hb.out).at_ hlt
      have HR1 := Lib.hid hr0
      have HS := Lib.hid (cl_snoc hr0)
      have HMS := Lib.hid (made_snoc (l.take k) r)
      have hB := hb.out.size
      have HCL := Lib.hid (claim_yes (madeT (l.take k)) r.id r.ep r.s (HSF.out r (List.mem_of_getElem? hr0)) (made_good HF.out hr0))
      generalize madeT (l.take k) = T at *
      generalize claimP T r.id r.ep r.s.testBit = T2 at *
      clear hr0
      have hU2 : TabAt (wr.alloc (.cells #[.int .i64 r.id, .int .i64 r.ep, .int .u64 (r.s : Int)] 28)) (W.heap.size + 1) T := hU.out.alloc _
      have HU2 := Lib.hid hU2
      have HT3 := Lib.hid (hT.out.alloc (.cells #[.int .i64 r.id, .int .i64 r.ep, .int .u64 (r.s : Int)] 28))
      have HB3 := Lib.hid (below_new hb.out hB (.cells #[.int .i64 r.id, .int .i64 r.ep, .int .u64 (r.s : Int)] 28))
      clear hU2
      go_wp2_with (refine at_load rfl HU2.out rfl ?_)
      refine (HCL.out _).mono ?_
      rintro e w3 ⟨rfl, hb3⟩
      have HU4 := Lib.hid (HU2.out.later hb3)
      have HT4 := Lib.hid (HT3.out.later hb3)
      have HB4 := Lib.hid (HB3.out.trans (hb3.mono HB3.out.size))
      clear hb3
      go_wp2_with (refine at_store rfl rfl HU4.out rfl ?_)
      go_roundw
      case rel => exact ⟨k + 1, by omega, by go_num, Lib.hid (below_row HB4.out (Nat.le_succ _) _), Lib.hid (HT4.out.row_far (by omega) _), Lib.hid (by rw [HS.out, HMS.out]; exact HU4.out.store _)⟩
      case measure => simp [intOf]; omega
    · obtain rfl : k = n := by omega
      have e : l.take k = l := List.take_of_length_le (by rw [HL.out]; omega)
      rw [e] at hU
      clear e
      go_wp2_with (first | refine at_load rfl hU.out rfl ?_ | refine at_store rfl rfl hT.out rfl ?_)
      exact bodyPost_ret (results_tab rfl _ _ W.heap.size _ rfl (hT.out.store _)) rfl ⟨rfl, below_row hb.out (Nat.le_refl _) _⟩

theorem unlike_no {l : List Cl} {k : Nat} {c : Cl} (hc : l[k]? = some c) (h : (fineB c && newB c (l.take k)) = false) : unlikeB l = false := by
  cases e : unlikeB l with
  | false => rfl
  | true =>
    have hk := (List.getElem?_eq_some_iff.1 hc).1
    have := (unlike_iff l l.length).1 e k c hk hc
    rw [this.1, this.2] at h; cases h
theorem unlike_next {l : List Cl} {k : Nat} {c : Cl} (hc : l[k]? = some c) (h : unlikeTo l k = true) (h1 : fineB c = true) (h2 : newB c (l.take k) = true) : unlikeTo l (k + 1) = true := by
  unfold unlikeTo; rw [h, hc, Bool.true_and]; simp only [h1, h2, Bool.and_true]
theorem fine_cases (c : Cl) : (idB c.id = false ∧ fineB c = false) ∨ (idB c.id = true ∧ decide (c.ep < 1) = true ∧ fineB c = false) ∨ (idB c.id = true ∧ decide (c.ep < 1) = false ∧ decide (281474976710656 < c.ep) = true ∧ fineB c = false) ∨
    (idB c.id = true ∧ decide (c.ep < 1) = false ∧ decide (281474976710656 < c.ep) = false ∧ fineB c = true) := by
  unfold fineB
  cases idB c.id
  · exact .inl ⟨rfl, rfl⟩
  · rw [Bool.true_and]
    simp only [decide_eq_true_eq, decide_eq_false_iff_not, Bool.true_eq_false, false_and, true_and, false_or]
    omega

set_option maxRecDepth 100000 in
set_option maxHeartbeats 2000000 in
theorem unlike_any (A : Option Addr) (n c : Nat) (l : List Cl) (W : World) (hnc : n ≤ c) (hc : c ≤ 9223372036854775807) (hr : ClsAt W A n l) :
    Calls Try.prog 24 #[.slice A n c] W (Says (unlikeB l) W) := by
  have hl := hr.1
  have HL := Lib.hid hl
  have HR0 := Lib.hid hr
  have HY : Hid (unlikeTo l n = true → unlikeB l = true) := Lib.hid (by unfold unlikeB; rw [hl]; exact id)
  clear hl hr
  go_enter Try.func24, Try.ntmps24
  go_wp2
  go_loopw [9] (fun i wr => ∃ k : Nat, k ≤ n ∧ i = .int .i64 k ∧ Hid (Below W.heap.size W wr) ∧ Hid (unlikeTo l k = true)) (fun i _ => n - (intOf i).toNat)
  case atStart => exact ⟨0, by omega, rfl, Lib.hid (Below.refl _ _), rfl⟩
  case round =>
    obtain ⟨k, hk, rfl, hb, hun⟩ := hrel
    by_cases hlt : k < n
    · obtain ⟨ad, r, rfl, hr0, hlt2, c0, c1, c2⟩ := (HR0.out.below hb.out).at_ hlt
      have HR1 := Lib.hid hr0
      have hB := hb.out.size
      have HB3 := Lib.hid (below_new hb.out hB (.cells #[.int .i64 r.id, .int .i64 r.ep, .int .u64 (r.s : Int)] 28))
      have HX3 := Lib.hid (Bx.new wr r)
      have HFC := Lib.hid (fine_cases r)
      have HNO := Lib.hid (fun h => unlike_no (l := l) hr0 h)
      obtain ⟨e0, e1, e2⟩ := HX3.out.box
      clear hr0
      go_wp2_with (fail)
      refine (lawid_any _ _).mono ?_
      rintro e w2 ⟨rfl, rfl⟩
      rcases HFC.out with ⟨h1, h2⟩ | ⟨h1, h3, h2⟩ | ⟨h1, h3, h4, h2⟩ | ⟨h1, h3, h4, h2⟩
      · have h1' : betB 1 4294967296 r.id = false := h1
        rw [h1']
        have HF := Lib.hid (HNO.out (by rw [h2]; rfl))
        clear h1 h1' h2 HFC HNO
        go_wp2
        go_ret
        exact ⟨by rw [HF.out]; rfl, HB3.out⟩
      · have h1' : betB 1 4294967296 r.id = true := h1
        rw [h1']
        have HF := Lib.hid (HNO.out (by rw [h2]; rfl))
        clear h1 h1' h2 HFC HNO
        go_wp2
        go_ret
        exact ⟨by rw [HF.out]; rfl, HB3.out⟩
      · have h1' : betB 1 4294967296 r.id = true := h1
        rw [h1']
        have HF := Lib.hid (HNO.out (by rw [h2]; rfl))
        clear h1 h1' h2 HFC HNO
        go_wp2
        go_ret
        exact ⟨by rw [HF.out]; rfl, HB3.out⟩
      · have h1' : betB 1 4294967296 r.id = true := h1
        rw [h1']
        have HF := Lib.hid h2
        have hk0 : (0 : Int) ≤ k := by omega
        have hk1 : (k : Int) ≤ c := by omega
        clear h1 h1' h2 HFC
        go_wp2
        have HRK := Lib.hid (((HR0.out.below hb.out).below ((Below.refl wr.heap.size wr).alloc (Nat.le_refl _) (.cells #[.int .i64 r.id, .int .i64 r.ep, .int .u64 (r.s : Int)] 28))).take hk)
        have HGO := Lib.hid (fun h2 => unlike_next HR1.out hun.out HF.out h2)
        generalize wr.alloc (.cells #[.int .i64 r.id, .int .i64 r.ep, .int .u64 (r.s : Int)] 28) = w2 at *
        clear e0 e1 e2 c0 c1 c2 hb
        go_loopw [32] (fun i wr' => ∃ j : Nat, j ≤ k ∧ i = .int .i64 j ∧ Hid (Below w2.heap.size w2 wr') ∧ Hid (∀ d, d ∈ (l.take k).take j → r.ep ≠ d.ep)) (fun i _ => k - (intOf i).toNat)
        case atStart => exact ⟨0, by omega, rfl, Lib.hid (Below.refl _ _), Lib.hid (fun d hd => by simp at hd)⟩
        case round =>
          obtain ⟨j, hj, rfl, hb', hall⟩ := hrel
          by_cases hjk : j < k
          · obtain ⟨ad', d, e', hd0, hlt3, d0, d1, d2⟩ := (HRK.out.below hb'.out).at_ hjk
            injection e' with e'
            subst e'
            have HBX := Lib.hid (HX3.out.later hb'.out)
            obtain ⟨f0, f1, f2⟩ := (HBX.out.alloc (.cells #[.int .i64 d.id, .int .i64 d.ep, .int .u64 (d.s : Int)] 28)).box
            have HD := Lib.hid hd0
            have HB9 := Lib.hid (below_new hb'.out hb'.out.size (.cells #[.int .i64 d.id, .int .i64 d.ep, .int .u64 (d.s : Int)] 28))
            clear hd0
            by_cases heq : r.ep = d.ep
            · have hq : (r.ep == d.ep) = true := by simpa using heq
              have HF2 := Lib.hid (HNO.out (by
                cases h : newB r (l.take k) with
                | false => simp
                | true => exact absurd heq (new_iff.1 h d (List.mem_of_getElem? HD.out))))
              have HB8 := Lib.hid (HB3.out.trans (HB9.out.mono HB3.out.size))
              clear heq
              go_wp2
              go_ret
              exact ⟨by rw [HF2.out]; rfl, HB8.out⟩
            · have hq : (r.ep == d.ep) = false := by simpa using heq
              have HA : Hid (∀ d', d' ∈ (l.take k).take (j + 1) → r.ep ≠ d'.ep) := Lib.hid (fun d' hd' => by
                rw [cl_snoc HD.out] at hd'
                rcases List.mem_append.1 hd' with h | h
                · exact hall.out d' h
                · simp at h; subst h; exact heq)
              clear heq
              go_wp2
              go_roundw
              case rel => exact ⟨j + 1, by omega, by go_num, HB9, HA⟩
              case measure => simp [intOf]; omega
          · obtain rfl : j = k := by omega
            have HN := Lib.hid (HGO.out (new_iff.2 (fun d hd => hall.out d (by rw [List.take_of_length_le (by rw [List.length_take]; omega)]; exact hd))))
            have HB9 := Lib.hid (HB3.out.trans (hb'.out.mono HB3.out.size))
            clear hun hall
            go_wp2
            go_roundw
            case rel => exact ⟨j + 1, by omega, by go_num, HB9, HN⟩
            case measure => simp [intOf]; omega
    · obtain rfl : k = n := by omega
      have HU := Lib.hid (HY.out hun.out)
      clear hun
      go_wp2
      go_ret
      exact ⟨by rw [HU.out]; rfl, hb.out⟩
end Go.Proofs.Ytkkjciomgcgdiaa
