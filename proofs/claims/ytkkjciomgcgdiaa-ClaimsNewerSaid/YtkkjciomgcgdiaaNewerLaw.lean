/-
  WHAT IS PROVED: the law ClaimsNewer answers true for all arguments, which read behind the call as before it (the one who is told to be newer is another one, has one of the slots with a greater epoch, and is the lowest such one). No condition beyond those of the given row.
-/
import Derived.Test.YtkkjciomgcgdiaaAnchor
import Derived.Test.YtkkjciomgcgdiaaNewer
import Derived.Test.YtkkjciomgcgdiaaQuiet
import Derived.Test.YtkkjciomgcgdiaaArgs
namespace Go.Proofs.Ytkkjciomgcgdiaa
open Go.RowKit Go.Lib

def IsLow (t : Tab) (id ep : Int) (l : List Nat) (x : Int) : Prop :=
  (x = 0 ∧ ∀ i ∈ l, candB t id ep i = false) ∨ (∃ i ∈ l, candB t id ep i = true ∧ x = t.o i ∧ ∀ j ∈ l, candB t id ep j = true → t.o i ≤ t.o j)
theorem isLow_snoc {t : Tab} {id ep : Int} {l : List Nat} {x : Int} {m : Nat} (h : IsLow t id ep l x) : IsLow t id ep (l ++ [m]) (lowStep t id ep x m) := by
  unfold lowStep
  by_cases hc : candB t id ep m = true
  · have hm0 : t.o m ≠ 0 := (cand_iff.1 hc).2.1
    by_cases hx : x = 0 ∨ t.o m < x
    · rw [if_pos ⟨hc, hx⟩]
      refine .inr ⟨m, by simp, hc, rfl, fun j hj hcj => ?_⟩
      rcases mem_snoc.1 hj with hj | rfl
      · rcases h with ⟨_, h2⟩ | ⟨i, hi, hci, rfl, h3⟩
        · rw [h2 j hj] at hcj; cases hcj
        · have := h3 j hj hcj
          have := (cand_iff.1 hci).2.1
          omega
      · omega
    · rw [if_neg (fun h' => hx h'.2)]
      rcases h with ⟨h1, _⟩ | ⟨i, hi, hci, rfl, h3⟩
      · exact absurd (.inl h1) hx
      · refine .inr ⟨i, mem_snoc.2 (.inl hi), hci, rfl, fun j hj hcj => ?_⟩
        rcases mem_snoc.1 hj with hj | rfl
        · exact h3 j hj hcj
        · omega
  · have hc' : candB t id ep m = false := by simpa using hc
    rw [if_neg (fun h' => hc h'.1)]
    rcases h with ⟨h1, h2⟩ | ⟨i, hi, hci, h1, h3⟩
    · refine .inl ⟨h1, fun j hj => ?_⟩
      rcases mem_snoc.1 hj with hj | rfl
      · exact h2 j hj
      · exact hc'
    · refine .inr ⟨i, mem_snoc.2 (.inl hi), hci, h1, fun j hj hcj => ?_⟩
      rcases mem_snoc.1 hj with hj | rfl
      · exact h3 j hj hcj
      · rw [hc'] at hcj; cases hcj
theorem isLow_all (t : Tab) (id ep : Int) (l : List Nat) : IsLow t id ep l (lowL t id ep l) := by
  suffices h : ∀ k, k ≤ l.length → IsLow t id ep (l.take k) (lowL t id ep (l.take k)) by
    have := h l.length (Nat.le_refl _)
    rwa [List.take_length] at this
  intro k
  induction k with
  | zero => intro _; exact .inl ⟨rfl, fun i hi => by simp at hi⟩
  | succ k ih =>
    intro hk
    rw [take_snoc (List.getElem?_eq_getElem (show k < l.length by omega)), lowL_snoc]
    exact isLow_snoc (ih (by omega))
theorem low_same {t : Tab} {id ep : Int} {l m : List Nat} (h : ∀ i, i ∈ l ↔ i ∈ m) : lowL t id ep l = lowL t id ep m := by
  rcases isLow_all t id ep l with ⟨h1, h2⟩ | ⟨i, hi, hci, h1, h3⟩
  · rcases isLow_all t id ep m with ⟨h4, _⟩ | ⟨j, hj, hcj, _, _⟩
    · rw [h1, h4]
    · rw [h2 j ((h j).2 hj)] at hcj; cases hcj
  · rcases isLow_all t id ep m with ⟨_, h5⟩ | ⟨j, hj, hcj, h4, h5⟩
    · rw [h5 i ((h i).1 hi)] at hci; cases hci
    · have a := h3 j ((h j).2 hj) hcj
      have b := h5 i ((h i).1 hi) hci
      omega
/-- the slots of a set from 63 down, j of them looked at -/
def dn (s : Nat) : Nat → List Nat
  | 0 => []
  | j + 1 => if s.testBit (63 - j) = true then dn s j ++ [63 - j] else dn s j
theorem dn_mem (s : Nat) : ∀ j, j ≤ 64 → ∀ i, i ∈ dn s j ↔ 64 - j ≤ i ∧ i < 64 ∧ s.testBit i = true
  | 0, _, i => by simp [dn]; omega
  | j + 1, hj, i => by
    have ih := dn_mem s j (by omega) i
    unfold dn
    by_cases h : s.testBit (63 - j) = true
    · rw [if_pos h, mem_snoc, ih]
      constructor
      · rintro (h' | rfl)
        · exact ⟨by omega, h'.2⟩
        · exact ⟨by omega, by omega, h⟩
      · intro h'
        by_cases e : i = 63 - j
        · exact .inr e
        · exact .inl ⟨by omega, h'.2⟩
    · rw [if_neg h, ih]
      constructor
      · intro h'; exact ⟨by omega, h'.2⟩
      · intro h'
        refine ⟨?_, h'.2⟩
        by_cases e : i = 63 - j
        · rw [e] at h'; exact absurd h'.2.2 h
        · omega
theorem dn_all {t : Tab} {id ep : Int} {s : Nat} : lowL t id ep (dn s 64) = lowL t id ep (slotsTo s 64) :=
  low_same fun i => by rw [dn_mem s 64 (Nat.le_refl _), slotsTo_mem]; simp
theorem dn_step (t : Tab) (id ep : Int) (s m : Nat) (hm : m < 64) :
    lowL t id ep (dn s (64 - m)) = if s.testBit m = true then lowI (t.o m) (t.e m) id ep (lowL t id ep (dn s (64 - (m + 1)))) else lowL t id ep (dn s (64 - (m + 1))) := by
  have e : 64 - m = (64 - (m + 1)) + 1 := by omega
  have e2 : 63 - (64 - (m + 1)) = m := by omega
  rw [e, dn, e2]
  by_cases h : s.testBit m = true
  · rw [if_pos h, if_pos h, lowL_snoc, lowStep_eq]
  · rw [if_neg h, if_neg h]
theorem law_cases (o e id ep a : Int) :
    (o = 0 ∧ lowI o e id ep a = a) ∨ ((o != 0) = true ∧ o = id ∧ lowI o e id ep a = a) ∨ ((o != 0) = true ∧ (o != id) = true ∧ decide (ep < e) = false ∧ lowI o e id ep a = a) ∨
    ((o != 0) = true ∧ (o != id) = true ∧ decide (ep < e) = true ∧ a = 0 ∧ lowI o e id ep a = o) ∨
    ((o != 0) = true ∧ (o != id) = true ∧ decide (ep < e) = true ∧ (a == 0) = false ∧ decide (o < a) = true ∧ lowI o e id ep a = o) ∨
    ((o != 0) = true ∧ (o != id) = true ∧ decide (ep < e) = true ∧ (a == 0) = false ∧ decide (o < a) = false ∧ lowI o e id ep a = a) := by
  unfold lowI
  simp only [decide_eq_true_eq, decide_eq_false_iff_not, beq_eq_false_iff_ne, bne_iff_ne, ne_eq]
  by_cases h : (¬ o = id ∧ ¬ o = 0 ∧ ep < e) ∧ (a = 0 ∨ o < a)
  · rw [if_pos h]; omega
  · rw [if_neg h]; omega

set_option maxRecDepth 100000 in
set_option maxHeartbeats 4000000 in
theorem newerlaw_any (t : Tab) (c : Cl) (hc : c.fits) (W : World) :
    Calls Try.prog 6 #[.agg (tb t), vCl c] W (Says true W) := by
  have HC := Lib.hid (newer_any t c.id c.ep c.s hc)
  obtain ⟨b1, B1⟩ : ∃ b, Hid (okB t = b) := ⟨_, Lib.hid rfl⟩
  have RB : Hid (∀ W, Calls Try.prog 15 #[.agg (tb t)] W (Says b1 W)) := fun W => by have h := lawright_any t W; rwa [B1.out] at h
  have HCF : Hid (c.s < 18446744073709551616) := hc
  have HZ0 : Hid (b1 = false → newerZ t c.id c.ep c.s = 0) := Lib.hid fun h => by unfold newerZ; rw [B1.out, h]; rfl
  have HZ1 : Hid (b1 = true → newerZ t c.id c.ep c.s = lowL t c.id c.ep (dn c.s 64)) := Lib.hid fun h => by unfold newerZ; rw [B1.out, h, dn_all]; rfl
  generalize newerZ t c.id c.ep c.s = z at *
  have HDS := Lib.hid (dn_step t c.id c.ep c.s)
  clear hc
  go_enter Try.func6, Try.ntmps6
  go_wp2_with (fail)
  refine (anchor_any _).mono ?_
  rintro e w1 ⟨rfl, hb1⟩
  have K1 := Lib.hid (((TabAt.new W t).alloc (.cells #[.int .i64 c.id, .int .i64 c.ep, .int .u64 (c.s : Int)] 28)).later hb1)
  have c1 : Bx ((W.alloc (.cells (tb t) 24)).alloc (.cells #[.int .i64 c.id, .int .i64 c.ep, .int .u64 (c.s : Int)] 28)) (W.heap.size + 1) c := by
    have := Bx.new (W.alloc (.cells (tb t) 24)) c
    simpa using this
  have C1 := Lib.hid (c1.later hb1)
  have HB1 := Lib.hid ((((Below.refl W.heap.size W).alloc (Nat.le_refl _) (.cells (tb t) 24)).alloc (by simp) (.cells #[.int .i64 c.id, .int .i64 c.ep, .int .u64 (c.s : Int)] 28)).trans (hb1.mono (by simp; omega)))
  obtain ⟨a0, a1, a2⟩ := C1.out.box
  clear hb1 c1
  go_wp2_with (refine at_load rfl K1.out rfl ?_)
  refine (HC.out _).mono ?_
  rintro e w2 ⟨rfl, hb2⟩
  have K2 := Lib.hid (K1.out.later hb2)
  have C2 := Lib.hid (C1.out.later hb2)
  have HB2 := Lib.hid (HB1.out.trans (hb2.mono HB1.out.size))
  clear hb2 a0 a1 a2
  go_wp2_with (refine at_load rfl K2.out rfl ?_)
  refine (RB.out _).mono ?_
  rintro e w4 ⟨rfl, hb4⟩
  have K4 := Lib.hid (K2.out.later hb4)
  have C4 := Lib.hid (C2.out.later hb4)
  have HB4 := Lib.hid (HB2.out.trans (hb4.mono HB2.out.size))
  clear hb4
  cases b1
  · obtain rfl := HZ0.out rfl
    go_wp2
    go_ret
    exact ⟨rfl, HB4.out⟩
  · have HZ := Lib.hid (HZ1.out rfl)
    go_wp2
    go_loopw [6, 7] (fun q i wr => ∃ k : Nat, k ≤ 64 ∧ i = .int .i64 ((k : Int) - 1) ∧ q = .int .i64 (lowL t c.id c.ep (dn c.s (64 - k))) ∧ Hid (Below W.heap.size W wr) ∧ Hid (TabAt wr W.heap.size t) ∧ Hid (Bx wr (W.heap.size + 1) c)) (fun _ i _ => (intOf i + 1).toNat)
    case atStart => exact ⟨64, by omega, rfl, rfl, HB4, K4, C4⟩
    case round =>
      obtain ⟨k, hk, rfl, rfl, hb, hT, hB⟩ := hrel
      cases k with
      | zero =>
        rw [show (((0 : Nat) : Int) - 1) = -1 from rfl, show 64 - 0 = 64 from rfl, ← HZ.out]
        go_wp2
        go_ret
        exact ⟨rfl, hb.out⟩
      | succ m =>
        rw [show (((m + 1 : Nat) : Int) - 1) = (m : Int) by omega]
        have hlt : m < 64 := by omega
        have hm0 : (0 : Int) ≤ m := by omega
        have hm1 : (m : Int) < 64 := by omega
        have HS1 := Lib.hid (has_at (s := c.s) hlt)
        have HD := Lib.hid (HDS.out m hlt)
        have hO := hT.out.o hlt
        have q0 : ∀ p : Later wr, p.now.cell? ⟨W.heap.size + 1, 0, none⟩ = some (.int .i64 c.id) := fun p => p.cell hB.out.box.1
        have q1 : ∀ p : Later wr, p.now.cell? ⟨W.heap.size + 1, 1, none⟩ = some (.int .i64 c.ep) := fun p => p.cell hB.out.box.2.1
        have q2 : ∀ p : Later wr, p.now.cell? ⟨W.heap.size + 1, 2, none⟩ = some (.int .u64 (c.s : Int)) := fun p => p.cell hB.out.box.2.2
        have q3 : ∀ p : Later wr, p.now.cell? ⟨W.heap.size, 64 + m, none⟩ = some (.int .i64 (t.e m)) := fun p => p.cell (hT.out.e hlt)
        have HLC := Lib.hid (law_cases (t.o m) (t.e m) c.id c.ep (lowL t c.id c.ep (dn c.s (64 - (m + 1)))))
        generalize lowL t c.id c.ep (dn c.s (64 - (m + 1))) = a at *
        generalize t.o m = o at *
        generalize t.e m = e at *
        generalize c.s.testBit m = bit at *
        obtain ⟨x, HXE⟩ : ∃ x, Hid (lowL t c.id c.ep (dn c.s (64 - m)) = x) := ⟨_, Lib.hid rfl⟩
        rw [HXE.out] at HD
        have HALL : Hid ((bit = false ∧ x = a) ∨ (bit = true ∧ ((o = 0 ∧ x = a) ∨ ((o != 0) = true ∧ o = c.id ∧ x = a) ∨ ((o != 0) = true ∧ (o != c.id) = true ∧ decide (c.ep < e) = false ∧ x = a) ∨
            ((o != 0) = true ∧ (o != c.id) = true ∧ decide (c.ep < e) = true ∧ a = 0 ∧ x = o) ∨
            ((o != 0) = true ∧ (o != c.id) = true ∧ decide (c.ep < e) = true ∧ (a == 0) = false ∧ decide (o < a) = true ∧ x = o) ∨
            ((o != 0) = true ∧ (o != c.id) = true ∧ decide (c.ep < e) = true ∧ (a == 0) = false ∧ decide (o < a) = false ∧ x = a)))) := by
          have h1 := HD.out
          have h2 := HLC.out
          cases bit
          · exact .inl ⟨rfl, by simpa using h1⟩
          · refine .inr ⟨rfl, ?_⟩
            rw [if_pos rfl] at h1
            rw [h1]; exact h2
        have HAS : Hid (∀ w, Calls Try.prog 18 #[.int .u64 (c.s : Int), .int .i64 (m : Int)] w fun e w' => e = .returned (.bool bit) ∧ w = w') := fun w => by
          have h := has_any c.s HCF.out m w
          rwa [HS1.out] at h
        clear HD HLC HS1 HDS
        rcases HALL.out with ⟨rfl, hx⟩ | ⟨rfl, ⟨rfl, hx⟩ | ⟨h1, rfl, hx⟩ | ⟨h1, h2, h3, hx⟩ | ⟨h1, h2, h3, rfl, hx⟩ | ⟨h1, h2, h3, h4, h5, hx⟩ | ⟨h1, h2, h3, h4, h5, hx⟩⟩
        all_goals
          have HX := Lib.hid hx
          clear HALL hx
          go_wp2
          refine wp_region_later (by kernel_rfl) (by kernel_rfl) ?_
          repeat (go_big_quiet_step ((go_at_call 18; with_reducible exact Later.calls_same (HAS.out _))))
          refine wpQuiet_nil ?_
          intro _ hw'
          obtain ⟨pq, hw''⟩ := hw'
          subst hw''
          have HB7 := Lib.hid (hb.out.trans (pq.below.mono hb.out.size))
          have K7 := Lib.hid (hT.out.later pq.below)
          have C7 := Lib.hid (hB.out.later pq.below)
          clear q0 q1 q2 q3
          obtain ⟨w7, e7⟩ : ∃ w7, pq.now = w7 := ⟨_, rfl⟩
          rw [e7] at HB7 K7 C7 ⊢
          clear e7
          go_wp2
          go_roundw
          case rel => exact ⟨m, by omega, rfl, by rw [HXE.out, HX.out], HB7, K7, C7⟩
          case measure => simp [intOf]
end Go.Proofs.Ytkkjciomgcgdiaa
