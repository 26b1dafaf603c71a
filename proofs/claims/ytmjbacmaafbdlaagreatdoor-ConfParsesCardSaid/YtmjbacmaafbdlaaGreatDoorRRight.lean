/-
  WHAT IS PROVED: the contract of the document's Right: it answers as conf's own. Conditions: the known ones lie in memory.
-/
import Derived.Test.YtmjbacmaafbdlaaGreatDoorRQuiet
import Derived.Test.YtmjbacmaafbdlaaGreatDoorRight
namespace Go.Proofs.YtmjbacmaafbdlaaGreatDoor.R
set_option maxRecDepth 100000
open Go.RowKit Go.Lib C

/-- what the document asks of one slot -/
def hB (i : Int) (l : List Kn) (o e : Int) : Bool := if o = 0 then e == 0 else (anyB l o || (o == i)) && betB 0 281474976710656 e
def hsB (i : Int) (l : List Kn) (t : Tab) : Bool := (List.range 64).all fun j => hB i l (t.o j) (t.e j)
theorem hs_iff {i : Int} {l : List Kn} {t : Tab} : hsB i l t = true ↔ ∀ j, j < 64 → hB i l (t.o j) (t.e j) = true := by unfold hsB; simp [List.all_eq_true]
theorem hs_no {i : Int} {l : List Kn} {t : Tab} {j : Nat} (hj : j < 64) (h : hB i l (t.o j) (t.e j) = false) : hsB i l t = false := by
  cases hh : hsB i l t with
  | false => rfl
  | true => rw [hs_iff.1 hh j hj] at h; cases h
theorem any_get {l : List Kn} {o : Int} (h : anyB l o = true) : ∃ k ∈ l, k.i = o := by
  unfold anyB at h
  obtain ⟨k, hk, e⟩ := List.any_eq_true.1 h
  exact ⟨k, hk, by simpa using e⟩
theorem hs_rt {s : Sv} {l : List Kn} (h1 : betB 1 4294967296 s.i = true) (h2 : rkB s.i l = true) : hsB s.i l s.t = rtB s l := by
  rw [Bool.eq_iff_iff]
  have hid : ∀ o, (anyB l o || (o == s.i)) = true → 1 ≤ o ∧ o ≤ 4294967296 := fun o h => by
    simp only [Bool.or_eq_true, beq_iff_eq] at h
    rcases h with h | rfl
    · obtain ⟨k, hk, rfl⟩ := any_get h
      obtain ⟨j, hj, rfl⟩ := List.getElem_of_mem hk
      have h3 := rk_iff.1 h2 j hj
      rw [at_some (List.getElem?_eq_getElem hj)] at h3
      unfold stepB knB at h3
      simp only [Bool.and_eq_true] at h3
      exact bet_iff.1 h3.1.1.1.1
    · exact bet_iff.1 h1
  unfold rtB
  rw [Bool.and_eq_true, hs_iff, okB_iff]
  constructor
  · intro h
    refine ⟨fun j hj => ?_, ?_⟩
    · have := h j hj
      unfold hB at this
      unfold heldB
      split at this
      · rename_i h0
        simp only [beq_iff_eq] at this
        simp [h0, this]
      · rename_i h0
        simp only [Bool.and_eq_true] at this
        have hi := hid _ this.1
        have he := bet_iff.1 this.2
        simp [h0, idB, epB, this.2, bet_iff.2 hi]
    · refine own_yes fun j o ho => ?_
      have hm : o ∈ ownersL s.t := List.mem_of_getElem? ho
      obtain ⟨i, hi, h3, rfl⟩ := owners_mem.1 hm
      have := h i hi
      unfold hB at this
      have h0 : ¬ s.t.o i = 0 := by have := (bet_iff.1 h3); omega
      rw [if_neg h0] at this
      simp only [Bool.and_eq_true, Bool.or_eq_true] at this ⊢
      exact this.1.symm
  · rintro ⟨ha, hb⟩ j hj
    have hh := ha j hj
    unfold heldB at hh
    unfold hB
    by_cases h0 : s.t.o j = 0
    · rw [if_pos h0]
      simp [h0] at hh
      simpa using hh
    · rw [if_neg h0]
      simp [h0, idB] at hh
      have hm : s.t.o j ∈ ownersL s.t := owners_mem.2 ⟨j, hj, hh.1, rfl⟩
      unfold ownB at hb
      have := List.all_eq_true.1 hb _ hm
      simp only [Bool.and_eq_true, Bool.or_eq_true] at this ⊢
      exact ⟨this.symm, hh.2⟩

def a1B (s : Sv) : Bool := betB 1 4294967296 s.i && folB s.i s.m && decide (s.n ≤ 15)
def okR (s : Sv) (l : List Kn) : Bool := a1B s && (epsB s.c s.v s.f && (rkB s.i l && hsB s.i l s.t))
theorem okR_eq (s : Sv) (l : List Kn) : okR s l = okS s l := by
  unfold okR okS a1B fewB
  cases h1 : betB 1 4294967296 s.i with
  | false => simp
  | true =>
    cases h2 : rkB s.i l with
    | false => simp
    | true => rw [hs_rt h1 h2]; simp; cases folB s.i s.m <;> cases epsB s.c s.v s.f <;> simp
theorem knB_eq (k : Kn) (id last : Int) : stepB id last k = (betB 1 4294967296 k.i && ((k.i != id) && (betB 0 281474976710656 k.c && (folB k.i k.m && decide (last < k.i))))) := by
  unfold stepB knB
  cases betB 1 4294967296 k.i <;> cases (k.i != id) <;> cases betB 0 281474976710656 k.c <;> cases folB k.i k.m <;> rfl
/-- a known one's box -/
def KRx (w : World) (b : Nat) (k : Kn) : Prop := Blk w b 60 #[.int .i64 k.i, .int .i64 k.m, .int .i64 k.c]
theorem KRx.new (w : World) (k : Kn) : KRx (w.alloc (.cells #[.int .i64 k.i, .int .i64 k.m, .int .i64 k.c] 60)) w.heap.size k := Blk.new _ _ _
theorem KRx.box {w : World} {b : Nat} {k : Kn} (h : KRx w b k) : w.cell? ⟨b, 0, none⟩ = some (.int .i64 k.i) ∧ w.cell? ⟨b, 1, none⟩ = some (.int .i64 k.m) ∧ w.cell? ⟨b, 2, none⟩ = some (.int .i64 k.c) := ⟨Blk.cell h 0, Blk.cell h 1, Blk.cell h 2⟩
theorem KRx.later {w w' : World} {b : Nat} {k : Kn} (h : KRx w b k) (hb : Below w.heap.size w w') : KRx w' b k := Blk.below h hb (Blk.lt h)

theorem way1 {r1 b2 : Bool} {sm si : Int} {n : Nat} (h : r1 = (true && ((sm == 0) || (b2 && (sm != si))) && decide (n ≤ 15))) : (r1 = true ∧ sm = 0 ∧ n ≤ 15) ∨ (r1 = true ∧ sm ≠ 0 ∧ b2 = true ∧ sm ≠ si ∧ n ≤ 15) ∨ (r1 = false ∧ sm = 0 ∧ 15 < n) ∨ (r1 = false ∧ sm ≠ 0 ∧ b2 = false) ∨ (r1 = false ∧ sm ≠ 0 ∧ b2 = true ∧ sm = si) ∨ (r1 = false ∧ sm ≠ 0 ∧ b2 = true ∧ sm ≠ si ∧ 15 < n) := by
  subst h
  by_cases h0 : sm = 0 <;> by_cases h1 : sm = si <;> by_cases h15 : n ≤ 15 <;> cases b2 <;> simp_all <;> omega
theorem way2 {r2 b3 : Bool} {sc sv sf : Int} (h : r2 = (b3 && decide (0 ≤ sv ∧ sv ≤ sc) && decide (0 ≤ sf ∧ sf ≤ sc))) : (r2 = true ∧ b3 = true ∧ ¬ sv < 0 ∧ ¬ sc < sv ∧ ¬ sf < 0 ∧ ¬ sc < sf) ∨ (r2 = false ∧ b3 = false) ∨ (r2 = false ∧ b3 = true ∧ sv < 0) ∨ (r2 = false ∧ b3 = true ∧ ¬ sv < 0 ∧ sc < sv) ∨ (r2 = false ∧ b3 = true ∧ ¬ sv < 0 ∧ ¬ sc < sv ∧ sf < 0) ∨ (r2 = false ∧ b3 = true ∧ ¬ sv < 0 ∧ ¬ sc < sv ∧ ¬ sf < 0 ∧ sc < sf) := by
  subst h
  cases b3
  · simp
  · simp
    omega
theorem way3 (rm ri : Int) (p3 : Bool) : ((rm != 0) = false ∧ ((rm == 0) || (p3 && (rm != ri))) = true) ∨ ((rm != 0) = true ∧ p3 = false ∧ ((rm == 0) || (p3 && (rm != ri))) = false) ∨ ((rm != 0) = true ∧ p3 = true ∧ (rm == ri) = true ∧ ((rm == 0) || (p3 && (rm != ri))) = false) ∨ ((rm != 0) = true ∧ p3 = true ∧ (rm == ri) = false ∧ ((rm == 0) || (p3 && (rm != ri))) = true) := by
  by_cases h0 : rm = 0 <;> by_cases h1 : rm = ri <;> cases p3 <;> simp_all

set_option maxHeartbeats 4000000 in
theorem rright_any (s : Sv) (l : List Kn) (w : World) (hl : KnAt w s.a s.n l) (hN : s.n ≤ 9223372036854775806) : Calls Tryz.prog 14 #[.agg (stv s)] w (Says (okS s l) w) := by
  rw [← okR_eq]
  have HS : Hid (RAt (w.alloc (.cells (stv s) 36)) w.heap.size s) := Lib.hid (RAt.new w s)
  have HB0 : Hid (Below w.heap.size w (w.alloc (.cells (stv s) 36))) := Lib.hid ((Below.refl _ w).alloc (Nat.le_refl _) _)
  have HL := Lib.hid (hl.up HB0.out)
  have hn := hl.1
  obtain ⟨R, HR⟩ : ∃ R, Hid (okR s l = R) := ⟨_, Lib.hid rfl⟩
  rw [HR.out]
  have HX : Hid (R = (a1B s && (epsB s.c s.v s.f && (rkB s.i l && hsB s.i l s.t)))) := Lib.hid HR.out.symm
  obtain ⟨si, sm, sc, sv, sf, A, n, cap, T⟩ := s
  simp only at hn hN HX
  clear hl HR
  obtain ⟨c0, c1, c2, c3, c4, c5⟩ := HS.out.box
  simp only at c0 c1 c2 c3 c4 c5
  obtain ⟨b1, B1⟩ : ∃ b, Hid (betB 1 4294967296 si = b) := ⟨_, Lib.hid rfl⟩
  obtain ⟨b2, B2⟩ : ∃ b, Hid (betB 1 4294967296 sm = b) := ⟨_, Lib.hid rfl⟩
  obtain ⟨b3, B3⟩ : ∃ b, Hid (betB 0 281474976710656 sc = b) := ⟨_, Lib.hid rfl⟩
  have HA1 : Hid (a1B ⟨si, sm, sc, sv, sf, A, n, cap, T⟩ = (b1 && ((sm == 0) || (b2 && (sm != si))) && decide (n ≤ 15))) := Lib.hid (by rw [← B1.out, ← B2.out]; rfl)
  have HA2 : Hid (epsB sc sv sf = (b3 && decide (0 ≤ sv ∧ sv ≤ sc) && decide (0 ≤ sf ∧ sf ≤ sc))) := Lib.hid (by rw [← B3.out]; rfl)
  generalize a1B ⟨si, sm, sc, sv, sf, A, n, cap, T⟩ = r1 at *
  generalize epsB sc sv sf = r2 at *
  go_enter Tryz.func14, Tryz.ntmps14
  go_wp2_with (fail)
  obtain ⟨w1, hw1⟩ : ∃ w1, w.alloc (.cells (stv ⟨si, sm, sc, sv, sf, A, n, cap, T⟩) 36) = w1 := ⟨_, rfl⟩
  rw [hw1] at HS HB0 HL c0 c1 c2 c3 c4 c5 ⊢
  clear hw1
  refine (rid_any _ _).mono ?_
  rintro e wx ⟨rfl, rfl⟩
  rw [B1.out]
  cases b1
  · have HN : Hid (R = false) := Lib.hid (by rw [HX.out, HA1.out]; simp)
    go_wp2
    go_ret
    exact ⟨by rw [HN.out]; rfl, HB0.out⟩
  have hway : (r1 = true ∧ sm = 0 ∧ n ≤ 15) ∨ (r1 = true ∧ sm ≠ 0 ∧ b2 = true ∧ sm ≠ si ∧ n ≤ 15) ∨ (r1 = false ∧ sm = 0 ∧ 15 < n) ∨ (r1 = false ∧ sm ≠ 0 ∧ b2 = false) ∨ (r1 = false ∧ sm ≠ 0 ∧ b2 = true ∧ sm = si) ∨ (r1 = false ∧ sm ≠ 0 ∧ b2 = true ∧ sm ≠ si ∧ 15 < n) := way1 HA1.out
  have hway2 : (r2 = true ∧ b3 = true ∧ ¬ sv < 0 ∧ ¬ sc < sv ∧ ¬ sf < 0 ∧ ¬ sc < sf) ∨ (r2 = false ∧ b3 = false) ∨ (r2 = false ∧ b3 = true ∧ sv < 0) ∨ (r2 = false ∧ b3 = true ∧ ¬ sv < 0 ∧ sc < sv) ∨ (r2 = false ∧ b3 = true ∧ ¬ sv < 0 ∧ ¬ sc < sv ∧ sf < 0) ∨ (r2 = false ∧ b3 = true ∧ ¬ sv < 0 ∧ ¬ sc < sv ∧ ¬ sf < 0 ∧ sc < sf) := way2 HA2.out
  clear HA1 HA2
  have HW2 := Lib.hid hway2
  clear hway2
  rcases hway with ⟨rfl, h0, h15⟩ | ⟨rfl, h0, rfl, h1, h15⟩ | ⟨rfl, h0, h15⟩ | ⟨rfl, h0, rfl⟩ | ⟨rfl, h0, rfl, h1⟩ | ⟨rfl, h0, rfl, h1, h15⟩
  rotate_left 2
  · have HN : Hid (R = false) := Lib.hid (by rw [HX.out]; simp)
    have q15 : decide (15 < (n : Int)) = true := by simp; omega
    have q0 : (sm != 0) = false := by simpa using h0
    clear h0
    go_wp2
    go_ret
    exact ⟨by rw [HN.out]; rfl, HB0.out⟩
  · have HN : Hid (R = false) := Lib.hid (by rw [HX.out]; simp)
    have q0 : (sm != 0) = true := by simpa using h0
    clear h0
    go_wp2_with (fail)
    refine (rid_any _ _).mono ?_
    rintro e wx ⟨rfl, rfl⟩
    rw [B2.out]
    go_wp2
    go_ret
    exact ⟨by rw [HN.out]; rfl, HB0.out⟩
  · have HN : Hid (R = false) := Lib.hid (by rw [HX.out]; simp)
    have q0 : (sm != 0) = true := by simpa using h0
    have q1 : (sm == si) = true := by simpa using h1
    clear h0 h1
    go_wp2_with (fail)
    refine (rid_any _ _).mono ?_
    rintro e wx ⟨rfl, rfl⟩
    rw [B2.out]
    go_wp2
    go_ret
    exact ⟨by rw [HN.out]; rfl, HB0.out⟩
  · have HN : Hid (R = false) := Lib.hid (by rw [HX.out]; simp)
    have q0 : (sm != 0) = true := by simpa using h0
    have q1 : (sm == si) = false := by simpa using h1
    have q15 : decide (15 < (n : Int)) = true := by simp; omega
    clear h0 h1
    go_wp2_with (fail)
    refine (rid_any _ _).mono ?_
    rintro e wx ⟨rfl, rfl⟩
    rw [B2.out]
    go_wp2
    go_ret
    exact ⟨by rw [HN.out]; rfl, HB0.out⟩
  rotate_left 1
  · have q0 : (sm != 0) = true := by simpa using h0
    have q1 : (sm == si) = false := by simpa using h1
    have q15 : decide (15 < (n : Int)) = false := by simp; omega
    clear h0 h1
    go_wp2_with (fail)
    refine (rid_any _ _).mono ?_
    rintro e wx ⟨rfl, rfl⟩
    rw [B2.out]
    go_wp2_with (fail)
    clear q0 q15
    refine (rep_any _ _).mono ?_
    rintro e wx ⟨rfl, rfl⟩
    rw [B3.out]
    rcases HW2.out with ⟨rfl, rfl, e1, e2, e3, e4⟩ | hno
    rotate_left 1
    · have HN : Hid (R = false) := Lib.hid (by rw [HX.out]; rcases hno with ⟨rfl, _⟩ | ⟨rfl, _⟩ | ⟨rfl, _⟩ | ⟨rfl, _⟩ | ⟨rfl, _⟩ <;> simp)
      rcases hno with ⟨_, rfl⟩ | ⟨_, rfl, e1⟩ | ⟨_, rfl, e1, e2⟩ | ⟨_, rfl, e1, e2, e3⟩ | ⟨_, rfl, e1, e2, e3, e4⟩
      all_goals
        clear HW2
        go_wp2
        go_ret
        exact ⟨by rw [HN.out]; rfl, HB0.out⟩
    have HX2 : Hid (R = (rkB si l && hsB si l T)) := Lib.hid (by rw [HX.out]; simp)
    clear HX HW2
    go_wp2
    clear e1 e2 e3 e4 c0 c1 c2 c3 c4 c5
    go_loopw [3] (fun i wr => ∃ k : Nat, k ≤ n ∧ i = .int .i64 (k : Int) ∧ Hid (Below w1.heap.size w1 wr) ∧ Hid (∀ j, j < k → stepB si (lastK l j) (atK l j) = true)) (fun i _ => n - (intOf i).toNat)
    case atStart => exact ⟨0, Nat.zero_le _, rfl, Lib.hid (Below.refl _ _), Lib.hid fun j hj => absurd hj (by omega)⟩
    case round =>
      obtain ⟨k, hkn, rfl, hb, hall⟩ := hrel
      have e5 := (HS.out.later hb.out).box.2.2.2.2.2
      have e0 := (HS.out.later hb.out).box.1
      simp only at e5 e0
      by_cases hlt : k < n
      · obtain ⟨ad, r, hA, hr, hltb, d0, d1, d2⟩ := (HL.out.up hb.out).at_ hlt
        subst hA
        have HRK := Lib.hid (at_some hr)
        have hk1 : 0 ≤ (k : Int) := by omega
        have HAD := Lib.hid (fun j (hj : j < n) => (HL.out.up hb.out).at_ hj)
        obtain ⟨ri, rm, rc⟩ := r
        simp only at d0 d1 d2
        have HK := Lib.hid (KRx.new wr ⟨ri, rm, rc⟩)
        have HE : Hid (Below wr.heap.size wr (wr.alloc (.cells #[.int .i64 ri, .int .i64 rm, .int .i64 rc] 60))) := Lib.hid ((Below.refl _ _).alloc (Nat.le_refl _) _)
        have HBB := Lib.hid (hb.out.trans (HE.out.mono hb.out.size))
        obtain ⟨g0, g1, g2⟩ := HK.out.box
        simp only at g0 g1 g2
        have f0 := (HE.out.cell (p := ⟨w.heap.size, 0, none⟩) (C.lt_of_cell e0)).trans e0
        have f5 := (HE.out.cell (p := ⟨w.heap.size, 5, none⟩) (C.lt_of_cell e5)).trans e5
        obtain ⟨p1, P1⟩ : ∃ b, Hid (betB 1 4294967296 ri = b) := ⟨_, Lib.hid rfl⟩
        obtain ⟨p2, P2⟩ : ∃ b, Hid (betB 0 281474976710656 rc = b) := ⟨_, Lib.hid rfl⟩
        obtain ⟨p3, P3⟩ : ∃ b, Hid (betB 1 4294967296 rm = b) := ⟨_, Lib.hid rfl⟩
        obtain ⟨la, HLA⟩ : ∃ la, Hid (lastK l k = la) := ⟨_, Lib.hid rfl⟩
        have HST : Hid (stepB si (lastK l k) (atK l k) = (p1 && ((ri != si) && (p2 && (((rm == 0) || (p3 && (rm != ri))) && decide (la < ri)))))) := Lib.hid (by rw [HRK.out, knB_eq, HLA.out, ← P1.out, ← P2.out, ← P3.out]; rfl)
        have HNO : Hid (stepB si (lastK l k) (atK l k) = false → R = false) := Lib.hid fun h => by rw [HX2.out, rk_no (by omega) h]; simp
        have HP0 : Hid (k = 0 → la = 0) := Lib.hid fun h => by subst h; exact HLA.out.symm
        have HPS : Hid (∀ k1, k = k1 + 1 → ∃ r1 : Kn, r1.i = la ∧ wr.cell? (ad.add (k1 * 3)) = some (.int .i64 la)) := Lib.hid fun k1 h => by
          subst h
          obtain ⟨ad2, r2, hA2, hr2, _, x0, _, _⟩ := HAD.out k1 (by omega)
          cases hA2
          have : la = r2.i := by rw [← HLA.out, last_succ, at_some hr2]
          subst this
          exact ⟨r2, rfl, x0⟩
        have HP1 : Hid (p1 = true → 1 ≤ ri) := Lib.hid fun h => (bet_iff.1 (P1.out.trans h)).1
        clear hr HRK HAD HLA
        go_wp2_with (fail)
        refine (rid_any _ _).mono ?_
        rintro e wx ⟨rfl, rfl⟩
        rw [P1.out]
        cases p1
        · have HN := Lib.hid (HNO.out (by rw [HST.out]; simp))
          go_wp2
          go_ret
          exact ⟨by rw [HN.out]; rfl, HB0.out.trans (HBB.out.mono HB0.out.size)⟩
        by_cases hsi : ri = si
        · have q1 : (ri == si) = true := by simpa using hsi
          have HN := Lib.hid (HNO.out (by rw [HST.out]; simp [hsi]))
          clear hsi
          go_wp2
          go_ret
          exact ⟨by rw [HN.out]; rfl, HB0.out.trans (HBB.out.mono HB0.out.size)⟩
        have q1 : (ri == si) = false := by simpa using hsi
        have HQ1 : Hid ((ri != si) = true) := Lib.hid (by simpa using hsi)
        clear hsi
        go_wp2_with (fail)
        refine (rep_any _ _).mono ?_
        rintro e wx ⟨rfl, rfl⟩
        rw [P2.out]
        cases p2
        · have HN := Lib.hid (HNO.out (by rw [HST.out]; simp))
          go_wp2
          go_ret
          exact ⟨by rw [HN.out]; rfl, HB0.out.trans (HBB.out.mono HB0.out.size)⟩
        have hway3 : ((rm != 0) = false ∧ ((rm == 0) || (p3 && (rm != ri))) = true) ∨ ((rm != 0) = true ∧ p3 = false ∧ ((rm == 0) || (p3 && (rm != ri))) = false) ∨ ((rm != 0) = true ∧ p3 = true ∧ (rm == ri) = true ∧ ((rm == 0) || (p3 && (rm != ri))) = false) ∨ ((rm != 0) = true ∧ p3 = true ∧ (rm == ri) = false ∧ ((rm == 0) || (p3 && (rm != ri))) = true) := way3 rm ri p3
        generalize ((rm == 0) || (p3 && (rm != ri))) = fo at *
        rcases hway3 with ⟨m0, rfl⟩ | ⟨m0, rfl, rfl⟩ | ⟨m0, rfl, m1, rfl⟩ | ⟨m0, rfl, m1, rfl⟩
        rotate_left 1
        · have HN := Lib.hid (HNO.out (by rw [HST.out]; simp))
          go_wp2_with (fail)
          refine (rid_any _ _).mono ?_
          rintro e wx ⟨rfl, rfl⟩
          rw [P3.out]
          go_wp2
          go_ret
          exact ⟨by rw [HN.out]; rfl, HB0.out.trans (HBB.out.mono HB0.out.size)⟩
        · have HN := Lib.hid (HNO.out (by rw [HST.out]; simp))
          go_wp2_with (fail)
          refine (rid_any _ _).mono ?_
          rintro e wx ⟨rfl, rfl⟩
          rw [P3.out]
          go_wp2
          go_ret
          exact ⟨by rw [HN.out]; rfl, HB0.out.trans (HBB.out.mono HB0.out.size)⟩
        · go_wp2_with (fail)
          refine (rid_any _ _).mono ?_
          rintro e wx ⟨rfl, rfl⟩
          rw [P3.out]
          clear P3 m0
          rcases Nat.eq_zero_or_pos k with hk0 | hk0
          · have z0 : decide (0 < (k : Int)) = false := by simp; omega
            have z0' : decide (0 < k) = false := by simp; omega
            have HN : Hid (∀ j, j < k + 1 → stepB si (lastK l j) (atK l j) = true) := Lib.hid fun j hj => by
              rcases Nat.lt_or_ge j k with h1 | h1
              · exact hall.out j h1
              · obtain rfl : k = j := by omega
                rw [HST.out, HQ1.out, HP0.out hk0]
                have : 1 ≤ ri := by first | exact HP1.out rfl | exact HP1.out trivial
                simp; omega
            clear hk0 HP0 HPS
            go_wp2
            go_quiet (fail)
            have hb3 := Lib.hid (below_drewN HBB.out nq)
            clear f0 f5 g0 g1 g2 d0 d1 d2 z0 z0'
            go_wp2
            go_roundw
            case rel => exact ⟨k + 1, by omega, by go_num, hb3, HN⟩
            case measure => simp [intOf]; omega
          · have z0 : decide (0 < (k : Int)) = true := by simp; omega
            have z0' : decide (0 < k) = true := by simp; omega
            obtain ⟨k1, hk1'⟩ : ∃ k1, k = k1 + 1 := ⟨k - 1, by omega⟩
            obtain ⟨r1, _, x0⟩ := HPS.out k1 hk1'
            have x1 := (HE.out.cell (p := ad.add (k1 * 3)) (C.lt_of_cell x0)).trans x0
            have hw1 : IntKind.i64.wrap ((k : Int) - 1) = (k1 : Int) := by rw [IntKind.wrap_i64]; omega
            have hl1 : 0 ≤ (k1 : Int) := by omega
            have hl2 : k1 < n := by omega
            have hl3 : (k1 : Int) < (n : Int) := by omega
            clear hk0 HP0 HPS hk1' x0
            by_cases hge : la < ri
            · have z1 : decide (ri ≤ la) = false := by simp; omega
              have HN : Hid (∀ j, j < k + 1 → stepB si (lastK l j) (atK l j) = true) := Lib.hid fun j hj => by
                rcases Nat.lt_or_ge j k with h1 | h1
                · exact hall.out j h1
                · obtain rfl : k = j := by omega
                  rw [HST.out, HQ1.out]
                  simpa using hge
              clear hge
              go_wp2
              go_quiet (fail)
              have hb3 := Lib.hid (below_drewN HBB.out nq)
              clear f0 f5 g0 g1 g2 d0 d1 d2 z0 z0' x1 hw1 z1 hl1 hl2 hl3
              go_wp2
              go_roundw
              case rel => exact ⟨k + 1, by omega, by go_num, hb3, HN⟩
              case measure => simp [intOf]; omega
            · have z1 : decide (ri ≤ la) = true := by simp; omega
              have HN := Lib.hid (HNO.out (by rw [HST.out, HQ1.out]; simpa using hge))
              clear hge
              go_wp2
              go_quiet (fail)
              have hb3 := Lib.hid (below_drewN HBB.out nq)
              go_wp2
              go_ret
              exact ⟨by rw [HN.out]; rfl, HB0.out.trans (hb3.out.mono HB0.out.size)⟩
        · obtain rfl : rm = 0 := by simpa using m0
          clear m0
          rcases Nat.eq_zero_or_pos k with hk0 | hk0
          · have z0 : decide (0 < (k : Int)) = false := by simp; omega
            have z0' : decide (0 < k) = false := by simp; omega
            have HN : Hid (∀ j, j < k + 1 → stepB si (lastK l j) (atK l j) = true) := Lib.hid fun j hj => by
              rcases Nat.lt_or_ge j k with h1 | h1
              · exact hall.out j h1
              · obtain rfl : k = j := by omega
                rw [HST.out, HQ1.out, HP0.out hk0]
                have : 1 ≤ ri := by first | exact HP1.out rfl | exact HP1.out trivial
                simp; omega
            clear hk0 HP0 HPS
            go_wp2
            go_quiet (fail)
            have hb3 := Lib.hid (below_drewN HBB.out nq)
            clear f0 f5 g0 g1 g2 d0 d1 d2 z0 z0'
            go_wp2
            go_roundw
            case rel => exact ⟨k + 1, by omega, by go_num, hb3, HN⟩
            case measure => simp [intOf]; omega
          · have z0 : decide (0 < (k : Int)) = true := by simp; omega
            have z0' : decide (0 < k) = true := by simp; omega
            obtain ⟨k1, hk1'⟩ : ∃ k1, k = k1 + 1 := ⟨k - 1, by omega⟩
            obtain ⟨r1, _, x0⟩ := HPS.out k1 hk1'
            have x1 := (HE.out.cell (p := ad.add (k1 * 3)) (C.lt_of_cell x0)).trans x0
            have hw1 : IntKind.i64.wrap ((k : Int) - 1) = (k1 : Int) := by rw [IntKind.wrap_i64]; omega
            have hl1 : 0 ≤ (k1 : Int) := by omega
            have hl2 : k1 < n := by omega
            have hl3 : (k1 : Int) < (n : Int) := by omega
            clear hk0 HP0 HPS hk1' x0
            by_cases hge : la < ri
            · have z1 : decide (ri ≤ la) = false := by simp; omega
              have HN : Hid (∀ j, j < k + 1 → stepB si (lastK l j) (atK l j) = true) := Lib.hid fun j hj => by
                rcases Nat.lt_or_ge j k with h1 | h1
                · exact hall.out j h1
                · obtain rfl : k = j := by omega
                  rw [HST.out, HQ1.out]
                  simpa using hge
              clear hge
              go_wp2
              go_quiet (fail)
              have hb3 := Lib.hid (below_drewN HBB.out nq)
              clear f0 f5 g0 g1 g2 d0 d1 d2 z0 z0' x1 hw1 z1 hl1 hl2 hl3
              go_wp2
              go_roundw
              case rel => exact ⟨k + 1, by omega, by go_num, hb3, HN⟩
              case measure => simp [intOf]; omega
            · have z1 : decide (ri ≤ la) = true := by simp; omega
              have HN := Lib.hid (HNO.out (by rw [HST.out, HQ1.out]; simpa using hge))
              clear hge
              go_wp2
              go_quiet (fail)
              have hb3 := Lib.hid (below_drewN HBB.out nq)
              go_wp2
              go_ret
              exact ⟨by rw [HN.out]; rfl, HB0.out.trans (hb3.out.mono HB0.out.size)⟩
      · obtain rfl : k = n := by omega
        have HX3 : Hid (R = hsB si l T) := Lib.hid (by rw [HX2.out, rk_iff.2 (fun j hj => hall.out j (by omega))]; rfl)
        clear HX2 hall
        have HS1 := Lib.hid (HS.out.later hb.out)
        have HL1 := Lib.hid (HL.out.up hb.out)
        have HB1 := Lib.hid (HB0.out.trans (hb.out.mono HB0.out.size))
        clear hb e0 HL HS
        obtain ⟨w2, rfl⟩ : ∃ w2, w2 = wr := ⟨_, rfl⟩
        go_wp2
        clear e5
        go_loopw [5] (fun i wr => ∃ k : Nat, k ≤ 64 ∧ i = .int .i64 (k : Int) ∧ Hid (Below w2.heap.size w2 wr) ∧ Hid (∀ j, j < k → hB si l (T.o j) (T.e j) = true)) (fun i _ => 64 - (intOf i).toNat)
        case atStart => exact ⟨0, Nat.zero_le _, rfl, Lib.hid (Below.refl _ _), Lib.hid fun j hj => absurd hj (by omega)⟩
        case round =>
          obtain ⟨q, hq, rfl, hb, hall⟩ := hrel
          by_cases hlt : q < 64
          · have HSW := Lib.hid (HS1.out.later hb.out)
            have ho := HSW.out.o hlt
            have hev := HSW.out.e hlt
            simp only at ho hev
            have hk1 : 0 ≤ (q : Int) := by omega
            have hk2 : (q : Int) < 64 := by omega
            obtain ⟨ov, HO⟩ : ∃ z, Hid (T.o q = z) := ⟨_, Lib.hid rfl⟩
            obtain ⟨ev, HE⟩ : ∃ z, Hid (T.e q = z) := ⟨_, Lib.hid rfl⟩
            rw [HO.out] at ho
            rw [HE.out] at hev
            have HNO : Hid (hB si l ov ev = false → R = false) := Lib.hid fun h => by rw [HX3.out]; exact hs_no hlt (by rw [HO.out, HE.out]; exact h)
            have HNX : Hid (hB si l ov ev = true → ∀ j, j < q + 1 → hB si l (T.o j) (T.e j) = true) := Lib.hid fun h j hj => by
              rcases Nat.lt_or_ge j q with h1 | h1
              · exact hall.out j h1
              · obtain rfl : j = q := by omega
                rw [HO.out, HE.out]; exact h
            obtain ⟨kb, KB⟩ : ∃ b, Hid ((anyB l ov || (ov == si)) = b) := ⟨_, Lib.hid rfl⟩
            obtain ⟨eb, EB⟩ : ∃ b, Hid (betB 0 281474976710656 ev = b) := ⟨_, Lib.hid rfl⟩
            have ho' : ∀ p : Later wr, p.now.cell? ⟨w.heap.size, 6 + q, none⟩ = some (.int .i64 ov) := fun p => p.cell ho
            have he' : ∀ p : Later wr, p.now.cell? ⟨w.heap.size, 70 + q, none⟩ = some (.int .i64 ev) := fun p => p.cell hev
            have HKN : Hid (∀ p : Later wr, Calls Tryz.prog 30 #[.agg (stv ⟨si, sm, sc, sv, sf, A, k, cap, T⟩), .int .i64 ov] p.now fun e w' => e = .returned (.bool kb) ∧ Below p.now.heap.size p.now w') := Lib.hid fun p => by
              have := rknows_any ⟨si, sm, sc, sv, sf, A, k, cap, T⟩ l ov p.now ((HL1.out.up hb.out).up p.below) hN
              rw [← KB.out]; exact this
            by_cases h0 : ov = 0
            · have z0 : (ov == 0) = true := by simpa using h0
              have z1 : (ov != 0) = false := by simpa using h0
              by_cases h1 : ev = 0
              · have z2 : (ev != 0) = false := by simpa using h1
                have HN := Lib.hid (HNX.out (by unfold hB; rw [if_pos h0]; simpa using h1))
                clear h0 h1
                go_wp2
                refine wp_region_later (by kernel_rfl) (by kernel_rfl) ?_
                repeat (go_big_quiet_step (fail))
                refine wpQuiet_nil ?_
                intro _ hw'
                obtain ⟨pq, hw''⟩ := hw'
                subst hw''
                have hb3 := Lib.hid (hb.out.trans (pq.below.mono hb.out.size))
                obtain ⟨w3, e3⟩ : ∃ w3, pq.now = w3 := ⟨_, rfl⟩
                rw [e3] at hb3 ⊢
                clear e3
                clear ho' he' ho hev z0 z1 z2 HKN
                go_wp2
                go_roundw
                case rel => exact ⟨q + 1, by omega, by go_num, hb3, HN⟩
                case measure => simp [intOf]; omega
              · have z2 : (ev != 0) = true := by simpa using h1
                have HN := Lib.hid (HNO.out (by unfold hB; rw [if_pos h0]; simpa using h1))
                clear h0 h1
                go_wp2
                go_ret
                exact ⟨by rw [HN.out]; rfl, HB1.out.trans (hb.out.mono HB1.out.size)⟩
            · have z0 : (ov == 0) = false := by simpa using h0
              have z1 : (ov != 0) = true := by simpa using h0
              have HHB : Hid (hB si l ov ev = (kb && eb)) := Lib.hid (by unfold hB; rw [if_neg h0, KB.out, EB.out])
              clear h0
              go_wp2
              cases kb
              · have HN := Lib.hid (HNO.out (by rw [HHB.out]; rfl))
                refine wp_region_later (by kernel_rfl) (by kernel_rfl) ?_
                repeat (first | ((with_reducible refine quiet_rt (b := w.heap.size) (s := ⟨si, sm, sc, sv, sf, A, k, cap, T⟩) ?_ ?_ ?_ ?_); (rfl); (with_reducible exact HSW.out); (rfl); (simp only [Act.put, List.setIfInBounds_toArray, List.set_cons_zero, List.set_cons_succ])) | go_big_quiet_step (first | (go_at_call 30; with_reducible exact Later.calls (HKN.out _))))
                refine wpQuiet_nil ?_
                intro _ hw'
                obtain ⟨pq, hw''⟩ := hw'
                subst hw''
                have hb3 := Lib.hid (hb.out.trans (pq.below.mono hb.out.size))
                obtain ⟨w3, e3⟩ : ∃ w3, pq.now = w3 := ⟨_, rfl⟩
                rw [e3] at hb3 ⊢
                clear e3
                go_wp2
                go_ret
                exact ⟨by rw [HN.out]; rfl, HB1.out.trans (hb3.out.mono HB1.out.size)⟩
              have HEP : Hid (∀ w' : World, Calls Tryz.prog 29 #[.int .i64 ev] w' fun e w'' => e = .returned (.bool eb) ∧ w' = w'') := Lib.hid fun w' => by
                have := rep_any ev w'
                rw [EB.out] at this; exact this
              cases eb
              · have HN := Lib.hid (HNO.out (by rw [HHB.out]; rfl))
                refine wp_region_later (by kernel_rfl) (by kernel_rfl) ?_
                repeat (first | ((with_reducible refine quiet_rt (b := w.heap.size) (s := ⟨si, sm, sc, sv, sf, A, k, cap, T⟩) ?_ ?_ ?_ ?_); (rfl); (with_reducible exact HSW.out); (rfl); (simp only [Act.put, List.setIfInBounds_toArray, List.set_cons_zero, List.set_cons_succ])) | go_big_quiet_step (first | (go_at_call 30; with_reducible exact Later.calls (HKN.out _)) | (go_at_call 29; with_reducible exact Later.calls_same (HEP.out _))))
                refine wpQuiet_nil ?_
                intro _ hw'
                obtain ⟨pq, hw''⟩ := hw'
                subst hw''
                have hb3 := Lib.hid (hb.out.trans (pq.below.mono hb.out.size))
                obtain ⟨w3, e3⟩ : ∃ w3, pq.now = w3 := ⟨_, rfl⟩
                rw [e3] at hb3 ⊢
                clear e3
                go_wp2
                go_ret
                exact ⟨by rw [HN.out]; rfl, HB1.out.trans (hb3.out.mono HB1.out.size)⟩
              · have HN := Lib.hid (HNX.out (by rw [HHB.out]; rfl))
                refine wp_region_later (by kernel_rfl) (by kernel_rfl) ?_
                repeat (first | ((with_reducible refine quiet_rt (b := w.heap.size) (s := ⟨si, sm, sc, sv, sf, A, k, cap, T⟩) ?_ ?_ ?_ ?_); (rfl); (with_reducible exact HSW.out); (rfl); (simp only [Act.put, List.setIfInBounds_toArray, List.set_cons_zero, List.set_cons_succ])) | go_big_quiet_step (first | (go_at_call 30; with_reducible exact Later.calls (HKN.out _)) | (go_at_call 29; with_reducible exact Later.calls_same (HEP.out _))))
                refine wpQuiet_nil ?_
                intro _ hw'
                obtain ⟨pq, hw''⟩ := hw'
                subst hw''
                have hb3 := Lib.hid (hb.out.trans (pq.below.mono hb.out.size))
                obtain ⟨w3, e3⟩ : ∃ w3, pq.now = w3 := ⟨_, rfl⟩
                rw [e3] at hb3 ⊢
                clear e3
                clear ho' he' ho hev z0 z1 HKN
                go_wp2
                go_roundw
                case rel => exact ⟨q + 1, by omega, by go_num, hb3, HN⟩
                case measure => simp [intOf]; omega
          · obtain rfl : q = 64 := by omega
            have HN : Hid (R = true) := Lib.hid (by rw [HX3.out]; exact hs_iff.2 hall.out)
            go_wp2
            go_ret
            exact ⟨by rw [HN.out]; rfl, HB1.out.trans (hb.out.mono HB1.out.size)⟩
  · have q0 : (sm != 0) = false := by simpa using h0
    have q15 : decide (15 < (n : Int)) = false := by simp; omega
    clear h0
    go_wp2_with (fail)
    clear q0 q15
    refine (rep_any _ _).mono ?_
    rintro e wx ⟨rfl, rfl⟩
    rw [B3.out]
    rcases HW2.out with ⟨rfl, rfl, e1, e2, e3, e4⟩ | hno
    rotate_left 1
    · have HN : Hid (R = false) := Lib.hid (by rw [HX.out]; rcases hno with ⟨rfl, _⟩ | ⟨rfl, _⟩ | ⟨rfl, _⟩ | ⟨rfl, _⟩ | ⟨rfl, _⟩ <;> simp)
      rcases hno with ⟨_, rfl⟩ | ⟨_, rfl, e1⟩ | ⟨_, rfl, e1, e2⟩ | ⟨_, rfl, e1, e2, e3⟩ | ⟨_, rfl, e1, e2, e3, e4⟩
      all_goals
        clear HW2
        go_wp2
        go_ret
        exact ⟨by rw [HN.out]; rfl, HB0.out⟩
    have HX2 : Hid (R = (rkB si l && hsB si l T)) := Lib.hid (by rw [HX.out]; simp)
    clear HX HW2
    go_wp2
    clear e1 e2 e3 e4 c0 c1 c2 c3 c4 c5
    go_loopw [3] (fun i wr => ∃ k : Nat, k ≤ n ∧ i = .int .i64 (k : Int) ∧ Hid (Below w1.heap.size w1 wr) ∧ Hid (∀ j, j < k → stepB si (lastK l j) (atK l j) = true)) (fun i _ => n - (intOf i).toNat)
    case atStart => exact ⟨0, Nat.zero_le _, rfl, Lib.hid (Below.refl _ _), Lib.hid fun j hj => absurd hj (by omega)⟩
    case round =>
      obtain ⟨k, hkn, rfl, hb, hall⟩ := hrel
      have e5 := (HS.out.later hb.out).box.2.2.2.2.2
      have e0 := (HS.out.later hb.out).box.1
      simp only at e5 e0
      by_cases hlt : k < n
      · obtain ⟨ad, r, hA, hr, hltb, d0, d1, d2⟩ := (HL.out.up hb.out).at_ hlt
        subst hA
        have HRK := Lib.hid (at_some hr)
        have hk1 : 0 ≤ (k : Int) := by omega
        have HAD := Lib.hid (fun j (hj : j < n) => (HL.out.up hb.out).at_ hj)
        obtain ⟨ri, rm, rc⟩ := r
        simp only at d0 d1 d2
        have HK := Lib.hid (KRx.new wr ⟨ri, rm, rc⟩)
        have HE : Hid (Below wr.heap.size wr (wr.alloc (.cells #[.int .i64 ri, .int .i64 rm, .int .i64 rc] 60))) := Lib.hid ((Below.refl _ _).alloc (Nat.le_refl _) _)
        have HBB := Lib.hid (hb.out.trans (HE.out.mono hb.out.size))
        obtain ⟨g0, g1, g2⟩ := HK.out.box
        simp only at g0 g1 g2
        have f0 := (HE.out.cell (p := ⟨w.heap.size, 0, none⟩) (C.lt_of_cell e0)).trans e0
        have f5 := (HE.out.cell (p := ⟨w.heap.size, 5, none⟩) (C.lt_of_cell e5)).trans e5
        obtain ⟨p1, P1⟩ : ∃ b, Hid (betB 1 4294967296 ri = b) := ⟨_, Lib.hid rfl⟩
        obtain ⟨p2, P2⟩ : ∃ b, Hid (betB 0 281474976710656 rc = b) := ⟨_, Lib.hid rfl⟩
        obtain ⟨p3, P3⟩ : ∃ b, Hid (betB 1 4294967296 rm = b) := ⟨_, Lib.hid rfl⟩
        obtain ⟨la, HLA⟩ : ∃ la, Hid (lastK l k = la) := ⟨_, Lib.hid rfl⟩
        have HST : Hid (stepB si (lastK l k) (atK l k) = (p1 && ((ri != si) && (p2 && (((rm == 0) || (p3 && (rm != ri))) && decide (la < ri)))))) := Lib.hid (by rw [HRK.out, knB_eq, HLA.out, ← P1.out, ← P2.out, ← P3.out]; rfl)
        have HNO : Hid (stepB si (lastK l k) (atK l k) = false → R = false) := Lib.hid fun h => by rw [HX2.out, rk_no (by omega) h]; simp
        have HP0 : Hid (k = 0 → la = 0) := Lib.hid fun h => by subst h; exact HLA.out.symm
        have HPS : Hid (∀ k1, k = k1 + 1 → ∃ r1 : Kn, r1.i = la ∧ wr.cell? (ad.add (k1 * 3)) = some (.int .i64 la)) := Lib.hid fun k1 h => by
          subst h
          obtain ⟨ad2, r2, hA2, hr2, _, x0, _, _⟩ := HAD.out k1 (by omega)
          cases hA2
          have : la = r2.i := by rw [← HLA.out, last_succ, at_some hr2]
          subst this
          exact ⟨r2, rfl, x0⟩
        have HP1 : Hid (p1 = true → 1 ≤ ri) := Lib.hid fun h => (bet_iff.1 (P1.out.trans h)).1
        clear hr HRK HAD HLA
        go_wp2_with (fail)
        refine (rid_any _ _).mono ?_
        rintro e wx ⟨rfl, rfl⟩
        rw [P1.out]
        cases p1
        · have HN := Lib.hid (HNO.out (by rw [HST.out]; simp))
          go_wp2
          go_ret
          exact ⟨by rw [HN.out]; rfl, HB0.out.trans (HBB.out.mono HB0.out.size)⟩
        by_cases hsi : ri = si
        · have q1 : (ri == si) = true := by simpa using hsi
          have HN := Lib.hid (HNO.out (by rw [HST.out]; simp [hsi]))
          clear hsi
          go_wp2
          go_ret
          exact ⟨by rw [HN.out]; rfl, HB0.out.trans (HBB.out.mono HB0.out.size)⟩
        have q1 : (ri == si) = false := by simpa using hsi
        have HQ1 : Hid ((ri != si) = true) := Lib.hid (by simpa using hsi)
        clear hsi
        go_wp2_with (fail)
        refine (rep_any _ _).mono ?_
        rintro e wx ⟨rfl, rfl⟩
        rw [P2.out]
        cases p2
        · have HN := Lib.hid (HNO.out (by rw [HST.out]; simp))
          go_wp2
          go_ret
          exact ⟨by rw [HN.out]; rfl, HB0.out.trans (HBB.out.mono HB0.out.size)⟩
        have hway3 : ((rm != 0) = false ∧ ((rm == 0) || (p3 && (rm != ri))) = true) ∨ ((rm != 0) = true ∧ p3 = false ∧ ((rm == 0) || (p3 && (rm != ri))) = false) ∨ ((rm != 0) = true ∧ p3 = true ∧ (rm == ri) = true ∧ ((rm == 0) || (p3 && (rm != ri))) = false) ∨ ((rm != 0) = true ∧ p3 = true ∧ (rm == ri) = false ∧ ((rm == 0) || (p3 && (rm != ri))) = true) := way3 rm ri p3
        generalize ((rm == 0) || (p3 && (rm != ri))) = fo at *
        rcases hway3 with ⟨m0, rfl⟩ | ⟨m0, rfl, rfl⟩ | ⟨m0, rfl, m1, rfl⟩ | ⟨m0, rfl, m1, rfl⟩
        rotate_left 1
        · have HN := Lib.hid (HNO.out (by rw [HST.out]; simp))
          go_wp2_with (fail)
          refine (rid_any _ _).mono ?_
          rintro e wx ⟨rfl, rfl⟩
          rw [P3.out]
          go_wp2
          go_ret
          exact ⟨by rw [HN.out]; rfl, HB0.out.trans (HBB.out.mono HB0.out.size)⟩
        · have HN := Lib.hid (HNO.out (by rw [HST.out]; simp))
          go_wp2_with (fail)
          refine (rid_any _ _).mono ?_
          rintro e wx ⟨rfl, rfl⟩
          rw [P3.out]
          go_wp2
          go_ret
          exact ⟨by rw [HN.out]; rfl, HB0.out.trans (HBB.out.mono HB0.out.size)⟩
        · go_wp2_with (fail)
          refine (rid_any _ _).mono ?_
          rintro e wx ⟨rfl, rfl⟩
          rw [P3.out]
          clear P3 m0
          rcases Nat.eq_zero_or_pos k with hk0 | hk0
          · have z0 : decide (0 < (k : Int)) = false := by simp; omega
            have z0' : decide (0 < k) = false := by simp; omega
            have HN : Hid (∀ j, j < k + 1 → stepB si (lastK l j) (atK l j) = true) := Lib.hid fun j hj => by
              rcases Nat.lt_or_ge j k with h1 | h1
              · exact hall.out j h1
              · obtain rfl : k = j := by omega
                rw [HST.out, HQ1.out, HP0.out hk0]
                have : 1 ≤ ri := by first | exact HP1.out rfl | exact HP1.out trivial
                simp; omega
            clear hk0 HP0 HPS
            go_wp2
            go_quiet (fail)
            have hb3 := Lib.hid (below_drewN HBB.out nq)
            clear f0 f5 g0 g1 g2 d0 d1 d2 z0 z0'
            go_wp2
            go_roundw
            case rel => exact ⟨k + 1, by omega, by go_num, hb3, HN⟩
            case measure => simp [intOf]; omega
          · have z0 : decide (0 < (k : Int)) = true := by simp; omega
            have z0' : decide (0 < k) = true := by simp; omega
            obtain ⟨k1, hk1'⟩ : ∃ k1, k = k1 + 1 := ⟨k - 1, by omega⟩
            obtain ⟨r1, _, x0⟩ := HPS.out k1 hk1'
            have x1 := (HE.out.cell (p := ad.add (k1 * 3)) (C.lt_of_cell x0)).trans x0
            have hw1 : IntKind.i64.wrap ((k : Int) - 1) = (k1 : Int) := by rw [IntKind.wrap_i64]; omega
            have hl1 : 0 ≤ (k1 : Int) := by omega
            have hl2 : k1 < n := by omega
            have hl3 : (k1 : Int) < (n : Int) := by omega
            clear hk0 HP0 HPS hk1' x0
            by_cases hge : la < ri
            · have z1 : decide (ri ≤ la) = false := by simp; omega
              have HN : Hid (∀ j, j < k + 1 → stepB si (lastK l j) (atK l j) = true) := Lib.hid fun j hj => by
                rcases Nat.lt_or_ge j k with h1 | h1
                · exact hall.out j h1
                · obtain rfl : k = j := by omega
                  rw [HST.out, HQ1.out]
                  simpa using hge
              clear hge
              go_wp2
              go_quiet (fail)
              have hb3 := Lib.hid (below_drewN HBB.out nq)
              clear f0 f5 g0 g1 g2 d0 d1 d2 z0 z0' x1 hw1 z1 hl1 hl2 hl3
              go_wp2
              go_roundw
              case rel => exact ⟨k + 1, by omega, by go_num, hb3, HN⟩
              case measure => simp [intOf]; omega
            · have z1 : decide (ri ≤ la) = true := by simp; omega
              have HN := Lib.hid (HNO.out (by rw [HST.out, HQ1.out]; simpa using hge))
              clear hge
              go_wp2
              go_quiet (fail)
              have hb3 := Lib.hid (below_drewN HBB.out nq)
              go_wp2
              go_ret
              exact ⟨by rw [HN.out]; rfl, HB0.out.trans (hb3.out.mono HB0.out.size)⟩
        · obtain rfl : rm = 0 := by simpa using m0
          clear m0
          rcases Nat.eq_zero_or_pos k with hk0 | hk0
          · have z0 : decide (0 < (k : Int)) = false := by simp; omega
            have z0' : decide (0 < k) = false := by simp; omega
            have HN : Hid (∀ j, j < k + 1 → stepB si (lastK l j) (atK l j) = true) := Lib.hid fun j hj => by
              rcases Nat.lt_or_ge j k with h1 | h1
              · exact hall.out j h1
              · obtain rfl : k = j := by omega
                rw [HST.out, HQ1.out, HP0.out hk0]
                have : 1 ≤ ri := by first | exact HP1.out rfl | exact HP1.out trivial
                simp; omega
            clear hk0 HP0 HPS
            go_wp2
            go_quiet (fail)
            have hb3 := Lib.hid (below_drewN HBB.out nq)
            clear f0 f5 g0 g1 g2 d0 d1 d2 z0 z0'
            go_wp2
            go_roundw
            case rel => exact ⟨k + 1, by omega, by go_num, hb3, HN⟩
            case measure => simp [intOf]; omega
          · have z0 : decide (0 < (k : Int)) = true := by simp; omega
            have z0' : decide (0 < k) = true := by simp; omega
            obtain ⟨k1, hk1'⟩ : ∃ k1, k = k1 + 1 := ⟨k - 1, by omega⟩
            obtain ⟨r1, _, x0⟩ := HPS.out k1 hk1'
            have x1 := (HE.out.cell (p := ad.add (k1 * 3)) (C.lt_of_cell x0)).trans x0
            have hw1 : IntKind.i64.wrap ((k : Int) - 1) = (k1 : Int) := by rw [IntKind.wrap_i64]; omega
            have hl1 : 0 ≤ (k1 : Int) := by omega
            have hl2 : k1 < n := by omega
            have hl3 : (k1 : Int) < (n : Int) := by omega
            clear hk0 HP0 HPS hk1' x0
            by_cases hge : la < ri
            · have z1 : decide (ri ≤ la) = false := by simp; omega
              have HN : Hid (∀ j, j < k + 1 → stepB si (lastK l j) (atK l j) = true) := Lib.hid fun j hj => by
                rcases Nat.lt_or_ge j k with h1 | h1
                · exact hall.out j h1
                · obtain rfl : k = j := by omega
                  rw [HST.out, HQ1.out]
                  simpa using hge
              clear hge
              go_wp2
              go_quiet (fail)
              have hb3 := Lib.hid (below_drewN HBB.out nq)
              clear f0 f5 g0 g1 g2 d0 d1 d2 z0 z0' x1 hw1 z1 hl1 hl2 hl3
              go_wp2
              go_roundw
              case rel => exact ⟨k + 1, by omega, by go_num, hb3, HN⟩
              case measure => simp [intOf]; omega
            · have z1 : decide (ri ≤ la) = true := by simp; omega
              have HN := Lib.hid (HNO.out (by rw [HST.out, HQ1.out]; simpa using hge))
              clear hge
              go_wp2
              go_quiet (fail)
              have hb3 := Lib.hid (below_drewN HBB.out nq)
              go_wp2
              go_ret
              exact ⟨by rw [HN.out]; rfl, HB0.out.trans (hb3.out.mono HB0.out.size)⟩
      · obtain rfl : k = n := by omega
        have HX3 : Hid (R = hsB si l T) := Lib.hid (by rw [HX2.out, rk_iff.2 (fun j hj => hall.out j (by omega))]; rfl)
        clear HX2 hall
        have HS1 := Lib.hid (HS.out.later hb.out)
        have HL1 := Lib.hid (HL.out.up hb.out)
        have HB1 := Lib.hid (HB0.out.trans (hb.out.mono HB0.out.size))
        clear hb e0 HL HS
        obtain ⟨w2, rfl⟩ : ∃ w2, w2 = wr := ⟨_, rfl⟩
        go_wp2
        clear e5
        go_loopw [5] (fun i wr => ∃ k : Nat, k ≤ 64 ∧ i = .int .i64 (k : Int) ∧ Hid (Below w2.heap.size w2 wr) ∧ Hid (∀ j, j < k → hB si l (T.o j) (T.e j) = true)) (fun i _ => 64 - (intOf i).toNat)
        case atStart => exact ⟨0, Nat.zero_le _, rfl, Lib.hid (Below.refl _ _), Lib.hid fun j hj => absurd hj (by omega)⟩
        case round =>
          obtain ⟨q, hq, rfl, hb, hall⟩ := hrel
          by_cases hlt : q < 64
          · have HSW := Lib.hid (HS1.out.later hb.out)
            have ho := HSW.out.o hlt
            have hev := HSW.out.e hlt
            simp only at ho hev
            have hk1 : 0 ≤ (q : Int) := by omega
            have hk2 : (q : Int) < 64 := by omega
            obtain ⟨ov, HO⟩ : ∃ z, Hid (T.o q = z) := ⟨_, Lib.hid rfl⟩
            obtain ⟨ev, HE⟩ : ∃ z, Hid (T.e q = z) := ⟨_, Lib.hid rfl⟩
            rw [HO.out] at ho
            rw [HE.out] at hev
            have HNO : Hid (hB si l ov ev = false → R = false) := Lib.hid fun h => by rw [HX3.out]; exact hs_no hlt (by rw [HO.out, HE.out]; exact h)
            have HNX : Hid (hB si l ov ev = true → ∀ j, j < q + 1 → hB si l (T.o j) (T.e j) = true) := Lib.hid fun h j hj => by
              rcases Nat.lt_or_ge j q with h1 | h1
              · exact hall.out j h1
              · obtain rfl : j = q := by omega
                rw [HO.out, HE.out]; exact h
            obtain ⟨kb, KB⟩ : ∃ b, Hid ((anyB l ov || (ov == si)) = b) := ⟨_, Lib.hid rfl⟩
            obtain ⟨eb, EB⟩ : ∃ b, Hid (betB 0 281474976710656 ev = b) := ⟨_, Lib.hid rfl⟩
            have ho' : ∀ p : Later wr, p.now.cell? ⟨w.heap.size, 6 + q, none⟩ = some (.int .i64 ov) := fun p => p.cell ho
            have he' : ∀ p : Later wr, p.now.cell? ⟨w.heap.size, 70 + q, none⟩ = some (.int .i64 ev) := fun p => p.cell hev
            have HKN : Hid (∀ p : Later wr, Calls Tryz.prog 30 #[.agg (stv ⟨si, sm, sc, sv, sf, A, k, cap, T⟩), .int .i64 ov] p.now fun e w' => e = .returned (.bool kb) ∧ Below p.now.heap.size p.now w') := Lib.hid fun p => by
              have := rknows_any ⟨si, sm, sc, sv, sf, A, k, cap, T⟩ l ov p.now ((HL1.out.up hb.out).up p.below) hN
              rw [← KB.out]; exact this
            by_cases h0 : ov = 0
            · have z0 : (ov == 0) = true := by simpa using h0
              have z1 : (ov != 0) = false := by simpa using h0
              by_cases h1 : ev = 0
              · have z2 : (ev != 0) = false := by simpa using h1
                have HN := Lib.hid (HNX.out (by unfold hB; rw [if_pos h0]; simpa using h1))
                clear h0 h1
                go_wp2
                refine wp_region_later (by kernel_rfl) (by kernel_rfl) ?_
                repeat (go_big_quiet_step (fail))
                refine wpQuiet_nil ?_
                intro _ hw'
                obtain ⟨pq, hw''⟩ := hw'
                subst hw''
                have hb3 := Lib.hid (hb.out.trans (pq.below.mono hb.out.size))
                obtain ⟨w3, e3⟩ : ∃ w3, pq.now = w3 := ⟨_, rfl⟩
                rw [e3] at hb3 ⊢
                clear e3
                clear ho' he' ho hev z0 z1 z2 HKN
                go_wp2
                go_roundw
                case rel => exact ⟨q + 1, by omega, by go_num, hb3, HN⟩
                case measure => simp [intOf]; omega
              · have z2 : (ev != 0) = true := by simpa using h1
                have HN := Lib.hid (HNO.out (by unfold hB; rw [if_pos h0]; simpa using h1))
                clear h0 h1
                go_wp2
                go_ret
                exact ⟨by rw [HN.out]; rfl, HB1.out.trans (hb.out.mono HB1.out.size)⟩
            · have z0 : (ov == 0) = false := by simpa using h0
              have z1 : (ov != 0) = true := by simpa using h0
              have HHB : Hid (hB si l ov ev = (kb && eb)) := Lib.hid (by unfold hB; rw [if_neg h0, KB.out, EB.out])
              clear h0
              go_wp2
              cases kb
              · have HN := Lib.hid (HNO.out (by rw [HHB.out]; rfl))
                refine wp_region_later (by kernel_rfl) (by kernel_rfl) ?_
                repeat (first | ((with_reducible refine quiet_rt (b := w.heap.size) (s := ⟨si, sm, sc, sv, sf, A, k, cap, T⟩) ?_ ?_ ?_ ?_); (rfl); (with_reducible exact HSW.out); (rfl); (simp only [Act.put, List.setIfInBounds_toArray, List.set_cons_zero, List.set_cons_succ])) | go_big_quiet_step (first | (go_at_call 30; with_reducible exact Later.calls (HKN.out _))))
                refine wpQuiet_nil ?_
                intro _ hw'
                obtain ⟨pq, hw''⟩ := hw'
                subst hw''
                have hb3 := Lib.hid (hb.out.trans (pq.below.mono hb.out.size))
                obtain ⟨w3, e3⟩ : ∃ w3, pq.now = w3 := ⟨_, rfl⟩
                rw [e3] at hb3 ⊢
                clear e3
                go_wp2
                go_ret
                exact ⟨by rw [HN.out]; rfl, HB1.out.trans (hb3.out.mono HB1.out.size)⟩
              have HEP : Hid (∀ w' : World, Calls Tryz.prog 29 #[.int .i64 ev] w' fun e w'' => e = .returned (.bool eb) ∧ w' = w'') := Lib.hid fun w' => by
                have := rep_any ev w'
                rw [EB.out] at this; exact this
              cases eb
              · have HN := Lib.hid (HNO.out (by rw [HHB.out]; rfl))
                refine wp_region_later (by kernel_rfl) (by kernel_rfl) ?_
                repeat (first | ((with_reducible refine quiet_rt (b := w.heap.size) (s := ⟨si, sm, sc, sv, sf, A, k, cap, T⟩) ?_ ?_ ?_ ?_); (rfl); (with_reducible exact HSW.out); (rfl); (simp only [Act.put, List.setIfInBounds_toArray, List.set_cons_zero, List.set_cons_succ])) | go_big_quiet_step (first | (go_at_call 30; with_reducible exact Later.calls (HKN.out _)) | (go_at_call 29; with_reducible exact Later.calls_same (HEP.out _))))
                refine wpQuiet_nil ?_
                intro _ hw'
                obtain ⟨pq, hw''⟩ := hw'
                subst hw''
                have hb3 := Lib.hid (hb.out.trans (pq.below.mono hb.out.size))
                obtain ⟨w3, e3⟩ : ∃ w3, pq.now = w3 := ⟨_, rfl⟩
                rw [e3] at hb3 ⊢
                clear e3
                go_wp2
                go_ret
                exact ⟨by rw [HN.out]; rfl, HB1.out.trans (hb3.out.mono HB1.out.size)⟩
              · have HN := Lib.hid (HNX.out (by rw [HHB.out]; rfl))
                refine wp_region_later (by kernel_rfl) (by kernel_rfl) ?_
                repeat (first | ((with_reducible refine quiet_rt (b := w.heap.size) (s := ⟨si, sm, sc, sv, sf, A, k, cap, T⟩) ?_ ?_ ?_ ?_); (rfl); (with_reducible exact HSW.out); (rfl); (simp only [Act.put, List.setIfInBounds_toArray, List.set_cons_zero, List.set_cons_succ])) | go_big_quiet_step (first | (go_at_call 30; with_reducible exact Later.calls (HKN.out _)) | (go_at_call 29; with_reducible exact Later.calls_same (HEP.out _))))
                refine wpQuiet_nil ?_
                intro _ hw'
                obtain ⟨pq, hw''⟩ := hw'
                subst hw''
                have hb3 := Lib.hid (hb.out.trans (pq.below.mono hb.out.size))
                obtain ⟨w3, e3⟩ : ∃ w3, pq.now = w3 := ⟨_, rfl⟩
                rw [e3] at hb3 ⊢
                clear e3
                clear ho' he' ho hev z0 z1 HKN
                go_wp2
                go_roundw
                case rel => exact ⟨q + 1, by omega, by go_num, hb3, HN⟩
                case measure => simp [intOf]; omega
          · obtain rfl : q = 64 := by omega
            have HN : Hid (R = true) := Lib.hid (by rw [HX3.out]; exact hs_iff.2 hall.out)
            go_wp2
            go_ret
            exact ⟨by rw [HN.out]; rfl, HB1.out.trans (hb.out.mono HB1.out.size)⟩
end Go.Proofs.YtmjbacmaafbdlaaGreatDoor.R
