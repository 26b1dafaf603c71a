/-
  WHAT IS PROVED: the contracts of slices.Equal at known nodes and of the comparison of two states. Condition: the known ones lie in memory.
-/
import Derived.Test.YteoodompphhkbaaGreatDoorZOA
namespace Go.Proofs.YteoodompphhkbaaGreatDoor.Nod
set_option maxRecDepth 100000
open Go.RowKit Go.Lib Go.Maps
open Go.Proofs.YteoodompphhkbaaGreatDoor.Ros (Turn Sub Rd Blk no zints)
open Go.Proofs.YteoodompphhkbaaGreatDoor.K (KnAt Kn knEq knsEq kns_no kns_yes atK at_some triB Sv stv StAt mkS)

set_option maxHeartbeats 2000000 in
theorem equalk_any (A B : Option Addr) (n m c e : Nat) (la lb : List Kn) (w : World) (ha : KnAt w A n la) (hb : KnAt w B m lb) (hn : n ≤ 9223372036854775807) (hm : m ≤ 9223372036854775807) :
    Calls Tryz.prog 179 #[.slice A n c, .slice B m e] w (K.Says (((n : Nat) == m) && knsEq la lb) w) := by
  have HLA := Lib.hid ha
  have HLB := Lib.hid hb
  have hla := ha.1
  have hlb := hb.1
  clear ha hb
  by_cases hnm : n = m
  · subst hnm
    have HX : Hid ((((n : Nat) == n) && knsEq la lb) = knsEq la lb) := Lib.hid (by simp)
    rw [HX.out]
    obtain ⟨R, HR3⟩ : ∃ R, Hid (knsEq la lb = R) := ⟨_, Lib.hid rfl⟩
    rw [HR3.out]
    clear HX
    go_enter Tryz.func179, Tryz.ntmps179
    go_wp2
    go_loopw [5, 13] (fun _ i wr => ∃ k : Nat, k ≤ n ∧ i = .int .i64 k ∧ Hid (Below w.heap.size w wr) ∧ Hid (∀ j, j < k → knEq (atK la j) (atK lb j) = true)) (fun _ i _ => n - (intOf i).toNat)
    case atStart => exact ⟨0, by omega, rfl, Lib.hid (Below.refl _ _), Lib.hid fun j hj => absurd hj (by omega)⟩
    case round =>
      obtain ⟨k, hk, rfl, hb, hall⟩ := hrel
      by_cases hlt : k < n
      · obtain ⟨ad, x, hA, hx, hltx, d0, d1, d2⟩ := (HLA.out.below hb.out).at_ hlt
        subst hA
        obtain ⟨ad2, y, hB2, hy, hlty, e0, e1, e2⟩ := (HLB.out.below hb.out).at_ hlt
        subst hB2
        obtain ⟨x1, x2, x3⟩ := x
        obtain ⟨y1, y2, y3⟩ := y
        simp only at d0 d1 d2 e0 e1 e2
        have sk := fun w => K.same_kn x1 x2 x3 y1 y2 y3 w
        have gk := fun op p q w => K.guard_kn op p q x1 x2 x3 y1 y2 y3 w
        obtain ⟨r, HR⟩ : ∃ r, Hid (triB x1 x2 x3 y1 y2 y3 = r) := ⟨_, Lib.hid rfl⟩
        simp only [HR.out] at sk
        have HKE : Hid (knEq (atK la k) (atK lb k) = r) := Lib.hid (by rw [at_some hx, at_some hy]; exact HR.out)
        clear hx hy hltx hlty
        have HNO : Hid (knEq (atK la k) (atK lb k) = false → R = false) := Lib.hid fun h => by rw [← HR3.out]; exact kns_no (by omega) h
        cases r
        · go_wp2
          go_region
          all_goals go_wp2
          all_goals go_ret
          all_goals exact ⟨by rw [HNO.out HKE.out]; rfl, hb.out.drew⟩
        · go_wp2
          go_region
          all_goals go_wp2
          all_goals go_roundw
          case rel => exact ⟨k + 1, by omega, by go_num, hb.out.drew, Lib.hid fun j hj => by
            rcases Nat.lt_or_ge j k with h | h
            · exact hall.out j h
            · obtain rfl : k = j := by omega
              exact HKE.out⟩
          case measure => simp [intOf]; omega
      · obtain rfl : n = k := by omega
        have HY : Hid (R = true) := Lib.hid (by rw [← HR3.out]; exact kns_yes fun j hj => hall.out j (by omega))
        go_wp2
        go_ret
        exact ⟨by rw [HY.out]; rfl, hb.out⟩
  · have hq : ((n : Int) != (m : Int)) = true := by simp; omega
    have HX : Hid ((((n : Nat) == m) && knsEq la lb) = false) := Lib.hid (by simp [hnm])
    rw [HX.out]
    clear hnm
    go_enter Tryz.func179, Tryz.ntmps179
    go_wp2
    go_ret
    exact ⟨rfl, Below.refl _ _⟩

/-- what the comparison of two states comes to -/
def sameS (a b : Sv) (la lb : List Kn) : Bool := (a.m == b.m) && (triB a.c a.v a.f b.c b.v b.f && (K.C.sameB a.t b.t && (((a.n : Nat) == b.n) && knsEq la lb)))
set_option maxHeartbeats 2000000 in
theorem issame_any (a b : Sv) (la lb : List Kn) (w : World) (ha : KnAt w a.a a.n la) (hb : KnAt w b.a b.n lb) (hn : a.n ≤ 9223372036854775807) (hm : b.n ≤ 9223372036854775807) :
    Calls Tryz.prog 102 #[.agg (stv a), .agg (stv b)] w (K.Says (sameS a b la lb) w) := by
  obtain ⟨h1, h2, h3, _⟩ := K.two_sts (w := w) (s := a) (u := b) (Below.refl _ _)
  have HA := Lib.hid h1
  have HB := Lib.hid h2
  have HW := Lib.hid h3
  have HLA := Lib.hid (ha.below h3)
  have HLB := Lib.hid (hb.below h3)
  clear h1 h2 h3 ha hb
  have HX : Hid (sameS a b la lb = ((a.m == b.m) && (triB a.c a.v a.f b.c b.v b.f && (K.C.sameB a.t b.t && (((a.n : Nat) == b.n) && knsEq la lb))))) := Lib.hid rfl
  generalize sameS a b la lb = R at *
  obtain ⟨ai, am, ac, av, af, A, n, cap, T⟩ := a
  obtain ⟨bi, bm, bc, bv, bf, B, m, bcap, U⟩ := b
  simp only at HX HLA HLB hn hm
  go_enter Tryz.func102, Tryz.ntmps102
  go_upto_region 1 with (fail)
  obtain ⟨W, hW⟩ : ∃ W, (w.alloc (.cells (stv ⟨ai, am, ac, av, af, A, n, cap, T⟩) 73)).alloc (.cells (stv ⟨bi, bm, bc, bv, bf, B, m, bcap, U⟩) 73) = W := ⟨_, rfl⟩
  rw [hW] at HA HB HW HLA HLB ⊢
  clear hW
  have HPQ : Hid (Below w.heap.size w W) := HW
  clear HW
  generalize w.heap.size + 1 = q at HB ⊢
  generalize hp : w.heap.size = p at HA ⊢
  obtain ⟨a0, a1, a2, a3, a4, a5⟩ := HA.out.box
  obtain ⟨b0, b1, b2, b3, b4, b5⟩ := HB.out.box
  simp only at a0 a1 a2 a3 a4 a5 b0 b1 b2 b3 b4 b5
  have se := fun w => K.same_ep ac av af bc bv bf w
  have st := fun w => K.C.same_tab T U w
  obtain ⟨r1, R1⟩ : ∃ r, Hid (triB ac av af bc bv bf = r) := ⟨_, Lib.hid rfl⟩
  obtain ⟨r2, R2⟩ : ∃ r, Hid (K.C.sameB T U = r) := ⟨_, Lib.hid rfl⟩
  rw [R1.out, R2.out] at HX
  simp only [R1.out] at se
  simp only [R2.out] at st
  have HP := Lib.hid hp
  clear hp
  by_cases hm' : am = bm
  · subst hm'
    have HX2 : Hid (R = (r1 && (r2 && (((n : Nat) == m) && knsEq la lb)))) := Lib.hid (by rw [HX.out]; simp)
    clear HX
    cases r1
    · go_wp2
      go_ret
      exact ⟨by rw [HX2.out]; rfl, HP.out ▸ HPQ.out⟩
    · cases r2
      · go_wp2_with (first | ((with_reducible refine K.st_table (b := p) (s := ⟨ai, am, ac, av, af, A, n, cap, T⟩) ?_ ?_ ?_ ?_); (rfl); (with_reducible exact HA.out); (rfl)) | ((with_reducible refine K.st_table (b := q) (s := ⟨bi, am, bc, bv, bf, B, m, bcap, U⟩) ?_ ?_ ?_ ?_); (rfl); (with_reducible exact HB.out); (rfl)))
        go_ret
        exact ⟨by rw [HX2.out]; rfl, HP.out ▸ HPQ.out⟩
      · have HX3 : Hid (R = (((n : Nat) == m) && knsEq la lb)) := Lib.hid (by rw [HX2.out]; simp)
        clear HX2
        go_wp2_with (first | ((with_reducible refine K.st_table (b := p) (s := ⟨ai, am, ac, av, af, A, n, cap, T⟩) ?_ ?_ ?_ ?_); (rfl); (with_reducible exact HA.out); (rfl)) | ((with_reducible refine K.st_table (b := q) (s := ⟨bi, am, bc, bv, bf, B, m, bcap, U⟩) ?_ ?_ ?_ ?_); (rfl); (with_reducible exact HB.out); (rfl)))
        refine (equalk_any A B n m cap bcap la lb W HLA.out HLB.out hn hm).mono ?_
        rintro e w2 ⟨rfl, hb⟩
        rw [← HX3.out]
        have HB2 := Lib.hid hb
        clear hb
        go_wp2
        go_ret
        exact ⟨rfl, HP.out ▸ HPQ.out.trans (HB2.out.mono HPQ.out.size)⟩
  · have hq : (am == bm) = false := by simpa using hm'
    have HX2 : Hid (R = false) := Lib.hid (by rw [HX.out, hq]; simp)
    clear HX hm'
    go_wp2
    go_ret
    exact ⟨by rw [HX2.out]; rfl, HP.out ▸ HPQ.out⟩
end Go.Proofs.YteoodompphhkbaaGreatDoor.Nod
