/-
  WHAT IS PROVED: '==' of epochs and of known nodes; the contract of the comparison of two states. Condition: the known ones lie in memory.
-/
import Derived.Test.YtmjbacmaafbdlaaGreatDoorMathb
import Derived.Shelf.SlicesE.Kit
import Derived.Laws.StructEq
import Derived.Deep.Cut
namespace Go.Proofs.YtmjbacmaafbdlaaGreatDoor
open Go.RowKit Go.Lib C

def triB (a b c x y z : Int) : Bool := decide (a = x) && (decide (b = y) && decide (c = z))
theorem same_ep (a b c x y z : Int) (w : World) : (Op.equalIn 10000 24 (.agg #[.int .i64 a, .int .i64 b, .int .i64 c]) (.agg #[.int .i64 x, .int .i64 y, .int .i64 z])).run Tryz.prog w = .ok (triB a b c x y z) w := by
  have u3 := Tryz.underlying3
  have a3 := Tryz.isAgg3
  have z3 := Tryz.sizeOf3
  have hS : Tryz.prog.underlying 24 = some (.struct (Tryz.prog.fieldsOf 24)) := by kernel_rfl
  have hp : Tryz.prog.stoodInHeld 24 = false := by kernel_rfl
  rw [show (10000 : Nat) = 9999 + 1 from rfl, run_equalIn_agg w 9999 24 _ _ hS hp]
  simp only [Program.fieldsOf, Tryz.underlying24]
  unfold triB
  go_simp
  by_cases h1 : a = x <;> by_cases h2 : b = y <;> by_cases h3 : c = z <;> simp [h1, h2, h3]
theorem guard_ep (op : BinOp) (p q : Operand) (a b c x y z : Int) (w : World) : (eqGuard op 24 p q (.agg #[.int .i64 a, .int .i64 b, .int .i64 c]) (.agg #[.int .i64 x, .int .i64 y, .int .i64 z])).run Tryz.prog w = .ok () w := run_eqGuard_agg w op 24 p q _ _ (by kernel_rfl)
theorem same_kn (a b c x y z : Int) (w : World) : (Op.equalIn 10000 52 (.agg #[.int .i64 a, .int .i64 b, .int .i64 c]) (.agg #[.int .i64 x, .int .i64 y, .int .i64 z])).run Tryz.prog w = .ok (triB a b c x y z) w := by
  have u3 := Tryz.underlying3
  have a3 := Tryz.isAgg3
  have z3 := Tryz.sizeOf3
  have hS : Tryz.prog.underlying 52 = some (.struct (Tryz.prog.fieldsOf 52)) := by kernel_rfl
  have hp : Tryz.prog.stoodInHeld 52 = false := by kernel_rfl
  rw [show (10000 : Nat) = 9999 + 1 from rfl, run_equalIn_agg w 9999 52 _ _ hS hp]
  simp only [Program.fieldsOf, Tryz.underlying52]
  unfold triB
  go_simp
  by_cases h1 : a = x <;> by_cases h2 : b = y <;> by_cases h3 : c = z <;> simp [h1, h2, h3]
theorem guard_kn (op : BinOp) (p q : Operand) (a b c x y z : Int) (w : World) : (eqGuard op 52 p q (.agg #[.int .i64 a, .int .i64 b, .int .i64 c]) (.agg #[.int .i64 x, .int .i64 y, .int .i64 z])).run Tryz.prog w = .ok () w := run_eqGuard_agg w op 52 p q _ _ (by kernel_rfl)

def knEq (a b : Kn) : Bool := triB a.i a.m a.c b.i b.m b.c
def knsEq (la lb : List Kn) : Bool := (List.range la.length).all fun j => knEq (atK la j) (atK lb j)
def sameSt (a : Sv) (la : List Kn) (b : Sv) (lb : List Kn) : Bool := (a.i == b.i) && ((a.m == b.m) && (triB a.c a.v a.f b.c b.v b.f && (sameB a.t b.t && ((a.n == b.n) && knsEq la lb))))
theorem kns_no {la lb : List Kn} {j : Nat} (hj : j < la.length) (h : knEq (atK la j) (atK lb j) = false) : knsEq la lb = false := by
  unfold knsEq
  rw [List.all_eq_false]
  exact ⟨j, by simpa using hj, by rw [h]; simp⟩
theorem kns_yes {la lb : List Kn} (h : ∀ j, j < la.length → knEq (atK la j) (atK lb j) = true) : knsEq la lb = true := by
  unfold knsEq
  rw [List.all_eq_true]
  intro j hj
  exact h j (by simpa using hj)
theorem knEq_iff {a b : Kn} : knEq a b = true ↔ a = b := by
  obtain ⟨a1, a2, a3⟩ := a
  obtain ⟨b1, b2, b3⟩ := b
  unfold knEq triB
  simp
theorem sameSt_iff {a b : Dt} {p q : Option Addr} {n m c e : Nat} (hn : a.l.length = n) (hm : b.l.length = m) : sameSt (mkS a p n c) a.l (mkS b q m e) b.l = true ↔ likeD a b := by
  unfold sameSt likeD
  show ((a.i == b.i) && ((a.m == b.m) && (triB a.c a.v a.f b.c b.v b.f && (sameB a.t b.t && ((n == m) && knsEq a.l b.l))))) = true ↔ _
  unfold triB
  simp only [Bool.and_eq_true, beq_iff_eq, decide_eq_true_eq, same_iff]
  constructor
  · rintro ⟨h1, h2, ⟨h3, h4, h5⟩, h6, h7, h8⟩
    refine ⟨h1, h2, h3, h4, h5, ?_, h6⟩
    unfold knsEq at h8
    rw [List.all_eq_true] at h8
    refine List.ext_getElem (by omega) fun j hj hj2 => ?_
    have h9 := knEq_iff.1 (h8 j (by simpa using hj))
    rw [at_some (List.getElem?_eq_getElem hj), at_some (List.getElem?_eq_getElem hj2)] at h9
    exact h9
  · rintro ⟨h1, h2, h3, h4, h5, h6, h7⟩
    refine ⟨h1, h2, ⟨h3, h4, h5⟩, h7, by rw [← hn, ← hm, h6], ?_⟩
    rw [h6]
    exact kns_yes fun j _ => knEq_iff.2 rfl

end Go.Proofs.YtmjbacmaafbdlaaGreatDoor

/-
  WHAT IS PROVED: the contract of the comparison of two states. Condition: the known ones lie in memory.
-/
namespace Go.Proofs.YtmjbacmaafbdlaaGreatDoor
open Go.RowKit Go.Lib C

set_option maxRecDepth 100000 in
set_option maxHeartbeats 1500000 in
theorem samestate_any (a b : Sv) (la lb : List Kn) (w : World) (ha : KnAt w a.a a.n la) (hb : KnAt w b.a b.n lb) (hN : a.n ≤ 9223372036854775807) : Calls Tryz.prog 11 #[.agg (stv a), .agg (stv b)] w (Says (sameSt a la b lb) w) := by
  obtain ⟨h1, h2, h3, _⟩ := two_sts (w := w) (s := a) (u := b) (Below.refl _ _)
  have HA := Lib.hid h1
  have HB := Lib.hid h2
  have HW := Lib.hid h3
  have HLA := Lib.hid (ha.below h3)
  have HLB := Lib.hid (hb.below h3)
  clear h1 h2 h3 ha hb
  have HX : Hid (sameSt a la b lb = ((a.i == b.i) && ((a.m == b.m) && (triB a.c a.v a.f b.c b.v b.f && (sameB a.t b.t && ((a.n == b.n) && knsEq la lb)))))) := Lib.hid rfl
  generalize sameSt a la b lb = R at *
  obtain ⟨ai, am, ac, av, af, A, n, cap, T⟩ := a
  obtain ⟨bi, bm, bc, bv, bf, B, m, bcap, U⟩ := b
  simp only at HX HLA HLB hN
  have hla := HLA.out.1
  have hlb := HLB.out.1
  go_enter Tryz.func11, Tryz.ntmps11
  go_upto_region 1 with (fail)
  obtain ⟨W, hW⟩ : ∃ W, (w.alloc (.cells (stv ⟨ai, am, ac, av, af, A, n, cap, T⟩) 30)).alloc (.cells (stv ⟨bi, bm, bc, bv, bf, B, m, bcap, U⟩) 30) = W := ⟨_, rfl⟩
  rw [hW] at HA HB HW HLA HLB ⊢
  clear hW
  have HPQ : Hid (Below w.heap.size w W) := HW
  clear HW
  generalize w.heap.size + 1 = q at HB ⊢
  generalize hp : w.heap.size = p at HA ⊢
  clear hp
  obtain ⟨a0, a1, a2, a3, a4, a5⟩ := HA.out.box
  obtain ⟨b0, b1, b2, b3, b4, b5⟩ := HB.out.box
  simp only at a0 a1 a2 a3 a4 a5 b0 b1 b2 b3 b4 b5
  have se := fun w => same_ep ac av af bc bv bf w
  have st := fun w => same_tab T U w
  obtain ⟨r1, R1⟩ : ∃ r, Hid (triB ac av af bc bv bf = r) := ⟨_, Lib.hid rfl⟩
  obtain ⟨r2, R2⟩ : ∃ r, Hid (sameB T U = r) := ⟨_, Lib.hid rfl⟩
  rw [R1.out, R2.out] at HX
  simp only [R1.out] at se
  simp only [R2.out] at st
  by_cases hi : ai = bi
  · subst hi
    by_cases hm : am = bm
    · subst hm
      have HX2 : Hid (R = (r1 && (r2 && ((n == m) && knsEq la lb)))) := Lib.hid (by rw [HX.out]; simp)
      clear HX
      cases r1
      · go_wp2
        go_ret
        exact ⟨by rw [HX2.out]; rfl, HPQ.out⟩
      · cases r2
        · go_wp2_with (first | ((with_reducible refine st_table (b := p) (s := ⟨ai, am, ac, av, af, A, n, cap, T⟩) ?_ ?_ ?_ ?_); (rfl); (with_reducible exact HA.out); (rfl)) | ((with_reducible refine st_table (b := q) (s := ⟨ai, am, bc, bv, bf, B, m, bcap, U⟩) ?_ ?_ ?_ ?_); (rfl); (with_reducible exact HB.out); (rfl)))
          go_ret
          exact ⟨by rw [HX2.out]; rfl, HPQ.out⟩
        · by_cases hnm : n = m
          · subst hnm
            have HX3 : Hid (R = knsEq la lb) := Lib.hid (by rw [HX2.out]; simp)
            clear HX2
            go_wp2_with (first | ((with_reducible refine st_table (b := p) (s := ⟨ai, am, ac, av, af, A, n, cap, T⟩) ?_ ?_ ?_ ?_); (rfl); (with_reducible exact HA.out); (rfl)) | ((with_reducible refine st_table (b := q) (s := ⟨ai, am, bc, bv, bf, B, n, bcap, U⟩) ?_ ?_ ?_ ?_); (rfl); (with_reducible exact HB.out); (rfl)))
            go_loopw [45] (fun i wr => ∃ k : Nat, k ≤ n ∧ i = .int .i64 k ∧ Hid (Below W.heap.size W wr) ∧ Hid (∀ j, j < k → knEq (atK la j) (atK lb j) = true)) (fun i _ => n - (RowKit.intOf i).toNat)
            case atStart => exact ⟨0, by omega, rfl, Lib.hid (Below.refl _ _), Lib.hid fun j hj => absurd hj (by omega)⟩
            case round =>
              obtain ⟨k, hk, rfl, hb, hall⟩ := hrel
              by_cases hlt : k < n
              · obtain ⟨ad, x, hA, hx, hltx, d0, d1, d2⟩ := (HLA.out.below hb.out).at_ hlt
                subst hA
                have HE : Hid (Below W.heap.size W (wr.alloc (.cells #[.int .i64 x.i, .int .i64 x.m, .int .i64 x.c] 52))) := Lib.hid (hb.out.alloc hb.out.size _)
                obtain ⟨ad2, y, hB2, hy, hlty, e0, e1, e2⟩ := (HLB.out.below HE.out).at_ hlt
                subst hB2
                obtain ⟨x1, x2, x3⟩ := x
                obtain ⟨y1, y2, y3⟩ := y
                simp only at d0 d1 d2 e0 e1 e2 HE
                have HK := Lib.hid (KBx.new wr ⟨x1, x2, x3⟩)
                obtain ⟨g0, g1, g2⟩ := HK.out.box
                simp only at g0 g1 g2
                have HSB := Lib.hid (HB.out.later HE.out)
                obtain ⟨_, _, _, _, _, f5⟩ := HSB.out.box
                simp only at f5
                have sk := fun w => same_kn x1 x2 x3 y1 y2 y3 w
                have gk := fun op p q w => guard_kn op p q x1 x2 x3 y1 y2 y3 w
                obtain ⟨r, HR⟩ : ∃ r, Hid (triB x1 x2 x3 y1 y2 y3 = r) := ⟨_, Lib.hid rfl⟩
                simp only [HR.out] at sk
                have HKE : Hid (knEq (atK la k) (atK lb k) = r) := Lib.hid (by rw [at_some hx, at_some hy]; exact HR.out)
                clear hx hy hltx hlty
                have HNO : Hid (knEq (atK la k) (atK lb k) = false → R = false) := Lib.hid fun h => by rw [HX3.out]; exact kns_no (by omega) h
                cases r
                · go_wp2
                  go_region
                  all_goals go_wp2
                  all_goals go_ret
                  all_goals exact ⟨by rw [HNO.out HKE.out]; rfl, HPQ.out.trans (HE.out.drew.mono HPQ.out.size)⟩
                · go_wp2
                  go_region
                  all_goals go_wp2
                  all_goals go_roundw
                  case rel => exact ⟨k + 1, by omega, by go_num, HE.out.drew, Lib.hid fun j hj => by
                    rcases Nat.lt_or_ge j k with h | h
                    · exact hall.out j h
                    · obtain rfl : k = j := by omega
                      exact HKE.out⟩
                  case measure => simp [RowKit.intOf]; omega
              · obtain rfl : n = k := by omega
                have HY : Hid (R = true) := Lib.hid (by rw [HX3.out]; exact kns_yes fun j hj => hall.out j (by omega))
                go_wp2
                go_ret
                exact ⟨by rw [HY.out]; rfl, HPQ.out.trans (hb.out.mono HPQ.out.size)⟩
          · have hq : ((n : Int) == (m : Int)) = false := by simp; omega
            have HX3 : Hid (R = false) := Lib.hid (by rw [HX2.out]; simp [hnm])
            clear HX2 hnm
            go_wp2_with (first | ((with_reducible refine st_table (b := p) (s := ⟨ai, am, ac, av, af, A, n, cap, T⟩) ?_ ?_ ?_ ?_); (rfl); (with_reducible exact HA.out); (rfl)) | ((with_reducible refine st_table (b := q) (s := ⟨ai, am, bc, bv, bf, B, m, bcap, U⟩) ?_ ?_ ?_ ?_); (rfl); (with_reducible exact HB.out); (rfl)))
            go_ret
            exact ⟨by rw [HX3.out]; rfl, HPQ.out⟩
    · have hq2 : (am != bm) = true := by simpa using hm
      have hq : (am == bm) = false := by simpa using hm
      have HX2 : Hid (R = false) := Lib.hid (by rw [HX.out, hq]; simp)
      clear HX hm hq
      go_wp2
      go_ret
      exact ⟨by rw [HX2.out]; rfl, HPQ.out⟩
  · have hq2 : (ai != bi) = true := by simpa using hi
    have hq : (ai == bi) = false := by simpa using hi
    have HX2 : Hid (R = false) := Lib.hid (by rw [HX.out, hq]; simp)
    clear HX hi hq
    go_wp2
    go_ret
    exact ⟨by rw [HX2.out]; rfl, HPQ.out⟩
end Go.Proofs.YtmjbacmaafbdlaaGreatDoor
