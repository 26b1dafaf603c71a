/-
  WHAT IS PROVED: the contract of keep.Carry. Conditions: the known ones lie in memory.
-/
import Derived.Test.YtijkdibccgdomaaGreatDoorKLoad
namespace Go.Proofs.YtijkdibccgdomaaGreatDoor.Dsk
set_option maxRecDepth 100000
open Go.RowKit Go.Lib C

def upB (a b : Dt) : Bool := decide (a.c ≤ b.c) && (decide (a.v ≤ b.v) && decide (a.f ≤ b.f))
def carryB (a b : Dt) : Bool := okD a && (okD b && ((a.i == b.i) && upB a b))
theorem carry_like {a b x y : Dt} (h : likeD a x) (k : likeD b y) : carryB a b = carryB x y := by
  have h1 := okD_congr h
  have h2 := okD_congr k
  obtain ⟨i1, _, c1, v1, f1, _⟩ := h
  obtain ⟨i2, _, c2, v2, f2, _⟩ := k
  unfold carryB upB
  rw [h1, h2, i1, i2, c1, c2, v1, v2, f1, f2]
theorem carry_self (a : Dt) : carryB a a = okD a := by unfold carryB upB; simp
theorem carry_iff {a b : Dt} : carryB a b = true ↔ okD a = true ∧ okD b = true ∧ a.i = b.i ∧ a.c ≤ b.c ∧ a.v ≤ b.v ∧ a.f ≤ b.f := by
  unfold carryB upB; simp
theorem carry_trans {a b c : Dt} (h : carryB a b = true) (k : carryB b c = true) : carryB a c = true := by
  rw [carry_iff] at h k ⊢
  exact ⟨h.1, k.2.1, by omega, by omega, by omega, by omega⟩
theorem right_dk (d : Dt) (A : Option Addr) (n c : Nat) (w : World) (hk : KnAt w A n d.l) (hN : n ≤ 9223372036854775807) : Calls Tryz.prog 13 #[.agg (stv (mkS d A n c))] w (Says (okD d) w) := by
  rw [← okD_eq d A n c hk.1]
  exact sright_any (mkS d A n c) d.l w hk hN

set_option maxHeartbeats 2000000 in
theorem carry_any (a b : Dt) (A B : Option Addr) (n m c e : Nat) (w : World) (ha : KnAt w A n a.l) (hb : KnAt w B m b.l) (hn : n ≤ 9223372036854775807) (hm : m ≤ 9223372036854775807) :
    Calls Tryz.prog 27 #[.agg (stv (mkS a A n c)), .agg (stv (mkS b B m e))] w (Says (carryB a b) w) := by
  obtain ⟨h1, h2, h3, h4⟩ := two_sts (w := w) (s := mkS a A n c) (u := mkS b B m e) (Below.refl _ _)
  have HS := Lib.hid h1
  have HT := Lib.hid h2
  have HB := Lib.hid h3
  have HA := Lib.hid (ha.below h3)
  have HD := Lib.hid (hb.below h3)
  clear h1 h2 h3 h4 ha hb
  obtain ⟨R, HR⟩ : ∃ r, Hid (carryB a b = r) := ⟨_, Lib.hid rfl⟩
  obtain ⟨o1, O1⟩ : ∃ r, Hid (okD a = r) := ⟨_, Lib.hid rfl⟩
  obtain ⟨o2, O2⟩ : ∃ r, Hid (okD b = r) := ⟨_, Lib.hid rfl⟩
  have HX : Hid (R = (o1 && (o2 && ((a.i == b.i) && (decide (a.c ≤ b.c) && (decide (a.v ≤ b.v) && decide (a.f ≤ b.f))))))) := Lib.hid (by rw [← HR.out, ← O1.out, ← O2.out]; rfl)
  rw [HR.out]
  clear HR
  go_enter Tryz.func27, Tryz.ntmps27
  go_wp2_with (first | ((with_reducible refine st_load (b := w.heap.size) (s := mkS a A n c) ?_ ?_ ?_ ?_); (rfl); (with_reducible exact HS.out); (rfl)))
  refine (right_dk a A n c _ HA.out hn).mono ?_
  rw [O1.out]
  rintro e1 w1 ⟨rfl, hb1⟩
  have K1 := Lib.hid (HS.out.later hb1)
  have K2 := Lib.hid (HT.out.later hb1)
  have KB := Lib.hid (HB.out.trans (hb1.mono HB.out.size))
  have KD := Lib.hid (HD.out.below hb1)
  clear hb1 HS HT HB HA HD
  cases o1
  · have HN : Hid (R = false) := Lib.hid (by rw [HX.out]; simp)
    go_wp2
    go_ret
    exact ⟨by rw [HN.out]; rfl, KB.out⟩
  go_wp2_with (first | ((with_reducible refine st_load (b := w.heap.size + 1) (s := mkS b B m e) ?_ ?_ ?_ ?_); (rfl); (with_reducible exact K2.out); (rfl)))
  refine (right_dk b B m e _ KD.out hm).mono ?_
  rw [O2.out]
  rintro e1 w2 ⟨rfl, hb2⟩
  have L1 := Lib.hid (K1.out.later hb2)
  have L2 := Lib.hid (K2.out.later hb2)
  have LB := Lib.hid (KB.out.trans (hb2.mono KB.out.size))
  clear hb2 K1 K2 KB KD
  cases o2
  · have HN : Hid (R = false) := Lib.hid (by rw [HX.out]; simp)
    go_wp2
    go_ret
    exact ⟨by rw [HN.out]; rfl, LB.out⟩
  obtain ⟨ai, am, ac, av, af, al, at_⟩ := a
  obtain ⟨bi, bm, bc, bv, bf, bl, bt⟩ := b
  obtain ⟨a0, _, a2, a3, a4, _⟩ := L1.out.box
  obtain ⟨b0, _, b2, b3, b4, _⟩ := L2.out.box
  simp only [mkS] at a0 a2 a3 a4 b0 b2 b3 b4 HX
  by_cases hi : ai = bi
  · have q0 : (ai != bi) = false := by simpa using hi
    have HX2 : Hid (R = (decide (ac ≤ bc) && (decide (av ≤ bv) && decide (af ≤ bf)))) := Lib.hid (by rw [HX.out]; simp [hi])
    clear HX hi
    go_wp2
    have a2' : ∀ o, (w2.alloc o).cell? ⟨w.heap.size, 2, none⟩ = some (.int .i64 ac) := fun o => (L1.out.alloc o).box.2.2.1
    have a2'' : ∀ o o', ((w2.alloc o).alloc o').cell? ⟨w.heap.size, 2, none⟩ = some (.int .i64 ac) := fun o o' => ((L1.out.alloc o).alloc o').box.2.2.1
    have a3' : ∀ o, (w2.alloc o).cell? ⟨w.heap.size, 3, none⟩ = some (.int .i64 av) := fun o => (L1.out.alloc o).box.2.2.2.1
    have a3'' : ∀ o o', ((w2.alloc o).alloc o').cell? ⟨w.heap.size, 3, none⟩ = some (.int .i64 av) := fun o o' => ((L1.out.alloc o).alloc o').box.2.2.2.1
    have a4' : ∀ o, (w2.alloc o).cell? ⟨w.heap.size, 4, none⟩ = some (.int .i64 af) := fun o => (L1.out.alloc o).box.2.2.2.2.1
    have a4'' : ∀ o o', ((w2.alloc o).alloc o').cell? ⟨w.heap.size, 4, none⟩ = some (.int .i64 af) := fun o o' => ((L1.out.alloc o).alloc o').box.2.2.2.2.1
    have b2' : ∀ o, (w2.alloc o).cell? ⟨w.heap.size + 1, 2, none⟩ = some (.int .i64 bc) := fun o => (L2.out.alloc o).box.2.2.1
    have b2'' : ∀ o o', ((w2.alloc o).alloc o').cell? ⟨w.heap.size + 1, 2, none⟩ = some (.int .i64 bc) := fun o o' => ((L2.out.alloc o).alloc o').box.2.2.1
    have b3' : ∀ o, (w2.alloc o).cell? ⟨w.heap.size + 1, 3, none⟩ = some (.int .i64 bv) := fun o => (L2.out.alloc o).box.2.2.2.1
    have b3'' : ∀ o o', ((w2.alloc o).alloc o').cell? ⟨w.heap.size + 1, 3, none⟩ = some (.int .i64 bv) := fun o o' => ((L2.out.alloc o).alloc o').box.2.2.2.1
    have b4' : ∀ o, (w2.alloc o).cell? ⟨w.heap.size + 1, 4, none⟩ = some (.int .i64 bf) := fun o => (L2.out.alloc o).box.2.2.2.2.1
    have b4'' : ∀ o o', ((w2.alloc o).alloc o').cell? ⟨w.heap.size + 1, 4, none⟩ = some (.int .i64 bf) := fun o o' => ((L2.out.alloc o).alloc o').box.2.2.2.2.1
    go_region
    all_goals
      by_cases g1 : ac ≤ bc
      · by_cases g2 : av ≤ bv
        · by_cases g3 : af ≤ bf
          · have HN : Hid (R = true) := Lib.hid (by rw [HX2.out]; simp [g1, g2, g3])
            go_wp2
            go_ret
            exact ⟨by rw [HN.out]; rfl, ((LB.out.alloc LB.out.size _).alloc (Nat.le_trans LB.out.size (by simp)) _).drew⟩
          · have HN : Hid (R = false) := Lib.hid (by rw [HX2.out]; simp; omega)
            go_wp2
            go_ret
            exact ⟨by rw [HN.out]; rfl, ((LB.out.alloc LB.out.size _).alloc (Nat.le_trans LB.out.size (by simp)) _).drew⟩
        · have HN : Hid (R = false) := Lib.hid (by rw [HX2.out]; simp; omega)
          go_wp2
          go_ret
          exact ⟨by rw [HN.out]; rfl, ((LB.out.alloc LB.out.size _).alloc (Nat.le_trans LB.out.size (by simp)) _).drew⟩
      · have HN : Hid (R = false) := Lib.hid (by rw [HX2.out]; simp; omega)
        go_wp2
        go_ret
        exact ⟨by rw [HN.out]; rfl, ((LB.out.alloc LB.out.size _).alloc (Nat.le_trans LB.out.size (by simp)) _).drew⟩
  · have q0 : (ai != bi) = true := by simpa using hi
    have HN : Hid (R = false) := Lib.hid (by rw [HX.out]; simp [hi])
    clear hi
    go_wp2
    go_ret
    exact ⟨by rw [HN.out]; rfl, LB.out⟩
end Go.Proofs.YtijkdibccgdomaaGreatDoor.Dsk
