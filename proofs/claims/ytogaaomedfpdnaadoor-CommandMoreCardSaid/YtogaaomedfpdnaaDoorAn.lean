/-
  WHAT IS PROVED: the document's examples, which each law asks first, hold. Condition: the variables hold what is laid there.
-/
import Derived.Test.YtogaaomedfpdnaaDoorRt
namespace Go.Proofs.YtogaaomedfpdnaaDoor
set_option maxRecDepth 100000
open Go.RowKit Go.Lib

theorem ex_word (f : Fw) (hf : f ∈ firstsL) (a b : List UInt8) (bl : Bool) (ha : ∀ x ∈ a, x ≠ 32) (hu : up a = f.w) (hb : bl = false → b = []) (hl : (a ++ rest b bl).length ≤ 8192) (l : Ln) (h : lineC f b bl = some l) : parseC (a ++ rest b bl) = (l, 0) := by
  rw [parse_word hf ha hu hb hl, h]
theorem dg7 : dg 7 = [55] := by unfold dg; rw [digL_small (by decide)]; rfl
theorem exA : parseC [109, 101, 101, 116, 32, 55] = (⟨1, 7, 0, []⟩, 0) := by
  refine ex_word ⟨[77, 69, 69, 84], 1, 1⟩ (by decide) [109, 101, 101, 116] [55] true (by decide) (by decide +kernel) (by simp) (by decide) _ ?_
  unfold lineC
  rw [if_pos rfl, numC_iff.2 ⟨by decide, by decide, dg7⟩]
theorem tx39 : S.txt 39 = [48, 45, 50, 32, 53] := by decide +kernel
theorem exB : parseC [97, 100, 100, 115, 108, 111, 116, 115, 32, 48, 45, 50, 32, 53] = (⟨3, 0, 39, []⟩, 0) := by
  refine ex_word ⟨[65, 68, 68, 83, 76, 79, 84, 83], 3, 2⟩ (by decide) [97, 100, 100, 115, 108, 111, 116, 115] [48, 45, 50, 32, 53] true (by decide) (by decide +kernel) (by simp) (by decide) _ ?_
  have h : S.parseP [48, 45, 50, 32, 53] = (39, 0) := by
    rw [← tx39]; exact S.parse_txt (by decide)
  rw [lineC_2 rfl, h]
  rfl
theorem exC : parseC [114, 101, 115, 101, 116, 32, 110, 111, 119] = (Ln.zero, 62) := by
  have := parse_word (f := ⟨[82, 69, 83, 69, 84], 9, 0⟩) (by decide) (a := [114, 101, 115, 101, 116]) (b := [110, 111, 119]) (blank := true) (by decide) (by decide +kernel) (by simp) (by decide)
  rw [lineC_0 rfl, if_pos rfl] at this
  exact this

set_option maxHeartbeats 1000000 in
theorem anchor_any (w : World) (hE : Env w) : Calls Tryd.prog 7 #[] w (Says true w) := by
  have HA := Lib.hid exA
  have HB := Lib.hid exB
  have HC := Lib.hid exC
  have HD := Lib.hid parse_nil
  have s1 : ∀ W : World, (Op.equalIn 10000 26 (.agg #[.int .i64 1, .int .i64 7, .int .u64 0, .string ⟨#[]⟩]) (.agg #[.int .i64 1, .int .i64 7, .int .u64 0, .string ⟨#[]⟩])).run Tryd.prog W = .ok true W := fun W => same_ln ⟨1, 7, 0, []⟩ ⟨1, 7, 0, []⟩ W
  have s2 : ∀ W : World, (Op.equalIn 10000 26 (.agg #[.int .i64 3, .int .i64 0, .int .u64 39, .string ⟨#[]⟩]) (.agg #[.int .i64 3, .int .i64 0, .int .u64 39, .string ⟨#[]⟩])).run Tryd.prog W = .ok true W := fun W => same_ln ⟨3, 0, 39, []⟩ ⟨3, 0, 39, []⟩ W
  have v1 : lnA ⟨1, 7, 0, []⟩ = #[.int .i64 1, .int .i64 7, .int .u64 0, .string ⟨#[]⟩] := rfl
  have v2 : lnA ⟨3, 0, 39, []⟩ = #[.int .i64 3, .int .i64 0, .int .u64 39, .string ⟨#[]⟩] := rfl
  have v3 : lnA Ln.zero = #[.int .i64 0, .int .i64 0, .int .u64 0, .string ⟨#[]⟩] := rfl
  have HE := Lib.hid hE
  clear hE
  go_enter Tryd.func7, Tryd.ntmps7
  go_wp2_with (fail)
  refine (cparse_any [109, 101, 101, 116, 32, 55] (by decide) _ HE.out).mono ?_
  rintro e1 w1 ⟨rfl, hb1⟩
  rw [HA.out]
  have hba : Below w1.heap.size w1 (w1.alloc (.cells #[.int .i64 1, .int .i64 7, .int .u64 0, .string ⟨#[]⟩] 26)) := (Below.refl _ w1).alloc (Nat.le_refl _) _
  have B1 := Lib.hid (hb1.trans (hba.mono hb1.size))
  have E1 := Lib.hid (HE.out.below B1.out)
  have K1 : Hid (Blk (w1.alloc (.cells #[.int .i64 1, .int .i64 7, .int .u64 0, .string ⟨#[]⟩] 26)) w1.heap.size 26 (lnA ⟨1, 7, 0, []⟩)) := Lib.hid (Blk.new w1 _ _)
  clear hb1 hba HE
  go_wp2_with (fail)
  refine (cparse_any [97, 100, 100, 115, 108, 111, 116, 115, 32, 48, 45, 50, 32, 53] (by decide) _ E1.out).mono ?_
  rintro e2 w2 ⟨rfl, hb2⟩
  rw [HB.out]
  have hba : Below w2.heap.size w2 (w2.alloc (.cells #[.int .i64 3, .int .i64 0, .int .u64 39, .string ⟨#[]⟩] 26)) := (Below.refl _ w2).alloc (Nat.le_refl _) _
  have hbb := hb2.trans (hba.mono hb2.size)
  have B2 := Lib.hid (B1.out.trans (hbb.mono B1.out.size))
  have E2 := Lib.hid (E1.out.below hbb)
  have L1 := Lib.hid (K1.out.below hbb K1.out.lt)
  have L2 : Hid (Blk (w2.alloc (.cells #[.int .i64 3, .int .i64 0, .int .u64 39, .string ⟨#[]⟩] 26)) w2.heap.size 26 (lnA ⟨3, 0, 39, []⟩)) := Lib.hid (Blk.new w2 _ _)
  clear hb2 hba hbb B1 E1 K1
  generalize w1.heap.size = g1 at *
  go_wp2_with (fail)
  refine (cparse_any [114, 101, 115, 101, 116, 32, 110, 111, 119] (by decide) _ E2.out).mono ?_
  rintro e3 w3 ⟨rfl, hb3⟩
  rw [HC.out]
  have hba : Below w3.heap.size w3 (w3.alloc (.cells #[.int .i64 0, .int .i64 0, .int .u64 0, .string ⟨#[]⟩] 26)) := (Below.refl _ w3).alloc (Nat.le_refl _) _
  have hbb := hb3.trans (hba.mono hb3.size)
  have B3 := Lib.hid (B2.out.trans (hbb.mono B2.out.size))
  have E3 := Lib.hid (E2.out.below hbb)
  have M1 := Lib.hid (L1.out.below hbb L1.out.lt)
  have M2 := Lib.hid (L2.out.below hbb L2.out.lt)
  clear hb3 hba hbb B2 E2 L1 L2
  generalize w2.heap.size = g2 at *
  go_wp2_with (fail)
  refine (cparse_any [] (by decide) _ E3.out).mono ?_
  rintro e4 w4 ⟨rfl, hb4⟩
  rw [HD.out]
  have hba : Below w4.heap.size w4 (w4.alloc (.cells #[.int .i64 0, .int .i64 0, .int .u64 0, .string ⟨#[]⟩] 26)) := (Below.refl _ w4).alloc (Nat.le_refl _) _
  have hbb := hb4.trans (hba.mono hb4.size)
  have B4 := Lib.hid (B3.out.trans (hbb.mono B3.out.size))
  have N1 := Lib.hid (M1.out.below hb4 M1.out.lt)
  have N2 := Lib.hid (M2.out.below hb4 M2.out.lt)
  clear hb4 hba hbb B3 E3 M1 M2
  have a0 : ∀ o, (w4.alloc o).cell? ⟨g1, 0, none⟩ = some (.int .i64 1) := fun o => (N1.out.alloc o).cell 0
  have a1 : ∀ o, (w4.alloc o).cell? ⟨g1, 1, none⟩ = some (.int .i64 7) := fun o => (N1.out.alloc o).cell 1
  have a2 : ∀ o, (w4.alloc o).cell? ⟨g1, 2, none⟩ = some (.int .u64 0) := fun o => (N1.out.alloc o).cell 2
  have a3 : ∀ o, (w4.alloc o).cell? ⟨g1, 3, none⟩ = some (.string ⟨#[]⟩) := fun o => (N1.out.alloc o).cell 3
  have b0 : ∀ o, (w4.alloc o).cell? ⟨g2, 0, none⟩ = some (.int .i64 3) := fun o => (N2.out.alloc o).cell 0
  have b1 : ∀ o, (w4.alloc o).cell? ⟨g2, 1, none⟩ = some (.int .i64 0) := fun o => (N2.out.alloc o).cell 1
  have b2 : ∀ o, (w4.alloc o).cell? ⟨g2, 2, none⟩ = some (.int .u64 39) := fun o => (N2.out.alloc o).cell 2
  have b3 : ∀ o, (w4.alloc o).cell? ⟨g2, 3, none⟩ = some (.string ⟨#[]⟩) := fun o => (N2.out.alloc o).cell 3
  go_wp2
  go_ret
  exact ⟨rfl, B4.out⟩
end Go.Proofs.YtogaaomedfpdnaaDoor
