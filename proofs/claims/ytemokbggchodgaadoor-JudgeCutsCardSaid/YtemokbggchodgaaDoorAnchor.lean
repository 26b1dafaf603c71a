/-
  WHAT IS PROVED: the document's examples hold; small tells of at most 60 events of at most 30 voters. No condition.
-/
import Derived.Test.YtemokbggchodgaaDoorTwice
import Derived.Test.YtemokbggchodgaaDoorZero
namespace Go.Proofs.YtemokbggchodgaaDoor
open Go.RowKit Go.Lib
set_option maxRecDepth 100000

set_option maxHeartbeats 4000000 in
theorem small_any (w : World) (F : Nat → Prop) (A : Option Addr) (N c : Nat) (l : List Ev) (hr : Rd w F 5 A N (flatE l)) (hnc : N ≤ c) (hcm : c ≤ 9223372036854775807) :
    Calls Tryd.prog 6 #[.slice A N c] w fun e w' => (∃ b, e = .returned (.bool b) ∧ (b = true → N ≤ 60 ∧ ∀ e ∈ l, e.n ≤ 30)) ∧ Below w.heap.size w w' := by
  have HR := Lib.hid hr
  have HL := Lib.hid hr.lenE
  clear hr
  go_enter Tryd.func6, Tryd.ntmps6
  go_wp2
  go_loopw [7] (fun i wr => ∃ k : Nat, k ≤ N ∧ i = .int .i64 k ∧ (∀ e ∈ l.take k, e.n ≤ 30) ∧ Below w.heap.size w wr) (fun i _ => N - (RowKit.intOf i).toNat)
  case atStart => exact ⟨0, by omega, rfl, (fun e he => by simp at he), Below.refl _ _⟩
  case round =>
    obtain ⟨w3, rfl⟩ : ∃ w3, w3 = wr := ⟨_, rfl⟩
    obtain ⟨k, hk, rfl, hsz, hb3⟩ := hrel
    have HSZ := Lib.hid hsz
    have HB3 := Lib.hid hb3
    clear hsz hb3
    by_cases hlt : k < N
    · obtain ⟨ad, e, rfl, he, hbl, _, c0, c1, c2, c3, c4⟩ := (HR.out.below HB3.out).atE hlt
      obtain ⟨ek, eb, ea, ee, eA, en, ec, ew⟩ := e
      dsimp only at c0 c1 c2 c3 c4
      have HE := Lib.hid he
      obtain ⟨w4, hw4⟩ : ∃ x, w3.alloc (.cells #[.int .i64 ek, .int .i64 eb, .int .i64 ea, .int .i64 ee, .slice eA en ec] 29) = x := ⟨_, rfl⟩
      have hb4 : Below w3.heap.size w3 w4 := by rw [← hw4]; exact (Below.refl _ _).alloc (Nat.le_refl _) _
      have hx4 : Bx w4 w3.heap.size ⟨ek, eb, ea, ee, eA, en, ec, ew⟩ := by rw [← hw4]; exact Bx.new w3 ⟨ek, eb, ea, ee, eA, en, ec, ew⟩
      obtain ⟨x0, x1, x2, x3, x4⟩ := hx4.cells
      dsimp only at x0 x1 x2 x3 x4
      have HB4 := Lib.hid (HB3.out.trans (hb4.mono HB3.out.size))
      clear he hbl hb4 hx4
      by_cases h30 : en ≤ 30
      · have d1 : decide ((30 : Int) < (en : Int)) = false := by simp; omega
        go_wp2
        go_roundw
        case rel => exact ⟨k + 1, by omega, by go_num, (fun e he => by rw [take_more HE.out] at he; rcases List.mem_append.1 he with he | he; exact HSZ.out e he; rw [List.mem_singleton.1 he]; exact h30), HB4.out⟩
        case measure => simp [RowKit.intOf]; omega
      · have d1 : decide ((30 : Int) < (en : Int)) = true := by simp; omega
        go_wp2
        go_ret
        exact ⟨⟨false, rfl, fun h => by cases h⟩, HB4.out⟩
    · obtain rfl : k = N := by omega
      have hT := HSZ.out
      rw [List.take_of_length_le (by rw [HL.out]; exact Nat.le_refl _)] at hT
      have HT := Lib.hid hT
      clear hT
      by_cases h60 : k ≤ 60
      · have d1 : decide ((k : Int) ≤ (60 : Int)) = true := by simp; omega
        go_wp2
        go_ret
        exact ⟨⟨true, rfl, fun _ => ⟨h60, HT.out⟩⟩, HB3.out⟩
      · have d1 : decide ((k : Int) ≤ (60 : Int)) = false := by simp; omega
        go_wp2
        go_ret
        exact ⟨⟨false, rfl, fun h => by cases h⟩, HB3.out⟩
theorem made_zero (w : World) (g n : Nat) (base : Nat) (z : Value) (hz : z = .agg (Array.replicate 128 (.int .i64 0))) (h : w.ownsRow base 54 128 (.slice (some ⟨g, 0, none⟩) n n) n (madeCells z.cells (n * 128)).toList) : Zt w g n := by
  intro i hi j hj
  have hc : ∀ j u, (madeCells z.cells (n * 128)).toList[j]? = some u → w.cell? ((⟨g, 0, none⟩ : Addr).add j) = some u := h.cells rfl
  have he : (⟨g, i * 128, none⟩ : Addr).add j = (⟨g, 0, none⟩ : Addr).add (i * 128 + j) := by rw [Go.WideShapes.add_plain, Go.WideShapes.add_plain, Nat.zero_add]
  rw [he]
  refine hc _ _ ?_
  subst hz
  have hlt : i * 128 + j < n * 128 := by
    have : (i + 1) * 128 ≤ n * 128 := Nat.mul_le_mul_right _ hi
    omega
  have hm : (i * 128 + j) % 128 < 128 := Nat.mod_lt _ (by omega)
  simp only [madeCells, Value.cells, Array.toList_map, Array.toList_range, List.getElem?_map, List.getElem?_range hlt, Option.map_some, Array.size_replicate]
  rw [getElem!_pos _ _ (by simpa using hm)]
  simp
theorem table_info : (Tryd.prog.info? 54).map (fun i => (i.zero, i.size, i.bytes)) = some (some (.agg (Array.replicate 128 (.int .i64 0))), 128, 1024) := by kernel_rfl
/-- 'make([]Table, n)' behind a guard -/
theorem wpList_make_want {P : Program} (w : World) {ops : Array Oper} {rest : List Oper} {o : Oper} {a : Act} {Q : Exit → Act → World → Prop}
    (hw : Region.wanted o (yielded ops a.tmps) = true) (l c : Operand) (t : TypeId) (hop : o.op = Op.makeSlice t l c)
    (base : Nat) (e : TypeId) (i : TypeInfo) (z : Value) (size : Nat) (h1 : P.underlying t = some (.slice e)) (h2 : P.info? e = some i) (h3 : i.zero = some z) (h4 : i.size = size)
    (kl kc : IntKind) (L C : Int) (n : Nat) (hl : a.eval l = .int kl L) (hc : a.eval c = .int kc C) (hL : L = (n : Int)) (hC : C = (n : Int)) (b2 : i.bytes * n ≤ 281474976710656) (b3 : n ≤ maxLen) (b4 : base ≤ w.heap.size)
    (hK : ∀ w', w'.ownsRow base e size (.slice (some ⟨w.heap.size, 0, none⟩) n n) n (madeCells z.cells (n * size)).toList → w.grownBy w' none → wpList P ops Q rest (a.put o.dst (.slice (some ⟨w.heap.size, 0, none⟩) n n)) w') :
    wpList P ops Q (o :: rest) a w := by
  refine wpList_step fun K hK' => ?_
  rw [if_pos hw]
  obtain ⟨w', hrun, r1, r2⟩ := run_make_full (P := P) w base t e i z size h1 h2 h3 h4 kl kc n b2 b3 b4
  subst hL
  subst hC
  unfold Oper.wp
  simp [execOp, hop, hl, hc, hrun, Result.andThen]
  exact hK' _ _ (hK w' r1 r2)
def e5 (x : Int) : Ev := ⟨1, 5, x, 3, none, 0, 0, []⟩
theorem okE_lit (w : World) (F : Nat → Prop) (x : Int) (hx : inI x) : OkE w F (e5 x) :=
  ⟨Rd.nil_ _ _ _ _, Nat.le_refl _, by show (0 : Nat) ≤ _; omega, by unfold inI e5; dsimp only; omega, by unfold inI e5; dsimp only; omega, hx, by unfold inI e5; dsimp only; omega, fun v hv => by cases hv⟩
set_option maxHeartbeats 4000000 in
theorem anchor_any (w : World) : Calls Tryd.prog 5 #[] w (Says true w) := by
  obtain ⟨i0, hi0, hz0, hz1, hz2⟩ := info_parts table_info
  have HI0 := Lib.hid hi0
  have HZ0 := Lib.hid hz0
  have HZ1 := Lib.hid hz1
  have HZ2 : Hid (i0.bytes ≤ 1024) := Lib.hid (by rw [hz2]; exact Nat.le_refl _)
  obtain ⟨w1, hw1⟩ : ∃ x, w.alloc (.cells #[.int .i64 1, .int .i64 5, .int .i64 7, .int .i64 3, .slice none 0 0, .int .i64 1, .int .i64 5, .int .i64 8, .int .i64 3, .slice none 0 0] 29) = x := ⟨_, rfl⟩
  have hb1 : Below w.heap.size w w1 := by rw [← hw1]; exact (Below.refl _ _).alloc (Nat.le_refl _) _
  have HR1 : Hid (Rd w1 no 5 (some ⟨w.heap.size, 0, none⟩) 2 (flatE [e5 7, e5 8])) := Lib.hid (by rw [← hw1]; exact Rd.new w no (fun _ f => f.elim) 5 2 _ _ rfl)
  have HG1 : Hid (∀ w', ∀ e ∈ [e5 7, e5 8], OkE w' no e) := Lib.hid (fun w' e he => by
    simp only [List.mem_cons, List.not_mem_nil, or_false] at he
    rcases he with rfl | rfl
    · exact okE_lit _ _ _ (by unfold inI; omega)
    · exact okE_lit _ _ _ (by unfold inI; omega))
  have HB1 := Lib.hid hb1
  clear hb1 hi0 hz0 hz1 hz2
  go_enter Tryd.func5, Tryd.ntmps5
  go_wp2_with (fail)
  refine (twice_any w1 no _ 2 2 [e5 7, e5 8] HR1.out (HG1.out _) (by omega)).mono ?_
  rintro e w2 ⟨rfl, hb2⟩
  have HB2 := Lib.hid (HB1.out.trans (hb2.mono HB1.out.size))
  have HR2 : Hid (Rd w2 no 5 (some ⟨w.heap.size, 0, none⟩) 1 (flatE [e5 7])) := Lib.hid ((HR1.out.below hb2).takeE (k := 1) (by omega))
  have q1 : firstF (hitT [e5 7, e5 8]) 2 0 = 1 := by decide
  rw [q1]
  clear hb2 q1
  go_wp2_with (fail)
  refine (twice_any w2 no _ 1 2 [e5 7] HR2.out (fun e he => HG1.out _ e (by simp only [List.mem_singleton] at he; simp [he])) (by omega)).mono ?_
  rintro e w3 ⟨rfl, hb3⟩
  have HB3 := Lib.hid (HB2.out.trans (hb3.mono HB2.out.size))
  have q2 : firstF (hitT [e5 7]) 1 0 = -1 := by decide
  rw [q2]
  clear hb3 q2
  go_wp2_with (refine wpList_make_want _ rfl _ _ 34 rfl w3.heap.size 54 i0 _ 128 Tryd.underlying34 HI0.out HZ0.out HZ1.out .i64 .i64 2 2 2 rfl rfl rfl rfl (by have := HZ2.out; omega) (by unfold maxLen; omega) (Nat.le_refl _) ?_; intro w4 ho4 hg4; have HO4 := Lib.hid (made_zero _ _ _ _ _ rfl ho4); have HB4 := Lib.hid (HB3.out.grown hg4 HB3.out.size (fun k hk => by cases hk)); clear ho4 hg4)
  refine (agreed_zero w4 _ 2 HO4.out (by omega)).mono ?_
  rintro e w5 ⟨rfl, hb5⟩
  have HB5 := Lib.hid (HB4.out.trans (hb5.mono HB4.out.size))
  clear hb5
  obtain ⟨w6, hw6⟩ : ∃ x, w5.alloc (.cells #[.int .i64 1] 3) = x := ⟨_, rfl⟩
  have hb6 : Below w5.heap.size w5 w6 := by rw [← hw6]; exact (Below.refl _ _).alloc (Nat.le_refl _) _
  have hx6 : Blk w6 w5.heap.size 3 #[.int .i64 1] := by rw [← hw6]; exact Blk.new _ _ _
  have HX6 := Lib.hid hx6
  have HB6 := Lib.hid (HB5.out.trans (hb6.mono HB5.out.size))
  clear hb6 hx6
  go_wp2_with (refine wpList_make_want _ rfl _ _ 34 rfl w6.heap.size 54 i0 _ 128 Tryd.underlying34 HI0.out HZ0.out HZ1.out .i64 .i64 1 1 1 rfl rfl rfl rfl (by have := HZ2.out; omega) (by unfold maxLen; omega) (Nat.le_refl _) ?_; intro w7 ho7 hg7; have HO7 := Lib.hid (made_zero _ _ _ _ _ rfl ho7); have HC7 : Hid (w7.cell? ⟨w5.heap.size, 0, none⟩ = some (.int .i64 1)) := Lib.hid (by have h1 : Blk w7 _ _ _ := (hg7.block _ HX6.out.lt (by simp)).trans HX6.out; exact h1.cell 0); have HB7 := Lib.hid (HB6.out.grown hg7 HB6.out.size (fun k hk => by cases hk)); clear ho7 hg7)
  refine (claimants_zero w7 _ _ HC7.out HO7.out).mono ?_
  rintro e w8 ⟨rfl, rfl⟩
  go_wp2
  go_ret
  exact ⟨rfl, HB7.out⟩
end Go.Proofs.YtemokbggchodgaaDoor
