/-
  WHAT IS PROVED: contract of Read. Conditions: the name's length.
-/
import Derived.Test.YtdoahbegcfhegaaBox
namespace Go.Proofs.Ytdoahbegcfhegaa
open Go.RowKit Go.Lib

set_option maxRecDepth 100000 in
set_option maxHeartbeats 4000000 in
theorem read_any (d g : Nat) (S : Ds) (x : List UInt8) (w : World) (h : Dk w d g S) (hx : x.length ≤ 1000) :
    Calls Try.prog 14 #[.pointer (some ⟨d, 0, none⟩), .string (str x)] w fun e w' => ∃ A n c, e = .returned (.tuple #[.slice A n c, .int .i64 (readE S x)]) ∧ (readB S x).length = n ∧ n ≤ c ∧ c ≤ 9223372036854775807 ∧ w'.ownsRow w.heap.size 5 1 (.slice A n c) n (bs (readB S x)) ∧ Below w.heap.size w w' := by
  obtain ⟨c0, c1, c2, c3⟩ := h.cells
  obtain ⟨v, hrun, A, n, c, rfl, hl, hc, hm, hr⟩ := h.map.look_ok hx
  have hlen : n ≤ 100000 := by
    cases hh : hasF S.fs x with
    | true => have := (h.good.small _ (getF_mem hh)).2; omega
    | false => rw [getF_none hh] at hl; have : n = 0 := hl.symm; omega
  have HK := Lib.hid h
  obtain ⟨s, hs⟩ : ∃ s, (getF S.fs x).safe = s := ⟨_, rfl⟩
  rw [hs] at hrun
  have HB1 : Hid (Below w.heap.size w (w.alloc (.cells #[.slice A n c, .bool s] 53))) := (Below.refl _ w).alloc (Nat.le_refl _) _
  have c3' : (w.alloc (.cells #[.slice A n c, .bool s] 53)).cell? ⟨d, 3, none⟩ = some (.bool S.down) := (HB1.out.cell (p := ⟨d, 3, none⟩) HK.out.lt.1).trans c3
  have b0 : (w.alloc (.cells #[.slice A n c, .bool s] 53)).cell? ⟨w.heap.size, 0, none⟩ = some (.slice A n c) := (fc_new w A n c s).cell 0
  have HR := Lib.hid hr
  have HL := Lib.hid hl
  unfold readB readE
  clear h hr hl hs c1 c2 c3
  cases hd : S.down with
  | true =>
    rw [if_pos rfl, if_neg (by omega)]
    rw [hd] at c3'
    go_enter Try.func14, Try.ntmps14
    go_wp2
    go_ret2
    exact ⟨none, 0, 0, by simp, rfl, Nat.le_refl _, by omega, World.ownsRow_nil _ _ _ _, HB1.out⟩
  | false =>
    rw [if_neg (by simp)]
    rw [hd] at c3'
    cases hh : hasF S.fs x with
    | false =>
      rw [if_pos rfl, if_neg (by omega)]
      rw [hh] at hrun
      clear hh
      go_enter Try.func14, Try.ntmps14
      go_wp2
      go_ret2
      exact ⟨none, 0, 0, by simp, rfl, Nat.le_refl _, by omega, World.ownsRow_nil _ _ _ _, HB1.out⟩
    | true =>
      rw [if_neg (by simp), if_pos rfl]
      rw [hh] at hrun
      clear hh
      go_enter Try.func14, Try.ntmps14
      go_wp2_with (fail)
      refine (clone_any A n c _ _ (FD d g) (HR.out.turn (Turn.of_below HB1.out _) (Sub.refl _ _)) (by omega)).mono ?_
      rintro e w2 ⟨A2, n2, c2, rfl, hl2, hc2, hm2, ho2, hb2⟩
      have hB := HB1.out.trans (hb2.mono (by simp))
      go_wp2
      go_ret2
      exact ⟨A2, n2, c2, rfl, hl2, hc2, hm2, own_base ho2 (by simp), hB⟩
end Go.Proofs.Ytdoahbegcfhegaa
