/-
  WHAT IS PROVED: contracts of command.written and command.Text. Condition: the variables hold what is laid there; the line's key has less than 2^61 bytes.
-/
import Derived.Test.YtogaaomedfpdnaaDoorPb
namespace Go.Proofs.YtogaaomedfpdnaaDoor
set_option maxRecDepth 100000
open Go.RowKit

/-- a line's numbers are ints, its set one -/
def okL (l : Ln) : Prop := -9223372036854775808 ≤ l.i ∧ l.i ≤ 9223372036854775807 ∧ l.s < 18446744073709551616 ∧ l.y.length ≤ 1152921504606846976
theorem itL_len {z : Int} (h0 : -9223372036854775808 ≤ z) (h1 : z ≤ 9223372036854775807) : (itL z).length ≤ 21 := by
  have h2 : (Lib.decDigits z.natAbs).length ≤ 20 := by
    rw [dec_eq]
    exact digL_len 19 _ (by have e : (10 : Nat) ^ (19 + 1) = 100000000000000000000 := by decide
                            omega)
  have h3 : (Lib.decDigits z.toNat).length ≤ 20 := by
    rw [dec_eq]
    exact digL_len 19 _ (by have e : (10 : Nat) ^ (19 + 1) = 100000000000000000000 := by decide
                            omega)
  unfold itL Lib.itoa
  split
  · simp only [List.length_cons]
    first | omega | (have h4 : (Lib.decDigits (-z).toNat).length ≤ 20 := by
                      rw [dec_eq]
                      exact digL_len 19 _ (by have e : (10 : Nat) ^ (19 + 1) = 100000000000000000000 := by decide
                                              omega)
                     omega)
  · omega
theorem ofK_facts (k : Int) : ((ofK k).a = 0 ∨ (ofK k).a = 1 ∨ (ofK k).a = 2 ∨ (ofK k).a = 3) ∧ (ofK k).w.length ≤ 9 := by
  rcases ofK_mem k with ⟨h, _⟩ | h
  · obtain ⟨_, _, _, h1, _, h2, _⟩ := firsts_all _ h
    exact ⟨h1, h2⟩
  · rw [h]; exact ⟨.inl rfl, by simp [noF]⟩
theorem join3 (a b : List UInt8) : str a ++ ⟨#[32]⟩ ++ str b = str (a ++ 32 :: b) := by
  have : (⟨#[32]⟩ : ByteArray) = str [32] := rfl
  rw [this, S.str_app, S.str_app, List.append_assoc]; rfl

set_option maxHeartbeats 1000000 in
theorem written_any (l : Ln) (hl : okL l) (w : World) (hE : Env w) : Calls Tryd.prog 21 #[.agg (lnA l)] w (AStr (writC l) w) := by
  obtain ⟨hi0, hi1, hs, hy⟩ := hl
  have hlv : lnA l = #[.int .i64 l.k, .int .i64 l.i, .int .u64 (l.s : Int), .string (str l.y)] := rfl
  have hb0 : Below w.heap.size w (w.alloc (.cells #[.int .i64 l.k, .int .i64 l.i, .int .u64 (l.s : Int), .string (str l.y)] 26)) := (Below.refl _ w).alloc (Nat.le_refl _) _
  have HK0 : Hid (Blk (w.alloc (.cells #[.int .i64 l.k, .int .i64 l.i, .int .u64 (l.s : Int), .string (str l.y)] 26)) w.heap.size 26 (lnA l)) := Lib.hid (Blk.new w _ _)
  have HB0 := Lib.hid hb0
  have HE0 := Lib.hid (hE.below hb0)
  clear hb0 hE
  obtain ⟨R, hR⟩ : ∃ R, writC l = R := ⟨_, rfl⟩
  rw [hR]
  unfold writC at hR
  have HF := Lib.hid (ofK_facts l.k)
  have HFO := Lib.hid (firstof_any l.k _ HE0.out.2.2)
  go_enter Tryd.func21, Tryd.ntmps21
  go_wp2_with (fail)
  refine HFO.out.mono ?_
  rintro e1 w1 ⟨rfl, hb1⟩
  generalize ofK l.k = f at *
  obtain ⟨hfa, hfl⟩ := HF.out
  have hfv : fA f = #[.string (str f.w), .int .i64 f.k, .int .i64 f.a] := rfl
  have hb2 : Below w1.heap.size w1 (w1.alloc (.cells #[.string (str f.w), .int .i64 f.k, .int .i64 f.a] 48)) := (Below.refl _ w1).alloc (Nat.le_refl _) _
  have hb3 := hb1.trans (hb2.mono hb1.size)
  have K2 := Lib.hid (HK0.out.below hb3 (by simp))
  have B2 := Lib.hid (HB0.out.trans (hb3.mono HB0.out.size))
  have E2 := Lib.hid (HE0.out.below hb3)
  have F2 : Hid (Blk (w1.alloc (.cells #[.string (str f.w), .int .i64 f.k, .int .i64 f.a] 48)) w1.heap.size 48 (fA f)) := Lib.hid (Blk.new w1 _ _)
  have hsz : w.heap.size < w1.heap.size := Nat.lt_of_lt_of_le (by simp) hb1.size
  clear HF HFO hb1 hb2 hb3 HK0 HB0 HE0
  have sz1 : (str f.w).size ≤ 9 := hfl
  have sz2 : (str (itL l.i)).size ≤ 21 := itL_len hi0 hi1
  have sz3 : (str (S.txt l.s)).size ≤ 192 := S.txt_len hs
  have sz4 : (str l.y).size ≤ 1152921504606846976 := hy
  rcases hfa with hfa | hfa | hfa | hfa
  · have HX : Hid (f.w = R) := Lib.hid (by rw [← hR, hfa]; rfl)
    clear hR
    rw [hfa] at hfv K2 B2 E2 F2
    go_wp2
    go_ret
    exact ⟨by rw [← HX.out]; rfl, B2.out⟩
  · have HX : Hid (f.w ++ 32 :: itL l.i = R) := Lib.hid (by rw [← hR, hfa]; rfl)
    clear hR
    rw [hfa] at hfv K2 B2 E2 F2
    go_wp2_with (fail)
    obtain ⟨wa, hwa⟩ : ∃ wa, w1.alloc (.cells #[.string (str f.w), .int .i64 f.k, .int .i64 1] 48) = wa := ⟨_, rfl⟩
    rw [hwa] at K2 F2 B2 E2 ⊢
    clear hwa
    have hc0 : ∀ p : Later wa, p.now.cell? ⟨w1.heap.size, 0, none⟩ = some (.string (str f.w)) := fun p => p.cell (F2.out.cell 0)
    have hc1 : ∀ p : Later wa, p.now.cell? ⟨w.heap.size, 1, none⟩ = some (.int .i64 l.i) := fun p => p.cell (K2.out.cell 1)
    have HU : Hid (∀ p : Later wa, Calls Tryd.prog 31 #[.int .i64 l.i] p.now (AStr (itL l.i) p.now)) := Lib.hid fun p => itoa_any l.i hi0 hi1 p.now (E2.out.below p.below)
    refine wp_region_later (by kernel_rfl) (by kernel_rfl) ?_
    repeat (first | go_big_quiet_step ((go_at_call 31; with_reducible exact Later.calls (HU.out _))))
    refine wpQuiet_nil ?_
    intro _ hw'
    obtain ⟨pq, hw''⟩ := hw'
    subst hw''
    have LB := Lib.hid (B2.out.trans (pq.below.mono B2.out.size))
    generalize pq.now = w5 at *
    clear hc0 hc1
    go_wp2
    go_ret
    exact ⟨by rw [← HX.out, ← join3]; rfl, LB.out⟩
  · have HX : Hid (f.w ++ 32 :: S.txt l.s = R) := Lib.hid (by rw [← hR, hfa]; rfl)
    clear hR
    rw [hfa] at hfv K2 B2 E2 F2
    go_wp2_with (fail)
    obtain ⟨wa, hwa⟩ : ∃ wa, w1.alloc (.cells #[.string (str f.w), .int .i64 f.k, .int .i64 2] 48) = wa := ⟨_, rfl⟩
    rw [hwa] at K2 F2 B2 E2 ⊢
    clear hwa
    have hc0 : ∀ p : Later wa, p.now.cell? ⟨w1.heap.size, 0, none⟩ = some (.string (str f.w)) := fun p => p.cell (F2.out.cell 0)
    have hc1 : ∀ p : Later wa, p.now.cell? ⟨w.heap.size, 2, none⟩ = some (.int .u64 (l.s : Int)) := fun p => p.cell (K2.out.cell 2)
    have HU : Hid (∀ p : Later wa, Calls Tryd.prog 32 #[.int .u64 (l.s : Int)] p.now fun e w' => e = .returned (.string (str (S.txt l.s))) ∧ Below p.now.heap.size p.now w') := Lib.hid fun p => S.text_any l.s hs p.now
    refine wp_region_later (by kernel_rfl) (by kernel_rfl) ?_
    repeat (first | go_big_quiet_step ((go_at_call 32; with_reducible exact Later.calls (HU.out _))))
    refine wpQuiet_nil ?_
    intro _ hw'
    obtain ⟨pq, hw''⟩ := hw'
    subst hw''
    have LB := Lib.hid (B2.out.trans (pq.below.mono B2.out.size))
    generalize pq.now = w5 at *
    clear hc0 hc1
    go_wp2
    go_ret
    exact ⟨by rw [← HX.out, ← join3]; rfl, LB.out⟩
  · have HX : Hid (f.w ++ 32 :: l.y = R) := Lib.hid (by rw [← hR, hfa]; rfl)
    clear hR
    rw [hfa] at hfv K2 B2 E2 F2
    have c3 : (w1.alloc (.cells #[.string (str f.w), .int .i64 f.k, .int .i64 3] 48)).cell? ⟨w.heap.size, 3, none⟩ = some (.string (str l.y)) := K2.out.cell 3
    go_wp2
    go_ret
    exact ⟨by rw [← HX.out, ← join3]; rfl, B2.out⟩
end Go.Proofs.YtogaaomedfpdnaaDoor
