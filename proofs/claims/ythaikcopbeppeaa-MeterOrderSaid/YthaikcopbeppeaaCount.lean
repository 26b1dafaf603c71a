/-
  WHAT IS PROVED: contracts of a meter's Count and Mark, and of what they call (raise, with each of the two closures). Condition: the block is a meter that nobody is at.
-/
import Derived.Test.YthaikcopbeppeaaGate
namespace Go.Proofs.Ythaikcopbeppeaa
open Go.RowKit Go.Lib

/-- Count's closure: what it captured lies in block b -/
theorem addFn_any (b : Nat) (a n : Int) (w : World) (hb : Blk w b 3 #[.int .i64 n]) (h0 : 0 ≤ a) (h1 : a ≤ 4611686018427387904) (hn : 0 ≤ n) (hn2 : n ≤ 4611686018427387904) :
    Calls Try.prog 22 #[.int .i64 a, .pointer (some ⟨b, 0, none⟩)] w fun e w' => e = .returned (.int .i64 (plusI a n)) ∧ w = w' := by
  have c : w.cell? ⟨b, 0, none⟩ = some (.int .i64 n) := hb.cell 0
  go_enter Try.func22, Try.ntmps22
  go_wp2_with (go_at_call 23; refine (plus_any a n _ h0 h1 hn hn2).mono ?_; rintro e w' ⟨rfl, rfl⟩)
  go_ret
  exact ⟨rfl, rfl⟩

/-- Mark's closure -/
theorem sameFn_any (b : Nat) (a n : Int) (w : World) (hb : Blk w b 3 #[.int .i64 n]) :
    Calls Try.prog 24 #[.int .i64 a, .pointer (some ⟨b, 0, none⟩)] w fun e w' => e = .returned (.int .i64 n) ∧ w = w' := by
  have c : w.cell? ⟨b, 0, none⟩ = some (.int .i64 n) := hb.cell 0
  go_enter Try.func24, Try.ntmps24
  go_wp2
  go_ret
  exact ⟨rfl, rfl⟩

theorem raise_add (p : Addr) (b : Nat) (a n : Int) (w : World) (hc : w.cell? p = some (.int .i64 a)) (hz : w.frozen? p = false) (hb : Blk w b 3 #[.int .i64 n])
    (h0 : 0 ≤ a) (h1 : a ≤ 4611686018427387904) (hn : 0 ≤ n) (hn2 : n ≤ 4611686018427387904) :
    Calls Try.prog 21 #[.pointer (some p), .func (.func 22) #[] #[.pointer (some ⟨b, 0, none⟩)]] w fun e w' => (∃ r, e = .returned (.bool r)) ∧ (w' = w ∧ plusI a n = a ∨ w' = w.setCell p (.int .i64 (plusI a n))) := by
  by_cases hle : plusI a n ≤ a
  · have HL : plusI a n = a := by have := plusI_bounds h0 h1 hn; omega
    go_enter Try.func21, Try.ntmps21
    go_wp2
    refine wp_loop_rounds 1 ?_
    rw [rounds_succ]
    go_wp2_with (first | (go_at_call 29; refine (load_any _ _ _ hc).mono ?_; rintro e w' ⟨rfl, rfl⟩) | (go_at_call 22; refine (addFn_any b a n _ hb h0 h1 hn hn2).mono ?_; rintro e w' ⟨rfl, rfl⟩))
    go_ret
    exact ⟨⟨_, rfl⟩, .inl ⟨rfl, HL⟩⟩
  · have hlt : a < plusI a n := by omega
    go_enter Try.func21, Try.ntmps21
    go_wp2
    refine wp_loop_rounds 1 ?_
    rw [rounds_succ]
    go_wp2_with (first | (go_at_call 29; refine (load_any _ _ _ hc).mono ?_; rintro e w' ⟨rfl, rfl⟩) | (go_at_call 22; refine (addFn_any b a n _ hb h0 h1 hn hn2).mono ?_; rintro e w' ⟨rfl, rfl⟩) | (go_at_call 38; refine (cas_any _ _ _ _ hc hz).mono ?_; rintro e w' ⟨rfl, rfl⟩))
    go_ret
    exact ⟨⟨_, rfl⟩, .inr rfl⟩

theorem raise_to (p : Addr) (b : Nat) (a n : Int) (w : World) (hc : w.cell? p = some (.int .i64 a)) (hz : w.frozen? p = false) (hb : Blk w b 3 #[.int .i64 n]) :
    Calls Try.prog 21 #[.pointer (some p), .func (.func 24) #[] #[.pointer (some ⟨b, 0, none⟩)]] w fun e w' => e = .returned (.bool (decide (a < n))) ∧ (w' = if a < n then w.setCell p (.int .i64 n) else w) := by
  by_cases hle : n ≤ a
  · go_enter Try.func21, Try.ntmps21
    go_wp2
    refine wp_loop_rounds 1 ?_
    rw [rounds_succ]
    go_wp2_with (first | (go_at_call 29; refine (load_any _ _ _ hc).mono ?_; rintro e w' ⟨rfl, rfl⟩) | (go_at_call 24; refine (sameFn_any b a n _ hb).mono ?_; rintro e w' ⟨rfl, rfl⟩))
    go_ret
    exact ⟨rfl, rfl⟩
  · have hlt : a < n := by omega
    go_enter Try.func21, Try.ntmps21
    go_wp2
    refine wp_loop_rounds 1 ?_
    rw [rounds_succ]
    go_wp2_with (first | (go_at_call 29; refine (load_any _ _ _ hc).mono ?_; rintro e w' ⟨rfl, rfl⟩) | (go_at_call 24; refine (sameFn_any b a n _ hb).mono ?_; rintro e w' ⟨rfl, rfl⟩) | (go_at_call 38; refine (cas_any _ _ _ _ hc hz).mono ?_; rintro e w' ⟨rfl, rfl⟩))
    go_ret
    exact ⟨rfl, rfl⟩
end Go.Proofs.Ythaikcopbeppeaa
