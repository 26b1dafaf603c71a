/-
  WHAT IS PROVED: the contract of a meter's Total. Condition: the block is a meter that nobody is at.
-/
import Derived.Test.YthaikcopbeppeaaShut
namespace Go.Proofs.Ythaikcopbeppeaa
open Go.RowKit Go.Lib

/-- all together, or the most -/
def St.total (s : St) : Int := min (sumTo s.f 16) 4611686018427387904
theorem sumTo_nonneg {s : St} (h : s.ok) : ∀ k, k ≤ 16 → 0 ≤ sumTo s.f k
  | 0, _ => Int.le_refl 0
  | k + 1, hk => by have := sumTo_nonneg h k (by omega); have := (h.1 k (by omega)).1; show 0 ≤ sumTo s.f k + s.f k; omega
theorem total_step {s : St} (h : s.ok) {k : Nat} (hk : k < 16) : plusI (min (sumTo s.f k) 4611686018427387904) (s.f k) = min (sumTo s.f (k + 1)) 4611686018427387904 := by
  have h1 := sumTo_nonneg h k (by omega)
  have h2 := h.1 k hk
  show _ = min (sumTo s.f k + s.f k) _
  unfold plusI
  omega

set_option maxRecDepth 100000 in
set_option maxHeartbeats 1000000 in
theorem total_any (g : Nat) (s : St) (w : World) (h : Me w g s) :
    Calls Try.prog 17 #[.pointer (some ⟨g, 0, none⟩)] w (Did g (.int .i64 s.total) s w) := by
  go_enter_defers Try.func17, Try.ntmps17
  go_wp2_with (fail)
  refine (wlock_any h.1).mono ?_
  rintro e w1 ⟨rfl, h1, hg1⟩
  go_wp2
  go_loopw [3, 12] (fun t i wr => ∃ k : Nat, k ≤ 16 ∧ i = .int .i64 k ∧ t = .int .i64 (min (sumTo s.f k) 4611686018427387904) ∧ wr = w1) (fun _ i _ => 16 - (intOf i).toNat)
  case atStart => exact ⟨0, by omega, rfl, rfl, rfl⟩
  case round =>
    obtain ⟨k, hk, rfl, rfl, rfl⟩ := hrel
    by_cases hk2 : k < 16
    · have c := h1.cf hk2
      have HT := Lib.hid (total_step h.2 hk2)
      have hs := sumTo_nonneg h.2 k hk
      have hf := h.2.1 k hk2
      go_wp2_with (fail)
      refine (load_any _ _ _ c).mono ?_
      rintro e w2 ⟨rfl, rfl⟩
      go_wp2_with (fail)
      refine (plus_any _ _ _ (by omega) (by omega) hf.1 hf.2).mono ?_
      rintro e w2 ⟨rfl, rfl⟩
      rw [HT.out]
      go_wp2
      go_roundw
      case rel => exact ⟨k + 1, by omega, by go_num, rfl, by first | trivial | rfl⟩
      case measure => simp [intOf]; omega
    · obtain rfl : k = 16 := by omega
      go_wp2
      refine leaves_cons (f := 28) (args := #[.pointer (some ⟨g, 0, none⟩)]) (by simp) (by simp [go_sem]) ?_
      refine (wunlock_any .returning h1).mono ?_
      rintro e u' w5 ⟨rfl, rfl, h5, hg5⟩
      exact ⟨_, results_tmp rfl _ _ _, Me.did h5 h.2 (hg1.trans hg5)⟩
end Go.Proofs.Ythaikcopbeppeaa
