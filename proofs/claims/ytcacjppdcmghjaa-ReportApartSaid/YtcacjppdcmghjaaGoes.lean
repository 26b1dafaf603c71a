/-
  WHAT IS PROVED: contracts of what Forget and Expire hand to takeAway: which reports go. Condition: what they captured.
-/
import Derived.Test.YtcacjppdcmghjaaBook
namespace Go.Proofs.Ytcacjppdcmghjaa
open Go.RowKit Go.Lib Go.Maps

def ofB (id : Int) (r : Rp) : Bool := decide (r.a = id ∨ r.b = id)
def staleB (win now : Int) (r : Rp) : Bool := !countB win now r

theorem has_any (r : Rp) (id : Int) (w : World) :
    Calls Try.prog 27 #[vPair r.a r.b, .int .i64 id] w (Says (ofB id r) w) := by
  by_cases h1 : r.a = id
  · have HX : Hid (ofB id r = true) := by show _ = _; unfold ofB; simp [h1]
    have h1' : (r.a == id) = true := by simpa using h1
    clear h1
    go_enter Try.func27, Try.ntmps27
    go_wp2
    go_ret
    exact ⟨by rw [HX.out]; rfl, (Below.refl _ _).alloc (Nat.le_refl _) _⟩
  · have h1' : (r.a == id) = false := by simpa using h1
    obtain ⟨q, HQ⟩ : ∃ q, Hid ((r.b == id) = q) := ⟨_, Lib.hid rfl⟩
    have HX : Hid (ofB id r = q) := by show _ = _; rw [← HQ.out]; unfold ofB; rw [Bool.eq_iff_iff]; simp [h1]
    have hq := HQ.out
    clear h1 HQ
    go_enter Try.func27, Try.ntmps27
    go_wp2
    go_ret
    exact ⟨by rw [HX.out]; rfl, (Below.refl _ _).alloc (Nat.le_refl _) _⟩

theorem forget1_any (r : Rp) (id : Int) (p : Nat) (w : World) (hp : w.cell? ⟨p, 0, none⟩ = some (.int .i64 id)) :
    Calls Try.prog 26 #[vPair r.a r.b, .int .i64 r.t, .pointer (some ⟨p, 0, none⟩)] w (Says (ofB id r) w) := by
  have hlt := lt_of_cell hp
  obtain ⟨q, HQ⟩ : ∃ q, Hid (ofB id r = q) := ⟨_, Lib.hid rfl⟩
  go_enter Try.func26, Try.ntmps26
  go_wp2_with (fail)
  refine (has_any r id _).mono ?_
  rintro e w1 ⟨rfl, hb1⟩
  rw [HQ.out]
  go_wp2
  go_ret
  exact ⟨by rw [HQ.out]; rfl, ((Below.refl _ _).alloc (Nat.le_refl _) _).trans (hb1.mono (by simp))⟩

theorem expire1_any (g b : Nat) (win : Int) (r : Rp) (now : Int) (p q : Nat) (w : World) (h : Blk w g 51 #[.int .i64 win, .map (some b)]) (hw : 1 ≤ win ∧ win ≤ 1073741824) (hr : okRp r)
    (hp : w.cell? ⟨p, 0, none⟩ = some (.pointer (some ⟨g, 0, none⟩))) (hq : w.cell? ⟨q, 0, none⟩ = some (.int .i64 now)) :
    Calls Try.prog 28 #[vPair r.a r.b, .int .i64 r.t, .pointer (some ⟨p, 0, none⟩), .pointer (some ⟨q, 0, none⟩)] w (Says (staleB win now r) w) := by
  have hltp := lt_of_cell hp
  have hltq := lt_of_cell hq
  have HB := Lib.hid h
  have HW := Lib.hid hw
  have HR := Lib.hid hr
  obtain ⟨x, HX⟩ : ∃ x, Hid (countB win now r = x) := ⟨_, Lib.hid rfl⟩
  have HS : Hid (staleB win now r = !x) := by show _ = _; unfold staleB; rw [HX.out]
  clear h hw hr
  cases x
  all_goals
    go_enter Try.func28, Try.ntmps28
    go_wp2_with (fail)
    refine (counts_any g b win r now _ (HB.out.alloc _) HW.out HR.out).mono ?_
    rintro e w1 ⟨rfl, rfl⟩
    rw [HX.out]
    go_wp2
    go_ret
    exact ⟨by rw [HS.out]; rfl, (Below.refl _ _).alloc (Nat.le_refl _) _⟩
end Go.Proofs.Ytcacjppdcmghjaa
