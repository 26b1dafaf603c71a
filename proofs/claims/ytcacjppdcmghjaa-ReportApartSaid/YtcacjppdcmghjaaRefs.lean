/-
  WHAT IS PROVED: contracts of Failing, and of the document's own answers: same, note, without. Conditions: the object is a book; the sizes.
-/
import Derived.Test.YtcacjppdcmghjaaQuorum
import Derived.Test.YtcacjppdcmghjaaTake
import Derived.Laws.MakeOwn
namespace Go.Proofs.Ytcacjppdcmghjaa
open Go.RowKit Go.Lib Go.Maps

def sameB (xs ys : List Int) : Bool := decide (xs = ys)
theorem same_yes {xs ys : List Int} (h : xs = ys) : sameB xs ys = true := by unfold sameB; simp [h]
theorem same_no {xs ys : List Int} (h : xs ≠ ys) : sameB xs ys = false := by unfold sameB; simp [h]

set_option maxHeartbeats 1000000 in
theorem same_any (A B : Option Addr) (n c m d : Nat) (xs ys : List Int) (g g' : Nat) (w : World) (hn : n ≤ 9223372036854775807) (hm : m ≤ 9223372036854775807) (hx : Reads w g A n (zints xs)) (hy : Reads w g' B m (zints ys)) :
    Calls Try.prog 18 #[.slice A n c, .slice B m d] w fun e w' => e = .returned (.bool (sameB xs ys)) ∧ w = w' := by
  have HLX := Lib.hid (zlen hx)
  have HLY := Lib.hid (zlen hy)
  by_cases hnm : n = m
  · subst hnm
    go_enter Try.func18, Try.ntmps18
    go_wp2
    go_loop [14] (fun i => ∃ k : Nat, k ≤ n ∧ i = .int .i64 k ∧ xs.take k = ys.take k) (fun i => n - (intOf i).toNat)
    case atStart => exact ⟨0, by omega, rfl, by simp⟩
    case round =>
      obtain ⟨k, hk, rfl, he⟩ := hrel
      by_cases hlt : k < n
      · obtain ⟨ad, u, rfl, hu, hcx⟩ := hx.at_ hlt
        obtain ⟨y, hy1, rfl⟩ := zints_at hu
        obtain ⟨ad2, u2, rfl, hu2, hcy⟩ := hy.at_ hlt
        obtain ⟨z, hz1, rfl⟩ := zints_at hu2
        clear hu hu2
        by_cases hyz : y = z
        · subst hyz
          have HX : Hid (xs.take (k + 1) = ys.take (k + 1)) := Lib.hid (by rw [take_snoc_ hy1, take_snoc_ hz1, he])
          clear he hy1 hz1
          go_wp2
          go_round
          case rel => exact ⟨k + 1, by omega, by go_num, HX.out⟩
          case measure => simp [intOf]; omega
        · have HX : Hid (sameB xs ys = false) := Lib.hid (same_no fun e => hyz (by rw [e, hz1] at hy1; injection hy1 with h; exact h.symm))
          have ht : (y != z) = true := by simpa using hyz
          clear he hy1 hz1 hyz
          go_wp2
          go_ret
          exact ⟨by rw [HX.out]; rfl, rfl⟩
      · obtain rfl : k = n := by omega
        have HX : Hid (sameB xs ys = true) := Lib.hid (same_yes (by rwa [List.take_of_length_le (by rw [HLX.out]; exact Nat.le_refl _), List.take_of_length_le (by rw [HLY.out]; exact Nat.le_refl _)] at he))
        clear he
        go_wp2
        go_ret
        exact ⟨by rw [HX.out]; rfl, rfl⟩
  · have HX : Hid (sameB xs ys = false) := Lib.hid (same_no fun e => hnm (by rw [← HLX.out, ← HLY.out, e]))
    have ht : ((n : Int) != (m : Int)) = true := by simp; omega
    clear hnm
    go_enter Try.func18, Try.ntmps18
    go_wp2
    go_ret
    exact ⟨by rw [HX.out]; rfl, rfl⟩

theorem by_in {L : List Rp} (h : Good L) (about now win : Int) : Q.inInts (byL L about now win) := fun x hx => by have := by_ids h.2 hx; omega
set_option maxHeartbeats 1000000 in
theorem failing_any (g b : Nat) (win : Int) (L : List Rp) (about now : Int) (A : Option Addr) (n c : Nat) (vs : List Int) (w : World) (h : Bk w g b win L) (hl : L.length < 100000) (hnc : n ≤ c) (hc : c ≤ 9223372036854775807) (hr : Reads w w.heap.size A n (zints vs)) :
    Calls Try.prog 21 #[.pointer (some ⟨g, 0, none⟩), .int .i64 about, .int .i64 now, .slice A n c] w (Says (Q.majB vs (byL L about now win)) w) := by
  obtain ⟨q, HQ⟩ : ∃ q, Hid (Q.majB vs (byL L about now win) = q) := ⟨_, Lib.hid rfl⟩
  have HH := Lib.hid h
  have HI := Lib.hid (by_in h.good about now win)
  have HLE : Hid ((byL L about now win).length < 100000) := Lib.hid (by have := by_le L about now win; omega)
  obtain ⟨bl, HBL⟩ : ∃ bl, Hid (byL L about now win = bl) := ⟨_, Lib.hid rfl⟩
  have HR := Lib.hid hr
  rw [HBL.out] at HQ HI HLE
  clear h hr
  go_enter Try.func21, Try.ntmps21
  go_wp2_with (fail)
  refine (by_any g b win L about now _ HH.out hl).mono ?_
  rintro e w1 ⟨hb1, v, rfl, hown1⟩
  rw [HBL.out] at hown1
  obtain ⟨A1, c1, rfl, hc1, hcm1⟩ := own_slice hown1
  have HR1 := Lib.hid (own_read hown1 _ (.inl (Nat.le_refl _)))
  have HB1 := Lib.hid hb1
  have hle := HLE.out
  clear hown1 hb1
  go_wp2_with (fail)
  refine (Q.maj_any A A1 n c bl.length c1 vs bl _ hnc hc (by omega) (HR.out.old HB1.out HB1.out.size) HR1.out HI.out).mono ?_
  rintro e w2 ⟨rfl, hb2⟩
  rw [HQ.out]
  have HB2 : Hid (Below w.heap.size w w2) := Lib.hid (HB1.out.trans (hb2.mono HB1.out.size))
  clear hb2
  go_wp2
  go_ret
  exact ⟨by rw [HBL.out, HQ.out]; rfl, HB2.out⟩

/-- a step, as a value -/
abbrev vSt (x : St) : Value := .agg #[.int .i64 x.how, .int .i64 x.a, .int .i64 x.b, .int .i64 x.t]
def Sx (w : World) (b : Nat) (x : St) : Prop := Blk w b 30 #[.int .i64 x.how, .int .i64 x.a, .int .i64 x.b, .int .i64 x.t]
theorem Sx.cells {w : World} {b : Nat} {x : St} (h : Sx w b x) : w.cell? ⟨b, 0, none⟩ = some (.int .i64 x.how) ∧ w.cell? ⟨b, 1, none⟩ = some (.int .i64 x.a) ∧ w.cell? ⟨b, 2, none⟩ = some (.int .i64 x.b) ∧ w.cell? ⟨b, 3, none⟩ = some (.int .i64 x.t) :=
  ⟨Blk.cell h 0, Blk.cell h 1, Blk.cell h 2, Blk.cell h 3⟩
theorem Sx.lt {w : World} {b : Nat} {x : St} (h : Sx w b x) : b < w.heap.size := Blk.lt h
theorem Sx.new (w : World) (x : St) : Sx (w.alloc (.cells #[.int .i64 x.how, .int .i64 x.a, .int .i64 x.b, .int .i64 x.t] 30)) w.heap.size x := Blk.new _ _ _
theorem Sx.below {w w' : World} {b : Nat} {x : St} (h : Sx w b x) (hb : Below w.heap.size w w') : Sx w' b x := Blk.below h hb (Blk.lt h)
theorem Sx.kept {w w' : World} {b : Nat} {x : St} {row : Option Nat} (h : Sx w b x) (hg : w.grownBy w' row) (hne : some b ≠ row) : Sx w' b x := Blk.grown h hg hne

/-- what note and without hand back: a list of reports, to be read, and a number -/
def Back (L : List Rp) (m : Int) (w : World) (e : Ending) (w' : World) : Prop :=
  ∃ A n c, e = .returned (.tuple #[.slice A n c, .int .i64 m]) ∧ RpsAt w' A n L ∧ n ≤ c ∧ c ≤ 9223372036854775807 ∧ Below w.heap.size w w'
theorem own_kept3 {w w' : World} {base n : Nat} {e : TypeId} {v : Value} {xs : List Value} (h : w.ownsRow base e 3 v n xs) (hb : Below w.heap.size w w') : w'.ownsRow base e 3 v n xs :=
  h.kept (only_of_below hb none) (by cases v.ownBlock <;> simp)
end Go.Proofs.Ytcacjppdcmghjaa
