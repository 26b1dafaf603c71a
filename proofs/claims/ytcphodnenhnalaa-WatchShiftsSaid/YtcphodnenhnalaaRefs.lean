/-
  WHAT IS PROVED: contracts of the document's own answers: same, place, and the law WatchGrows' closure. Conditions: the sizes.
-/
import Derived.Test.YtcphodnenhnalaaDue
import Derived.Laws.MakeOwn
namespace Go.Proofs.Ytcphodnenhnalaa
open Go.RowKit Go.Lib Go.Maps

def sameB (xs ys : List Int) : Bool := decide (xs = ys)
theorem same_yes {xs ys : List Int} (h : xs = ys) : sameB xs ys = true := by unfold sameB; simp [h]
theorem same_no {xs ys : List Int} (h : xs ≠ ys) : sameB xs ys = false := by unfold sameB; simp [h]

set_option maxHeartbeats 1000000 in
theorem same_any (A B : Option Addr) (n c m d : Nat) (xs ys : List Int) (g g' : Nat) (w : World) (hn : n ≤ 9223372036854775807) (hm : m ≤ 9223372036854775807) (hx : Reads w g A n (zints xs)) (hy : Reads w g' B m (zints ys)) :
    Calls Try.prog 19 #[.slice A n c, .slice B m d] w fun e w' => e = .returned (.bool (sameB xs ys)) ∧ w = w' := by
  have HLX := Lib.hid (zlen hx)
  have HLY := Lib.hid (zlen hy)
  by_cases hnm : n = m
  · subst hnm
    go_enter Try.func19, Try.ntmps19
    go_wp2
    go_loop [14] (fun i => ∃ k : Nat, k ≤ n ∧ i = .int .i64 k ∧ xs.take k = ys.take k) (fun i => n - (intOf i).toNat)
    case atStart => exact ⟨0, by omega, rfl, by simp⟩
    case round =>
      obtain ⟨k, hk, rfl, he⟩ := hrel
      by_cases hlt : k < n
      · obtain ⟨ad, u, rfl, hu, hcx⟩ := hx.at_ hlt
        obtain ⟨y, hy1, rfl⟩ := zints_at hu
        obtain ⟨ad2, u2, rfl, hu2, hcy⟩ := hy.at_ hlt
        obtain ⟨z, hz1, rfl⟩ := zints_at hu2
        clear hu hu2
        by_cases hyz : y = z
        · subst hyz
          have HX : Hid (xs.take (k + 1) = ys.take (k + 1)) := Lib.hid (by rw [take_snoc_ hy1, take_snoc_ hz1, he])
          clear he hy1 hz1
          go_wp2
          go_round
          case rel => exact ⟨k + 1, by omega, by go_num, HX.out⟩
          case measure => simp [intOf]; omega
        · have HX : Hid (sameB xs ys = false) := Lib.hid (same_no fun e => hyz (by rw [e, hz1] at hy1; injection hy1 with h; exact h.symm))
          have ht : (y != z) = true := by simpa using hyz
          clear he hy1 hz1 hyz
          go_wp2
          go_ret
          exact ⟨by rw [HX.out]; rfl, rfl⟩
      · obtain rfl : k = n := by omega
        have HX : Hid (sameB xs ys = true) := Lib.hid (same_yes (by rwa [List.take_of_length_le (by rw [HLX.out]; exact Nat.le_refl _), List.take_of_length_le (by rw [HLY.out]; exact Nat.le_refl _)] at he))
        clear he
        go_wp2
        go_ret
        exact ⟨by rw [HX.out]; rfl, rfl⟩
  · have HX : Hid (sameB xs ys = false) := Lib.hid (same_no fun e => hnm (by rw [← HLX.out, ← HLY.out, e]))
    have ht : ((n : Int) != (m : Int)) = true := by simp; omega
    clear hnm
    go_enter Try.func19, Try.ntmps19
    go_wp2
    go_ret
    exact ⟨by rw [HX.out]; rfl, rfl⟩


/-! ### the place of a peer -/
theorem has_pos {L : List Pr} (hu : Up L) {x : Int} {p : Pr} (h : L[posL L x]? = some p) : hasL L x = decide (p.id = x) := by
  rw [Bool.eq_iff_iff, decide_eq_true_eq]
  constructor
  · intro hh
    obtain ⟨q, hq, e⟩ := has_at hu hh
    rw [h] at hq
    injection hq with hq
    rw [hq]; exact e
  · exact fun e => at_has h e
theorem has_past {L : List Pr} (hu : Up L) {x : Int} (h : posL L x = L.length) : hasL L x = false := by
  cases hh : hasL L x
  · rfl
  · have := pos_has hu hh; omega
theorem less_step {L : List Pr} {k : Nat} {x : Int} {p : Pr} (h : ∀ j q, j < k → L[j]? = some q → q.id < x) (hp : L[k]? = some p) (hx : p.id < x) : ∀ j q, j < k + 1 → L[j]? = some q → q.id < x := fun j q hj hq => by
  by_cases e : j = k
  · subst e; rw [hp] at hq; injection hq with hq; rw [← hq]; exact hx
  · exact h j q (by omega) hq

set_option maxHeartbeats 1000000 in
theorem place_any (A : Option Addr) (n c : Nat) (L : List Pr) (x : Int) (w : World) (hn : n ≤ 1000) (hr : PrsAt w A n L) (hu : Up L) :
    Calls Try.prog 21 #[.slice A n c, .int .i64 x] w fun e w' => e = .returned (.tuple #[.int .i64 ((posL L x : Nat) : Int), .bool (hasL L x)]) ∧ Below w.heap.size w w' := by
  have HR := Lib.hid hr
  have HL := Lib.hid hr.1
  have HU := Lib.hid hu
  clear hr hu
  go_enter Try.func21, Try.ntmps21
  go_wp2
  go_loop [6] (fun i => ∃ k : Nat, k ≤ n ∧ i = .int .i64 k ∧ ∀ j q, j < k → L[j]? = some q → q.id < x) (fun i => n - (intOf i).toNat)
  case atStart => exact ⟨0, by omega, rfl, fun j q hj => absurd hj (by omega)⟩
  case round =>
    obtain ⟨k, hk, rfl, hno⟩ := hrel
    have HNO := Lib.hid hno
    clear hno
    by_cases hlt : k < n
    · obtain ⟨ad, p, rfl, hp, hbl, d0, d1, d2, d3⟩ := HR.out.at_ hlt
      have HP := Lib.hid hp
      clear hp
      by_cases hx : p.id < x
      · have HN2 := Lib.hid (less_step HNO.out HP.out hx)
        go_wp2
        go_round
        case rel => exact ⟨k + 1, by omega, by go_num, HN2.out⟩
        case measure => simp [intOf]; omega
      · have HPS : Hid (posL L x = k) := Lib.hid (pos_stop (by rw [HL.out]; omega) HNO.out (fun q hq => by rw [HP.out] at hq; injection hq with hq; rw [← hq]; omega))
        have HHS : Hid (hasL L x = decide (p.id = x)) := Lib.hid (has_pos HU.out (by rw [HPS.out]; exact HP.out))
        have hx' : decide (p.id < x) = false := by simpa using hx
        by_cases he : p.id = x
        · have hq : hasL L x = true := by rw [HHS.out]; simpa using he
          have he' : (p.id == x) = true := by simpa using he
          have HQ := Lib.hid hq
          clear hq hx he
          go_wp2
          go_quiet (fail)
          go_wp2
          go_ret2
          exact ⟨by rw [HPS.out, HQ.out]; rfl, below_drewN (Below.refl _ _) _⟩
        · have hq : hasL L x = false := by rw [HHS.out]; simpa using he
          have he' : (p.id == x) = false := by simpa using he
          have HQ := Lib.hid hq
          clear hq hx he
          go_wp2
          go_quiet (fail)
          go_wp2
          go_ret2
          exact ⟨by rw [HPS.out, HQ.out]; rfl, below_drewN (Below.refl _ _) _⟩
    · obtain rfl : k = n := by omega
      have HPS : Hid (posL L x = k) := Lib.hid (pos_stop (by rw [HL.out]; omega) HNO.out (fun q hq => by have := (List.getElem?_eq_some_iff.1 hq).1; rw [HL.out] at this; omega))
      have HQ : Hid (hasL L x = false) := Lib.hid (has_past HU.out (by rw [HPS.out, HL.out]))
      go_wp2
      go_quiet (fail)
      go_wp2
      go_ret2
      exact ⟨by rw [HPS.out, HQ.out]; rfl, below_drewN (Below.refl _ _) _⟩

/-! ### one list in another -/
theorem sub_hit {xs ys : List Int} {a k : Nat} {y : Int} (h : (xs.drop a).Sublist (ys.drop k)) (hx : xs[a]? = some y) (hy : ys[k]? = some y) : (xs.drop (a + 1)).Sublist (ys.drop (k + 1)) := by
  rw [List.drop_eq_getElem_cons (List.getElem?_eq_some_iff.1 hx).1, List.drop_eq_getElem_cons (List.getElem?_eq_some_iff.1 hy).1] at h
  rw [(List.getElem?_eq_some_iff.1 hx).2, (List.getElem?_eq_some_iff.1 hy).2] at h
  exact List.cons_sublist_cons.1 h
theorem sub_miss {xs ys : List Int} {a k : Nat} {x y : Int} (h : (xs.drop a).Sublist (ys.drop k)) (hx : xs[a]? = some x) (hy : ys[k]? = some y) (hn : x ≠ y) : (xs.drop a).Sublist (ys.drop (k + 1)) := by
  rw [List.drop_eq_getElem_cons (List.getElem?_eq_some_iff.1 hx).1] at h ⊢
  rw [List.drop_eq_getElem_cons (List.getElem?_eq_some_iff.1 hy).1] at h
  rw [(List.getElem?_eq_some_iff.1 hx).2] at h ⊢
  rw [(List.getElem?_eq_some_iff.1 hy).2] at h
  rcases List.sublist_cons_iff.1 h with h' | ⟨r, hr, _⟩
  · exact h'
  · injection hr with hr; exact absurd hr hn
set_option maxHeartbeats 1000000 in
theorem in_any (A B : Option Addr) (n c m d : Nat) (xs ys : List Int) (g g' : Nat) (w : World) (hn : n ≤ 1000) (hm : m ≤ 1000) (hx : Reads w g A n (zints xs)) (hy : Reads w g' B m (zints ys)) (hs : xs.Sublist ys) :
    Calls Try.prog 20 #[.slice A n c, .slice B m d] w fun e w' => e = .returned (.bool true) ∧ w = w' := by
  have HLX := Lib.hid (zlen hx)
  have HLY := Lib.hid (zlen hy)
  have HX := Lib.hid hx
  have HY := Lib.hid hy
  have HS := Lib.hid hs
  clear hx hy hs
  go_enter Try.func20, Try.ntmps20
  go_wp2
  go_loop [5, 10] (fun s i => ∃ a k : Nat, a ≤ n ∧ k ≤ m ∧ s = .int .i64 a ∧ i = .int .i64 k ∧ (xs.drop a).Sublist (ys.drop k)) (fun _ i => m - (intOf i).toNat)
  case atStart => exact ⟨0, 0, by omega, by omega, rfl, rfl, by simpa using HS.out⟩
  case round =>
    obtain ⟨a, k, ha, hk, rfl, rfl, hsub⟩ := hrel
    have HSB := Lib.hid hsub
    clear hsub
    by_cases hlt : k < m
    · obtain ⟨ad, u, rfl, hu, hcx⟩ := HY.out.at_ hlt
      obtain ⟨y, hy1, rfl⟩ := zints_at hu
      have HY1 := Lib.hid hy1
      clear hu hy1
      by_cases hla : a < n
      · obtain ⟨ad2, u2, rfl, hu2, hcy⟩ := HX.out.at_ hla
        obtain ⟨x, hx1, rfl⟩ := zints_at hu2
        have HX1 := Lib.hid hx1
        clear hu2 hx1
        by_cases hxy : x = y
        · subst hxy
          have HN := Lib.hid (sub_hit HSB.out HX1.out HY1.out)
          go_wp2
          go_round
          case rel => exact ⟨a + 1, k + 1, by omega, by omega, by go_num, by go_num, HN.out⟩
          case measure => simp [intOf]; omega
        · have HN := Lib.hid (sub_miss HSB.out HX1.out HY1.out hxy)
          have hxy' : (x == y) = false := by simpa using hxy
          clear hxy
          go_wp2
          go_round
          case rel => exact ⟨a, k + 1, by omega, by omega, rfl, by go_num, HN.out⟩
          case measure => simp [intOf]; omega
      · have HN : Hid ((xs.drop a).Sublist (ys.drop (k + 1))) := Lib.hid (by rw [List.drop_eq_nil_of_le (by rw [HLX.out]; omega)]; exact List.nil_sublist _)
        have hla' : decide (a < n) = false := by simpa using hla
        clear hla
        go_wp2
        go_round
        case rel => exact ⟨a, k + 1, by omega, by omega, rfl, by go_num, HN.out⟩
        case measure => simp [intOf]; omega
    · obtain rfl : k = m := by omega
      have hsn := HSB.out
      rw [show ys.drop k = [] from List.drop_eq_nil_of_le (by rw [HLY.out]; exact Nat.le_refl _)] at hsn
      have hx0 := List.length_eq_zero_iff.2 (List.sublist_nil.1 hsn)
      rw [List.length_drop, HLX.out] at hx0
      obtain rfl : a = n := by omega
      clear hsn hx0
      go_wp2
      go_ret
      exact ⟨rfl, rfl⟩

/-- a step, as a value -/
abbrev vSt (x : St) : Value := .agg #[.int .i64 x.how, .int .i64 x.id, .int .i64 x.t]
def Sx (w : World) (b : Nat) (x : St) : Prop := Blk w b 30 #[.int .i64 x.how, .int .i64 x.id, .int .i64 x.t]
theorem Sx.cells {w : World} {b : Nat} {x : St} (h : Sx w b x) : w.cell? ⟨b, 0, none⟩ = some (.int .i64 x.how) ∧ w.cell? ⟨b, 1, none⟩ = some (.int .i64 x.id) ∧ w.cell? ⟨b, 2, none⟩ = some (.int .i64 x.t) :=
  ⟨Blk.cell h 0, Blk.cell h 1, Blk.cell h 2⟩
theorem Sx.lt {w : World} {b : Nat} {x : St} (h : Sx w b x) : b < w.heap.size := Blk.lt h
theorem Sx.new (w : World) (x : St) : Sx (w.alloc (.cells #[.int .i64 x.how, .int .i64 x.id, .int .i64 x.t] 30)) w.heap.size x := Blk.new _ _ _
theorem Sx.below {w w' : World} {b : Nat} {x : St} (h : Sx w b x) (hb : Below w.heap.size w w') : Sx w' b x := Blk.below h hb (Blk.lt h)
theorem Sx.kept {w w' : World} {b : Nat} {x : St} {row : Option Nat} (h : Sx w b x) (hg : w.grownBy w' row) (hne : some b ≠ row) : Sx w' b x := Blk.grown h hg hne

/-- what step hands back: a list of peers, to be read, and a number -/
def Back (L : List Pr) (m : Int) (w : World) (e : Ending) (w' : World) : Prop :=
  ∃ A n c, e = .returned (.tuple #[.slice A n c, .int .i64 m]) ∧ PrsAt w' A n L ∧ n ≤ c ∧ c ≤ 9223372036854775807 ∧ Below w.heap.size w w'
theorem own_kept4 {w w' : World} {base n : Nat} {e : TypeId} {v : Value} {xs : List Value} (h : w.ownsRow base e 4 v n xs) (hb : Below w.heap.size w w') : w'.ownsRow base e 4 v n xs :=
  h.kept (only_of_below hb none) (by cases v.ownBlock <;> simp)
end Go.Proofs.Ytcphodnenhnalaa
