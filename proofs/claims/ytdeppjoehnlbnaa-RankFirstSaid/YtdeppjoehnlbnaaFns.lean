/-
  WHAT IS PROVED: contracts of the functions on single replicas and of those that look through a list of them. Condition: none beyond the arguments' reading.
-/
import Derived.Test.YtdeppjoehnlbnaaQuiet
namespace Go.Proofs.Ytdeppjoehnlbnaa
open Go.RowKit Go.Lib

/-- a replica's value -/
abbrev vRep (r : Rep) : Value := .agg #[.int .i64 r.id, .int .i64 r.off]

theorem isright_any (r : Rep) (w : World) : Calls Try.prog 22 #[vRep r] w (Says (okB r) w) := by
  have close : ∀ o : Obj, Below w.heap.size w (w.alloc o) := fun o => (Below.refl _ w).alloc (Nat.le_refl _) o
  by_cases h1 : 1 ≤ r.id
  · by_cases h2 : r.id ≤ 4294967296
    · by_cases h3 : 0 ≤ r.off
      · by_cases h4 : r.off ≤ 281474976710656
        · have HX : Hid (okB r = true) := ok_iff.2 ⟨h1, h2, h3, h4⟩
          go_enter Try.func22, Try.ntmps22
          go_wp2
          go_ret
          exact ⟨by rw [HX.out]; rfl, close _⟩
        · have HX : Hid (okB r = false) := ok_no.2 (by omega)
          have h5 : decide (r.off ≤ 281474976710656) = false := by simp; omega
          clear h4
          go_enter Try.func22, Try.ntmps22
          go_wp2
          go_ret
          exact ⟨by rw [HX.out]; rfl, close _⟩
      · have HX : Hid (okB r = false) := ok_no.2 (by omega)
        have h5 : decide (0 ≤ r.off) = false := by simp; omega
        clear h3
        go_enter Try.func22, Try.ntmps22
        go_wp2
        go_ret
        exact ⟨by rw [HX.out]; rfl, close _⟩
    · have HX : Hid (okB r = false) := ok_no.2 (by omega)
      have h5 : decide (r.id ≤ 4294967296) = false := by simp; omega
      clear h2
      go_enter Try.func22, Try.ntmps22
      go_wp2
      go_ret
      exact ⟨by rw [HX.out]; rfl, close _⟩
  · have HX : Hid (okB r = false) := ok_no.2 (by omega)
    have h5 : decide (1 ≤ r.id) = false := by simp; omega
    clear h1
    go_enter Try.func22, Try.ntmps22
    go_wp2
    go_ret
    exact ⟨by rw [HX.out]; rfl, close _⟩

theorem ahead_any (a b : Rep) (w : World) : Calls Try.prog 13 #[vRep a, vRep b] w (Says (aheadB a b) w) := by
  have close : ∀ o o' : Obj, Below w.heap.size w ((w.alloc o).alloc o') := fun o o' => ((Below.refl _ w).alloc (Nat.le_refl _) o).alloc (by simp) o'
  rcases Int.lt_trichotomy b.off a.off with h1 | h1 | h1
  · have HX : Hid (aheadB a b = true) := ahead_iff.2 (.inl h1)
    go_enter Try.func13, Try.ntmps13
    go_wp2
    go_ret
    exact ⟨by rw [HX.out]; rfl, close _ _⟩
  · have h2 : decide (b.off < a.off) = false := by simp; omega
    have h3 : (a.off == b.off) = true := by simp; omega
    by_cases h4 : a.id < b.id
    · have HX : Hid (aheadB a b = true) := ahead_iff.2 (.inr ⟨h1.symm, h4⟩)
      clear h1
      go_enter Try.func13, Try.ntmps13
      go_wp2
      go_ret
      exact ⟨by rw [HX.out]; rfl, close _ _⟩
    · have HX : Hid (aheadB a b = false) := ahead_no.2 (by omega)
      have h5 : decide (a.id < b.id) = false := by simp; omega
      clear h1 h4
      go_enter Try.func13, Try.ntmps13
      go_wp2
      go_ret
      exact ⟨by rw [HX.out]; rfl, close _ _⟩
  · have HX : Hid (aheadB a b = false) := ahead_no.2 (by omega)
    have h2 : decide (b.off < a.off) = false := by simp; omega
    have h3 : (a.off == b.off) = false := by simp; omega
    clear h1
    go_enter Try.func13, Try.ntmps13
    go_wp2
    go_ret
    exact ⟨by rw [HX.out]; rfl, close _ _⟩

/-- the closure: is it the one of this id? -/
theorem one_any (r : Rep) (id : Int) (B : Nat) (w : World) (hc : w.cell? ⟨B, 0, none⟩ = some (.int .i64 id)) :
    Calls Try.prog 28 #[vRep r, .pointer (some ⟨B, 0, none⟩)] w (Says (decide (r.id = id)) w) := by
  have hB : B < w.heap.size := lt_of_cell hc
  have hne : B ≠ w.heap.size := by omega
  go_enter Try.func28, Try.ntmps28
  go_wp2
  go_ret
  exact ⟨by first | rfl | simp, (Below.refl _ w).alloc (Nat.le_refl _) _⟩

theorem place_hit {l : List Rep} {k : Nat} {r : Rep} {id : Int} (hr : l[k]? = some r) (he : r.id = id) (h : id ∉ ids (l.take k)) : placeZ l id = k := by
  obtain ⟨hk, e⟩ := List.getElem?_eq_some_iff.1 hr
  have hl : l = l.take k ++ r :: l.drop (k + 1) := by rw [← e, ← List.drop_eq_getElem_cons hk, List.take_append_drop]
  unfold placeZ idxBy
  rw [hl, placeF_yes _ r _ 0 h he, List.length_take]
  show ((0 + min k l.length : Nat) : Int) = k
  omega

set_option maxHeartbeats 1000000 in
theorem index_any (A : Option Addr) (n c : Nat) (l : List Rep) (id : Int) (B : Nat) (w : World) (hn : n ≤ 1000000) (hr : RepsAt w A n l) (hc : w.cell? ⟨B, 0, none⟩ = some (.int .i64 id)) :
    Calls Try.prog 27 #[.slice A n c, .func (.func 28) #[] #[.pointer (some ⟨B, 0, none⟩)]] w fun e w' => e = .returned (.int .i64 (placeZ l id)) ∧ Below w.heap.size w w' := by
  have HL := Lib.hid hr.1
  have HB := Lib.hid (lt_of_cell hc)
  have HC := Lib.hid hc
  clear hc
  go_enter Try.func27, Try.ntmps27
  go_wp2
  go_loopw [5, 8] (fun _ i wr => ∃ k : Nat, k ≤ n ∧ i = .int .i64 k ∧ Below w.heap.size w wr ∧ id ∉ ids (l.take k)) (fun _ i _ => n - (intOf i).toNat)
  case atStart => exact ⟨0, by omega, rfl, Below.refl _ _, by simp [ids]⟩
  case round =>
    obtain ⟨k, hk, rfl, hb, hx⟩ := hrel
    by_cases hlt : k < n
    · obtain ⟨ad, r, rfl, hr0, _, c0, c1⟩ := (hr.below hb).at_ hlt
      have HCW : Hid (wr.cell? ⟨B, 0, none⟩ = some (.int .i64 id)) := (hb.cell (p := ⟨B, 0, none⟩) HB.out).trans HC.out
      by_cases he : r.id = id
      · have HX := Lib.hid (place_hit hr0 he hx)
        have HT : Hid (decide (r.id = id) = true) := by show _ = _; simpa using he
        clear he hx hr0
        go_wp2_with (fail)
        refine (one_any r id B _ HCW.out).mono ?_
        rintro e w2 ⟨rfl, hb2⟩
        rw [HT.out]
        go_wp2
        go_ret
        exact ⟨by rw [HX.out]; rfl, hb.trans (hb2.mono hb.size)⟩
      · have HX : Hid (id ∉ ids (l.take (k + 1))) := by
          show ¬ _
          rw [takeR_snoc hr0, ids_append]
          simp [ids]
          exact ⟨by simpa [ids] using hx, fun e => he e.symm⟩
        have HT : Hid (decide (r.id = id) = false) := by show _ = _; simpa using he
        clear he hx hr0
        go_wp2_with (fail)
        refine (one_any r id B _ HCW.out).mono ?_
        rintro e w2 ⟨rfl, hb2⟩
        rw [HT.out]
        have hb3 := hb.trans (hb2.mono hb.size)
        go_wp2
        go_roundw
        case rel => exact ⟨k + 1, by omega, by go_num, hb3, HX.out⟩
        case measure => simp [intOf]; omega
    · obtain rfl : k = n := by omega
      have HX : Hid (placeZ l id = -1) := place_no (by rwa [List.take_of_length_le (by rw [HL.out]; exact Nat.le_refl _)] at hx)
      clear hx
      go_wp2
      go_ret
      exact ⟨by rw [HX.out]; rfl, hb⟩

theorem place_any (A : Option Addr) (n c : Nat) (l : List Rep) (id : Int) (w : World) (hn : n ≤ 1000000) (hr : RepsAt w A n l) :
    Calls Try.prog 21 #[.slice A n c, .int .i64 id] w fun e w' => e = .returned (.int .i64 (placeZ l id)) ∧ Below w.heap.size w w' := by
  have hb0 : ∀ o : Obj, Below w.heap.size w (w.alloc o) := fun o => (Below.refl _ w).alloc (Nat.le_refl _) o
  go_enter Try.func21, Try.ntmps21
  go_wp2_with (fail)
  refine (index_any A n c l id w.heap.size _ hn (hr.below (hb0 _)) (by simp)).mono ?_
  rintro e w2 ⟨rfl, hb2⟩
  go_wp2
  go_ret
  exact ⟨rfl, (hb0 _).trans (hb2.mono (by simp))⟩
end Go.Proofs.Ytdeppjoehnlbnaa
