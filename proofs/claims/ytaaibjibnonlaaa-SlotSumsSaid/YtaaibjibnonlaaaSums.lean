/-
  WHAT IS PROVED: the law SlotSums answers true for every slice of bytes and every int, and both read behind the call as before it: any bytes have the document's sum, in one or in two parts. Condition: none.
-/
import Derived.Test.YtaaibjibnonlaaaOpen
import Derived.Deep.RegionHeld3
import Derived.BigQuiet
import Derived.BigRegion
namespace Go.Proofs.Ytaaibjibnonlaaa
open Go.RowKit Go.ChangeShapes Go.WideShapes Go.ChangeAt Go.WideElems

/-- a Reads fact of a slice cut at a place -/
theorem cut_take {w : World} {g n : Nat} {A : Option Addr} {l : List UInt8} (h : Reads w g A n (bs l)) {k : Nat} (hk : k ≤ n) : Reads w g A k (bs (l.take k)) := by
  have := h.take hk
  rwa [show (bs l).take k = bs (l.take k) by simp [bs, List.map_take]] at this
theorem cut_drop {w : World} {g n cap : Nat} {A : Option Addr} {l : List UInt8} (h : Reads w g A n (bs l)) {k : Nat} (hk : k ≤ n) (hc : n ≤ cap) : Reads w g (if cap = k then A else A.map (·.add k)) (n - k) (bs (l.drop k)) := by
  have := h.cut hk hc
  rwa [show (bs l).drop k = bs (l.drop k) by simp [bs, List.map_drop]] at this

set_option maxRecDepth 100000 in
set_option maxHeartbeats 2000000 in
theorem sums_in (A : Option Addr) (n cap k : Nat) (l : List UInt8) (w : World) (hl : l.length = n) (hc : n ≤ cap) (hn : n ≤ 2000) (hk : k ≤ n) (hr : ∀ g, w.heap.size ≤ g → Reads w g A n (bs l)) :
    Calls Try.prog 3 #[.slice A n cap, .int .i64 k] w (Says true w) := by
  have hq : Hid (crc (crc 0 (l.take k)) (l.drop k) = crc 0 l) := by show _ = _; rw [← crc_append, List.take_append_drop]
  have hlt := crc_lt 0 (l.take k) (by omega)
  have HL := Lib.hid hl
  clear hl
  go_enter Try.func3, Try.ntmps3
  go_wp2_with (go_at_call 11; refine (anchor_any _).mono ?_; rintro e w1 ⟨rfl, hb1⟩)
  refine (new_any w1).mono ?_
  rintro e w2 ⟨rfl, hx2, hb2⟩
  have hr2 : Reads w2 w1.heap.size A n (bs l) := (((hr _ (Nat.le_refl _)).below hb1).other (Nat.le_refl _)).below hb2
  have hle1 : w.heap.size ≤ w1.heap.size := hb1.size
  have hle2 : w1.heap.size ≤ w2.heap.size := hb2.size
  have hlt2 := hx2.lt
  have hb3 : Below w.heap.size w w2 := hb1.trans (hb2.mono hle1)
  clear hb1 hb2 hr
  generalize w1.heap.size = g at *
  go_wp2_with (fail)
  refine (refsum_any A n cap g l _ (by omega) hr2).mono ?_
  rintro e w' ⟨rfl, rfl⟩
  have c1 : (0 : Int) ≤ k := by omega
  have c2 : (k : Int) ≤ n := by omega
  have c3 : (n : Int) ≤ cap := by omega
  have c4 : (k : Int) ≤ cap := by omega
  go_wp2_with (fail)
  have hr3 : Reads w2.drew g A n (bs l) := hr2
  have hx3 : Hx w2.drew g := hx2
  by_cases hck : cap = k
  · obtain rfl : n = k := by omega
    have hcd : Reads w2.drew g A 0 (bs (l.drop n)) := by
      have := cut_drop hr3 hk hc
      rwa [if_pos hck, Nat.sub_self] at this
    subst hck
    have ht : l.take cap = l := List.take_of_length_le (by rw [HL.out]; exact Nat.le_refl _)
    rw [ht] at hq hlt
    clear ht
    go_region_held3 (fun _ => True) (first | exact trivial) (first
      | (go_at_call 15; refine (more_any A 0 0 g (l.drop cap) (crc 0 l) hlt _ (by omega) (hcd.only (hg3.trans hg4)) (.inr h4)).mono ?_; rintro e w5 ⟨rfl, h5, hg5⟩; rw [hq.out])
      | (go_at_call 14; first
        | ((refine (sum_any A cap cap g l _ (by omega) hr3 hx3).mono ?_); rintro e w3 ⟨rfl, h3, hg3⟩)
        | ((refine (sum_any A cap cap g l _ (by omega) (hr3.only hg3) (.inr h3)).mono ?_); rintro e w4 ⟨rfl, h4, hg4⟩)))
    go_wp2
    go_ret
    exact ⟨rfl, hb3.drew.trans (below_of_only ((hg3.trans hg4).trans hg5) (by show _ ≤ w2.heap.size; omega) hle1)⟩
  · have hcd : Reads w2.drew g (A.map (·.add k)) (n - k) (bs (l.drop k)) := by
      have := cut_drop hr3 hk hc
      rwa [if_neg hck] at this
    go_region_held3 (fun _ => True) (first | exact trivial) (first
      | (go_at_call 15; refine (more_any _ (n - k) (cap - k) g (l.drop k) (crc 0 (l.take k)) hlt _ (by omega) (hcd.only (hg3.trans hg4)) (.inr h4)).mono ?_; rintro e w5 ⟨rfl, h5, hg5⟩; rw [hq.out])
      | (go_at_call 14; first
        | ((with_reducible refine (sum_any A n cap g l _ (by omega) hr3 hx3).mono ?_); rintro e w3 ⟨rfl, h3, hg3⟩)
        | (refine (sum_any A k cap g (l.take k) _ (by omega) (cut_take (hr3.only hg3) hk) (.inr h3)).mono ?_; rintro e w4 ⟨rfl, h4, hg4⟩)))
    go_wp2
    go_ret
    exact ⟨rfl, hb3.drew.trans (below_of_only ((hg3.trans hg4).trans hg5) (by show _ ≤ w2.heap.size; omega) hle1)⟩

set_option maxRecDepth 100000 in
set_option maxHeartbeats 1000000 in
theorem sums_out (A : Option Addr) (n cap : Nat) (z : Int) (w : World) (h : 2000 < n ∨ (n ≤ 2000 ∧ z < 0) ∨ (n ≤ 2000 ∧ 0 ≤ z ∧ (n : Int) < z)) :
    Calls Try.prog 3 #[.slice A n cap, .int .i64 z] w (Says true w) := by
  rcases h with h | ⟨h1, h⟩ | ⟨h1, h2, h⟩
  all_goals
    go_enter Try.func3, Try.ntmps3
    go_wp2_with (go_at_call 11; refine (anchor_any _).mono ?_; rintro e w1 ⟨rfl, hb1⟩)
    go_ret
    exact ⟨rfl, hb1⟩

theorem sums_walk (A : Option Addr) (n cap : Nat) (z : Int) (l : List UInt8) (w : World) (hl : l.length = n) (hc : n ≤ cap) (hr : ∀ g, w.heap.size ≤ g → Reads w g A n (bs l)) :
    Calls Try.prog 3 #[.slice A n cap, .int .i64 z] w (Says true w) := by
  by_cases h : 2000 < n ∨ (n ≤ 2000 ∧ z < 0) ∨ (n ≤ 2000 ∧ 0 ≤ z ∧ (n : Int) < z)
  · exact sums_out A n cap z w h
  · obtain ⟨k, rfl⟩ := Int.eq_ofNat_of_zero_le (show 0 ≤ z by omega)
    exact sums_in A n cap k l w hl hc (by omega) (by omega) hr

theorem sums_lifted (os : Os) (started : os.Started) (H : Type) (enc : TypeId × Value → H) :
    ReturnsInHanded {} Try.checked os 3 .any (Rows.slotSumsSpec.pre6 enc Try.prog Try.f3 Rows.slotSumsRow.domain false) (Rows.slotSumsSpec.post enc Try.prog Try.f3 false true false false) := by
  refine returnsInHanded_of_change (C := Try.checked) own started (by kernel_rfl) Try.func3
    (ChangeSpec.witness6 (enc := enc) (C := Try.checked) false ⟨#[], #[.slice none 0 0, .int .i64 0], []⟩ 8 (by kernel_rfl) (by kernel_rfl) (by kernel_rfl) (by kernel_rfl)) ?_
  intro W base args ds gs before hval0 hW _ _
  have hval : ∀ (j : Nat) t v, Try.f3.params[j]? = some t → args[j]? = some v → Value.okWide Try.prog W .any base t v := hval0
  have hW' := hW
  obtain ⟨p, q, hA0, hV, rfl, _, _⟩ := hW
  have hA : DataW.TrodAll enc Try.prog W 0 (fun _ => true) true Try.f3.params.toList args.toList ds p := hA0
  rw [Try.params3] at hA hval
  obtain ⟨v0, vs0, d0, ds0, p0, q0, hargs, rfl, rfl, h0, r0⟩ := trodAll_cons hA
  obtain ⟨v1, vs1, d1, ds1, p1, q1, rfl, rfl, rfl, h1, r1⟩ := trodAll_cons r0
  obtain ⟨rfl, rfl, rfl⟩ := trodAll_nil r1
  obtain rfl : args = #[v0, v1] := by cases args; simp_all
  obtain ⟨rfl, rfl⟩ := trodVars_none hV
  obtain ⟨A0, n0, c0, l0, rfl, hl0, hc0, hm0, hr0⟩ := open_bytes Try.underlying22 Try.underlying5 cells_u8 (hval 0 22 v0 rfl rfl) h0
  obtain ⟨z1, rfl, rfl, rfl, wz1⟩ := open_int Try.underlying3 (hval 1 3 v1 rfl rfl) h1
  clear hA0
  have hk := sums_walk A0 n0 c0 z1 l0 W hl0 hc0 hr0
  exact hk.mono fun e W' ⟨he, hb⟩ => ⟨_, he, law_post laid_ok (by kernel_rfl) rfl Try.underlying4 rfl hW' rfl hb⟩

theorem sums_holds : Rows.SlotSumsSaid :=
  OpenClaim.holds_of_wide 3 Try.f3 rfl rfl rfl rfl rfl rfl rfl ⟨rfl, rfl, rfl, rfl, rfl⟩ rfl rfl rfl rfl rfl (by kernel_rfl) Try.func3 (by kernel_rfl)
    (of_decide_eq_true (by kernel_rfl)) (by unfold Func.isWrapper; first | (rw [if_pos (by decide +kernel)]; kernel_rfl) | (rw [if_neg (by decide +kernel)]; exact ⟨rfl, rfl⟩))
    (fun os started H enc _ => sums_lifted os started H enc)

end Go.Proofs.Ytaaibjibnonlaaa
