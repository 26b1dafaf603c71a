/-
  WHAT IS PROVED: the law SlotAgain answers true for every list of byte slices, which reads behind the call as before it: a hasher that was used answers as a new one; two of them are alike. Condition: none.
-/
import Derived.Test.YtaaibjibnonlaaaOpen
import Derived.Deep.RegionHeld3
import Derived.Laws.BytesArg
import Derived.BigQuiet
import Derived.BigRegion
namespace Go.Proofs.Ytaaibjibnonlaaa
open Go.RowKit Go.ChangeShapes Go.WideShapes Go.ChangeAt Go.WideElems

/-- what lay there before the call, behind whatever has turned since -/
theorem Reads.old {w w' : World} {n : Nat} {A : Option Addr} {xs : List Value} (h : Reads w w.heap.size A n xs) (hb : Below w.heap.size w w') {g : Nat} (hg : w.heap.size ≤ g) : Reads w' g A n xs :=
  ⟨h.1, fun hn => by
    obtain ⟨ad, e, hlt, _, hc⟩ := h.2 hn
    exact ⟨ad, e, Nat.lt_of_lt_of_le hlt hb.size, by omega, fun j u hu => (hb.cell (by rw [block_of_add]; exact hlt)).trans (hc j u hu)⟩⟩

theorem bytes_back {w : World} {g n c : Nat} {A : Option Addr} {l : List UInt8} (h : Reads w g A n (bs l)) : (convert 22 9 (.slice A n c)).run Try.prog w = .ok (.string (str l)) w := by
  have hl : l.length = n := by have := h.1; simpa [bs] using this
  cases A with
  | none =>
    have hn : n = 0 := by
      rcases Nat.eq_zero_or_pos n with h0 | h0
      · exact h0
      · obtain ⟨ad, e, _⟩ := h.2 h0; cases e
    subst hn
    rw [run_convert_bytes_nil w 22 5 Try.underlying22 Try.underlying5 0 c 9 Try.underlying9]
    cases l with
    | nil => rfl
    | cons _ _ => simp at hl
  | some a =>
    have hcells : (loadCells a n).run Try.prog w = .ok ((l.map (fun c => (c.toNat : Int))).map (Value.int .u8)).toArray w := by
      have := run_loadCells_list (P := Try.prog) w a ((l.map (fun c => (c.toNat : Int))).map (Value.int .u8)) (fun j v hj => by
        have hj' : (bs l)[j]? = some v := by
          rw [← hj]
          simp [bs, Function.comp_def]
        have hn : 0 < n := by
          have hlen : j < (bs l).length := (List.getElem?_eq_some_iff.1 hj').1
          have := h.1
          omega
        obtain ⟨ad, e, _, _, hc⟩ := h.2 hn
        injection e with e
        subst e
        exact hc j v hj')
      simpa [hl] using this
    rw [run_convert_bytes_string w 22 9 5 _ n c Try.underlying22 Try.underlying5 Try.underlying9, run_bytesToString w a n c _ hcells, foldl_push_bytes]
    have e : l.map ((fun n : Int => UInt8.ofNat n.toNat) ∘ fun c => (c.toNat : Int)) = l := by
      conv => rhs; rw [← List.map_id l]
      apply List.map_congr_left
      intro x _
      simp
    simp [str, e, ByteArray.empty, ByteArray.emptyWithCapacity]
    rfl

/-- the law's own hasher lies in block g; what was there before has not turned -/
def Ag (w : World) (g : Nat) (wr : World) : Prop := w.heap.size ≤ g ∧ Below w.heap.size w wr ∧ Hx wr g
theorem Ag.drew {w wr : World} {g : Nat} (h : Ag w g wr) : Ag w g wr.drew := ⟨h.1, h.2.1.drew, h.2.2⟩

section
variable {w wr : World} {g g2 n c : Nat} {A : Option Addr} {l : List UInt8}
theorem ag_sum (h : Ag w g wr) (hn : n ≤ 9223372036854775807) (hr : Reads w w.heap.size A n (bs l)) :
    Calls Try.prog 14 #[.pointer (some ⟨g, 0, none⟩), .slice A n c] wr fun e w' => e = .returned (.int .i64 (crc 0 l)) ∧ Ag w g w' ∧ wr.grownBy w' (some g) :=
  (sum_any A n c g l wr hn (hr.old h.2.1 h.1) h.2.2).mono fun _ _ ⟨he, h1, hg⟩ => ⟨he, ⟨h.1, h.2.1.trans (below_of_only hg h.2.1.size h.1), .inr h1⟩, hg⟩
theorem ag_sum2 (h : Ag w g wr) (h2 : Hx wr g2 ∧ g2 ≠ g ∧ w.heap.size ≤ g2) (hn : n ≤ 9223372036854775807) (hr : Reads w w.heap.size A n (bs l)) :
    Calls Try.prog 14 #[.pointer (some ⟨g2, 0, none⟩), .slice A n c] wr fun e w' => e = .returned (.int .i64 (crc 0 l)) ∧ Ag w g w' :=
  (sum_any A n c g2 l wr hn (hr.old h.2.1 h2.2.2) h2.1).mono fun _ _ ⟨he, _, hg⟩ =>
    ⟨he, h.1, h.2.1.trans (below_of_only hg h.2.1.size h2.2.2), h.2.2.grown hg (fun e => h2.2.1 (by injection e with e; exact e.symm))⟩
theorem ag_new (h : Ag w g wr) : Calls Try.prog 12 #[] wr fun e w' => ∃ g2, e = .returned (.pointer (some ⟨g2, 0, none⟩)) ∧ (Hx w' g2 ∧ g2 ≠ g ∧ w.heap.size ≤ g2) ∧ Ag w g w' :=
  (new_any wr).mono fun _ _ ⟨he, hx, hb⟩ => ⟨_, he, ⟨hx, by have := h.2.2.lt; omega, h.2.1.size⟩, h.1, h.2.1.trans (hb.mono h.2.1.size), h.2.2.below hb h.2.2.lt⟩
theorem ag_slot (h : Ag w g wr) (hl : l.length ≤ 4611686018427387904) :
    Calls Try.prog 18 #[.pointer (some ⟨g, 0, none⟩), .string (str l)] wr fun e w' => e = .returned (.int .i64 ((crc 0 (tagL l) % 64 : Nat) : Int)) ∧ Ag w g w' ∧ wr.grownBy w' (some g) :=
  (slot_any g l wr hl h.2.2).mono fun _ _ ⟨he, h1, hg⟩ => ⟨he, ⟨h.1, h.2.1.trans (below_of_only hg h.2.1.size h.1), .inr h1⟩, hg⟩
theorem ag_slot2 (h : Ag w g wr) (h2 : Hx wr g2 ∧ g2 ≠ g ∧ w.heap.size ≤ g2) (hl : l.length ≤ 4611686018427387904) :
    Calls Try.prog 18 #[.pointer (some ⟨g2, 0, none⟩), .string (str l)] wr fun e w' => e = .returned (.int .i64 ((crc 0 (tagL l) % 64 : Nat) : Int)) ∧ Ag w g w' :=
  (slot_any g2 l wr hl h2.1).mono fun _ _ ⟨he, _, hg⟩ =>
    ⟨he, h.1, h.2.1.trans (below_of_only hg h.2.1.size h2.2.2), h.2.2.grown hg (fun e => h2.2.1 (by injection e with e; exact e.symm))⟩
theorem ag_conv (h : Ag w g wr) (hr : Reads w w.heap.size A n (bs l)) : (convert 22 9 (.slice A n c)).run Try.prog wr = .ok (.string (str l)) wr := bytes_back (hr.old h.2.1 h.1)
end

set_option maxRecDepth 100000 in
set_option maxHeartbeats 4000000 in
theorem again_in (A : Option Addr) (n cap : Nat) (ls : List (List UInt8)) (w : World) (hn : n ≤ 30) (hr : Rows2 w w.heap.size A n ls) :
    Calls Try.prog 6 #[.slice A n cap] w (Says true w) := by
  go_enter Try.func6, Try.ntmps6
  go_wp2_with (go_at_call 11; refine (anchor_any _).mono ?_; rintro e w1 ⟨rfl, hb1⟩)
  refine (new_any _).mono ?_
  rintro e w2 ⟨rfl, hx2, hb2⟩
  have hag : Ag w w1.heap.size w2 := ⟨hb1.size, hb1.trans (hb2.mono hb1.size), hx2⟩
  clear hx2 hb2
  generalize w1.heap.size = g at *
  go_wp2_with (fail)
  go_loopw [5, 6, 15] (fun _ _ i wr => ∃ k : Nat, k ≤ n ∧ i = .int .i64 k ∧ Ag w g wr) (fun _ _ i _ => n - (intOf i).toNat)
  case atStart => exact ⟨0, by omega, rfl, hag⟩
  case round =>
    obtain ⟨k, hk, rfl, ha⟩ := hrel
    by_cases hkn : k < n
    · obtain ⟨ad, A', n', c', l, rfl, hlk, hlt, _, hc, hl, hnc, hcm, hrl⟩ := hr.2 k hkn
      have hcell : wr.cell? (ad.add k) = some (.slice A' n' c') := (ha.2.1.cell (by rw [block_of_add]; exact hlt)).trans hc
      have hnm : n' ≤ 9223372036854775807 := by omega
      have HL := Lib.hid hl
      clear hlk hc hl
      by_cases h300 : n' ≤ 300
      · have hll : l.length ≤ 4611686018427387904 := by rw [HL.out]; omega
        go_wp2_with (go_at_call 14; refine (ag_sum ha hnm hrl).mono ?_; rintro e w3 ⟨rfl, ha3, _⟩)
        have ha4 := ha3.drew
        have hcv := ag_conv (c := c') ha4 hrl
        go_region_held3 (fun w' => (convert 22 9 (.slice A' n' c')).run Try.prog w' = .ok (.string (str l)) w') (first | exact ag_conv (by assumption) hrl) (first
          | (go_at_call 14; first
            | (refine (ag_sum (by assumption) hnm hrl).mono ?_; rintro e w5 ⟨rfl, ha5, hg5⟩)
            | (refine (ag_sum2 (by assumption) (by assumption) hnm hrl).mono ?_; rintro e w6 ⟨rfl, ha6⟩))
          | (go_at_call 12; refine (ag_new (by assumption)).mono ?_; rintro e w7 ⟨g2, rfl, hx7, ha7⟩)
          | (go_at_call 18; first
            | (refine (ag_slot (by assumption) hll).mono ?_; rintro e w8 ⟨rfl, ha8, hg8⟩)
            | (refine (ag_slot2 (by assumption) (by first | assumption | exact ⟨hx7.1.grown hg8 (fun e => hx7.2.1 (by injection e)), hx7.2⟩) hll).mono ?_; rintro e w9 ⟨rfl, ha9⟩)))
        go_wp2
        go_roundw
        case rel => exact ⟨k + 1, by omega, by go_num, by assumption⟩
        case measure => simp [intOf]; omega
      · go_wp2
        go_ret
        exact ⟨rfl, ha.2.1⟩
    · obtain rfl : k = n := by omega
      go_wp2
      go_ret
      exact ⟨rfl, ha.2.1⟩

set_option maxRecDepth 100000 in
set_option maxHeartbeats 1000000 in
theorem again_walk (A : Option Addr) (n cap : Nat) (ls : List (List UInt8)) (w : World) (hr : Rows2 w w.heap.size A n ls) :
    Calls Try.prog 6 #[.slice A n cap] w (Says true w) := by
  by_cases h : n ≤ 30
  · exact again_in A n cap ls w h hr
  · go_enter Try.func6, Try.ntmps6
    go_wp2_with (go_at_call 11; refine (anchor_any _).mono ?_; rintro e w1 ⟨rfl, hb1⟩)
    go_ret
    exact ⟨rfl, hb1⟩

theorem again_lifted (os : Os) (started : os.Started) (H : Type) (enc : TypeId × Value → H) :
    ReturnsInHanded {} Try.checked os 6 .any (Rows.slotAgainSpec.pre6 enc Try.prog Try.f6 Rows.slotAgainRow.domain false) (Rows.slotAgainSpec.post enc Try.prog Try.f6 false true false false) := by
  refine returnsInHanded_of_change (C := Try.checked) own started (by kernel_rfl) Try.func6
    (ChangeSpec.witness6 (enc := enc) (C := Try.checked) false ⟨#[], #[.slice none 0 0], []⟩ 8 (by kernel_rfl) (by kernel_rfl) (by kernel_rfl) (by kernel_rfl)) ?_
  intro W base args ds gs before hval0 hW _ _
  have hval : ∀ (j : Nat) t v, Try.f6.params[j]? = some t → args[j]? = some v → Value.okWide Try.prog W .any base t v := hval0
  have hW' := hW
  obtain ⟨p, q, hA0, hV, rfl, _, _⟩ := hW
  have hA : DataW.TrodAll enc Try.prog W 0 (fun _ => true) true Try.f6.params.toList args.toList ds p := hA0
  rw [Try.params6] at hA hval
  obtain ⟨v0, vs0, d0, ds0, p0, q0, hargs, rfl, rfl, h0, r0⟩ := trodAll_cons hA
  obtain ⟨rfl, rfl, rfl⟩ := trodAll_nil r0
  obtain rfl : args = #[v0] := by cases args; simp_all
  obtain ⟨rfl, rfl⟩ := trodVars_none hV
  obtain ⟨A0, n0, c0, ls0, rfl, hc0, hm0, hr0⟩ := open_byte_rows Try.underlying33 Try.underlying22 Try.underlying5 cells_bytes cells_u8 (hval 0 33 v0 rfl rfl) h0
  clear hA0
  have hk := again_walk A0 n0 c0 ls0 W (hr0 _ (Nat.le_refl _))
  exact hk.mono fun e W' ⟨he, hb⟩ => ⟨_, he, law_post laid_ok (by kernel_rfl) rfl Try.underlying4 rfl hW' rfl hb⟩

theorem again_holds : Rows.SlotAgainSaid :=
  OpenClaim.holds_of_wide 6 Try.f6 rfl rfl rfl rfl rfl rfl rfl ⟨rfl, rfl, rfl, rfl, rfl⟩ rfl rfl rfl rfl rfl (by kernel_rfl) Try.func6 (by kernel_rfl)
    (of_decide_eq_true (by kernel_rfl)) (by unfold Func.isWrapper; first | (rw [if_pos (by decide +kernel)]; kernel_rfl) | (rw [if_neg (by decide +kernel)]; exact ⟨rfl, rfl⟩))
    (fun os started H enc _ => again_lifted os started H enc)

end Go.Proofs.Ytaaibjibnonlaaa
