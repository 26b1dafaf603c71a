/-
  WHAT IS PROVED: the law SlotWhole answers true for every two strings, and they read behind the call as before it: a key without a brace that opens, or without one that closes behind it, counts as a whole; so does one whose first braces have nothing between. Condition: none.
-/
import Derived.Test.YtaaibjibnonlaaaTags
namespace Go.Proofs.Ytaaibjibnonlaaa
open Go.RowKit Go.ChangeShapes Go.WideShapes Go.ChangeAt Go.WideElems

theorem or_step {l : List UInt8} {k : Nat} {b c : UInt8} {o : Bool} (hb : l[k]? = some b) (h : o = true ↔ c ∈ l.take k) : (o || ((b.toNat : Int) == (c.toNat : Int))) = true ↔ c ∈ l.take (k + 1) := by
  rw [take_snoc hb, List.mem_append, Bool.or_eq_true, h, List.mem_singleton]
  constructor
  · rintro (h | h)
    · exact .inl h
    · refine .inr (UInt8.toNat_inj.1 ?_)
      have := beq_iff_eq.1 h
      omega
  · rintro (h | h)
    · exact .inl h
    · subst h; exact .inr (by simp)
theorem key2_eq (a b : List UInt8) : str a ++ { data := #[123, 125] } ++ str b = str (a ++ 123 :: (125 :: b)) := by
  apply ByteArray.ext
  simp [str]
theorem key1_eq (a b : List UInt8) : str a ++ { data := #[123] } ++ str b = str (a ++ 123 :: b) := by
  apply ByteArray.ext
  simp [str]

set_option maxRecDepth 100000 in
set_option maxHeartbeats 2000000 in
theorem whole_in (a b : List UInt8) (w : World) (ha : a.length ≤ 300) (hb : b.length ≤ 300) :
    Calls Try.prog 10 #[.string (str a), .string (str b)] w (Says true w) := by
  have s1 : (str a).size = a.length := rfl
  have s2 : (str b).size = b.length := rfl
  go_enter Try.func10, Try.ntmps10
  go_wp2_with (go_at_call 11; refine (anchor_any _).mono ?_; rintro e w1 ⟨rfl, hb1⟩)
  go_loop [5, 7, 23] (fun v _ i => ∃ (k : Nat) (o : Bool), k ≤ a.length ∧ i = .int .i64 k ∧ v = .bool o ∧ Hid (o = true ↔ 123 ∈ a.take k)) (fun _ _ i => a.length - (intOf i).toNat)
  case atStart => exact ⟨0, false, by omega, rfl, rfl, by show _ ↔ _; simp⟩
  case round =>
    obtain ⟨k, o, hk, rfl, rfl, HK⟩ := hrel
    by_cases hkn : k < a.length
    · obtain ⟨x, hx, hidx⟩ : ∃ x, a[k]? = some x ∧ ∀ h, (str a)[k]'h = x := ⟨a[k], List.getElem?_eq_getElem hkn, fun _ => rfl⟩
      have HB := Lib.hid (or_step hx HK.out)
      clear hx HK
      cases o
      · go_wp2
        go_round
        case rel => exact ⟨k + 1, _, by omega, by go_num, rfl, HB.out⟩
        case measure => simp [intOf]; omega
      · go_wp2
        go_round
        case rel => exact ⟨k + 1, _, by omega, by go_num, rfl, HB.out⟩
        case measure => simp [intOf]; omega
    · obtain rfl : k = a.length := by omega
      have HO : Hid (o = true ↔ 123 ∈ a) := by have := HK.out; rwa [List.take_length] at this
      clear HK
      go_wp2
      go_loop [6, 8, 36] (fun v _ i => ∃ (k : Nat) (o : Bool), k ≤ b.length ∧ i = .int .i64 k ∧ v = .bool o ∧ Hid (o = true ↔ 125 ∈ b.take k)) (fun _ _ i => b.length - (intOf i).toNat)
      case atStart => exact ⟨0, false, by omega, rfl, rfl, by show _ ↔ _; simp⟩
      case round =>
        obtain ⟨k, c, hk, rfl, rfl, HK⟩ := hrel
        by_cases hkn : k < b.length
        · obtain ⟨x, hx, hidx⟩ : ∃ x, b[k]? = some x ∧ ∀ h, (str b)[k]'h = x := ⟨b[k], List.getElem?_eq_getElem hkn, fun _ => rfl⟩
          have HB := Lib.hid (or_step hx HK.out)
          clear hx HK
          cases c
          · go_wp2
            go_round
            case rel => exact ⟨k + 1, _, by omega, by go_num, rfl, HB.out⟩
            case measure => simp [intOf]; omega
          · go_wp2
            go_round
            case rel => exact ⟨k + 1, _, by omega, by go_num, rfl, HB.out⟩
            case measure => simp [intOf]; omega
        · obtain rfl : k = b.length := by omega
          have HC : Hid (c = true ↔ 125 ∈ b) := by have := HK.out; rwa [List.take_length] at this
          clear HK
          go_wp2_with (fail)
          refine (new_any _).mono ?_
          rintro e w2 ⟨rfl, hx2, hb2⟩
          have hle1 : w.heap.size ≤ w1.heap.size := hb1.size
          have hle2 : w1.heap.size ≤ w2.heap.size := hb2.size
          have hb3 : Below w.heap.size w w2 := hb1.trans (hb2.mono hle1)
          clear hb1 hb2
          generalize w1.heap.size = g at *
          have hcv := to_bytes (tagL a)
          cases o
          · have hna : 123 ∉ a := fun h => by have := HO.out.2 h; simp at this
            have HX : Hid (tagL a = a) := tagL_noopen a hna
            have HY : Hid (tagL (a ++ 123 :: (125 :: b)) = a ++ 123 :: (125 :: b)) := tagL_nothing a b hna
            have hkl : (a ++ 123 :: (125 :: b)).length ≤ 4611686018427387904 := by simp; omega
            have hk2 := key2_eq a b
            have hk1 := key1_eq a b
            generalize a ++ 123 :: (125 :: b) = K2 at *
            cases c
            · have hnb : 125 ∉ b := fun h => by have := HC.out.2 h; simp at this
              have HZ : Hid (tagL (a ++ 123 :: b) = a ++ 123 :: b) := tagL_noclose a b hna hnb
              have hkl2 : (a ++ 123 :: b).length ≤ 4611686018427387904 := by simp; omega
              generalize a ++ 123 :: b = K1 at *
              go_wp2_with (fail)
              refine (tag_any a _ (by omega)).mono ?_
              rintro e w' ⟨rfl, n1, rfl⟩
              rw [HX.out]
              go_wp2_with (fail)
              refine (tag_any _ _ hkl).mono ?_
              rintro e w' ⟨rfl, n2, rfl⟩
              rw [HY.out]
              go_wp2_with (fail)
              refine (tag_any _ _ hkl2).mono ?_
              rintro e w' ⟨rfl, n3, rfl⟩
              rw [HZ.out]
              go_wp2_with (fail)
              refine (slot_any g a _ (by omega) (hx2.grown (only_drewN (World.grownBy.refl _ none) _) (by simp))).mono ?_
              rintro e w3 ⟨rfl, h3, hg3⟩
              go_wp2_with (fail)
              refine (tag_any a _ (by omega)).mono ?_
              rintro e w' ⟨rfl, n, rfl⟩
              go_wp2_with (fail)
              have hz3 : g < w3.heap.size := h3.lt
              have hg4 : w3.grownBy ((w3.drewN (n + 1)).alloc (bobj (tagL a) (bcap (tagL a) (w3.drewN n)))) (some g) := only_alloc (only_drewN (World.grownBy.refl _ _) _) _
              have hg5 : w3.grownBy ((w3.drewN (n + 1)).alloc (bobj (tagL a) (bcap (tagL a) (w3.drewN n)))) none := only_alloc (only_drewN (World.grownBy.refl _ _) _) _
              refine (sum_any _ _ _ g (tagL a) _ (by have := tagL_le a; omega) (bytes_read (tagL a) _ g (w3.drewN (n + 1)) (by show g ≠ w3.heap.size; omega)) ((Hx.used h3).grown hg5 (by simp))).mono ?_
              rintro e w4 ⟨rfl, h4, hg6⟩
              go_wp2
              go_ret
              exact ⟨rfl, (below_drewN hb3 (n1 + n2 + n3)).trans (below_of_only ((hg3.trans hg4).trans hg6) (by show _ ≤ w2.heap.size; omega) hle1)⟩
            · go_wp2_with (fail)
              refine (tag_any a _ (by omega)).mono ?_
              rintro e w' ⟨rfl, n1, rfl⟩
              rw [HX.out]
              go_wp2_with (fail)
              refine (tag_any _ _ hkl).mono ?_
              rintro e w' ⟨rfl, n2, rfl⟩
              rw [HY.out]
              go_wp2_with (fail)
              refine (slot_any g a _ (by omega) (hx2.grown (only_drewN (World.grownBy.refl _ none) _) (by simp))).mono ?_
              rintro e w3 ⟨rfl, h3, hg3⟩
              go_wp2_with (fail)
              refine (tag_any a _ (by omega)).mono ?_
              rintro e w' ⟨rfl, n, rfl⟩
              go_wp2_with (fail)
              have hz3 : g < w3.heap.size := h3.lt
              have hg4 : w3.grownBy ((w3.drewN (n + 1)).alloc (bobj (tagL a) (bcap (tagL a) (w3.drewN n)))) (some g) := only_alloc (only_drewN (World.grownBy.refl _ _) _) _
              have hg5 : w3.grownBy ((w3.drewN (n + 1)).alloc (bobj (tagL a) (bcap (tagL a) (w3.drewN n)))) none := only_alloc (only_drewN (World.grownBy.refl _ _) _) _
              refine (sum_any _ _ _ g (tagL a) _ (by have := tagL_le a; omega) (bytes_read (tagL a) _ g (w3.drewN (n + 1)) (by show g ≠ w3.heap.size; omega)) ((Hx.used h3).grown hg5 (by simp))).mono ?_
              rintro e w4 ⟨rfl, h4, hg6⟩
              go_wp2
              go_ret
              exact ⟨rfl, (below_drewN hb3 (n1 + n2)).trans (below_of_only ((hg3.trans hg4).trans hg6) (by show _ ≤ w2.heap.size; omega) hle1)⟩
          · go_wp2_with (fail)
            refine (slot_any g a _ (by omega) hx2).mono ?_
            rintro e w3 ⟨rfl, h3, hg3⟩
            go_wp2_with (fail)
            refine (tag_any a _ (by omega)).mono ?_
            rintro e w' ⟨rfl, n, rfl⟩
            go_wp2_with (fail)
            have hz3 : g < w3.heap.size := h3.lt
            have hg4 : w3.grownBy ((w3.drewN (n + 1)).alloc (bobj (tagL a) (bcap (tagL a) (w3.drewN n)))) (some g) := only_alloc (only_drewN (World.grownBy.refl _ _) _) _
            have hg5 : w3.grownBy ((w3.drewN (n + 1)).alloc (bobj (tagL a) (bcap (tagL a) (w3.drewN n)))) none := only_alloc (only_drewN (World.grownBy.refl _ _) _) _
            refine (sum_any _ _ _ g (tagL a) _ (by have := tagL_le a; omega) (bytes_read (tagL a) _ g (w3.drewN (n + 1)) (by show g ≠ w3.heap.size; omega)) ((Hx.used h3).grown hg5 (by simp))).mono ?_
            rintro e w4 ⟨rfl, h4, hg6⟩
            go_wp2
            go_ret
            exact ⟨rfl, (hb3).trans (below_of_only ((hg3.trans hg4).trans hg6) (by omega) hle1)⟩

set_option maxRecDepth 100000 in
set_option maxHeartbeats 1000000 in
theorem whole_out (a b : List UInt8) (w : World) (h : 300 < a.length ∨ (a.length ≤ 300 ∧ 300 < b.length)) :
    Calls Try.prog 10 #[.string (str a), .string (str b)] w (Says true w) := by
  have s1 : (str a).size = a.length := rfl
  have s2 : (str b).size = b.length := rfl
  rcases h with h | ⟨h1, h⟩
  all_goals
    go_enter Try.func10, Try.ntmps10
    go_wp2_with (go_at_call 11; refine (anchor_any _).mono ?_; rintro e w1 ⟨rfl, hb1⟩)
    go_ret
    exact ⟨rfl, hb1⟩

theorem whole_walk (a b : List UInt8) (w : World) : Calls Try.prog 10 #[.string (str a), .string (str b)] w (Says true w) := by
  by_cases h : 300 < a.length ∨ (a.length ≤ 300 ∧ 300 < b.length)
  · exact whole_out a b w h
  · exact whole_in a b w (by omega) (by omega)

theorem whole_lifted (os : Os) (started : os.Started) (H : Type) (enc : TypeId × Value → H) :
    ReturnsInHanded {} Try.checked os 10 .any (Rows.slotWholeSpec.pre6 enc Try.prog Try.f10 Rows.slotWholeRow.domain false) (Rows.slotWholeSpec.post enc Try.prog Try.f10 false true false false) := by
  refine returnsInHanded_of_change (C := Try.checked) own started (by kernel_rfl) Try.func10
    (ChangeSpec.witness6 (enc := enc) (C := Try.checked) false ⟨#[], #[.string ⟨#[]⟩, .string ⟨#[]⟩], []⟩ 8 (by kernel_rfl) (by kernel_rfl) (by kernel_rfl) (by kernel_rfl)) ?_
  intro W base args ds gs before hval0 hW _ _
  have hval : ∀ (j : Nat) t v, Try.f10.params[j]? = some t → args[j]? = some v → Value.okWide Try.prog W .any base t v := hval0
  have hW' := hW
  obtain ⟨p, q, hA0, hV, rfl, _, _⟩ := hW
  have hA : DataW.TrodAll enc Try.prog W 0 (fun _ => true) true Try.f10.params.toList args.toList ds p := hA0
  rw [Try.params10] at hA hval
  obtain ⟨v0, vs0, d0, ds0, p0, q0, hargs, rfl, rfl, h0, r0⟩ := trodAll_cons hA
  obtain ⟨v1, vs1, d1, ds1, p1, q1, rfl, rfl, rfl, h1, r1⟩ := trodAll_cons r0
  obtain ⟨rfl, rfl, rfl⟩ := trodAll_nil r1
  obtain rfl : args = #[v0, v1] := by cases args; simp_all
  obtain ⟨rfl, rfl⟩ := trodVars_none hV
  obtain ⟨s0, rfl, rfl, rfl, ws0⟩ := ChangeMaps.open_string Try.underlying9 (hval 0 9 v0 rfl rfl) h0
  obtain ⟨s1, rfl, rfl, rfl, ws1⟩ := ChangeMaps.open_string Try.underlying9 (hval 1 9 v1 rfl rfl) h1
  clear hA0
  have e0 : (Value.string s0) = .string (str s0.data.toList) := congrArg Value.string (str_data s0)
  have e1 : (Value.string s1) = .string (str s1.data.toList) := congrArg Value.string (str_data s1)
  have hk := whole_walk s0.data.toList s1.data.toList W
  rw [← e0, ← e1] at hk
  exact hk.mono fun e W' ⟨he, hb⟩ => ⟨_, he, law_post laid_ok (by kernel_rfl) rfl Try.underlying4 rfl hW' rfl hb⟩

theorem whole_holds : Rows.SlotWholeSaid :=
  OpenClaim.holds_of_wide 10 Try.f10 rfl rfl rfl rfl rfl rfl rfl ⟨rfl, rfl, rfl, rfl, rfl⟩ rfl rfl rfl rfl rfl (by kernel_rfl) Try.func10 (by kernel_rfl)
    (of_decide_eq_true (by kernel_rfl)) (by unfold Func.isWrapper; first | (rw [if_pos (by decide +kernel)]; kernel_rfl) | (rw [if_neg (by decide +kernel)]; exact ⟨rfl, rfl⟩))
    (fun os started H enc _ => whole_lifted os started H enc)

end Go.Proofs.Ytaaibjibnonlaaa
