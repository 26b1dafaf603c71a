/-
  WHAT IS PROVED: the law SlotTags answers true for every three strings, and they read behind the call as before it: keys with the same tag in braces have one slot, that of the tag alone. Condition: none.
-/
import Derived.Test.YtaaibjibnonlaaaLaw
import Derived.Laws.Concat
namespace Go.Proofs.Ytaaibjibnonlaaa
open Go.RowKit Go.ChangeShapes Go.WideShapes Go.ChangeAt Go.WideElems

theorem ixb_append (a r : List UInt8) (c : UInt8) (h : c ∉ a) : Lib.indexByte (a ++ c :: r) c = a.length := by
  induction a with
  | nil => rw [List.nil_append, indexByte_cons, if_pos rfl]; rfl
  | cons b a ih =>
    have h1 : b ≠ c := fun e => h (by simp [e])
    have h2 := ih (fun e => h (by simp [e]))
    rw [List.cons_append, indexByte_cons, if_neg h1, h2, if_neg (by omega)]
    simp
theorem ixb_none (a : List UInt8) (c : UInt8) (h : c ∉ a) : Lib.indexByte a c = -1 := by
  induction a with
  | nil => rfl
  | cons b a ih =>
    have h1 : b ≠ c := fun e => h (by simp [e])
    rw [indexByte_cons, if_neg h1, ih (fun e => h (by simp [e])), if_pos rfl]
theorem cutL_hit (a r : List UInt8) (c : UInt8) (h : c ∉ a) : cutL (a ++ c :: r) c = (a, r, true) := by
  unfold cutL
  rw [ixb_append a r c h, if_pos (by omega), Int.toNat_natCast]
  have e1 : (a ++ c :: r).take a.length = a := by simp
  have e2 : (a ++ c :: r).drop (a.length + 1) = r := by simp
  rw [e1, e2]
theorem cutL_miss (a : List UInt8) (c : UInt8) (h : c ∉ a) : cutL a c = (a, [], false) := by
  unfold cutL
  rw [ixb_none a c h, if_neg (by omega)]
theorem tagL_braces (a t r : List UInt8) (h1 : 123 ∉ a) (h2 : 125 ∉ t) (h3 : t ≠ []) : tagL (a ++ 123 :: (t ++ 125 :: r)) = t := by
  unfold tagL
  rw [cutL_hit a _ 123 h1, cutL_hit t r 125 h2]
  cases t with
  | nil => exact absurd rfl h3
  | cons c t => rfl
theorem tagL_nothing (a r : List UInt8) (h1 : 123 ∉ a) : tagL (a ++ 123 :: (125 :: r)) = a ++ 123 :: (125 :: r) := by
  have h2 := cutL_hit [] r 125 (by simp)
  rw [List.nil_append] at h2
  unfold tagL
  rw [cutL_hit a _ 123 h1, h2]
  rfl
theorem tagL_noopen (a : List UInt8) (h1 : 123 ∉ a) : tagL a = a := by
  unfold tagL
  rw [cutL_miss a 123 h1, cutL_miss [] 125 (by simp)]
  rfl
theorem tagL_noclose (a b : List UInt8) (h1 : 123 ∉ a) (h2 : 125 ∉ b) : tagL (a ++ 123 :: b) = a ++ 123 :: b := by
  unfold tagL
  rw [cutL_hit a _ 123 h1, cutL_miss b 125 h2]
  rfl
theorem not_mem_of {l : List UInt8} {c : UInt8} (h : ∀ (j : Nat) (b : UInt8), l[j]? = some b → b ≠ c) : c ∉ l := fun hm => by
  obtain ⟨j, hj⟩ := List.getElem?_of_mem hm
  exact h j c hj rfl
theorem ne_num {b c : UInt8} (h : ((b.toNat : Int) == (c.toNat : Int)) = false) : b ≠ c := fun e => by
  subst e; simp at h

theorem key_eq (a t r : List UInt8) : str a ++ { data := #[123] } ++ str t ++ { data := #[125] } ++ str r = str (a ++ 123 :: (t ++ 125 :: r)) := by
  apply ByteArray.ext
  simp [str]

set_option maxRecDepth 100000 in
set_option maxHeartbeats 2000000 in
theorem tags_in (t a r : List UInt8) (w : World) (ht : t.length ≤ 500) (ha : a.length ≤ 500) (hr : r.length ≤ 500) (hne : t ≠ []) :
    Calls Try.prog 5 #[.string (str t), .string (str a), .string (str r)] w (Says true w) := by
  have s1 : (str t).size = t.length := rfl
  have s2 : (str a).size = a.length := rfl
  have s3 : (str r).size = r.length := rfl
  have he : (str t).toList.isEmpty = false := by rw [str_toList]; cases t with
    | nil => exact absurd rfl hne
    | cons _ _ => rfl
  go_enter Try.func5, Try.ntmps5
  go_wp2_with (go_at_call 11; refine (anchor_any _).mono ?_; rintro e w1 ⟨rfl, hb1⟩)
  go_loop [7, 32] (fun _ i => ∃ k : Nat, k ≤ t.length ∧ i = .int .i64 k ∧ Hid (∀ (j : Nat) (b : UInt8), j < k → t[j]? = some b → b ≠ 123 ∧ b ≠ 125)) (fun _ i => t.length - (intOf i).toNat)
  case atStart => exact ⟨0, by omega, rfl, fun j b h => absurd h (by omega)⟩
  case round =>
    obtain ⟨k, hk, rfl, HK⟩ := hrel
    by_cases hkn : k < t.length
    · obtain ⟨b, hb, hidx⟩ : ∃ b, t[k]? = some b ∧ ∀ h, (str t)[k]'h = b := ⟨t[k], List.getElem?_eq_getElem hkn, fun _ => rfl⟩
      have HB := Lib.hid hb
      clear hb
      go_wp2
      · go_ret
        exact ⟨rfl, hb1⟩
      · go_ret
        exact ⟨rfl, hb1⟩
      · have hn : ((b.toNat : Int) == 123) = false ∧ ((b.toNat : Int) == 125) = false := by assumption
        go_round
        case rel =>
          refine ⟨k + 1, by omega, by go_num, fun j b' hj hb' => ?_⟩
          by_cases e : j = k
          · subst e
            obtain rfl : b = b' := Option.some.inj (HB.out.symm.trans hb')
            exact ⟨ne_num hn.1, ne_num hn.2⟩
          · exact HK.out j b' (by omega) hb'
        case measure => simp [intOf]; omega
    · obtain rfl : k = t.length := by omega
      have HT : Hid (123 ∉ t ∧ 125 ∉ t) := ⟨not_mem_of fun j b h => (HK.out j b (by
          rcases Nat.lt_or_ge j t.length with h' | h'
          · exact h'
          · rw [List.getElem?_eq_none h'] at h; cases h) h).1, not_mem_of fun j b h => (HK.out j b (by
          rcases Nat.lt_or_ge j t.length with h' | h'
          · exact h'
          · rw [List.getElem?_eq_none h'] at h; cases h) h).2⟩
      clear HK
      go_wp2
      go_loop [8, 48] (fun _ i => ∃ k : Nat, k ≤ a.length ∧ i = .int .i64 k ∧ Hid (∀ (j : Nat) (b : UInt8), j < k → a[j]? = some b → b ≠ 123)) (fun _ i => a.length - (intOf i).toNat)
      case atStart => exact ⟨0, by omega, rfl, fun j b h => absurd h (by omega)⟩
      case round =>
        obtain ⟨k, hk, rfl, HK⟩ := hrel
        by_cases hkn : k < a.length
        · obtain ⟨b, hb, hidx⟩ : ∃ b, a[k]? = some b ∧ ∀ h, (str a)[k]'h = b := ⟨a[k], List.getElem?_eq_getElem hkn, fun _ => rfl⟩
          have HB := Lib.hid hb
          clear hb
          go_wp2
          · go_ret
            exact ⟨rfl, hb1⟩
          · have hn : ((b.toNat : Int) == 123) = false := by assumption
            go_round
            case rel =>
              refine ⟨k + 1, by omega, by go_num, fun j b' hj hb' => ?_⟩
              by_cases e : j = k
              · subst e
                obtain rfl : b = b' := Option.some.inj (HB.out.symm.trans hb')
                exact ne_num hn
              · exact HK.out j b' (by omega) hb'
            case measure => simp [intOf]; omega
        · obtain rfl : k = a.length := by omega
          have HA : Hid (123 ∉ a) := not_mem_of fun j b h => HK.out j b (by
            rcases Nat.lt_or_ge j a.length with h' | h'
            · exact h'
            · rw [List.getElem?_eq_none h'] at h; cases h) h
          clear HK
          go_wp2_with (fail)
          refine (new_any _).mono ?_
          rintro e w2 ⟨rfl, hx2, hb2⟩
          go_wp2_with (fail)
          rw [key_eq a t r]
          have HX : Hid (tagL (a ++ 123 :: (t ++ 125 :: r)) = t) := tagL_braces a t r HA.out HT.out.2 hne
          have HY : Hid (tagL t = t) := tagL_noopen t HT.out.1
          have hkl : (a ++ 123 :: (t ++ 125 :: r)).length ≤ 4611686018427387904 := by simp; omega
          generalize a ++ 123 :: (t ++ 125 :: r) = key at *
          have hlc := crc_lt 0 t (by omega)
          have c1 : (crc 0 t : Int) % 64 < 64 := by omega
          have hle1 : w.heap.size ≤ w1.heap.size := hb1.size
          have hle2 : w1.heap.size ≤ w2.heap.size := hb2.size
          have hb3 : Below w.heap.size w w2 := hb1.trans (hb2.mono hle1)
          clear hb1 hb2
          generalize w1.heap.size = g at *
          refine (tag_any key _ hkl).mono ?_
          rintro e w' ⟨rfl, n, rfl⟩
          rw [HX.out]
          go_wp2_with (fail)
          refine (slot_any g key _ hkl (hx2.grown (only_drewN (World.grownBy.refl _ none) _) (by simp))).mono ?_
          rintro e w3 ⟨rfl, h3, hg3⟩
          rw [HX.out]
          go_wp2_with (fail)
          refine (slot_any g t _ (by omega) (.inr h3)).mono ?_
          rintro e w4 ⟨rfl, h4, hg4⟩
          rw [HY.out]
          go_wp2_with (fail)
          refine (slot_any g key _ hkl (.inr h4)).mono ?_
          rintro e w5 ⟨rfl, h5, hg5⟩
          rw [HX.out]
          go_wp2_with (fail)
          refine (slot_any g key _ hkl (.inr h5)).mono ?_
          rintro e w6 ⟨rfl, h6, hg6⟩
          rw [HX.out]
          go_wp2
          go_ret
          exact ⟨rfl, (below_drewN hb3 n).trans (below_of_only (((hg3.trans hg4).trans hg5).trans hg6) (by show _ ≤ w2.heap.size; omega) hle1)⟩

set_option maxRecDepth 100000 in
set_option maxHeartbeats 1000000 in
theorem tags_out (t a r : List UInt8) (w : World) (h : 500 < t.length ∨ (t.length ≤ 500 ∧ 500 < a.length) ∨ (t.length ≤ 500 ∧ a.length ≤ 500 ∧ 500 < r.length) ∨ (t = [] ∧ a.length ≤ 500 ∧ r.length ≤ 500)) :
    Calls Try.prog 5 #[.string (str t), .string (str a), .string (str r)] w (Says true w) := by
  have s1 : (str t).size = t.length := rfl
  have s2 : (str a).size = a.length := rfl
  have s3 : (str r).size = r.length := rfl
  rcases h with h | ⟨h1, h⟩ | ⟨h1, h2, h⟩ | ⟨h1, h2, h⟩
  rotate_right
  · have he : (str t).toList.isEmpty = true := by rw [str_toList, h1]; rfl
    have h0 : t.length ≤ 500 := by rw [h1]; decide
    clear h1
    go_enter Try.func5, Try.ntmps5
    go_wp2_with (go_at_call 11; refine (anchor_any _).mono ?_; rintro e w1 ⟨rfl, hb1⟩)
    go_ret
    exact ⟨rfl, hb1⟩
  all_goals
    go_enter Try.func5, Try.ntmps5
    go_wp2_with (go_at_call 11; refine (anchor_any _).mono ?_; rintro e w1 ⟨rfl, hb1⟩)
    go_ret
    exact ⟨rfl, hb1⟩

theorem tags_walk (t a r : List UInt8) (w : World) : Calls Try.prog 5 #[.string (str t), .string (str a), .string (str r)] w (Says true w) := by
  by_cases h : 500 < t.length ∨ (t.length ≤ 500 ∧ 500 < a.length) ∨ (t.length ≤ 500 ∧ a.length ≤ 500 ∧ 500 < r.length) ∨ (t = [] ∧ a.length ≤ 500 ∧ r.length ≤ 500)
  · exact tags_out t a r w h
  · exact tags_in t a r w (by omega) (by omega) (by omega) (fun e => h (.inr (.inr (.inr ⟨e, by subst e; simp at h; omega, by subst e; simp at h; omega⟩))))

theorem tags_lifted (os : Os) (started : os.Started) (H : Type) (enc : TypeId × Value → H) :
    ReturnsInHanded {} Try.checked os 5 .any (Rows.slotTagsSpec.pre6 enc Try.prog Try.f5 Rows.slotTagsRow.domain false) (Rows.slotTagsSpec.post enc Try.prog Try.f5 false true false false) := by
  refine returnsInHanded_of_change (C := Try.checked) own started (by kernel_rfl) Try.func5
    (ChangeSpec.witness6 (enc := enc) (C := Try.checked) false ⟨#[], #[.string ⟨#[]⟩, .string ⟨#[]⟩, .string ⟨#[]⟩], []⟩ 8 (by kernel_rfl) (by kernel_rfl) (by kernel_rfl) (by kernel_rfl)) ?_
  intro W base args ds gs before hval0 hW _ _
  have hval : ∀ (j : Nat) t v, Try.f5.params[j]? = some t → args[j]? = some v → Value.okWide Try.prog W .any base t v := hval0
  have hW' := hW
  obtain ⟨p, q, hA0, hV, rfl, _, _⟩ := hW
  have hA : DataW.TrodAll enc Try.prog W 0 (fun _ => true) true Try.f5.params.toList args.toList ds p := hA0
  rw [Try.params5] at hA hval
  obtain ⟨v0, vs0, d0, ds0, p0, q0, hargs, rfl, rfl, h0, r0⟩ := trodAll_cons hA
  obtain ⟨v1, vs1, d1, ds1, p1, q1, rfl, rfl, rfl, h1, r1⟩ := trodAll_cons r0
  obtain ⟨v2, vs2, d2, ds2, p2, q2, rfl, rfl, rfl, h2, r2⟩ := trodAll_cons r1
  obtain ⟨rfl, rfl, rfl⟩ := trodAll_nil r2
  obtain rfl : args = #[v0, v1, v2] := by cases args; simp_all
  obtain ⟨rfl, rfl⟩ := trodVars_none hV
  obtain ⟨s0, rfl, rfl, rfl, ws0⟩ := ChangeMaps.open_string Try.underlying9 (hval 0 9 v0 rfl rfl) h0
  obtain ⟨s1, rfl, rfl, rfl, ws1⟩ := ChangeMaps.open_string Try.underlying9 (hval 1 9 v1 rfl rfl) h1
  obtain ⟨s2, rfl, rfl, rfl, ws2⟩ := ChangeMaps.open_string Try.underlying9 (hval 2 9 v2 rfl rfl) h2
  clear hA0
  have e0 : (Value.string s0) = .string (str s0.data.toList) := congrArg Value.string (str_data s0)
  have e1 : (Value.string s1) = .string (str s1.data.toList) := congrArg Value.string (str_data s1)
  have e2 : (Value.string s2) = .string (str s2.data.toList) := congrArg Value.string (str_data s2)
  have hk := tags_walk s0.data.toList s1.data.toList s2.data.toList W
  rw [← e0, ← e1, ← e2] at hk
  exact hk.mono fun e W' ⟨he, hb⟩ => ⟨_, he, law_post laid_ok (by kernel_rfl) rfl Try.underlying4 rfl hW' rfl hb⟩

theorem tags_holds : Rows.SlotTagsSaid :=
  OpenClaim.holds_of_wide 5 Try.f5 rfl rfl rfl rfl rfl rfl rfl ⟨rfl, rfl, rfl, rfl, rfl⟩ rfl rfl rfl rfl rfl (by kernel_rfl) Try.func5 (by kernel_rfl)
    (of_decide_eq_true (by kernel_rfl)) (by unfold Func.isWrapper; first | (rw [if_pos (by decide +kernel)]; kernel_rfl) | (rw [if_neg (by decide +kernel)]; exact ⟨rfl, rfl⟩))
    (fun os started H enc _ => tags_lifted os started H enc)

end Go.Proofs.Ytaaibjibnonlaaa
