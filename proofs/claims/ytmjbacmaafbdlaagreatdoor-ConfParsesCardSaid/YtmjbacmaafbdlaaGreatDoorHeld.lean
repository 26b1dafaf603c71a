/-
  WHAT IS PROVED: contracts of conf.epochsOf and conf.slotsWith. Condition: none.
-/
import Derived.Test.YtmjbacmaafbdlaaGreatDoorCOwn
import Derived.Test.YtmjbacmaafbdlaaGreatDoorCA
namespace Go.Proofs.YtmjbacmaafbdlaaGreatDoor
open Go.RowKit C

/-- the epochs with which somebody has slots, one for each slot -/
def epRaw (t : Tab) (o : Int) : List Int := (slotsTo (ofN t o) 64).map t.e
def epsL (t : Tab) (o : Int) : List Int := Lib.compact (sorted (epRaw t o))
/-- the slots that somebody has with one epoch -/
def setOE (t : Tab) (o e : Int) : Nat := pick fun i => (t.o i == o) && (t.e i == e)
theorem of_slots (t : Tab) (o : Int) {i : Nat} : i ∈ slotsTo (ofN t o) 64 ↔ i < 64 ∧ t.o i = o := by
  rw [slotsTo_mem]
  constructor
  · rintro ⟨h1, h2⟩
    unfold ofN at h2
    rw [pick_bit _ h1] at h2
    exact ⟨h1, by simpa using h2⟩
  · rintro ⟨h1, h2⟩
    refine ⟨h1, ?_⟩
    unfold ofN
    rw [pick_bit _ h1]
    simpa using h2
theorem epRaw_snoc {t : Tab} {o : Int} {k m : Nat} (h : (slotsTo (ofN t o) 64)[k]? = some m) : ((slotsTo (ofN t o) 64).take (k + 1)).map t.e = ((slotsTo (ofN t o) 64).take k).map t.e ++ [t.e m] := by
  rw [take_snoc h, List.map_append]; rfl
def withTo (t : Tab) (o e : Int) (k : Nat) : Nat := ors (((slotsTo (ofN t o) 64).take k).filter fun i => t.e i == e)
theorem withTo_yes {t : Tab} {o e : Int} {k m : Nat} (h : (slotsTo (ofN t o) 64)[k]? = some m) (he : (t.e m == e) = true) : withTo t o e (k + 1) = withTo t o e k ||| pw m := by
  unfold withTo; rw [take_snoc h, List.filter_append, List.filter_cons, if_pos he, List.filter_nil, ors_snoc]; rfl
theorem withTo_no {t : Tab} {o e : Int} {k m : Nat} (h : (slotsTo (ofN t o) 64)[k]? = some m) (he : (t.e m == e) = false) : withTo t o e (k + 1) = withTo t o e k := by
  unfold withTo; rw [take_snoc h, List.filter_append, List.filter_cons, if_neg (by rw [he]; simp), List.filter_nil, List.append_nil]
theorem withTo_lt (t : Tab) (o e : Int) (k : Nat) : withTo t o e k < 18446744073709551616 := ors_lt fun i hi => by
  have h1 := List.mem_of_mem_take (List.mem_filter.1 hi).1
  exact ((of_slots t o).1 h1).1
theorem withTo_all (t : Tab) (o e : Int) {n : Nat} (hn : (slotsTo (ofN t o) 64).length = n) : withTo t o e n = setOE t o e := by
  subst hn
  refine (pick_eq (withTo_lt t o e _) fun i hi => ?_).symm
  unfold withTo
  rw [List.take_length, ors_bit, Bool.eq_iff_iff, decide_eq_true_eq, List.mem_filter, of_slots]
  simp [hi]
theorem zl_len (l : List Int) : (zints l).length = l.length := by simp [zints]

set_option maxRecDepth 100000 in
set_option maxHeartbeats 1000000 in
theorem epochsof_any (t : Tab) (o : Int) (w : World) : Calls Tryz.prog 18 #[.agg (tb t), .int .i64 o] w (ListsZ (epsL t o) w) := by
  obtain ⟨i0, hi0, hz0, hz1, hz2⟩ := info_parts int_info
  have HI : Hid (Tryz.prog.info? 3 = some i0) := hi0
  have HZ0 := Lib.hid hz0
  have HZ1 := Lib.hid hz1
  have HZ2 := Lib.hid hz2
  have HT := Lib.hid (TabAt.new w t)
  have HB0 := Lib.hid ((Below.refl w.heap.size w).alloc (Nat.le_refl _) (.cells (tb t) 28))
  have HOL : Hid (epsL t o = Lib.compact (sorted (epRaw t o))) := Lib.hid rfl
  generalize epsL t o = OL at *
  clear hi0 hz0 hz1 hz2
  go_enter Tryz.func18, Tryz.ntmps18
  go_wp2_with (first | refine at_load rfl HT.out rfl ?_)
  refine (of_any t o _).mono ?_
  rintro e w1 ⟨rfl, hb1⟩
  have K1 := Lib.hid (HT.out.later hb1)
  have KB := Lib.hid (HB0.out.trans (hb1.mono HB0.out.size))
  clear hb1 HT HB0
  go_wp2_with (fail)
  refine (list_any (ofN t o) (pick_lt _) _).mono ?_
  rintro e w2 ⟨hb2, A2, c2, rfl, hnc, hcm, hrd⟩
  have L1 := Lib.hid (K1.out.later hb2)
  have LB := Lib.hid (KB.out.trans (hb2.mono KB.out.size))
  have LR := Lib.hid (hrd w.heap.size (.inr K1.out.lt))
  clear hb2 hrd K1 KB
  have HS : Hid (∀ k m, (slotsTo (ofN t o) 64)[k]? = some m → ((slotsTo (ofN t o) 64).take (k + 1)).map t.e = ((slotsTo (ofN t o) 64).take k).map t.e ++ [t.e m]) := Lib.hid fun k m h => epRaw_snoc h
  have HLT : Hid (∀ m, m ∈ slotsTo (ofN t o) 64 → m < 64) := Lib.hid fun m hm => (slotsTo_mem.1 hm).1
  have hle := slotsTo_le (ofN t o) 64
  have HRW : Hid (epRaw t o = (slotsTo (ofN t o) 64).map t.e) := Lib.hid rfl
  generalize slotsTo (ofN t o) 64 = L at *
  go_wp2
  go_loopw [5, 13] (fun va i wr => ∃ k : Nat, k ≤ L.length ∧ i = .int .i64 k ∧ Hid (Below w2.heap.size w2 wr) ∧ Hid (wr.ownsRow w2.heap.size 3 1 va k (zints ((L.take k).map t.e)))) (fun _ i _ => L.length - (intOf i).toNat)
  case atStart => exact ⟨0, by omega, rfl, Lib.hid (Below.refl _ _), Lib.hid ⟨rfl, .inl ⟨rfl, rfl⟩⟩⟩
  case round =>
    obtain ⟨k, hk, rfl, hb, hown⟩ := hrel
    by_cases hlt : k < L.length
    · obtain ⟨ad, u, rfl, hu, hc⟩ := (LR.out.below hb.out).at_ hlt
      obtain ⟨m, hm⟩ : ∃ m, L[k]? = some m := ⟨L[k], List.getElem?_eq_getElem hlt⟩
      rw [C.ints_at hm] at hu
      injection hu with hu
      subst hu
      have hm64 := HLT.out m (List.mem_of_getElem? hm)
      have hm0 : (0 : Int) ≤ m := by omega
      have hm1 : (m : Int) < 64 := by omega
      have HSN := Lib.hid (HS.out k m hm)
      have hE := (L1.out.later hb.out).e hm64
      have hbs := hb.out.size
      clear hm
      go_wp2_with (at_builtin; refine wpList_append_own _ rfl _ _ 53 rfl w2.heap.size 3 i0 (.int .i64 0) 1 8 Tryz.underlying53 HI.out HZ0.out HZ1.out HZ2.out rfl (by decide) _ _ _ rfl (hown.out.alloc _) ⟨wr.heap.size, 0, none⟩ 1 1 [.int .i64 (t.e m)] rfl rfl (cell_one_new _ _ _) (by simp [Value.oneCell']) (by unfold maxLen; omega) (by omega) (by simp; omega) ?_; intro v' w4 hown' hg3 _)
      have HB4 : Hid (Below w2.heap.size w2 w4) := Lib.hid ((hb.out.alloc hbs _).grown hg3 (by simp; omega) (fun g e => (hown.out.lt g e).1))
      go_wp2
      go_roundw
      case rel => exact ⟨k + 1, by omega, by go_num, HB4, Lib.hid (by rw [HSN.out, zints_append]; simpa [zints] using hown')⟩
      case measure => simp [intOf]; omega
    · obtain rfl : k = L.length := by omega
      have HO : Hid (wr.ownsRow w2.heap.size 3 1 u5 L.length (zints (epRaw t o))) := Lib.hid (by
        have := hown.out
        rw [List.take_length] at this
        rw [HRW.out]; exact this)
      have HRL : Hid ((epRaw t o).length = L.length) := Lib.hid (by rw [HRW.out]; simp)
      clear hown
      generalize epRaw t o = RW at *
      go_wp2_with (fail)
      refine (sort_any w2.heap.size L.length _ RW _ (by omega) HO.out).mono ?_
      rintro e w3 ⟨rfl, hown3, hg3⟩
      have HB3 : Hid (Below w2.heap.size w2 w3) := Lib.hid (hb.out.grown hg3 hb.out.size (fun g e => (HO.out.lt g e).1))
      have HO3 := Lib.hid hown3
      clear hown3 hg3
      go_wp2_with (fail)
      refine (compact_any w2.heap.size w2.heap.size L.length _ (sorted RW) w2 _ (by omega) HO3.out HB3.out (Nat.le_refl _)).mono ?_
      rintro e w4 ⟨v', rfl, hown4, hb4⟩
      obtain ⟨A5, c5, rfl, hnc5, hcm5, hr5⟩ := own_z hown4
      rw [← HOL.out] at hnc5 hr5 ⊢
      have HR5 := Lib.hid hr5
      have HB5 := Lib.hid hb4
      clear hown4 hr5 hb4
      go_wp2
      go_ret
      exact ⟨LB.out.trans (HB5.out.mono LB.out.size), A5, c5, rfl, hnc5, hcm5, fun g hg => HR5.out g (by have := LB.out.size; omega)⟩

set_option maxRecDepth 100000 in
set_option maxHeartbeats 1000000 in
theorem slotswith_any (t : Tab) (o e : Int) (w : World) : Calls Tryz.prog 19 #[.agg (tb t), .int .i64 o, .int .i64 e] w fun d w' => d = .returned (.int .u64 ((setOE t o e : Nat) : Int)) ∧ Below w.heap.size w w' := by
  have HT := Lib.hid (TabAt.new w t)
  have HB0 := Lib.hid ((Below.refl w.heap.size w).alloc (Nat.le_refl _) (.cells (tb t) 28))
  go_enter Tryz.func19, Tryz.ntmps19
  go_wp2_with (first | refine at_load rfl HT.out rfl ?_)
  refine (of_any t o _).mono ?_
  rintro e1 w1 ⟨rfl, hb1⟩
  have K1 := Lib.hid (HT.out.later hb1)
  have KB := Lib.hid (HB0.out.trans (hb1.mono HB0.out.size))
  clear hb1 HT HB0
  go_wp2_with (fail)
  refine (list_any (ofN t o) (pick_lt _) _).mono ?_
  rintro e1 w2 ⟨hb2, A2, c2, rfl, hnc, hcm, hrd⟩
  have L1 := Lib.hid (K1.out.later hb2)
  have LB := Lib.hid (KB.out.trans (hb2.mono KB.out.size))
  have LR := Lib.hid (hrd w.heap.size (.inr K1.out.lt))
  clear hb2 hrd K1 KB
  have HS1 : Hid (∀ k m, (slotsTo (ofN t o) 64)[k]? = some m → (t.e m == e) = true → withTo t o e (k + 1) = withTo t o e k ||| pw m) := Lib.hid fun k m h he => withTo_yes h he
  have HS0 : Hid (∀ k m, (slotsTo (ofN t o) 64)[k]? = some m → (t.e m == e) = false → withTo t o e (k + 1) = withTo t o e k) := Lib.hid fun k m h he => withTo_no h he
  have HLT : Hid (∀ m, m ∈ slotsTo (ofN t o) 64 → m < 64) := Lib.hid fun m hm => (slotsTo_mem.1 hm).1
  have HAL : Hid (∀ n, (slotsTo (ofN t o) 64).length = n → withTo t o e n = setOE t o e) := Lib.hid fun n h => withTo_all t o e h
  have hle := slotsTo_le (ofN t o) 64
  have H00 : Hid (withTo t o e 0 = 0) := Lib.hid rfl
  generalize slotsTo (ofN t o) 64 = L at *
  go_wp2
  go_loopw [7, 15] (fun q i wr => ∃ k : Nat, k ≤ L.length ∧ i = .int .i64 k ∧ q = .int .u64 ((withTo t o e k : Nat) : Int) ∧ Hid (Below w2.heap.size w2 wr)) (fun _ i _ => L.length - (intOf i).toNat)
  case atStart => exact ⟨0, by omega, rfl, by rw [H00.out]; rfl, Lib.hid (Below.refl _ _)⟩
  case round =>
    obtain ⟨k, hk, rfl, rfl, hb⟩ := hrel
    by_cases hlt : k < L.length
    · obtain ⟨ad, u, rfl, hu, hc⟩ := (LR.out.below hb.out).at_ hlt
      obtain ⟨m, hm⟩ : ∃ m, L[k]? = some m := ⟨L[k], List.getElem?_eq_getElem hlt⟩
      rw [C.ints_at hm] at hu
      injection hu with hu
      subst hu
      have hm64 := HLT.out m (List.mem_of_getElem? hm)
      have hm0 : (0 : Int) ≤ m := by omega
      have hm1 : (m : Int) < 64 := by omega
      have hE := (L1.out.later hb.out).e hm64
      have HY := Lib.hid (HS1.out k m hm)
      have HN := Lib.hid (HS0.out k m hm)
      have HP : Hid (IntKind.u64.wrap (2 ^ m) = ((pw m : Nat) : Int)) := Lib.hid (one_int hm64)
      have hwl := withTo_lt t o e k
      have HOR := Lib.hid (or_int hwl hm64)
      clear hm hwl
      generalize withTo t o e k = q at *
      by_cases he : t.e m = e
      · have hq : (t.e m == e) = true := by simpa using he
        have HX := Lib.hid (HY.out hq)
        clear he HY HN
        go_wp2
        go_roundw
        case rel => exact ⟨k + 1, by omega, by go_num, by rw [HX.out, ← HOR.out, ← HP.out], hb⟩
        case measure => simp [intOf]; omega
      · have hq : (t.e m == e) = false := by simpa using he
        have HX := Lib.hid (HN.out hq)
        clear he HY HN
        go_wp2
        go_roundw
        case rel => exact ⟨k + 1, by omega, by go_num, by rw [HX.out], hb⟩
        case measure => simp [intOf]; omega
    · obtain rfl : k = L.length := by omega
      have HX := Lib.hid (HAL.out _ rfl)
      go_wp2
      go_ret
      exact ⟨by rw [HX.out]; rfl, LB.out.trans (hb.out.mono LB.out.size)⟩
end Go.Proofs.YtmjbacmaafbdlaaGreatDoor
