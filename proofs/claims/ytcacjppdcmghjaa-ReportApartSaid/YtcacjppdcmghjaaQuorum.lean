/-
  WHAT IS PROVED: the contract of quorum's Majority: it tells whether more than half of a set of voters are among some. Condition: the arguments read as lists of ints.
-/
import Derived.Test.YtcacjppdcmghjaaBy
import Derived.Maps.OwnSet
import Derived.OwnWalk
namespace Go.Proofs.Ytcacjppdcmghjaa.Q
open Go.RowKit Go.Lib Go.Maps


/-! ### lists without doubles -/
theorem sub_len : ∀ (l m : List Int), l.Nodup → (∀ x ∈ l, x ∈ m) → l.length ≤ m.length
  | [], _, _, _ => by simp
  | x :: r, m, hn, hs => by
    have hx : x ∈ m := hs x (by simp)
    have hr := List.nodup_cons.1 hn
    have h := sub_len r (m.erase x) hr.2 (fun y hy => by
      have hne : y ≠ x := fun e => hr.1 (e ▸ hy)
      exact (List.mem_erase_of_ne hne).2 (hs y (by simp [hy])))
    rw [List.length_erase_of_mem hx] at h
    have := List.length_pos_of_mem hx
    simp; omega
theorem same_len {l m : List Int} (hl : l.Nodup) (hm : m.Nodup) (h : ∀ x, x ∈ l ↔ x ∈ m) : l.length = m.length :=
  Nat.le_antisymm (sub_len l m hl fun x hx => (h x).1 hx) (sub_len m l hm fun x hx => (h x).2 hx)
theorem nodup_snoc {l : List Int} {x : Int} (hl : l.Nodup) (hx : x ∉ l) : (l ++ [x]).Nodup := by
  rw [List.nodup_append]
  refine ⟨hl, by simp, fun a ha b hb => ?_⟩
  simp at hb
  subst hb
  exact fun e => hx (e ▸ ha)

/-! ### a set of voters -/
def isIdB (x : Int) : Bool := decide (1 ≤ x ∧ x ≤ 4294967296)
def Good (l : List Int) : Prop := l.Nodup ∧ ∀ x ∈ l, 1 ≤ x ∧ x ≤ 4294967296
instance (l : List Int) : Decidable (Good l) := inferInstanceAs (Decidable (_ ∧ _))
def goodB (l : List Int) : Bool := decide (Good l)
def rightB (l : List Int) : Bool := decide (l.length ≤ 16) && goodB l
theorem good_iff {l : List Int} : goodB l = true ↔ Good l := by unfold goodB; rw [decide_eq_true_eq]
theorem right_iff {l : List Int} : rightB l = true ↔ l.length ≤ 16 ∧ Good l := by unfold rightB; rw [Bool.and_eq_true, decide_eq_true_eq, good_iff]
theorem good_nil : goodB [] = true := by decide
theorem Good.prefix_ {l m : List Int} (h : Good (l ++ m)) : Good l :=
  ⟨(List.nodup_append.1 h.1).1, fun x hx => h.2 x (List.mem_append_left _ hx)⟩
theorem good_step {l : List Int} {k : Nat} {x : Int} (hx : l[k]? = some x) (hg : goodB (l.take k) = true) (h1 : 1 ≤ x) (h2 : x ≤ 4294967296) (h3 : x ∉ l.take k) : goodB (l.take (k + 1)) = true := by
  rw [good_iff] at hg ⊢
  rw [List.take_add_one, hx]
  refine ⟨nodup_snoc hg.1 h3, fun y hy => ?_⟩
  rcases List.mem_append.1 hy with hy | hy
  · exact hg.2 y hy
  · simp at hy; subst hy; exact ⟨h1, h2⟩
theorem bad_id {l : List Int} {k : Nat} {x : Int} (hx : l[k]? = some x) (h : x < 1 ∨ 4294967296 < x) : goodB l = false := by
  rw [Bool.eq_false_iff]
  intro hg
  have := (good_iff.1 hg).2 x (List.mem_of_getElem? hx)
  omega
theorem bad_twice {l : List Int} {k : Nat} {x : Int} (hx : l[k]? = some x) (h : x ∈ l.take k) : goodB l = false := by
  rw [Bool.eq_false_iff]
  intro hg
  have e : l = l.take (k + 1) ++ l.drop (k + 1) := (List.take_append_drop _ _).symm
  rw [good_iff, e] at hg
  have h2 := hg.prefix_.1
  rw [List.take_add_one, hx, List.nodup_append] at h2
  exact h2.2.2 x h x (by simp) rfl
theorem right_good {l : List Int} (h : l.length ≤ 16) : rightB l = goodB l := by unfold rightB; simp [h]
theorem right_long {l : List Int} (h : 16 < l.length) : rightB l = false := by unfold rightB; simp; omega

/-! ### those who say yes -/
def yesIn (vs ys : List Int) : List Int := vs.filter fun v => decide (v ∈ ys)
def majB (vs ys : List Int) : Bool := rightB vs && decide (vs.length < 2 * (yesIn vs ys).length)
theorem mem_yesIn {vs ys : List Int} {x : Int} : x ∈ yesIn vs ys ↔ x ∈ vs ∧ x ∈ ys := by unfold yesIn; simp
theorem yesIn_nodup {vs ys : List Int} (h : vs.Nodup) : (yesIn vs ys).Nodup := List.Nodup.sublist List.filter_sublist h
theorem yesIn_le (vs ys : List Int) : (yesIn vs ys).length ≤ vs.length := List.length_filter_le _ _
theorem two_filters (p q : Int → Bool) : ∀ l : List Int, (l.filter p).length + (l.filter q).length ≤ l.length + (l.filter fun x => p x && q x).length
  | [] => by simp
  | x :: r => by
    have ih := two_filters p q r
    cases hp : p x <;> cases hq : q x <;> simp [hp, hq] <;> omega
/-- two majorities have one in common -/
theorem maj_meet {vs a b : List Int} (ha : majB vs a = true) (hb : majB vs b = true) : ∃ x, x ∈ vs ∧ x ∈ a ∧ x ∈ b := by
  unfold majB at ha hb
  simp only [Bool.and_eq_true, decide_eq_true_eq] at ha hb
  have h := two_filters (fun v => decide (v ∈ a)) (fun v => decide (v ∈ b)) vs
  have h1 := ha.2
  have h2 := hb.2
  unfold yesIn at h1 h2
  have : 0 < (vs.filter fun x => decide (x ∈ a) && decide (x ∈ b)).length := by omega
  obtain ⟨x, hx⟩ := List.exists_mem_of_length_pos this
  simp at hx
  exact ⟨x, hx⟩
theorem yes_mono {vs a b : List Int} (h : ∀ x ∈ a, x ∈ b) : (yesIn vs a).length ≤ (yesIn vs b).length := by
  unfold yesIn
  induction vs with
  | nil => simp
  | cons v r ih =>
    by_cases h1 : v ∈ a
    · have h2 := h v h1; simp [h1, h2]; omega
    · by_cases h2 : v ∈ b <;> simp [h1, h2] <;> omega
theorem maj_mono {vs a b : List Int} (h : ∀ x ∈ a, x ∈ b) (hm : majB vs a = true) : majB vs b = true := by
  unfold majB at hm ⊢
  simp only [Bool.and_eq_true, decide_eq_true_eq] at hm ⊢
  have := yes_mono (vs := vs) h
  exact ⟨hm.1, by omega⟩
theorem yes_all (vs : List Int) : yesIn vs vs = vs := by
  unfold yesIn
  rw [List.filter_eq_self]
  intro a ha; simp [ha]
theorem maj_all (vs : List Int) : majB vs vs = (rightB vs && decide (0 < vs.length)) := by
  unfold majB
  rw [yes_all]
  congr 1
  simp only [decide_eq_decide]
  omega
theorem yes_none (vs : List Int) : yesIn vs [] = [] := by unfold yesIn; simp
theorem maj_none (vs : List Int) : majB vs [] = false := by unfold majB; rw [yes_none]; simp
theorem maj_bad {vs ys : List Int} (h : rightB vs = false) : majB vs ys = false := by unfold majB; rw [h]; rfl
theorem maj_right {vs ys : List Int} (h : rightB vs = true) : majB vs ys = decide (vs.length < 2 * (yesIn vs ys).length) := by unfold majB; rw [h]; rfl

/-! ### who has granted -/
def addG (vs gs : List Int) (x : Int) : List Int := if x ∈ vs ∧ x ∉ gs then gs ++ [x] else gs
def gAll (vs ys : List Int) : List Int := ys.foldl (addG vs) []
def okG (vs gs : List Int) (x : Int) : Bool := decide (x ∈ vs ∧ x ∉ gs)
theorem addG_yes {vs gs : List Int} {x : Int} (h : okG vs gs x = true) : addG vs gs x = gs ++ [x] := by unfold okG at h; rw [decide_eq_true_eq] at h; unfold addG; rw [if_pos h]
theorem addG_no {vs gs : List Int} {x : Int} (h : okG vs gs x = false) : addG vs gs x = gs := by unfold okG at h; rw [decide_eq_false_iff_not] at h; unfold addG; rw [if_neg h]
theorem gAll_snoc (vs ys : List Int) (x : Int) : gAll vs (ys ++ [x]) = addG vs (gAll vs ys) x := by unfold gAll; rw [List.foldl_append]; rfl
/-- a tally's granted: voters, each once -/
def Sub (vs gs : List Int) : Prop := gs.Nodup ∧ ∀ x ∈ gs, x ∈ vs
theorem Sub.nil (vs : List Int) : Sub vs [] := ⟨by simp, fun x hx => by cases hx⟩
theorem Sub.add {vs gs : List Int} (h : Sub vs gs) (x : Int) : Sub vs (addG vs gs x) := by
  unfold addG
  split
  · rename_i hc
    refine ⟨nodup_snoc h.1 hc.2, fun y hy => ?_⟩
    rcases List.mem_append.1 hy with hy | hy
    · exact h.2 y hy
    · simp at hy; subst hy; exact hc.1
  · exact h
theorem Sub.le {vs gs : List Int} (h : Sub vs gs) : gs.length ≤ vs.length := sub_len gs vs h.1 h.2
theorem foldG_sub {vs : List Int} : ∀ (ys gs : List Int), Sub vs gs → Sub vs (ys.foldl (addG vs) gs)
  | [], _, h => h
  | y :: r, _, h => foldG_sub r _ (h.add y)
theorem sub_gAll (vs ys : List Int) : Sub vs (gAll vs ys) := foldG_sub ys [] (Sub.nil vs)
theorem mem_addG {vs gs : List Int} {x y : Int} : y ∈ addG vs gs x ↔ y ∈ gs ∨ (y = x ∧ x ∈ vs) := by
  unfold addG
  split
  · rename_i h; simp [h.1]
  · rename_i h
    constructor
    · exact fun hy => .inl hy
    · rintro (hy | ⟨rfl, hy⟩)
      · exact hy
      · exact Classical.byContradiction fun hn => h ⟨hy, hn⟩
theorem mem_foldG {vs : List Int} : ∀ (ys gs : List Int) (x : Int), x ∈ ys.foldl (addG vs) gs ↔ x ∈ gs ∨ (x ∈ vs ∧ x ∈ ys)
  | [], gs, x => by simp
  | y :: r, gs, x => by
    rw [List.foldl_cons, mem_foldG r, mem_addG]
    constructor
    · rintro ((h | ⟨rfl, h⟩) | h)
      · exact .inl h
      · exact .inr ⟨h, by simp⟩
      · exact .inr ⟨h.1, by simp [h.2]⟩
    · rintro (h | ⟨h, h2⟩)
      · exact .inl (.inl h)
      · rcases List.mem_cons.1 h2 with rfl | h2
        · exact .inl (.inr ⟨rfl, h⟩)
        · exact .inr ⟨h, h2⟩
theorem mem_gAll {vs ys : List Int} {x : Int} : x ∈ gAll vs ys ↔ x ∈ vs ∧ x ∈ ys := by unfold gAll; rw [mem_foldG]; simp
theorem len_gAll {vs : List Int} (ys : List Int) (h : vs.Nodup) : (gAll vs ys).length = (yesIn vs ys).length :=
  same_len (sub_gAll vs ys).1 (yesIn_nodup h) fun _ => mem_gAll.trans mem_yesIn.symm

/-! ### the order of voters plays no part -/
theorem mem_sorted {l : List Int} {x : Int} : x ∈ sorted l ↔ x ∈ l := (sorted_perm l).mem_iff
theorem sorted_nodup {l : List Int} (h : l.Nodup) : (sorted l).Nodup := (sorted_perm l).symm.nodup h
theorem sorted_lt {l : List Int} (h : l.Nodup) : (sorted l).Pairwise (· < ·) := by
  have h1 := sorted_le l
  have h2 := sorted_nodup h
  have := h1.and h2
  exact this.imp fun ⟨a, b⟩ => by omega
theorem good_perm {l m : List Int} (h : l.Perm m) : Good l ↔ Good m := by
  unfold Good
  rw [h.nodup_iff]
  constructor
  · exact fun ⟨a, b⟩ => ⟨a, fun x hx => b x (h.mem_iff.2 hx)⟩
  · exact fun ⟨a, b⟩ => ⟨a, fun x hx => b x (h.mem_iff.1 hx)⟩
theorem right_perm {l m : List Int} (h : l.Perm m) : rightB l = rightB m := by
  rw [Bool.eq_iff_iff, right_iff, right_iff, h.length_eq, good_perm h]
theorem yes_perm {l m a b : List Int} (h : l.Perm m) (hm : ∀ x, x ∈ a ↔ x ∈ b) : (yesIn l a).length = (yesIn m b).length := by
  have e : yesIn m b = yesIn m a := by unfold yesIn; congr 1; funext v; simp [hm v]
  rw [e]
  exact (h.filter _).length_eq
theorem maj_perm {l m a b : List Int} (h : l.Perm m) (hm : ∀ x, x ∈ a ↔ x ∈ b) : majB l a = majB m b := by
  unfold majB
  rw [right_perm h, yes_perm h hm, h.length_eq]
/-- the tally's own list of voters is the sorted one -/
theorem okG_sorted (vs gs : List Int) (x : Int) : okG (sorted vs) gs x = okG vs gs x := by unfold okG; simp [mem_sorted]
theorem addG_sorted (vs gs : List Int) (x : Int) : addG (sorted vs) gs x = addG vs gs x := by unfold addG; simp [mem_sorted]
def hasB (l : List Int) (x : Int) : Bool := decide (x ∈ l)
theorem has_yes {l : List Int} {x : Int} (h : x ∈ l) : hasB l x = true := by unfold hasB; simp [h]
theorem has_no {l : List Int} {x : Int} (h : x ∉ l) : hasB l x = false := by unfold hasB; simp [h]
theorem has_iff {l : List Int} {x : Int} : hasB l x = true ↔ x ∈ l := by unfold hasB; simp
theorem takeZ_snoc {l : List Int} {k : Nat} {z : Int} (h : l[k]? = some z) : l.take (k + 1) = l.take k ++ [z] := by
  rw [List.take_add_one, h]; rfl
/-- where it is, or -1 -/
def Found (zs : List Int) (x : Int) (w : World) (e : Ending) (w' : World) : Prop := ∃ i : Int, e = .returned (.int .i64 i) ∧ w = w' ∧ ((0 ≤ i ∧ x ∈ zs) ∨ (i = -1 ∧ x ∉ zs))

set_option maxHeartbeats 1000000 in
theorem index_any (A : Option Addr) (n c : Nat) (zs : List Int) (x : Int) (g : Nat) (w : World) (hn : n ≤ 9223372036854775807) (hr : Reads w g A n (zints zs)) :
    Calls Try.prog 54 #[.slice A n c, .int .i64 x] w (Found zs x w) := by
  have HL := Lib.hid (zlen hr)
  go_enter Try.func54, Try.ntmps54
  go_wp2
  go_loop [5, 8] (fun _ i => ∃ k : Nat, k ≤ n ∧ i = .int .i64 k ∧ x ∉ zs.take k) (fun _ i => n - (intOf i).toNat)
  case atStart => exact ⟨0, by omega, rfl, by simp⟩
  case round =>
    obtain ⟨k, hk, rfl, hx⟩ := hrel
    by_cases hlt : k < n
    · obtain ⟨ad, u, rfl, hu, hc⟩ := hr.at_ hlt
      obtain ⟨z, hz, rfl⟩ := zints_at hu
      clear hu
      by_cases hxz : x = z
      · subst hxz
        have HX := Lib.hid (List.mem_of_getElem? hz)
        clear hz hx
        go_wp2
        go_ret
        exact ⟨k, rfl, rfl, .inl ⟨by omega, HX.out⟩⟩
      · have ht : (x == z) = false := by simpa using hxz
        have HX : Hid (x ∉ zs.take (k + 1)) := by show ¬ _; rw [takeZ_snoc hz]; simp [hx, hxz]
        clear hz hx hxz
        go_wp2
        go_round
        case rel => exact ⟨k + 1, by omega, by go_num, HX.out⟩
        case measure => simp [intOf]; omega
    · obtain rfl : k = n := by omega
      have HX : Hid (x ∉ zs) := by show ¬ _; rwa [List.take_of_length_le (by rw [HL.out]; exact Nat.le_refl _)] at hx
      clear hx
      go_wp2
      go_ret
      exact ⟨-1, rfl, rfl, .inr ⟨rfl, HX.out⟩⟩

theorem contains_any (A : Option Addr) (n c : Nat) (zs : List Int) (x : Int) (g : Nat) (w : World) (hn : n ≤ 9223372036854775807) (hr : Reads w g A n (zints zs)) :
    Calls Try.prog 39 #[.slice A n c, .int .i64 x] w fun e w' => e = .returned (.bool (hasB zs x)) ∧ w = w' := by
  go_enter Try.func39, Try.ntmps39
  go_wp2_with (fail)
  refine (index_any A n c zs x g _ hn hr).mono ?_
  rintro e w' ⟨i, rfl, rfl, h⟩
  rcases h with ⟨h0, h⟩ | ⟨rfl, h⟩
  · have HX := Lib.hid (has_yes h)
    clear h
    go_wp2
    go_ret
    exact ⟨by rw [HX.out]; rfl, rfl⟩
  · have HX := Lib.hid (has_no h)
    clear h
    go_wp2
    go_ret
    exact ⟨by rw [HX.out]; rfl, rfl⟩

theorem isid_any (x : Int) (w : World) :
    Calls Try.prog 53 #[.int .i64 x] w fun e w' => e = .returned (.bool (isIdB x)) ∧ w = w' := by
  by_cases h1 : 1 ≤ x
  · by_cases h2 : x ≤ 4294967296
    · have HX : Hid (isIdB x = true) := by show _ = _; unfold isIdB; simp [h1, h2]
      go_enter Try.func53, Try.ntmps53
      go_wp2
      go_ret
      exact ⟨by rw [HX.out]; rfl, rfl⟩
    · have HX : Hid (isIdB x = false) := by show _ = _; unfold isIdB; simp [h2]
      have h3 : decide (x ≤ 4294967296) = false := by simp; omega
      clear h2
      go_enter Try.func53, Try.ntmps53
      go_wp2
      go_ret
      exact ⟨by rw [HX.out]; rfl, rfl⟩
  · have HX : Hid (isIdB x = false) := by show _ = _; unfold isIdB; simp [h1]
    have h3 : x < 1 := by omega
    clear h1
    go_enter Try.func53, Try.ntmps53
    go_wp2
    go_ret
    exact ⟨by rw [HX.out]; rfl, rfl⟩

theorem isid_yes {x : Int} (h : 1 ≤ x ∧ x ≤ 4294967296) : isIdB x = true := by unfold isIdB; simp [h.1, h.2]
theorem isid_no {x : Int} (h : ¬ (1 ≤ x ∧ x ≤ 4294967296)) : isIdB x = false := by unfold isIdB; simp; omega

set_option maxRecDepth 100000 in
set_option maxHeartbeats 1000000 in
theorem Right_any (A : Option Addr) (n c : Nat) (zs : List Int) (g : Nat) (w : World) (hnc : n ≤ c) (hc : c ≤ 9223372036854775807) (hr : Reads w g A n (zints zs)) :
    Calls Try.prog 36 #[.slice A n c] w fun e w' => e = .returned (.bool (rightB zs)) ∧ w = w' := by
  have hlen := zlen hr
  by_cases h16 : n ≤ 16
  · have HG := Lib.hid (right_good (l := zs) (by omega))
    have HL := Lib.hid hlen
    clear hlen
    go_enter Try.func36, Try.ntmps36
    go_wp2
    go_loop [3, 4, 10] (fun _ _ i => ∃ k : Nat, k ≤ n ∧ i = .int .i64 k ∧ goodB (zs.take k) = true) (fun _ _ i => n - (intOf i).toNat)
    case atStart => exact ⟨0, by omega, rfl, by simpa using good_nil⟩
    case round =>
      obtain ⟨k, hk, rfl, hx⟩ := hrel
      have HK := Lib.hid hx
      clear hx
      by_cases hlt : k < n
      · obtain ⟨ad, u, rfl, hu, hc⟩ := hr.at_ hlt
        obtain ⟨z, hz, rfl⟩ := zints_at hu
        have hkc : k ≤ c := by omega
        have hrk := hr.take hk
        rw [← zints_take] at hrk
        have HZ := Lib.hid hz
        clear hu hz
        by_cases hid : 1 ≤ z ∧ z ≤ 4294967296
        · have HI := Lib.hid (isid_yes hid)
          by_cases hm : z ∈ zs.take k
          · have HM := Lib.hid (has_yes hm)
            have HX : Hid (rightB zs = false) := HG.out.trans (bad_twice HZ.out hm)
            clear hm hid
            go_wp2_with (fail)
            refine (isid_any z _).mono ?_
            rintro e w' ⟨rfl, rfl⟩
            rw [HI.out]
            go_wp2_with (fail)
            refine (contains_any _ k _ (zs.take k) z g _ (by omega) hrk).mono ?_
            rintro e w' ⟨rfl, rfl⟩
            rw [HM.out]
            go_wp2
            go_ret
            exact ⟨by rw [HX.out]; rfl, rfl⟩
          · have HM := Lib.hid (has_no hm)
            have HX : Hid (goodB (zs.take (k + 1)) = true) := good_step HZ.out HK.out hid.1 hid.2 hm
            clear hm hid
            go_wp2_with (fail)
            refine (isid_any z _).mono ?_
            rintro e w' ⟨rfl, rfl⟩
            rw [HI.out]
            go_wp2_with (fail)
            refine (contains_any _ k _ (zs.take k) z g _ (by omega) hrk).mono ?_
            rintro e w' ⟨rfl, rfl⟩
            rw [HM.out]
            go_wp2
            go_round
            case rel => exact ⟨k + 1, by omega, by go_num, HX.out⟩
            case measure => simp [intOf]; omega
        · have HI := Lib.hid (isid_no hid)
          have HX : Hid (rightB zs = false) := HG.out.trans (bad_id HZ.out (by omega))
          clear hid
          go_wp2_with (fail)
          refine (isid_any z _).mono ?_
          rintro e w' ⟨rfl, rfl⟩
          rw [HI.out]
          go_wp2
          go_ret
          exact ⟨by rw [HX.out]; rfl, rfl⟩
      · obtain rfl : k = n := by omega
        have HX : Hid (rightB zs = true) := by
          have h := HK.out
          rw [List.take_of_length_le (by rw [HL.out]; exact Nat.le_refl _)] at h
          exact HG.out.trans h
        go_wp2
        go_ret
        exact ⟨by rw [HX.out]; rfl, rfl⟩
  · have HX := Lib.hid (right_long (l := zs) (by omega))
    have h17 : 16 < n := by omega
    clear h16 hlen
    go_enter Try.func36, Try.ntmps36
    go_wp2
    go_ret
    exact ⟨by rw [HX.out]; rfl, rfl⟩

theorem keyed : Keyed Try.prog 3 := int_keyed Try.underlying3
theorem zero_unit (w : World) : (zeroValue 72).run Try.prog w = .ok (.agg #[]) w := by kernel_rfl

theorem wf_of {x : Int} (h : -9223372036854775808 ≤ x ∧ x ≤ 9223372036854775807) : (Lit.int .i64 x).wf = true := WalkArith.wf_i64 h
theorem keyOf_i64 {x : Int} (h : -9223372036854775808 ≤ x ∧ x ≤ 9223372036854775807) : keyOf Try.prog 3 (.int .i64 x) = some (.int .i64 x) := keyOf_int_mk Try.underlying3 (wf_of h)

/-- a set of ints in a block, as the list of its keys -/
def SetAt (w : World) (b : Nat) (gs : List Int) : Prop :=
  ∃ D : DataW Unit, w.ownsMap Try.prog 3 unitElem b gs.length D ∧ (∀ x, Maps.has D (.int .i64 x) = hasB gs x) ∧ Maps.size D = gs.length

theorem set_new (w : World) : SetAt (w.alloc (.map #[] 0)) w.heap.size [] :=
  ⟨.map [], World.ownsMap_made _ _ _ _, fun x => by simp [Maps.has, hasB], rfl⟩
theorem SetAt.lt {w : World} {b : Nat} {gs : List Int} (h : SetAt w b gs) : b < w.heap.size := by obtain ⟨D, h, _⟩ := h; exact h.lt
theorem SetAt.kept {w w' : World} {b : Nat} {gs : List Int} {row : Option Nat} (h : SetAt w b gs) (hg : w.grownBy w' row) (hne : some b ≠ row) : SetAt w' b gs := by
  obtain ⟨D, h, r⟩ := h; exact ⟨D, h.kept hg hne, r⟩
theorem set_more {w' : World} {b : Nat} {gs : List Int} {x : Int} {D : DataW Unit} (hx : x ∉ gs) (hT : Tidy D)
    (h1 : ∀ x, Maps.has D (.int .i64 x) = hasB gs x) (h2 : Maps.size D = gs.length) (hown : w'.ownsMap Try.prog 3 unitElem b (gs.length + 1) (D.put (.int .i64 x) (.agg []))) : SetAt w' b (gs ++ [x]) := by
  refine ⟨_, by simpa using hown, fun y => ?_, ?_⟩
  · by_cases e : y = x
    · subst e
      rw [has_put_same hT.isMap (by simp [WideAt.IsKeyLit])]
      exact (has_yes (by simp)).symm
    · rw [has_put_other (by intro h; injection h with _ h; exact e h), h1]
      unfold hasB
      simp [e]
  · rw [size_put hT, h1, has_no hx, h2]
    simp
/-- a set lies in no block that holds cells -/
theorem reads_apart {w : World} {g b n : Nat} {A : Option Addr} {xs : List Value} {gs : List Int} (h : Reads w g A n xs) (hs : SetAt w b gs) : Reads w b A n xs :=
  ⟨h.1, fun hn => by
    obtain ⟨ad, e, hlt, hne, hc⟩ := h.2 hn
    refine ⟨ad, e, hlt, ?_, hc⟩
    intro hb
    have hl : 0 < xs.length := by rw [h.1]; exact hn
    have h0 := hc 0 xs[0] (List.getElem?_eq_getElem hl)
    obtain ⟨D, ⟨es, clock, hh, _⟩, _⟩ := hs
    unfold World.cell? at h0
    rw [block_of_add, hb, hh] at h0
    simp at h0⟩

/-- block g is a tally of the voters vs (as it holds them), of whom gs granted, in the set of block b -/
structure Ty (w : World) (g b : Nat) (vs gs : List Int) : Prop where
  row : ∃ A n c, Blk w g 70 #[.slice A n c, .map (some b)] ∧ Reads w b A n (zints vs) ∧ n ≤ c ∧ c ≤ 9223372036854775807
  set : SetAt w b gs
  ne : g ≠ b
  sub : Sub vs gs
  len : vs.length ≤ 16

theorem Ty.lt {w : World} {g b : Nat} {vs gs : List Int} (h : Ty w g b vs gs) : g < w.heap.size := by
  obtain ⟨A, n, c, h1, _⟩ := h.row; exact h1.lt
theorem Ty.below {w w' : World} {g b : Nat} {vs gs : List Int} (h : Ty w g b vs gs) (hb : Below w.heap.size w w') : Ty w' g b vs gs := by
  obtain ⟨A, n, c, h1, h2, h3, h4⟩ := h.row
  exact ⟨⟨A, n, c, h1.below hb h1.lt, h2.below hb, h3, h4⟩, h.set.kept (only_of_below hb none) (by simp), h.ne, h.sub, h.len⟩
/-- another tally grants: this one stays -/
theorem Ty.other {w w' : World} {g b g' b' : Nat} {vs gs vs' gs' : List Int} (h : Ty w g b vs gs) (h' : Ty w g' b' vs' gs') (hb : b ≠ b') (hg : w.grownBy w' (some b')) : Ty w' g b vs gs := by
  obtain ⟨A, n, c, h1, h2, h3, h4⟩ := h.row
  have hgb : g ≠ b' := by
    intro e
    obtain ⟨D, ⟨es, clock, hh, _⟩, _⟩ := h'.set
    have := h1
    unfold Blk at this
    rw [e, hh] at this
    cases this
  refine ⟨⟨A, n, c, h1.grown hg (by simpa using hgb), ?_, h3, h4⟩, h.set.kept hg (by simpa using hb), h.ne, h.sub, h.len⟩
  have h5 := (reads_apart h2 h'.set).only hg
  have h6 := h.set.kept hg (by simpa using hb)
  exact reads_apart h5 h6

def needZ (n : Int) : Int := if n < 0 then 1 else n / 2 + 1
theorem need_any (n : Int) (w : World) (hn : n ≤ 9223372036854775807) :
    Calls Try.prog 41 #[.int .i64 n] w fun e w' => e = .returned (.int .i64 (needZ n)) ∧ w = w' := by
  have HX : Hid (max n 0 / 2 + 1 = needZ n) := Lib.hid (by unfold needZ; split <;> omega)
  go_enter Try.func41, Try.ntmps41
  go_wp2
  go_ret
  exact ⟨by rw [← HX.out]; rfl, rfl⟩

theorem count_any (g b : Nat) (vs gs : List Int) (w : World) (h : Ty w g b vs gs) :
    Calls Try.prog 40 #[.pointer (some ⟨g, 0, none⟩)] w fun e w' => e = .returned (.int .i64 (gs.length : Int)) ∧ w = w' := by
  obtain ⟨A, n, c, h1, _, _, _⟩ := h.row
  obtain ⟨D, hown, _, hsz⟩ := h.set
  have c1 := h1.cell 1
  simp at c1
  have HS := Lib.hid hsz
  clear hsz h1 h
  go_enter Try.func40, Try.ntmps40
  go_wp2_with (at_len; refine wpList_len_own _ rfl _ 68 rfl 3 72 Try.underlying68 _ b _ D rfl hown ?_)
  go_ret
  exact ⟨by rw [← HS.out]; rfl, rfl⟩

theorem quiet_eq {P : Program} {f : FuncId} {args : Array Value} {w : World} {n : Nat} {v : Value} (h : Calls P f args (w.drewN n) fun e w' => e = .returned v ∧ w.drewN n = w') : Calls P f args (w.drewN n) fun e w'' => e = .returned v ∧ ∃ m, w'' = w.drewN m :=
  h.mono fun _ _ ⟨he, hm⟩ => ⟨he, n, hm.symm⟩
def wonB (vs gs : List Int) : Bool := decide (vs.length < 2 * gs.length)
/-- a Go bool is handed back; only the place on the tape has turned -/
def Tells (r : Bool) (w : World) (e : Ending) (w' : World) : Prop := e = .returned (.bool r) ∧ ∃ m, w' = w.drewN m

set_option maxHeartbeats 1000000 in
theorem won_any (g b : Nat) (vs gs : List Int) (w : World) (h : Ty w g b vs gs) :
    Calls Try.prog 33 #[.pointer (some ⟨g, 0, none⟩)] w (Tells (wonB vs gs) w) := by
  have hl := h.len
  have hs := h.sub.le
  obtain ⟨A, n, c, h1, h2, _, _⟩ := h.row
  have hlen := zlen h2
  have c0 := h1.cell 0
  simp at c0
  have HC : Hid (∀ m, Calls Try.prog 40 #[.pointer (some ⟨g, 0, none⟩)] (w.drewN m) fun e w' => e = .returned (.int .i64 (gs.length : Int)) ∧ w.drewN m = w') :=
    fun m => count_any g b vs gs _ (h.below (below_drewN (Below.refl _ _) m))
  obtain ⟨q, HN, hq⟩ : ∃ q : Int, Hid (∀ m, Calls Try.prog 41 #[.int .i64 (n : Int)] (w.drewN m) fun e w' => e = .returned (.int .i64 q) ∧ w.drewN m = w') ∧ q = n / 2 + 1 :=
    ⟨needZ n, fun m => need_any n _ (by omega), by unfold needZ; rw [if_neg (by omega)]⟩
  by_cases hw : q ≤ gs.length
  · have HW : Hid (wonB vs gs = true) := by show _ = _; unfold wonB; simp; omega
    clear hlen hq hs hl h1 h2 h
    go_enter Try.func33, Try.ntmps33
    go_wp2
    go_quiet (first | (go_at_call 40; exact quiet_eq (HC.out _)) | (go_at_call 41; exact quiet_eq (HN.out _)))
    go_wp2
    go_ret
    exact ⟨by rw [HW.out]; rfl, _, rfl⟩
  · have HW : Hid (wonB vs gs = false) := by show _ = _; unfold wonB; simp; omega
    have hw2 : decide (q ≤ (gs.length : Int)) = false := by simp; omega
    clear hlen hq hs hl h1 h2 h hw
    go_enter Try.func33, Try.ntmps33
    go_wp2
    go_quiet (first | (go_at_call 40; exact quiet_eq (HC.out _)) | (go_at_call 41; exact quiet_eq (HN.out _)))
    go_wp2
    go_ret
    exact ⟨by rw [HW.out]; rfl, _, rfl⟩

theorem granted_any (g b : Nat) (vs gs : List Int) (x : Int) (w : World) (h : Ty w g b vs gs) (hx : -9223372036854775808 ≤ x ∧ x ≤ 9223372036854775807) :
    Calls Try.prog 38 #[.pointer (some ⟨g, 0, none⟩), .int .i64 x] w (Says (hasB gs x) w) := by
  obtain ⟨A, n, c, h1, _, _, _⟩ := h.row
  obtain ⟨D, hown, hhas, _⟩ := h.set
  have c1 := h1.cell 1
  simp at c1
  have HH := Lib.hid (hhas x)
  clear hhas h1 h
  go_enter Try.func38, Try.ntmps38
  go_wp2_with (at_lookup; refine wpList_lookup_own_unit _ rfl _ _ 68 rfl 3 72 keyed Try.underlying68 (zero_unit _) b _ D rfl hown _ _ rfl (keyOf_i64 hx) ?_; rw [HH.out])
  go_ret
  exact ⟨rfl, (Below.refl _ _).alloc (Nat.le_refl _) _⟩

/-- what Grant does: it tells r, and the tally's granted are then gs' -/
def Did (g b : Nat) (r : Bool) (vs gs' : List Int) (w : World) (e : Ending) (w' : World) : Prop := e = .returned (.bool r) ∧ Ty w' g b vs gs' ∧ w.grownBy w' (some b)

set_option maxHeartbeats 1000000 in
theorem grant_any (g b : Nat) (vs gs : List Int) (x : Int) (w : World) (h : Ty w g b vs gs) (hx : -9223372036854775808 ≤ x ∧ x ≤ 9223372036854775807) :
    Calls Try.prog 32 #[.pointer (some ⟨g, 0, none⟩), .int .i64 x] w (Did g b (okG vs gs x) vs (addG vs gs x) w) := by
  by_cases hg : x ∈ gs
  · have HB := Lib.hid (has_yes hg)
    have HO : Hid (okG vs gs x = false) := by show _ = _; unfold okG; simp [hg]
    have HA := Lib.hid (addG_no HO.out)
    clear hg
    go_enter Try.func32, Try.ntmps32
    go_wp2_with (fail)
    refine (granted_any g b vs gs x _ h hx).mono ?_
    rintro e w1 ⟨rfl, hb1⟩
    rw [HB.out]
    go_wp2
    go_ret
    exact ⟨by rw [HO.out]; rfl, by rw [HA.out]; exact h.below hb1, only_of_below hb1 _⟩
  · have HB := Lib.hid (has_no hg)
    by_cases hv : x ∈ vs
    · have HV := Lib.hid (has_yes hv)
      have HO : Hid (okG vs gs x = true) := by show _ = _; unfold okG; simp [hg, hv]
      have HA := Lib.hid (addG_yes HO.out)
      have HG := Lib.hid hg
      have hsub := h.sub.add x
      rw [HA.out] at hsub
      clear hg hv
      go_enter Try.func32, Try.ntmps32
      go_wp2_with (fail)
      refine (granted_any g b vs gs x _ h hx).mono ?_
      rintro e w1 ⟨rfl, hb1⟩
      rw [HB.out]
      have h1 := h.below hb1
      obtain ⟨A, n, c, h2, h3, h4, h5⟩ := h1.row
      have c0 := h2.cell 0
      have c1 := h2.cell 1
      simp at c0 c1
      go_wp2_with (fail)
      refine (contains_any A n c vs x b _ (by omega) h3).mono ?_
      rintro e w2 ⟨rfl, rfl⟩
      rw [HV.out]
      obtain ⟨D, hown, hhas, hsz⟩ := h1.set
      have HH := Lib.hid hhas
      have HS := Lib.hid hsz
      clear hhas hsz
      have hlen : gs.length < maxLen := by have := h.sub.le; have := h.len; unfold maxLen; omega
      go_wp2_with (at_mapUpdate; refine wpList_mapUpdate_own _ rfl _ _ _ 68 rfl 3 72 keyed Try.underlying68 (unitElem (H := Unit)) b _ D rfl hown hlen _ _ _ rfl rfl (keyOf_i64 hx) _ [] unitElem_mk ?_; intro w3 hown3 hg3)
      go_ret
      have hset := set_more HG.out (hown.tidy keyed) HH.out HS.out hown3
      refine ⟨by rw [HO.out]; rfl, ?_, (only_of_below hb1 _).trans hg3⟩
      rw [HA.out]
      exact ⟨⟨A, n, c, h2.grown hg3 (by have := h.ne; simpa using this), h3.only hg3, h4, h5⟩, hset, h.ne, hsub, h.len⟩
    · have HV := Lib.hid (has_no hv)
      have HO : Hid (okG vs gs x = false) := by show _ = _; unfold okG; simp [hv]
      have HA := Lib.hid (addG_no HO.out)
      clear hg hv
      go_enter Try.func32, Try.ntmps32
      go_wp2_with (fail)
      refine (granted_any g b vs gs x _ h hx).mono ?_
      rintro e w1 ⟨rfl, hb1⟩
      rw [HB.out]
      have h1 := h.below hb1
      obtain ⟨A, n, c, h2, h3, h4, h5⟩ := h1.row
      have c0 := h2.cell 0
      have c1 := h2.cell 1
      simp at c0 c1
      go_wp2_with (fail)
      refine (contains_any A n c vs x b _ (by omega) h3).mono ?_
      rintro e w2 ⟨rfl, rfl⟩
      rw [HV.out]
      go_wp2
      go_ret
      exact ⟨by rw [HO.out]; rfl, by rw [HA.out]; exact h1, only_of_below hb1 _⟩
theorem clone_any (A : Option Addr) (n c : Nat) (zs : List Int) (g : Nat) (w : World) (hn : n ≤ 1000000) (hr : Reads w g A n (zints zs)) :
    Calls Try.prog 37 #[.slice A n c] w fun e w' => ∃ v, e = .returned v ∧ w'.ownsRow w.heap.size 3 1 v n (zints zs) ∧ Below w.heap.size w w' := by
  have hl := zlen hr
  cases A with
  | none =>
    have h0 : n = 0 := by
      rcases Nat.eq_zero_or_pos n with h | h
      · exact h
      · obtain ⟨ad, e, _⟩ := hr.2 h; cases e
    subst h0
    obtain rfl := List.eq_nil_of_length_eq_zero hl
    refine (Try.slices_Clone_int_nil 0 c w).mono ?_
    rintro e w' ⟨rfl, rfl⟩
    exact ⟨_, rfl, World.ownsRow_nil _ _ _ _, Below.refl _ _⟩
  | some ad =>
    rcases Nat.eq_zero_or_pos n with h | h
    · subst h
      obtain rfl := List.eq_nil_of_length_eq_zero hl
      refine (Try.slices_Clone_int_zero ad c w).mono ?_
      rintro e w' ⟨v, rfl, h1, _, h2⟩
      exact ⟨v, rfl, h1, h2⟩
    · obtain ⟨ad', e, _, _, hc⟩ := hr.2 h
      cases e
      obtain ⟨b, off, rfl, hcell⟩ := ints_at (w := w) (a := ad) (k := .i64) (zs := zs) (fun i hi => hc i _ (by simp [zints, List.getElem?_map, List.getElem?_eq_getElem hi, List.getD])) (by omega)
      refine (Try.slices_Clone_int b off n c zs w (by omega) (by omega) hcell).mono ?_
      rintro e w' ⟨v, rfl, h1, _, h2⟩
      rw [List.take_of_length_le (by omega)] at h1
      exact ⟨v, rfl, h1, h2⟩

/-- a new tally of the voters vs -/
def Made (vs : List Int) (w : World) (e : Ending) (w' : World) : Prop :=
  ∃ g b, e = .returned (.tuple #[.pointer (some ⟨g, 0, none⟩), .int .i64 0]) ∧ Ty w' g b (sorted vs) [] ∧ Below w.heap.size w w' ∧ w.heap.size ≤ g ∧ w.heap.size ≤ b

theorem new_no (A : Option Addr) (n c : Nat) (zs : List Int) (g : Nat) (w : World) (hnc : n ≤ c) (hc : c ≤ 9223372036854775807) (hr : Reads w g A n (zints zs)) (h : Hid (rightB zs = false)) :
    Calls Try.prog 31 #[.slice A n c] w fun e w' => e = .returned (.tuple #[.pointer none, .int .i64 10]) ∧ w = w' := by
  go_enter Try.func31, Try.ntmps31
  go_wp2_with (fail)
  refine (Right_any A n c zs g _ hnc hc hr).mono ?_
  rintro e w' ⟨rfl, rfl⟩
  rw [h.out]
  go_wp2
  go_ret2
  exact ⟨rfl, rfl⟩

set_option maxHeartbeats 1000000 in
theorem new_yes (A : Option Addr) (n c : Nat) (zs : List Int) (g : Nat) (w : World) (hnc : n ≤ c) (hc : c ≤ 9223372036854775807) (hr : Reads w g A n (zints zs)) (h : Hid (rightB zs = true)) :
    Calls Try.prog 31 #[.slice A n c] w (Made zs w) := by
  have hmm := @run_makeMap Try.prog
  have hl := zlen hr
  have h16 : n ≤ 16 := by have := (right_iff.1 h.out).1; omega
  have HL := Lib.hid hl
  clear hl
  go_enter Try.func31, Try.ntmps31
  go_wp2_with (fail)
  refine (Right_any A n c zs g _ hnc hc hr).mono ?_
  rintro e w' ⟨rfl, rfl⟩
  rw [h.out]
  go_wp2_with (fail)
  refine (clone_any A n c zs g _ (by omega) hr).mono ?_
  rintro e w1 ⟨v, rfl, hown1, hb1⟩
  obtain ⟨A1, c1, rfl, hn1, hc1⟩ := own_slice hown1
  have hown2 := (hown1.alloc (.map #[] 0)).alloc (.cells #[.slice A1 n c1, .map (some w1.heap.size)] 70)
  go_wp2_with (fail)
  refine (sort_any _ n _ zs _ (by omega) hown2).mono ?_
  rintro e w3 ⟨rfl, hown3, hg3⟩
  go_wp2
  go_ret2
  have hv : ∀ k, (Value.slice A1 n c1).ownBlock = some k → k < w1.heap.size := fun k hk => (hown1.lt k hk).2
  have hne1 : some (w1.heap.size + 1) ≠ (Value.slice A1 n c1).ownBlock := fun e => by have := hv _ e.symm; omega
  have hne0 : some w1.heap.size ≠ (Value.slice A1 n c1).ownBlock := fun e => by have := hv _ e.symm; omega
  have hblk : Blk ((w1.alloc (.map #[] 0)).alloc (.cells #[.slice A1 n c1, .map (some w1.heap.size)] 70)) (w1.heap.size + 1) 70 #[.slice A1 n c1, .map (some w1.heap.size)] := by
    have := Blk.new (w1.alloc (.map #[] 0)) 70 #[.slice A1 n c1, .map (some w1.heap.size)]
    simpa using this
  have hset : SetAt w3 w1.heap.size [] := ((set_new w1).kept (World.grownBy_alloc _ _ none) (by simp)).kept hg3 hne0
  have hb2 : Below w.heap.size w w3 := ((hb1.alloc hb1.size _).alloc (by have := hb1.size; simp; omega) _).grown hg3 (by have := hb1.size; simp; omega) (fun k e => (hown1.lt k e).1)
  have hs := hb1.size
  refine ⟨w1.heap.size + 1, w1.heap.size, rfl, ⟨⟨A1, n, c1, hblk.grown hg3 hne1, ?_, hn1, hc1⟩, hset, by omega, Sub.nil _, by rw [sorted_len]; have := HL.out; omega⟩, hb2, by omega, hs⟩
  exact reads_apart (own_read hown3 _ (.inl (Nat.le_refl _))) hset

def inInts (l : List Int) : Prop := ∀ x ∈ l, -9223372036854775808 ≤ x ∧ x ≤ 9223372036854775807
theorem ids_in {l : List Int} (h : rightB l = true) : inInts l := fun x hx => by have := (right_iff.1 h).2.2 x hx; omega
theorem won_maj {vs ys : List Int} (h : rightB vs = true) : wonB (sorted vs) (gAll (sorted vs) ys) = majB vs ys := by
  have hn := (right_iff.1 h).2.1
  rw [maj_right h]
  unfold wonB
  rw [sorted_len, len_gAll ys (sorted_nodup hn), yes_perm (sorted_perm vs) (fun _ => Iff.rfl)]

set_option maxRecDepth 100000 in
set_option maxHeartbeats 1000000 in
theorem maj_any (A B : Option Addr) (n c m d : Nat) (vs ys : List Int) (w : World) (hnc : n ≤ c) (hc : c ≤ 9223372036854775807) (hmd : m ≤ 9223372036854775807)
    (hr : Reads w w.heap.size A n (zints vs)) (hr2 : Reads w w.heap.size B m (zints ys)) (hys : inInts ys) :
    Calls Try.prog 22 #[.slice A n c, .slice B m d] w (Says (majB vs ys) w) := by
  by_cases hright : rightB vs = true
  · have HR := Lib.hid hright
    have HW := Lib.hid (won_maj (ys := ys) hright)
    have HY := Lib.hid hys
    have HL := Lib.hid (zlen hr2)
    clear hright hys
    go_enter Try.func22, Try.ntmps22
    go_wp2_with (fail)
    refine (new_yes A n c vs _ _ hnc hc hr HR).mono ?_
    rintro e w1 ⟨g, b, rfl, h1, hb1, hg, hb⟩
    have hr3 := hr2.old hb1 hb1.size
    have hs1 := hb1.size
    generalize sorted vs = V at *
    go_wp2
    go_loopw [18] (fun i wr => ∃ k : Nat, k ≤ m ∧ i = .int .i64 k ∧ Ty wr g b V (gAll V (ys.take k)) ∧ Below w.heap.size w wr) (fun i _ => m - (intOf i).toNat)
    case atStart => exact ⟨0, by omega, rfl, h1, hb1⟩
    case round =>
      obtain ⟨k, hk, rfl, h2, hb2⟩ := hrel
      by_cases hlt : k < m
      · obtain ⟨ad, u, rfl, hu, hc⟩ := (hr2.old hb2 hb2.size).at_ hlt
        obtain ⟨z, hz, rfl⟩ := zints_at hu
        have hzb := HY.out z (List.mem_of_getElem? hz)
        have HX : Hid (gAll V (ys.take (k + 1)) = addG V (gAll V (ys.take k)) z) := by show _ = _; rw [takeZ_snoc hz, gAll_snoc]
        clear hu hz
        generalize gAll V (ys.take k) = G at *
        go_wp2_with (fail)
        refine (grant_any g b V G z _ h2 hzb).mono ?_
        rintro e w2 ⟨rfl, h3, hg3⟩
        have hb3 : Below w.heap.size w w2 := hb2.trans (below_of_only hg3 hb2.size hb)
        rw [← HX.out] at h3
        clear hb2 h2 hg3 hc
        go_wp2
        go_roundw
        case rel => exact ⟨k + 1, by omega, by go_num, h3, hb3⟩
        case measure => simp [intOf]; omega
      · obtain rfl : k = m := by omega
        have HT : Hid (ys.take k = ys) := List.take_of_length_le (by rw [HL.out]; exact Nat.le_refl _)
        rw [HT.out] at h2
        generalize gAll V ys = G at *
        go_wp2_with (fail)
        refine (won_any g b V G _ h2).mono ?_
        rintro e w2 ⟨rfl, q, rfl⟩
        rw [HW.out]
        go_wp2
        go_ret
        exact ⟨rfl, below_drewN hb2 q⟩
  · have HR : Hid (rightB vs = false) := by show _ = _; simpa using hright
    have HM := Lib.hid (maj_bad (ys := ys) HR.out)
    clear hright
    go_enter Try.func22, Try.ntmps22
    go_wp2_with (fail)
    refine (new_no A n c vs _ _ hnc hc hr HR).mono ?_
    rintro e w1 ⟨rfl, rfl⟩
    go_wp2
    go_ret
    exact ⟨by rw [HM.out]; rfl, Below.refl _ _⟩

end Go.Proofs.Ytcacjppdcmghjaa.Q
