/-
  WHAT IS PROVED: the contracts of the document's readers of a word and of a number. Condition: a text has at most 100000 bytes.
-/
import Derived.Test.YtmjbacmaafbdlaaGreatDoorRQuiet
import Derived.Test.YtmjbacmaafbdlaaGreatDoorTxt
import Derived.Test.YtmjbacmaafbdlaaGreatDoorSRefPlain
namespace Go.Proofs.YtmjbacmaafbdlaaGreatDoor.R
set_option maxRecDepth 100000
open Go.RowKit Go.Lib C

theorem wordF_le (s : List UInt8) (a : Nat) (v : List UInt8) (ha : a ≤ s.length) : (wordF s a v).1 ≤ s.length := by
  unfold wordF
  split
  · exact ha
  · show a + v.length + 1 ≤ _; omega
theorem word_any (s v : List UInt8) (a : Nat) (hs : s.length ≤ 100000) (hv : v.length ≤ 100) (ha : a ≤ s.length) (w : World) : Calls Tryz.prog 49 #[.string (str s), .int .i64 (a : Int), .string (str v)] w fun e w' =>
    e = .returned (.tuple #[.int .i64 (((wordF s a v).1 : Nat) : Int), .bool (wordF s a v).2]) ∧ Below w.heap.size w w' := by
  have hz : (str s).size ≤ 100000 := hs
  have hz2 : ((str s).size : Int) ≤ 100000 := by omega
  have hzv : ((str v).size : Int) ≤ 100 := by have : (str v).size ≤ 100 := hv; omega
  have hzs : (str s).size = s.length := str_size s
  have hzw : (str v).size = v.length := str_size v
  have ha0 : (0 : Int) ≤ a := by omega
  have ha2 : (a : Int) ≤ 100000 := by omega
  by_cases hl : s.length < a + v.length + 1
  · have HW : Hid (wordF s a v = (a, false)) := by show _ = _; unfold wordF; rw [if_pos hl]
    have q1 : ((str s).size : Int) < (a : Int) + (str v).size + 1 := by omega
    have q0 : ¬ (a : Int) < 0 := by omega
    clear hl hzs hzw
    go_enter Tryz.func49, Tryz.ntmps49
    go_wp2
    go_ret2
    exact ⟨by rw [HW.out]; rfl, Below.refl _ w⟩
  · have HW : Hid (wordF s a v = (a + v.length + 1, decide ((s.drop a).take (v.length + 1) = v ++ [32]))) := by show _ = _; unfold wordF; rw [if_neg hl]
    have q1 : ¬ ((str s).size : Int) < (a : Int) + (str v).size + 1 := by omega
    have q0 : ¬ (a : Int) < 0 := by omega
    obtain ⟨b, hb⟩ : ∃ b : Nat, b = a + v.length + 1 := ⟨_, rfl⟩
    have hbe : (a : Int) + (str v).size + 1 = (b : Int) := by omega
    have hbs : b ≤ (str s).size := by omega
    have hab : a ≤ b := by omega
    have hx := str_ext2 s a b
    have hap := S.str_app v [32]
    have hcmp : ((str ((s.drop a).take (b - a))).toList == (str (v ++ [32])).toList) = decide ((s.drop a).take (v.length + 1) = v ++ [32]) := by
      rw [str_toList, str_toList, show b - a = v.length + 1 by omega]
      by_cases h : (s.drop a).take (v.length + 1) = v ++ [32]
      · rw [h]; simp
      · rw [decide_eq_false h]; simpa using h
    have HB := Lib.hid hb
    clear hl hzs hzw hb
    go_enter Tryz.func49, Tryz.ntmps49
    go_wp2
    refine wp_region_later (by kernel_rfl) (by kernel_rfl) ?_
    repeat (go_big_quiet_step (fail))
    refine wpQuiet_nil ?_
    intro _ hw'
    obtain ⟨pq, hw''⟩ := hw'
    subst hw''
    have hb3 := Lib.hid pq.below
    obtain ⟨w3, e3⟩ : ∃ w3, pq.now = w3 := ⟨_, rfl⟩
    rw [e3] at hb3 ⊢
    clear e3
    go_wp2
    go_ret2
    exact ⟨by rw [HW.out, ← hcmp, ← HB.out]; rfl, hb3.out⟩

theorem val_take_succ {l : List UInt8} {k : Nat} {c : UInt8} (h : l[k]? = some c) : val (l.take (k + 1)) = 10 * val (l.take k) + (c.toNat - 48) := by
  have hk : k < l.length := (List.getElem?_eq_some_iff.1 h).1
  have hg := (List.getElem?_eq_some_iff.1 h).2
  rw [List.take_succ_eq_append_getElem hk, hg, val_snoc]
theorem isD_iff {c : UInt8} : isD c = true ↔ 48 ≤ c.toNat ∧ c.toNat ≤ 57 := by unfold isD; simp
set_option maxHeartbeats 2000000 in
theorem number_any (s : List UInt8) (a : Nat) (hs : s.length ≤ 100000) (ha : a ≤ s.length) (w : World) : Calls Tryz.prog 50 #[.string (str s), .int .i64 (a : Int)] w fun e w' =>
    e = .returned (.tuple #[.int .i64 (((numF s a).1 : Nat) : Int), .int .i64 (((numF s a).2.1 : Nat) : Int), .bool (numF s a).2.2]) ∧ Below w.heap.size w w' := by
  have hz : (str s).size ≤ 100000 := hs
  have hz2 : ((str s).size : Int) ≤ 100000 := by omega
  have hzs : (str s).size = s.length := str_size s
  have ha0 : (0 : Int) ≤ a := by omega
  have ha2 : (a : Int) ≤ 100000 := by omega
  have hrl := run_le s a
  have HN : Hid (numF s a = (val (run s a), a + (run s a).length, decide (run s a ≠ []) && (decide ((run s a).head? ≠ some 48) || decide ((run s a).length = 1)))) := by show _ = _; rfl
  have HEND := Lib.hid (run_end s a ha)
  have HGET : Hid (∀ j, j < (run s a).length → ∃ c, s[a + j]? = some c ∧ (run s a)[j]? = some c ∧ isD c = true ∧ j < 16) := Lib.hid fun j hj => run_get hj
  have HD := Lib.hid (run_isD s a)
  generalize run s a = R at *
  have hR16 : R.length ≤ 16 := hrl.1
  have hRs : a + R.length ≤ s.length := by have := hrl.2; omega
  clear hrl
  go_enter Tryz.func50, Tryz.ntmps50
  go_wp2
  go_loop [7, 8] (fun x i => ∃ p : Nat, a ≤ p ∧ p ≤ a + R.length ∧ i = .int .i64 (p : Int) ∧ x = .int .i64 ((val (R.take (p - a)) : Nat) : Int)) (fun _ i => a + R.length - (intOf i).toNat)
  case atStart => exact ⟨a, Nat.le_refl _, by omega, rfl, by rw [Nat.sub_self, List.take_zero]; rfl⟩
  case round =>
    obtain ⟨p, hap, hpR, rfl, rfl⟩ := hrel
    have hp2 : (p : Int) ≤ 100000 := by omega
    have hp0 : (0 : Int) ≤ p := by omega
    by_cases hlt : p < a + R.length
    · obtain ⟨c, h1, h2, h3, h4⟩ := HGET.out (p - a) (by omega)
      rw [show a + (p - a) = p by omega] at h1
      have hps : p < (str s).size := by omega
      have hsa := S.str_at (t := s) (i := p) hps
      rw [h1] at hsa
      injection hsa with hsa
      obtain ⟨g1, g2⟩ := isD_iff.1 h3
      have c1 : (48 : Int) ≤ (str s)[p].toNat := by rw [← hsa]; omega
      have c2 : ((str s)[p].toNat : Int) ≤ 57 := by rw [← hsa]; omega
      have d1 : decide (p < (str s).size) = true := decide_eq_true hps
      have d2 : (p : Int) < (a : Int) + 16 := by omega
      have hv := val_take R (p - a) HD.out (by omega)
      have hv15 : val (R.take (p - a)) < 10 ^ 15 := Nat.lt_of_lt_of_le hv (Nat.pow_le_pow_right (by omega) (by omega))
      have hv1 : ((val (R.take (p - a)) : Nat) : Int) < 1000000000000000 := by
        have : (10 : Nat) ^ 15 = 1000000000000000 := by decide
        omega
      have hv0 : (0 : Int) ≤ ((val (R.take (p - a)) : Nat) : Int) := by omega
      have HNX : Hid (10 * ((val (R.take (p - a)) : Nat) : Int) + (((str s)[p].toNat : Int) - 48) = ((val (R.take (p + 1 - a)) : Nat) : Int)) := by
        show _ = _
        rw [show p + 1 - a = p - a + 1 by omega, val_take_succ h2, ← hsa]
        omega
      clear h1 h2 h3 h4 hsa g1 g2 hv hv15
      generalize ((val (R.take (p - a)) : Nat) : Int) = V at *
      go_wp2
      go_round
      case rel => exact ⟨p + 1, by omega, by omega, by go_num, by rw [← HNX.out]⟩
      case measure => simp [intOf]; omega
    · have hpe : p = a + R.length := by omega
      have HC : (decide (p < (str s).size) = false) ∨ (decide (p < (str s).size) = true ∧ ∃ h : p < (str s).size, ((str s)[p].toNat : Int) < 48) ∨ (decide (p < (str s).size) = true ∧ ∃ h : p < (str s).size, (57 : Int) < ((str s)[p].toNat : Int)) ∨ (decide (p < (str s).size) = true ∧ ∃ h : p < (str s).size, (48 : Int) ≤ (str s)[p].toNat ∧ ((str s)[p].toNat : Int) ≤ 57 ∧ ¬ (p : Int) < (a : Int) + 16) := by
        by_cases hps : p < (str s).size
        · have hsa := S.str_at (t := s) (i := p) hps
          have hdp := decide_eq_true hps
          by_cases g1 : ((str s)[p].toNat : Int) < 48
          · exact .inr (.inl ⟨hdp, hps, g1⟩)
          by_cases g2 : (57 : Int) < ((str s)[p].toNat : Int)
          · exact .inr (.inr (.inl ⟨hdp, hps, g2⟩))
          refine .inr (.inr (.inr ⟨hdp, hps, by omega, by omega, ?_⟩))
          rcases HEND.out with h | h | ⟨c, h, hc⟩
          · omega
          · omega
          · rw [← hpe, hsa] at h
            injection h with h
            rw [← h, ← Bool.not_eq_true, isD_iff] at hc
            omega
        · exact .inl (decide_eq_false hps)
      have HT : (¬ (a : Int) < p ∧ Hid (numF s a = (val R, p, false))) ∨ ((a : Int) < p ∧ decide (a < (str s).size) = true ∧ ∃ h : a < (str s).size, (((str s)[a].toNat : Int) != 48) = true ∧ Hid (numF s a = (val R, p, true))) ∨ ((a : Int) < p ∧ decide (a < (str s).size) = true ∧ ∃ h : a < (str s).size, (((str s)[a].toNat : Int) != 48) = false ∧ ((p : Int) == (a : Int) + 1) = true ∧ Hid (numF s a = (val R, p, true))) ∨ ((a : Int) < p ∧ decide (a < (str s).size) = true ∧ ∃ h : a < (str s).size, (((str s)[a].toNat : Int) != 48) = false ∧ ((p : Int) == (a : Int) + 1) = false ∧ Hid (numF s a = (val R, p, false))) := by
        cases R with
        | nil =>
          refine .inl ⟨by simp at hpe; omega, Lib.hid ?_⟩
          rw [HN.out, hpe]; rfl
        | cons c0 R' =>
          have hl : (c0 :: R').length = R'.length + 1 := rfl
          obtain ⟨c, h1, h2, h3, h4⟩ := HGET.out 0 (by omega)
          injection h2 with h2
          subst h2
          have has : a < (str s).size := by omega
          have hsa := S.str_at (t := s) (i := a) has
          rw [Nat.add_zero, hsa] at h1
          injection h1 with h1
          have hda := decide_eq_true has
          have hlt2 : (a : Int) < p := by omega
          by_cases g : (((str s)[a].toNat : Int) != 48) = true
          · refine .inr (.inl ⟨hlt2, hda, has, g, Lib.hid ?_⟩)
            have g' : c0 ≠ 48 := fun e => by rw [h1, e] at g; simp at g
            rw [HN.out, hpe]
            simp [g']
          · have g' : c0 = 48 := by
              simp at g
              apply UInt8.toNat_inj.1
              rw [← h1]; simpa using (by omega : (str s)[a].toNat = 48)
            by_cases g1 : ((p : Int) == (a : Int) + 1) = true
            · refine .inr (.inr (.inl ⟨hlt2, hda, has, by simpa using g, g1, Lib.hid ?_⟩))
              rw [beq_iff_eq] at g1
              have : R'.length = 0 := by omega
              rw [HN.out, hpe]
              simp [g', this]
            · refine .inr (.inr (.inr ⟨hlt2, hda, has, by simpa using g, by simpa using g1, Lib.hid ?_⟩))
              rw [beq_iff_eq] at g1
              have : R'.length ≠ 0 := by omega
              have h0 : R' ≠ [] := fun e => this (by rw [e]; rfl)
              rw [HN.out, hpe]
              simp [g', h0]
      rw [show p - a = R.length by omega, List.take_length]
      clear HN HEND HGET HD hlt hpR hR16 hRs hpe hzs
      generalize val R = V at *
      rcases HC with c1 | ⟨c1, c2, c3⟩ | ⟨c1, c2, c3⟩ | ⟨c1, c2, c3, c4, c5⟩
      all_goals rcases HT with ⟨t1, HV⟩ | ⟨t1, t2, t3, t4, HV⟩ | ⟨t1, t2, t3, t4, t5, HV⟩ | ⟨t1, t2, t3, t4, t5, HV⟩
      all_goals
        go_wp2
        go_ret3
        exact ⟨by rw [HV.out]; rfl, Below.refl _ w⟩
end Go.Proofs.YtmjbacmaafbdlaaGreatDoor.R
