/-
  WHAT IS PROVED: the law JudgeCuts answers true for all arguments. Conditions: the events are there; the library's table of powers is laid.
-/
import Derived.Test.YtemokbggchodgaaDoorAnchor
import Derived.Test.YtemokbggchodgaaDoorClash
import Derived.Test.YtemokbggchodgaaDoorFound
namespace Go.Proofs.YtemokbggchodgaaDoor
open Go.RowKit Go.Lib
set_option maxRecDepth 100000

theorem ways_one {X Y : Int} {n : Nat} (h : (X = -1 ∧ (Y = -1 ∨ (n : Int) ≤ Y)) ∨ (X ≠ -1 ∧ X = Y)) : ((X == -1) = true ∧ (Y == -1) = true) ∨ ((X == -1) = true ∧ (Y == -1) = false ∧ decide ((n : Int) ≤ Y) = true) ∨ ((X == -1) = false ∧ (X == Y) = true) := by
  rcases h with ⟨rfl, h | h⟩ | ⟨h1, h2⟩
  · exact .inl ⟨rfl, by simpa using h⟩
  · exact .inr (.inl ⟨rfl, by simp; omega, by simpa using h⟩)
  · exact .inr (.inr ⟨by simpa using h1, by simpa using h2⟩)
theorem ways_two {C D A B : Int} {n : Nat} (h : (D = -1 ∧ C = -1 ∧ (B = -1 ∨ (n : Int) ≤ B)) ∨ (D ≠ -1 ∧ C = A ∧ D = B)) : ((D == -1) = true ∧ (C == -1) = true ∧ (B == -1) = true) ∨ ((D == -1) = true ∧ (C == -1) = true ∧ (B == -1) = false ∧ decide ((n : Int) ≤ B) = true) ∨ ((D == -1) = false ∧ (C == A) = true ∧ (D == B) = true) := by
  rcases h with ⟨rfl, rfl, h | h⟩ | ⟨h1, h2, h3⟩
  · exact .inl ⟨rfl, rfl, by simpa using h⟩
  · exact .inr (.inl ⟨rfl, rfl, by simp; omega, by simpa using h⟩)
  · exact .inr (.inr ⟨by simpa using h1, by simpa using h2, by simpa using h3⟩)
set_option maxHeartbeats 8000000 in
theorem lcuts_in (W : World) (A : Option Addr) (N c : Nat) (x : Int) (l : List Ev) (hr : Rd W no 5 A N (flatE l)) (hg : ∀ e ∈ l, OkE W no e) (hnc : N ≤ c) (hcm : c ≤ 9223372036854775807) (hx : inI x) (hE : Env W) :
    Calls Tryd.prog 4 #[.slice A N c, .int .i64 x] W (Says true W) := by
  have HR := Lib.hid hr
  have HL := Lib.hid hr.lenE
  have HG := Lib.hid hg
  have HE := Lib.hid hE
  have HXI := Lib.hid hx
  clear hr hg hE hx
  go_enter Tryd.func4, Tryd.ntmps4
  go_wp2_with (fail)
  refine (anchor_any _).mono ?_
  rintro e w1 ⟨rfl, hb1⟩
  have HB1 := Lib.hid hb1
  have HR1 := Lib.hid (HR.out.below hb1)
  clear hb1
  go_wp2_with (fail)
  refine (small_any _ no A N c l HR1.out hnc hcm).mono ?_
  rintro e w2 ⟨⟨b, rfl, hsm⟩, hb2⟩
  have HB2 := Lib.hid (HB1.out.trans (hb2.mono HB1.out.size))
  clear hb2 HR1 HB1
  cases b
  · clear hsm
    go_wp2
    go_ret
    exact ⟨rfl, HB2.out⟩
  · obtain ⟨hN, hn30⟩ := hsm rfl
    have HN30 := Lib.hid hn30
    clear hsm hn30
    by_cases hx0 : x < 0
    · have d1 : decide (x < 0) = true := by simpa using hx0
      go_wp2
      go_ret
      exact ⟨rfl, HB2.out⟩
    · have d1 : decide (x < 0) = false := by simpa using hx0
      obtain ⟨n, hn, hnN⟩ : ∃ n : Nat, x.tmod ((N : Int) + 1) = (n : Int) ∧ n ≤ N := by
        obtain ⟨m, rfl⟩ : ∃ m : Nat, x = (m : Int) := ⟨x.toNat, by omega⟩
        refine ⟨m % (N + 1), ?_, ?_⟩
        · rw [show ((N : Int) + 1) = ((N + 1 : Nat) : Int) by omega, Int.ofNat_tmod]
        · have := Nat.mod_lt m (by omega : N + 1 > 0)
          omega
      have hnc2 : (n : Int) ≤ (c : Int) := by omega
      have hn0 : (0 : Int) ≤ (n : Int) := by omega
      have HSH : Hid (∀ w', Below W.heap.size W w' → Rd w' no 5 A n (flatE (l.take n))) := Lib.hid (fun w' hb => (HR.out.below hb).takeE hnN)
      have HGS : Hid (∀ w', Below W.heap.size W w' → ∀ e ∈ l.take n, OkE w' no e) := Lib.hid (fun w' hb e he => (HG.out e (List.mem_of_mem_take he)).below hb)
      have HGL : Hid (∀ w', Below W.heap.size W w' → ∀ e ∈ l, OkE w' no e) := Lib.hid (fun w' hb e he => (HG.out e he).below hb)
      have HNS : Hid (∀ e ∈ l.take n, e.n ≤ 30) := Lib.hid (fun e he => HN30.out e (List.mem_of_mem_take he))
      have W1 := Lib.hid (ways_one (cut_one (p := hitT l) (q := hitT (l.take n)) hnN (fun i hi => hitT_take hi)))
      have W2 := Lib.hid (ways_one (cut_one (p := badW l) (q := badW (l.take n)) hnN (fun i hi => badW_take hi)))
      have W3 := Lib.hid (ways_two (cut_two (l := l) hnN))
      have hN1 : (N : Int) + 1 ≠ 0 := by omega
      go_wp2_with (fail)
      refine (twice_any w2 no A N c l (HR.out.below HB2.out) (HGL.out _ HB2.out) (by omega)).mono ?_
      rintro e w3 ⟨rfl, hb3⟩
      have HB3 := Lib.hid (HB2.out.trans (hb3.mono HB2.out.size))
      generalize firstF (hitT l) N 0 = at1 at W1 ⊢
      clear hb3
      go_wp2_with (fail)
      refine (unfounded_any w3 no A N c l (HR.out.below HB3.out) (HGL.out _ HB3.out) (by omega)).mono ?_
      rintro e w4 ⟨rfl, hb4⟩
      have HB4 := Lib.hid (HB3.out.trans (hb4.mono HB3.out.size))
      generalize firstF (badW l) N 0 = at2 at W2 ⊢
      clear hb4
      go_wp2_with (fail)
      refine (clash_any w4 no A N c l (HR.out.below HB4.out) (HGL.out _ HB4.out) (by omega) HN30.out (HE.out.below HB4.out)).mono ?_
      rintro e w5 ⟨rfl, hb5⟩
      have HB5 := Lib.hid (HB4.out.trans (hb5.mono HB4.out.size))
      generalize ansA l N = at3 at W3 ⊢
      generalize ansB l N = at4 at W3 ⊢
      clear hb5
      go_wp2_with (fail)
      refine (twice_any w5 no A n c (l.take n) (HSH.out _ HB5.out) (HGS.out _ HB5.out) (by omega)).mono ?_
      rintro e w6 ⟨rfl, hb6⟩
      have HB6 := Lib.hid (HB5.out.trans (hb6.mono HB5.out.size))
      generalize firstF (hitT (l.take n)) n 0 = at5 at W1 ⊢
      clear hb6
      go_wp2_with (fail)
      refine (unfounded_any w6 no A n c (l.take n) (HSH.out _ HB6.out) (HGS.out _ HB6.out) (by omega)).mono ?_
      rintro e w7 ⟨rfl, hb7⟩
      have HB7 := Lib.hid (HB6.out.trans (hb7.mono HB6.out.size))
      generalize firstF (badW (l.take n)) n 0 = at6 at W2 ⊢
      clear hb7
      go_wp2_with (fail)
      refine (clash_any w7 no A n c (l.take n) (HSH.out _ HB7.out) (HGS.out _ HB7.out) (by omega) HNS.out (HE.out.below HB7.out)).mono ?_
      rintro e w8 ⟨rfl, hb8⟩
      have HB8 := Lib.hid (HB7.out.trans (hb8.mono HB7.out.size))
      generalize ansA (l.take n) n = at7 at W3 ⊢
      generalize ansB (l.take n) n = at8 at W3 ⊢
      clear hb8
      rcases W1.out with ⟨t1, t2⟩ | ⟨t1, t2, t3⟩ | ⟨t1, t2⟩
      all_goals
        rcases W2.out with ⟨u1, u2⟩ | ⟨u1, u2, u3⟩ | ⟨u1, u2⟩
        all_goals
          rcases W3.out with ⟨v1, v2, v3⟩ | ⟨v1, v2, v3, v4⟩ | ⟨v1, v2, v3⟩
          all_goals
            clear W1 W2 W3
            go_wp2
            go_ret
            exact ⟨by first | rfl | (simp only [*]; rfl), HB8.out⟩
end Go.Proofs.YtemokbggchodgaaDoor
