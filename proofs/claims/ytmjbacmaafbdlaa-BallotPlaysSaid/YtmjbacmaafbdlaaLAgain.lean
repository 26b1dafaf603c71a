/-
  WHAT IS PROVED: the law BallotAgain answers true: stood again and again, in other epochs, each stand needs votes of its own: those of the ones ahead don't count. No condition beyond those of the given row.
-/
import Derived.Test.YtmjbacmaafbdlaaAnchor
import Derived.Deep.RegionHeld3
namespace Go.Proofs.Ytmjbacmaafbdlaa
open Go.RowKit Go.Lib Go.Maps

/-- an argument of type []int -/
def Arg (W : World) (A : Option Addr) (n : Nat) (l : List Int) : Prop := ∀ g, W.heap.size ≤ g → Reads W g A n (zints l)
theorem Arg.now {W w : World} {A : Option Addr} {n : Nat} {l : List Int} (h : Arg W A n l) (hb : Below W.heap.size W w) : Reads w w.heap.size A n (zints l) := (h _ (Nat.le_refl _)).old hb hb.size
theorem Arg.len {W : World} {A : Option Addr} {n : Nat} {l : List Int} (h : Arg W A n l) : l.length = n := zlen (h _ (Nat.le_refl _))
theorem add0 (ad : Addr) : ad.add 0 = ad := by unfold Addr.add; simp
theorem Arg.cell {W : World} {A : Option Addr} {n k : Nat} {l : List Int} (h : Arg W A n l) (hk : k < n) : ∃ ad z, A = some ad ∧ l[k]? = some z ∧ ∀ w, Below W.heap.size W w → w.cell? (ad.add k) = some (.int .i64 z) := by
  obtain ⟨ad, u, e, hu, hc⟩ := (h _ (Nat.le_refl _)).at_ hk
  obtain ⟨z, hz, rfl⟩ := zints_at hu
  refine ⟨ad, z, e, hz, fun w hb => ?_⟩
  obtain ⟨ad', u', e', hu', hc'⟩ := (h.now hb).at_ hk
  rw [e] at e'
  cases e'
  rw [hu] at hu'
  cases hu'
  exact hc'

/-! ### the states of a round -/
def G1 (n a : Int) (vs : List Int) (G : List Mp.Bn) : Bst := ⟨true, n, a, vs, [], G⟩
def G2 (n a v : Int) (vs : List Int) (G : List Mp.Bn) : Bst := ⟨true, n, a, vs, [v], G⟩
theorem again1 {s : Bst} {n a : Int} {vs : List Int} (h : stB 2 s a = false) (hf : fineB n vs a = true) : standE 2 s n vs a = 0 ∧ standS 2 s n vs a = G1 n a vs s.G := by
  unfold standE standS
  rw [hf, h]
  exact ⟨rfl, rfl⟩
theorem again0 {s : Bst} {n a : Int} {vs : List Int} (hf : fineB n vs a = false) : standE 2 s n vs a = 10 ∧ standS 2 s n vs a = s := by
  unfold standE standS
  rw [hf]
  exact ⟨rfl, rfl⟩
theorem st_self {n a : Int} {vs ys : List Int} {G : List Mp.Bn} : stB 2 ⟨true, n, a, vs, ys, G⟩ a = true := decide_eq_true (by show a ≤ a + 2 * 2; omega)
theorem again2 {n a v e : Int} {vs : List Int} {G : List Mp.Bn} (h : e ≠ n) : ackB 2 (G1 n a vs G) v e a = false ∧ ackS 2 (G1 n a vs G) v e a = G1 n a vs G := by
  have h : ackO 2 (G1 n a vs G) v e a = false := by
    unfold ackO
    rw [show decide ((G1 n a vs G).ep = e) = false from decide_eq_false (fun h' => h h'.symm)]
    simp
  unfold ackB ackS
  rw [h]
  exact ⟨rfl, rfl⟩
theorem again3 {n a v : Int} {vs : List Int} {G : List Mp.Bn} (hv : v ∈ vs) (hl : 2 ≤ vs.length) : ackB 2 (G1 n a vs G) v n a = false ∧ ackS 2 (G1 n a vs G) v n a = G2 n a v vs G := by
  have h : ackO 2 (G1 n a vs G) v n a = true := by
    unfold ackO
    rw [show stB 2 (G1 n a vs G) a = true from st_self, show okG (G1 n a vs G).vs (G1 n a vs G).ys v = true from by show okG vs [] v = true; unfold okG; simp [hv], show decide ((G1 n a vs G).ep = n) = true from decide_eq_true rfl]
    rfl
  have hw : winB (G1 n a vs G).vs ((G1 n a vs G).ys ++ [v]) = false := decide_eq_false (by show ¬ vs.length < 2 * 1; omega)
  unfold ackB ackS
  rw [h, hw]
  exact ⟨rfl, rfl⟩
theorem again4 {n a v : Int} {vs : List Int} {G : List Mp.Bn} : ackB 2 (G2 n a v vs G) v n a = false ∧ ackS 2 (G2 n a v vs G) v n a = G2 n a v vs G := by
  have h : ackO 2 (G2 n a v vs G) v n a = false := by
    unfold ackO
    rw [show okG (G2 n a v vs G).vs (G2 n a v vs G).ys v = false from by show okG vs [v] v = false; unfold okG; simp]
    simp
  unfold ackB ackS
  rw [h]
  exact ⟨rfl, rfl⟩

set_option maxRecDepth 100000 in
set_option maxHeartbeats 4000000 in
theorem again_in (A B : Option Addr) (n c m d : Nat) (vs es : List Int) (W : World) (hnc : n ≤ c) (hc : c ≤ 9223372036854775807) (hmd : m ≤ d) (hn2 : 2 ≤ n) (hn : n ≤ 16) (hm : m ≤ 30) (hra : Arg W A n vs) (hrb : Arg W B m es) (hvs : ∀ z ∈ vs, -9223372036854775808 ≤ z ∧ z ≤ 9223372036854775807) :
    Calls Try.prog 7 #[.slice A n c, .slice B m d] W (Says true W) := by
  have HL := Lib.hid hra.len
  have HLB := Lib.hid hrb.len
  obtain ⟨ad, v0, rfl, hv0, hcell⟩ := hra.cell (show 0 < n by omega)
  rw [add0] at hcell
  have HV0 := Lib.hid (List.mem_of_getElem? hv0)
  have HVI : Hid (Mp.inInt v0) := Lib.hid (hvs v0 HV0.out)
  have HCA := Lib.hid hcell
  have hn0 : (0 : Int) < (n : Int) := by omega
  have HRA := Lib.hid hra
  have HRB := Lib.hid hrb
  clear hra hrb hvs hv0 hcell
  go_enter Try.func7, Try.ntmps7
  go_wp2_with (fail)
  refine (anchor_any _).mono ?_
  rintro e w0 ⟨rfl, hb0⟩
  have HB0 := Lib.hid hb0
  clear hb0
  go_wp2_with (fail)
  refine (bnew_yes 2 _ (by decide) (by decide)).mono ?_
  rintro e w1 ⟨g, F0, rfl, k1, hb1⟩
  have K1 := Lib.hid (k1.low HB0.out.size)
  have HB1 := Lib.hid (HB0.out.trans (hb1.mono HB0.out.size))
  clear k1 hb1
  go_wp2
  go_loopw [40] (fun i wr => ∃ (k : Nat) (F : Nat → Prop) (s : Bst), k ≤ m ∧ i = .int .i64 k ∧ Bl wr W.heap.size g F 2 s ∧ Below W.heap.size W wr ∧ stB 2 s (10 * (k : Int)) = false) (fun i _ => m - (RowKit.intOf i).toNat)
  case atStart => exact ⟨0, F0, Bst.zero, by omega, rfl, K1.out, HB1.out, rfl⟩
  case round =>
    obtain ⟨k, F, s, hk, rfl, hp, hb, hst⟩ := hrel
    obtain ⟨w2, rfl⟩ : ∃ w2, w2 = wr := ⟨_, rfl⟩
    have K2 := Lib.hid hp
    have HB2 := Lib.hid hb
    clear hp hb
    by_cases hlt : k < m
    · obtain ⟨adb, z, rfl, hz, hcz⟩ := HRB.out.cell hlt
      have cz := hcz _ HB2.out
      obtain ⟨a, ha⟩ : ∃ a : Int, 10 * (k : Int) = a := ⟨_, rfl⟩
      rw [ha] at hst
      have HA : Hid (10 * (k : Int) = a) := Lib.hid ha
      have HST := Lib.hid hst
      have hra := HRA.out.now HB2.out
      clear hcz hz hst
      cases hf : fineB z vs a with
      | false =>
        have HE := Lib.hid (again0 (s := s) hf)
        clear hf
        go_wp2_with (fail)
        refine (stand_any W.heap.size g F 2 s _ K2.out z _ n c vs a hnc hc hra).mono ?_
        rintro e w3 ⟨rfl, F3, k3, t3, _⟩
        rw [HE.out.1]
        have HB3 := Lib.hid (K2.out.go HB2.out t3)
        clear k3 t3
        go_wp2
        go_ret
        exact ⟨rfl, HB3.out⟩
      | true =>
        have HE := Lib.hid (again1 (s := s) HST.out hf)
        clear hf
        go_wp2_with (fail)
        refine (stand_any W.heap.size g F 2 s _ K2.out z _ n c vs a hnc hc hra).mono ?_
        rintro e w3 ⟨rfl, F3, k3, t3, _⟩
        rw [HE.out.1]
        rw [HE.out.2] at k3
        have K3 := Lib.hid k3
        have HB3 := Lib.hid (K2.out.go HB2.out t3)
        obtain ⟨G, HG⟩ : ∃ G, Hid (s.G = G) := ⟨_, Lib.hid rfl⟩
        rw [HG.out] at K3
        clear k3 t3 cz hra HE
        go_wp2
        go_loopw [54] (fun i wr => ∃ (j : Nat) (F : Nat → Prop), j ≤ k ∧ i = .int .i64 j ∧ Bl wr W.heap.size g F 2 (G1 z a vs G) ∧ Below W.heap.size W wr) (fun i _ => k - (RowKit.intOf i).toNat)
        case atStart => exact ⟨0, F3, by omega, rfl, K3.out, HB3.out⟩
        case round =>
          clear HB3 K3 HB2 K2
          obtain ⟨j, F4, hj, rfl, hp, hb⟩ := hrel
          obtain ⟨w4, rfl⟩ : ∃ w4, w4 = wr := ⟨_, rfl⟩
          have K4 := Lib.hid hp
          have HB4 := Lib.hid hb
          clear hp hb
          by_cases hltj : j < k
          · obtain ⟨adb', y, hadb, hy, hcy⟩ := HRB.out.cell (show j < m by omega)
            injection hadb with hadb
            subst hadb
            have HCY := Lib.hid hcy
            clear hcy hy
            have hjm : j < m := by omega
            by_cases hyz : y = z
            · have te : (y != z) = false := by simpa using hyz
              have cy := HCY.out _ HB4.out
              clear hyz
              go_wp2
              go_quiet (fail)
              have HD4 := fun q => below_drewN HB4.out q
              go_wp2
              go_roundw
              case rel => exact ⟨j + 1, F4, by omega, by go_num, K4.out.below (below_drewN (Below.refl _ _) _), HD4 _⟩
              case measure => simp [RowKit.intOf]; omega
            · have HE := Lib.hid (again2 (a := a) (v := v0) (vs := vs) (G := G) hyz)
              have te : (y != z) = true := by simpa using hyz
              have HS : Hid (∀ w', Below W.heap.size W w' → w'.cell? (adb.add j) = some (.int .i64 y) ∧ w'.cell? ad = some (.int .i64 v0)) := Lib.hid fun w' h => ⟨HCY.out w' h, HCA.out w' h⟩
              have HD4 := Lib.hid (below_drewN HB4.out 1)
              have KD4 := Lib.hid (K4.out.below (below_drewN (Below.refl _ _) 1))
              clear hyz
              have hn1 : 0 < n := by omega
              have hn2d : decide ((0 : Int) < (n : Int)) = true := by simp; omega
              have hn3d : decide (0 < n) = true := by simp; omega
              go_wp2
              go_region_held3 (fun w' => w'.cell? (adb.add j) = some (.int .i64 y) ∧ w'.cell? ad = some (.int .i64 v0)) (first | exact HS.out _ HB4.out | exact HS.out _ HD4.out | exact HS.out _ HB5.out) (first | (go_at_call 13; refine (ack_any W.heap.size g F4 2 _ _ KD4.out v0 y a HVI.out).mono ?_; rintro e w5 ⟨rfl, F5, k5, t5, _⟩; rw [HE.out.1]; rw [HE.out.2] at k5; have K5 := Lib.hid k5; have HB5 := Lib.hid (KD4.out.go HD4.out t5); clear k5 t5) | fail)
              go_wp2
              go_roundw
              case rel => exact ⟨j + 1, F5, by omega, by go_num, K5.out, HB5.out⟩
              case measure => simp [RowKit.intOf]; omega
          · obtain rfl : k = j := by omega
            have E3 := Lib.hid (again3 (n := z) (a := a) (G := G) HV0.out (by rw [HL.out]; exact hn2))
            have E4 := Lib.hid (again4 (n := z) (a := a) (v := v0) (vs := vs) (G := G))
            have c4 := HCA.out _ HB4.out
            go_wp2_with (fail)
            refine (ack_any W.heap.size g F4 2 _ _ K4.out v0 z a HVI.out).mono ?_
            rintro e w5 ⟨rfl, F5, k5, t5, _⟩
            rw [E3.out.1]
            rw [E3.out.2] at k5
            have K5 := Lib.hid k5
            have HB5 := Lib.hid (K4.out.go HB4.out t5)
            clear k5 t5 c4
            have c5 := HCA.out _ HB5.out
            go_wp2_with (fail)
            refine (ack_any W.heap.size g F5 2 _ _ K5.out v0 z a HVI.out).mono ?_
            rintro e w6 ⟨rfl, F6, k6, t6, _⟩
            rw [E4.out.1]
            rw [E4.out.2] at k6
            have K6 := Lib.hid k6
            have HB6 := Lib.hid (K5.out.go HB5.out t6)
            clear k6 t6 c5
            go_wp2_with (fail)
            refine (standing_any W.heap.size g F6 2 _ _ K6.out a).mono ?_
            rw [show stB 2 (G2 z a v0 vs G) a = true from st_self, if_pos rfl]
            rintro e w7 ⟨rfl, rfl⟩
            go_wp2_with (fail)
            refine (bvoters_any W.heap.size g F6 2 _ _ K6.out).mono ?_
            rw [show (if (G2 z a v0 vs G).on = true then sorted (G2 z a v0 vs G).vs else []) = sorted vs from rfl]
            rintro e w7 ⟨hb7, A7, c7, rfl, _⟩
            rw [show (sorted vs).length = n from by rw [sorted_len]; exact HL.out]
            have HB7 := Lib.hid (HB6.out.trans (hb7.mono HB6.out.size))
            have K7 := Lib.hid (K6.out.below hb7)
            clear hb7
            go_wp2
            go_roundw
            case rel => exact ⟨k + 1, F6, _, by omega, by go_num, K7.out, HB7.out, decide_eq_false (by show ¬ (10 * ((k + 1 : Nat) : Int)) ≤ a + 2 * 2; have := HA.out; omega)⟩
            case measure => simp [RowKit.intOf]; omega
    · obtain rfl : k = m := by omega
      go_wp2
      go_ret
      exact ⟨rfl, HB2.out⟩
theorem again_out0 (A B : Option Addr) (n c m d : Nat) (W : World) (h : n < 2) :
    Calls Try.prog 7 #[.slice A n c, .slice B m d] W (Says true W) := by
  have q : (n : Int) < 2 := by omega
  go_enter Try.func7, Try.ntmps7
  go_wp2_with (fail)
  refine (anchor_any _).mono ?_
  rintro e w0 ⟨rfl, hb0⟩
  have HB0 := Lib.hid hb0
  clear hb0
  go_wp2_with (fail)
  refine (bnew_yes 2 _ (by decide) (by decide)).mono ?_
  rintro e w1 ⟨g, F0, rfl, k1, hb1⟩
  have HB1 := Lib.hid (HB0.out.trans (hb1.mono HB0.out.size))
  clear k1 hb1
  go_wp2
  go_ret
  exact ⟨rfl, HB1.out⟩
theorem again_out1 (A B : Option Addr) (n c m d : Nat) (W : World) (h : 16 < n) :
    Calls Try.prog 7 #[.slice A n c, .slice B m d] W (Says true W) := by
  have q0 : decide ((n : Int) < 2) = false := by simp; omega
  have q : (16 : Int) < (n : Int) := by omega
  go_enter Try.func7, Try.ntmps7
  go_wp2_with (fail)
  refine (anchor_any _).mono ?_
  rintro e w0 ⟨rfl, hb0⟩
  have HB0 := Lib.hid hb0
  clear hb0
  go_wp2_with (fail)
  refine (bnew_yes 2 _ (by decide) (by decide)).mono ?_
  rintro e w1 ⟨g, F0, rfl, k1, hb1⟩
  have HB1 := Lib.hid (HB0.out.trans (hb1.mono HB0.out.size))
  clear k1 hb1
  go_wp2
  go_ret
  exact ⟨rfl, HB1.out⟩
theorem again_out2 (A B : Option Addr) (n c m d : Nat) (W : World) (h0 : 2 ≤ n) (h1 : n ≤ 16) (h : 30 < m) :
    Calls Try.prog 7 #[.slice A n c, .slice B m d] W (Says true W) := by
  have q0 : decide ((n : Int) < 2) = false := by simp; omega
  have q1 : decide ((16 : Int) < (n : Int)) = false := by simp; omega
  have q : (30 : Int) < (m : Int) := by omega
  go_enter Try.func7, Try.ntmps7
  go_wp2_with (fail)
  refine (anchor_any _).mono ?_
  rintro e w0 ⟨rfl, hb0⟩
  have HB0 := Lib.hid hb0
  clear hb0
  go_wp2_with (fail)
  refine (bnew_yes 2 _ (by decide) (by decide)).mono ?_
  rintro e w1 ⟨g, F0, rfl, k1, hb1⟩
  have HB1 := Lib.hid (HB0.out.trans (hb1.mono HB0.out.size))
  clear k1 hb1
  go_wp2
  go_ret
  exact ⟨rfl, HB1.out⟩
theorem again_any (A B : Option Addr) (n c m d : Nat) (vs es : List Int) (W : World) (hnc : n ≤ c) (hc : c ≤ 9223372036854775807) (hmd : m ≤ d) (hra : Arg W A n vs) (hrb : Arg W B m es) (hvs : ∀ z ∈ vs, -9223372036854775808 ≤ z ∧ z ≤ 9223372036854775807) :
    Calls Try.prog 7 #[.slice A n c, .slice B m d] W (Says true W) := by
  by_cases h0 : 2 ≤ n
  · by_cases h1 : n ≤ 16
    · by_cases h2 : m ≤ 30
      · exact again_in A B n c m d vs es W hnc hc hmd h0 h1 h2 hra hrb hvs
      · exact again_out2 A B n c m d W h0 h1 (by omega)
    · exact again_out1 A B n c m d W (by omega)
  · exact again_out0 A B n c m d W (by omega)
end Go.Proofs.Ytmjbacmaafbdlaa
