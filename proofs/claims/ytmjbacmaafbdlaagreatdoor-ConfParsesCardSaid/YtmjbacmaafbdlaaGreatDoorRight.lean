/-
  WHAT IS PROVED: contracts of (State).rightTable and (State).Right. Condition: the known ones lie in memory.
-/
import Derived.Test.YtmjbacmaafbdlaaGreatDoorKnows
import Derived.Test.YtmjbacmaafbdlaaGreatDoorCOwn
import Derived.Test.YtmjbacmaafbdlaaGreatDoorCA
namespace Go.Proofs.YtmjbacmaafbdlaaGreatDoor
open Go.RowKit C

/-- are the owners those who are known -/
def ownB (i : Int) (l : List Kn) (t : Tab) : Bool := (ownersL t).all fun o => o == i || anyB l o
def rtB (s : Sv) (l : List Kn) : Bool := okB s.t && ownB s.i l s.t
theorem own_no {i : Int} {l : List Kn} {t : Tab} {o : Int} (ho : o ∈ ownersL t) (h1 : o ≠ i) (h2 : anyB l o = false) : ownB i l t = false := by
  unfold ownB
  rw [List.all_eq_false]
  exact ⟨o, ho, by simp [h1, h2]⟩
theorem own_yes {i : Int} {l : List Kn} {t : Tab} (h : ∀ (j : Nat) (o : Int), (ownersL t)[j]? = some o → (o == i || anyB l o) = true) : ownB i l t = true := by
  unfold ownB
  rw [List.all_eq_true]
  intro o ho
  obtain ⟨j, hj, rfl⟩ := List.getElem_of_mem ho
  exact h j _ (List.getElem?_eq_getElem hj)
theorem owners_len (t : Tab) : (ownersL t).length ≤ 64 := by
  unfold ownersL
  have h1 := Lib.compact_length_le (sorted (ownTo t 64))
  have h2 := sorted_len (ownTo t 64)
  have h3 := ownTo_len t 64
  omega

set_option maxRecDepth 100000 in
set_option maxHeartbeats 1000000 in
theorem righttable_any (s : Sv) (l : List Kn) (w : World) (hl : KnAt w s.a s.n l) (hN : s.n ≤ 9223372036854775807) : Calls Tryz.prog 35 #[.agg (stv s)] w (Says (rtB s l) w) := by
  have HS : Hid (StAt (w.alloc (.cells (stv s) 30)) w.heap.size s) := Lib.hid (StAt.new w s)
  have HB0 : Hid (Below w.heap.size w (w.alloc (.cells (stv s) 30))) := Lib.hid ((Below.refl _ w).alloc (Nat.le_refl _) _)
  have HL := Lib.hid (hl.up HB0.out)
  have HN := Lib.hid hN
  clear hl hN
  obtain ⟨b1, B1⟩ : ∃ b, Hid (okB s.t = b) := ⟨_, Lib.hid rfl⟩
  have HR : Hid (rtB s l = (b1 && ownB s.i l s.t)) := Lib.hid (by rw [← B1.out]; rfl)
  generalize rtB s l = R at *
  go_enter Tryz.func35, Tryz.ntmps35
  go_wp2_with (first | refine st_table rfl HS.out rfl ?_)
  refine (right_any s.t _).mono ?_
  rintro e w1 ⟨rfl, hb1⟩
  have K1 := Lib.hid (HS.out.later hb1)
  have KB := Lib.hid (HB0.out.trans (hb1.mono HB0.out.size))
  have KL := Lib.hid (HL.out.below hb1)
  clear hb1 HS HB0 HL
  rw [B1.out]
  cases b1
  · go_wp2
    go_ret
    exact ⟨by rw [HR.out]; rfl, KB.out⟩
  · have HR2 : Hid (R = ownB s.i l s.t) := Lib.hid (by rw [HR.out]; rfl)
    clear HR
    go_wp2_with (first | refine st_table rfl K1.out rfl ?_)
    refine (owners_any s.t _).mono ?_
    rintro e w2 ⟨hb2, A2, c2, rfl, hnc, hcm, hrd⟩
    have L1 := Lib.hid (K1.out.later hb2)
    have LB := Lib.hid (KB.out.trans (hb2.mono KB.out.size))
    have LL := Lib.hid (KL.out.below hb2)
    have LR := Lib.hid (hrd w.heap.size (.inr K1.out.lt))
    clear hb2 hrd K1 KB KL
    have HNO : Hid (∀ o, o ∈ ownersL s.t → o ≠ s.i → anyB l o = false → R = false) := Lib.hid fun o h1 h2 h3 => by rw [HR2.out]; exact own_no h1 h2 h3
    have HYE : Hid ((∀ (j : Nat) (o : Int), (ownersL s.t)[j]? = some o → (o == s.i || anyB l o) = true) → R = true) := Lib.hid fun h => by rw [HR2.out]; exact own_yes h
    have hle := owners_len s.t
    generalize ownersL s.t = L at *
    go_wp2
    go_loopw [13] (fun i wr => ∃ k : Nat, k ≤ L.length ∧ i = .int .i64 k ∧ Hid (Below w2.heap.size w2 wr) ∧ Hid (∀ (j : Nat) (o : Int), j < k → L[j]? = some o → (o == s.i || anyB l o) = true)) (fun i _ => L.length - (intOf i).toNat)
    case atStart => exact ⟨0, by omega, rfl, Lib.hid (Below.refl _ _), Lib.hid fun j _ hj => absurd hj (by omega)⟩
    case round =>
      obtain ⟨k, hk, rfl, hb, hall⟩ := hrel
      by_cases hlt : k < L.length
      · obtain ⟨ad, u, rfl, hu, hc⟩ := (LR.out.below hb.out).at_ hlt
        obtain ⟨o, ho, rfl⟩ := zints_at hu
        clear hu
        have HO := Lib.hid ho
        clear ho
        have M1 := Lib.hid (L1.out.later hb.out)
        obtain ⟨c0, _⟩ := M1.out.box
        by_cases hi : o = s.i
        · have hq : (o == s.i) = true := by simpa using hi
          have hq2 : (o != s.i) = false := by simpa using hi
          have HY : Hid ((o == s.i || anyB l o) = true) := Lib.hid (by rw [hq]; rfl)
          subst hi
          clear hq hq2
          go_wp2
          go_roundw
          case rel => exact ⟨k + 1, by omega, by go_num, hb, Lib.hid fun j o' hj hjo => by
            rcases Nat.lt_or_ge j k with h | h
            · exact hall.out j o' h hjo
            · obtain rfl : k = j := by omega
              rw [HO.out] at hjo; injection hjo with hjo; rw [← hjo]; exact HY.out⟩
          case measure => simp [intOf]; omega
        · have hq : (o == s.i) = false := by simpa using hi
          have hq2 : (o != s.i) = true := by simpa using hi
          have HI := Lib.hid hi
          clear hi
          obtain ⟨b2, B2⟩ : ∃ b, Hid (anyB l o = b) := ⟨_, Lib.hid rfl⟩
          go_wp2_with (first | refine st_load rfl M1.out rfl ?_)
          refine (knows_any s l o _ (LL.out.below hb.out) HN.out).mono ?_
          rintro e w3 ⟨rfl, hb3⟩
          have HB3 := Lib.hid (hb.out.trans (hb3.mono hb.out.size))
          clear hb3 hc
          rw [B2.out]
          cases b2
          · go_wp2
            go_ret
            exact ⟨by rw [HNO.out o (List.mem_of_getElem? HO.out) HI.out B2.out]; rfl, LB.out.trans (HB3.out.mono LB.out.size)⟩
          · go_wp2
            go_roundw
            case rel => exact ⟨k + 1, by omega, by go_num, HB3, Lib.hid fun j o' hj hjo => by
              rcases Nat.lt_or_ge j k with h | h
              · exact hall.out j o' h hjo
              · obtain rfl : k = j := by omega
                rw [HO.out] at hjo; injection hjo with hjo; rw [← hjo, B2.out]; simp⟩
            case measure => simp [intOf]; omega
      · obtain rfl : k = L.length := by omega
        have HY := Lib.hid (HYE.out fun j o hj => hall.out j o (List.getElem?_eq_some_iff.1 hj).1 hj)
        go_wp2
        go_ret
        exact ⟨by rw [HY.out]; rfl, LB.out.trans (hb.out.mono LB.out.size)⟩

/-- is a state right -/
def okS (s : Sv) (l : List Kn) : Bool := betB 1 4294967296 s.i && folB s.i s.m && epsB s.c s.v s.f && fewB s l && rtB s l
set_option maxRecDepth 100000 in
set_option maxHeartbeats 1000000 in
theorem sright_any (s : Sv) (l : List Kn) (w : World) (hl : KnAt w s.a s.n l) (hN : s.n ≤ 9223372036854775807) : Calls Tryz.prog 15 #[.agg (stv s)] w (Says (okS s l) w) := by
  have HS : Hid (StAt (w.alloc (.cells (stv s) 30)) w.heap.size s) := Lib.hid (StAt.new w s)
  have HB0 : Hid (Below w.heap.size w (w.alloc (.cells (stv s) 30))) := Lib.hid ((Below.refl _ w).alloc (Nat.le_refl _) _)
  have HL := Lib.hid (hl.up HB0.out)
  have HN := Lib.hid hN
  clear hl hN
  obtain ⟨b1, B1⟩ : ∃ b, Hid (betB 1 4294967296 s.i = b) := ⟨_, Lib.hid rfl⟩
  obtain ⟨b2, B2⟩ : ∃ b, Hid (folB s.i s.m = b) := ⟨_, Lib.hid rfl⟩
  obtain ⟨b3, B3⟩ : ∃ b, Hid (epsB s.c s.v s.f = b) := ⟨_, Lib.hid rfl⟩
  obtain ⟨b4, B4⟩ : ∃ b, Hid (fewB s l = b) := ⟨_, Lib.hid rfl⟩
  obtain ⟨b5, B5⟩ : ∃ b, Hid (rtB s l = b) := ⟨_, Lib.hid rfl⟩
  have HX : Hid (okS s l = (b1 && b2 && b3 && b4 && b5)) := Lib.hid (by rw [← B1.out, ← B2.out, ← B3.out, ← B4.out, ← B5.out]; rfl)
  generalize okS s l = R at *
  obtain ⟨c0, c1, c2, c3, c4, c5⟩ := HS.out.box
  go_enter Tryz.func15, Tryz.ntmps15
  go_wp2_with (fail)
  refine (cid_any _ _).mono ?_
  rintro e w1 ⟨rfl, rfl⟩
  rw [B1.out]
  cases b1
  · go_wp2
    go_ret
    exact ⟨by rw [HX.out]; rfl, HB0.out⟩
  · go_wp2_with (fail)
    refine (fol_any _ _ _).mono ?_
    rintro e w1 ⟨rfl, rfl⟩
    rw [B2.out]
    cases b2
    · go_wp2
      go_ret
      exact ⟨by rw [HX.out]; rfl, HB0.out⟩
    · go_wp2_with (fail)
      refine (eps_any _ _ _ _).mono ?_
      rintro e w1 ⟨rfl, hb1⟩
      have K1 := Lib.hid (HS.out.later hb1)
      have KB := Lib.hid (HB0.out.trans (hb1.mono HB0.out.size))
      have KL := Lib.hid (HL.out.below hb1)
      clear hb1 c0 c1 c2 c3 c4 c5
      rw [B3.out]
      cases b3
      · go_wp2
        go_ret
        exact ⟨by rw [HX.out]; rfl, KB.out⟩
      · go_wp2_with (first | refine st_load rfl K1.out rfl ?_)
        refine (rightknown_any s l _ KL.out).mono ?_
        rintro e w2 ⟨rfl, hb2⟩
        have L1 := Lib.hid (K1.out.later hb2)
        have LB := Lib.hid (KB.out.trans (hb2.mono KB.out.size))
        have LL := Lib.hid (KL.out.below hb2)
        clear hb2
        rw [B4.out]
        cases b4
        · go_wp2
          go_ret
          exact ⟨by rw [HX.out]; rfl, LB.out⟩
        · go_wp2_with (first | refine st_load rfl L1.out rfl ?_)
          refine (righttable_any s l _ LL.out HN.out).mono ?_
          rintro e w3 ⟨rfl, hb3⟩
          rw [B5.out]
          cases b5
          · go_wp2
            go_ret
            exact ⟨by rw [HX.out]; rfl, LB.out.trans (hb3.mono LB.out.size)⟩
          · go_wp2
            go_ret
            exact ⟨by rw [HX.out]; rfl, LB.out.trans (hb3.mono LB.out.size)⟩
end Go.Proofs.YtmjbacmaafbdlaaGreatDoor
