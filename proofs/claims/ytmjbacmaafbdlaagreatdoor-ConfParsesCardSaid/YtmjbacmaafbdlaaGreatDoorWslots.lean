/-
  WHAT IS PROVED: the contract of (State).withSlots. Conditions: the library's variables hold what is laid there; a line has less than 2^32 bytes.
-/
import Derived.Test.YtmjbacmaafbdlaaGreatDoorKnows
import Derived.Test.YtmjbacmaafbdlaaGreatDoorNums
import Derived.Test.YtmjbacmaafbdlaaGreatDoorSA
import Derived.Test.YtmjbacmaafbdlaaGreatDoorSRead
import Derived.Test.YtmjbacmaafbdlaaGreatDoorCA
namespace Go.Proofs.YtmjbacmaafbdlaaGreatDoor
open Go.RowKit C

/-- a State, and whether there is one, is handed back -/
def WithPost (o : Option Sv) (w : World) (e : Ending) (w' : World) : Prop :=
  Below w.heap.size w w' ∧ ((∃ s, o = some s ∧ e = .returned (.tuple #[.agg (stv s), .bool true])) ∨ (o = none ∧ e = .returned (.tuple #[.agg (stv Sv.zero), .bool false])))
/-- the table behind a line's slots -/
def wsP (T : Tab) (o ep : Int) (l : List UInt8) : Option Tab :=
  if (S.parseP (cut3 l).2.1).2 = 0 then (if goodB T o ep = true then some (claimP T o ep (S.parseP (cut3 l).2.1).1.testBit) else none) else none
theorem parseP_two (t : List UInt8) : (S.parseP t).1 < 18446744073709551616 ∧ ((S.parseP t).2 = 0 ∨ (S.parseP t).2 = 60) := by
  cases h : S.refParse t with
  | none => rw [S.parse_none h]; exact ⟨by decide, .inr rfl⟩
  | some L => rw [(S.parse_some h).1]; exact ⟨S.set_lt _, .inl rfl⟩
theorem two_sts {w w1 : World} {s u : Sv} (hb1 : Below ((w.alloc (.cells (stv s) 30)).alloc (.cells (stv u) 30)).heap.size ((w.alloc (.cells (stv s) 30)).alloc (.cells (stv u) 30)) w1) :
    StAt w1 w.heap.size s ∧ StAt w1 (w.heap.size + 1) u ∧ Below w.heap.size w w1 ∧ w.heap.size + 1 < w1.heap.size := by
  have h1 : StAt w1 (w.heap.size + 1) u := (show StAt ((w.alloc (.cells (stv s) 30)).alloc (.cells (stv u) 30)) (w.heap.size + 1) u by
    have := StAt.new (w.alloc (.cells (stv s) 30)) u
    simpa using this).later hb1
  exact ⟨((StAt.new w s).alloc _).later hb1, h1, (((Below.refl _ w).alloc (Nat.le_refl _) _).alloc (by simp) _).trans (hb1.mono (by simp; omega)), h1.lt⟩
theorem env_two {w w1 : World} {a b : Obj} (hE : Env w) (hb1 : Below ((w.alloc a).alloc b).heap.size ((w.alloc a).alloc b) w1) : Env w1 := ((hE.alloc a).alloc b).below hb1

set_option maxRecDepth 100000 in
set_option maxHeartbeats 2000000 in
theorem withslots_any (s : Sv) (o ep : Int) (l : List UInt8) (hl : l.length ≤ 4294967200) (w : World) (hE : Env w) :
    Calls Tryz.prog 48 #[.agg (stv s), .int .i64 o, .int .i64 ep, .string (str l)] w (WithPost ((wsP s.t o ep l).map (withT s)) w) := by
  have HE2 : Hid (Env ((w.alloc (.cells (stv s) 30)).alloc (.cells (stv Sv.zero) 30))) := Lib.hid ((hE.alloc _).alloc _)
  have HE0 := Lib.hid hE
  clear hE
  have HW : Hid (wsP s.t o ep l = if (S.parseP (cut3 l).2.1).2 = 0 then (if goodB s.t o ep = true then some (claimP s.t o ep (S.parseP (cut3 l).2.1).1.testBit) else none) else none) := Lib.hid rfl
  have hcl := cut3_le l
  obtain ⟨hp1, hp2⟩ := parseP_two (cut3 l).2.1
  generalize wsP s.t o ep l = R at *
  go_enter Tryz.func48, Tryz.ntmps48
  go_wp2_with (first | refine st_alloc rfl ?_)
  refine (cut3_any l hl _ HE2.out).mono ?_
  rintro e w1 ⟨rfl, hb1⟩
  have HEW1 := Lib.hid (env_two HE0.out hb1)
  obtain ⟨k1, k2, hb2, hlt2⟩ := two_sts hb1
  have K1 := Lib.hid k1
  have K2 := Lib.hid k2
  have HB2 := Lib.hid hb2
  clear hb1 k1 k2 hb2
  generalize cut3 l = cc at *
  obtain ⟨c1, c2, c3⟩ := cc
  simp only at hcl hp1 hp2 HW ⊢
  go_wp2_with (fail)
  refine (S.parse_any c2 (by omega) _ HEW1.out.1).mono ?_
  rintro e w2 ⟨rfl, hb3⟩
  have K1b := Lib.hid (K1.out.later hb3)
  have K2b := Lib.hid (K2.out.later hb3)
  have HB3 := Lib.hid (HB2.out.trans (hb3.mono HB2.out.size))
  have HLT3 : Hid (w.heap.size + 1 < w2.heap.size) := Lib.hid (Nat.lt_of_lt_of_le hlt2 hb3.size)
  clear hb3 K1 K2 hlt2
  generalize S.parseP c2 = pp at *
  obtain ⟨p1, p2⟩ := pp
  simp only at hp1 hp2 HW ⊢
  rcases hp2 with rfl | rfl
  · have HW2 : Hid (R = if goodB s.t o ep = true then some (claimP s.t o ep p1.testBit) else none) := Lib.hid (by rw [HW.out, if_pos rfl])
    clear HW
    by_cases hg : goodB s.t o ep = true
    · have HW3 : Hid (R = some (claimP s.t o ep p1.testBit)) := Lib.hid (by rw [HW2.out, if_pos hg])
      clear HW2
      go_wp2_with (first | refine st_table rfl K1b.out rfl ?_)
      refine (claim_yes s.t o ep p1 hp1 hg _).mono ?_
      rintro e w3 ⟨rfl, hb4⟩
      have K1c := Lib.hid (K1b.out.later hb4)
      have K2c := Lib.hid (K2b.out.later hb4)
      have HB4 := Lib.hid (HB3.out.trans (hb4.mono HB3.out.size))
      clear hb4 K1b K2b
      have K1d := Lib.hid (K1c.out.putT (claimP s.t o ep p1.testBit))
      have K2d := Lib.hid (K2c.out.cells_far (g := w.heap.size) (by omega) 6 (tb (claimP s.t o ep p1.testBit)).toList)
      have HB5 := Lib.hid (below_cells (Nat.le_refl _) (tb (claimP s.t o ep p1.testBit)).toList 6 HB4.out)
      go_wp2_with (first | refine st_put_table rfl rfl K1c.out rfl ?_ | (refine st_load rfl K1d.out rfl ?_) | (refine st_store rfl rfl K2d.out rfl ?_))
      exact bodyPost_ret (results_st rfl _ _ (w.heap.size + 1) _ rfl (K2d.out.store _)) rfl ⟨below_row HB5.out (by omega) _, .inl ⟨_, by rw [HW3.out]; rfl, rfl⟩⟩
    · have hg' : goodB s.t o ep = false := by simpa using hg
      have HW3 : Hid (R = none) := Lib.hid (by rw [HW2.out, if_neg hg])
      clear HW2 hg
      go_wp2_with (first | refine st_table rfl K1b.out rfl ?_)
      refine (claim_no s.t o ep p1 hg' _).mono ?_
      rintro e w3 ⟨rfl, hb4⟩
      have K1c := Lib.hid (K1b.out.later hb4)
      have K2c := Lib.hid (K2b.out.later hb4)
      have HB4 := Lib.hid (HB3.out.trans (hb4.mono HB3.out.size))
      clear hb4 K1b K2b
      have K2d := Lib.hid (K2c.out.cells_far (g := w.heap.size) (by omega) 6 (tb Tab.zero).toList)
      have HB5 := Lib.hid (below_cells (Nat.le_refl _) (tb Tab.zero).toList 6 HB4.out)
      go_wp2_with (first | refine st_put_table rfl rfl K1c.out rfl ?_ | (refine st_build rfl ?_) | (refine st_store rfl rfl K2d.out rfl ?_))
      exact bodyPost_ret (results_st rfl _ _ (w.heap.size + 1) _ rfl (K2d.out.store _)) rfl ⟨below_row HB5.out (by omega) _, .inr ⟨by rw [HW3.out]; rfl, rfl⟩⟩
  · have HW3 : Hid (R = none) := Lib.hid (by rw [HW.out, if_neg (by decide)])
    clear HW
    go_wp2_with (first | refine st_build rfl ?_ | (refine st_store rfl rfl K2b.out rfl ?_))
    exact bodyPost_ret (results_st rfl _ _ (w.heap.size + 1) _ rfl (K2b.out.store _)) rfl ⟨below_row HB3.out (by omega) _, .inr ⟨by rw [HW3.out]; rfl, rfl⟩⟩
end Go.Proofs.YtmjbacmaafbdlaaGreatDoor
