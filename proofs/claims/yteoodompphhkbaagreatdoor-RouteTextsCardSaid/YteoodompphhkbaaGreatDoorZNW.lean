/-
  WHAT IS PROVED: contracts of a node's small functions. Condition: the object is a node.
-/
import Derived.Test.YteoodompphhkbaaGreatDoorZNQ
namespace Go.Proofs.YteoodompphhkbaaGreatDoor.Nod
set_option maxRecDepth 100000
open Go.RowKit Go.Lib Go.Maps
open Go.Proofs.YteoodompphhkbaaGreatDoor.Ros (Turn Sub Rd Blk no zints)

theorem isnow_any (t : Int) (w : World) : Calls Tryz.prog 20 #[.int .i64 t] w fun e w' => e = .returned (.bool (isNow t)) ∧ w = w' := by
  by_cases h1 : 0 ≤ t
  · by_cases h2 : t ≤ 274877906944
    · have hb : isNow t = true := decide_eq_true ⟨h1, h2⟩
      go_enter Tryz.func20, Tryz.ntmps20
      go_wp2
      go_ret
      first | exact ⟨rfl, rfl⟩ | exact ⟨by rw [hb]; rfl, rfl⟩
    · have hb : isNow t = false := decide_eq_false (by omega)
      go_enter Tryz.func20, Tryz.ntmps20
      go_wp2
      go_ret
      first | exact ⟨rfl, rfl⟩ | exact ⟨by rw [hb]; rfl, rfl⟩
  · have hb : isNow t = false := decide_eq_false (by omega)
    go_enter Tryz.func20, Tryz.ntmps20
    go_wp2
    go_ret
    first | exact ⟨rfl, rfl⟩ | exact ⟨by rw [hb]; rfl, rfl⟩
section
variable (C g d : Nat) (F : Nat → Prop) (n : Nd) (w : World) (h : NdAt w C g F d n)
include h
theorem self_any : Calls Tryz.prog 79 #[.pointer (some ⟨g, 0, none⟩)] w fun e w' => e = .returned (.int .i64 n.id) ∧ w = w' := by
  obtain ⟨c0, _⟩ := h.cells
  clear h
  go_enter Tryz.func79, Tryz.ntmps79
  go_wp2
  go_ret
  exact ⟨rfl, rfl⟩
theorem nclaim_any (id ep : Int) (s : Nat) (hs : s < 18446744073709551616) : Calls Tryz.prog 146 #[.pointer (some ⟨g, 0, none⟩), .int .i64 id, .int .i64 ep, .int .u64 (s : Int)] w fun e w' => e = .returned (.tuple #[]) ∧ Then w w' C g F d (n.claim id ep s) := by
  have HN := Lib.hid h
  obtain ⟨m, f, hc⟩ := claimT_any n.tab id ep s hs
  have HC := Lib.hid hc
  clear h hc
  go_enter Tryz.func146, Tryz.ntmps146
  go_wp2_with (refine nd_load rfl HN.out rfl ?_)
  refine (HC.out _).mono ?_
  rintro e w1 ⟨rfl, hb⟩
  have HN1 := Lib.hid (HN.out.below hb)
  have HB := Lib.hid hb
  clear hb
  go_wp2_with (refine nd_store rfl rfl HN1.out rfl ?_)
  go_end0
  exact ⟨rfl, F, HN1.out.putTab _ (claimT_ok _ _ _), (Turn.of_below HB.out F).trans (turn_setCells _ _ _ _ _ HN.out.fg) (Sub.refl _ _), Sub.refl _ _⟩
end
end Go.Proofs.YteoodompphhkbaaGreatDoor.Nod
