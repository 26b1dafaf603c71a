/-
  WHAT IS PROVED: what a save of a state and a load do to a disk that a state is kept on, plain facts. No condition.
-/
import Derived.Test.YtijkdibccgdomaaGreatDoorKA
import Derived.Test.YtijkdibccgdomaaGreatDoorLen
namespace Go.Proofs.YtijkdibccgdomaaGreatDoor.Dsk
open C

def saveD (S : Ds) (d : Dt) : Int × Ds := if okD d = true then saveT S (txD d) else (10, S)
/-- what a load answers -/
def loadD (S : Ds) : Int × Option Dt :=
  if readE S nSt ≠ 0 then (readE S nSt, none) else match parseD (readB S nSt) with
    | some d => (0, some d)
    | none => (60, none)

/-! ### a load -/
theorem load_kept {S : Ds} {d : Dt} (h : Kept S.fs (some (txD d))) (hd : S.down = false) (ho : okD d = true) : ∃ d', loadD S = (0, some d') ∧ likeD d' d := by
  obtain ⟨d', h1, h2⟩ := parse_tx ho
  have hr : readE S nSt = 0 := by
    unfold readE
    rw [if_neg (by rw [hd]; simp), if_neg (by rw [h.st]; simp)]
  have hb : readB S nSt = txD d := by
    unfold readB
    rw [hr, if_pos rfl, h.txt _ rfl]
  refine ⟨d', ?_, h2⟩
  unfold loadD
  rw [hr, if_neg (by simp), hb, h1]
theorem load_none {S : Ds} (h : Kept S.fs none) (hd : S.down = false) : loadD S = (52, none) := by
  have hr : readE S nSt = 52 := by
    unfold readE
    rw [if_neg (by rw [hd]; simp), if_pos (by rw [h.st]; rfl)]
  unfold loadD
  rw [hr, if_pos (by simp)]
end Go.Proofs.YtijkdibccgdomaaGreatDoor.Dsk
