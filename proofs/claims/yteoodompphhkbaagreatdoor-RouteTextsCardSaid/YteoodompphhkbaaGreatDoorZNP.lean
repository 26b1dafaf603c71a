/-
  WHAT IS PROVED: what holds of a node's numbers, and that it stays through all that befalls a node: plain lemmas. No condition.
-/
import Derived.Test.YteoodompphhkbaaGreatDoorZNM
namespace Go.Proofs.YteoodompphhkbaaGreatDoor.Nod
open Go.RowKit

/-- what holds of a node's numbers -/
structure Ok (n : Nd) : Prop where
  id : 1 ≤ n.id ∧ n.id ≤ 4294967296
  tm : 2 ≤ n.T ∧ n.T ≤ 1048576
  time : 0 ≤ n.time ∧ n.time ≤ 274877906944
  ma : 0 ≤ n.ma ∧ n.ma ≤ 4294967296
  ep : Epo.okB n.ep = true
  off : 0 ≤ n.off ∧ n.off ≤ 281474976710656
  tab : K.C.okB n.tab = true
  self : n.R.s = n.id
  mem : ∀ m ∈ n.R.L, Ros.rightB m = true ∧ m.fa ≤ n.time
  plan : -1 ≤ n.plan ∧ n.plan ≤ 1099511627776
theorem zero_ok : K.C.okB K.C.Tab.zero = true := by decide +kernel
theorem claimT_ok {t : K.C.Tab} (id ep : Int) (s : Nat) : K.C.okB (claimT t id ep s) = true := by
  unfold claimT
  split
  · next h => exact K.C.claim_ok h
  · exact zero_ok
theorem dropT_ok {t : K.C.Tab} (id : Int) (s : Nat) : K.C.okB (dropT t id s) = true := by
  unfold dropT
  split
  · next h => exact K.C.drop_ok (by simp at h; exact h.1)
  · exact zero_ok
section
variable {n : Nd}
theorem Ok.claim (h : Ok n) (id ep : Int) (s : Nat) : Ok (n.claim id ep s) := { h with tab := claimT_ok id ep s }
theorem Ok.drop (h : Ok n) (id : Int) (s : Nat) : Ok (n.drop id s) := { h with tab := dropT_ok id s }
theorem Ok.eps (h : Ok n) {e : Epo.Ep} (he : Epo.okB e = true) : Ok { n with ep := e } := { h with ep := he }
theorem Ok.bump (h : Ok n) : Ok n.bump := by
  unfold Nd.bump
  split
  · next h0 =>
    refine h.eps ?_
    obtain ⟨h1, h2⟩ := Epo.stand_ok h0
    rw [(Epo.bump_yes h1 h2).1]
    rw [Epo.ok_iff] at h1 ⊢
    simp only
    omega
  · exact h
theorem Ok.anew (h : Ok n) : Ok n.anew := by
  unfold Nd.anew
  split
  · exact h.bump.claim _ _ _
  · exact h
/-- a member is set -/
theorem Ok.setM (h : Ok n) (hu : Ros.Up n.R.L) (m : Ros.Mb) (hm : m.fa ≤ n.time) : Ok (n.set m) := by
  have hs : (Ros.setR n.R m).s = n.R.s := by unfold Ros.setR; split <;> rfl
  refine { h with self := hs.trans h.self, mem := fun r hr => ?_ }
  show Ros.rightB r = true ∧ r.fa ≤ n.time
  have hr' : r ∈ (Ros.setR n.R m).L := hr
  unfold Ros.setR at hr'
  split at hr'
  · next he =>
    rcases (Ros.mem_ins hu).1 hr' with h1 | rfl
    · exact h.mem r h1.1
    · exact ⟨(Ros.setE_zero he).2, hm⟩
  · exact h.mem r hr'
theorem fresh_right (x : Int) : Ros.rightB ⟨x, 0, 0, 0, -1⟩ = true := by unfold Ros.rightB; simp
theorem Ok.addM (h : Ok n) (hu : Ros.Up n.R.L) (x : Int) : Ok { n with R := Ros.addR n.R x n.time } := by
  by_cases he : Ros.addE n.R x n.time = 0
  · have e := Ros.addR_ok he
    refine { h with self := ?_, mem := fun r hr => ?_ }
    · show (Ros.addR n.R x n.time).s = n.id
      rw [e]; exact h.self
    · show Ros.rightB r = true ∧ r.fa ≤ n.time
      have hr' : r ∈ (Ros.addR n.R x n.time).L := hr
      rw [e] at hr'
      rcases (Ros.mem_ins hu).1 hr' with h1 | rfl
      · exact h.mem r h1.1
      · exact ⟨fresh_right x, by have := h.time.1; show (-1 : Int) ≤ n.time; omega⟩
  · rw [Ros.addR_no he]; exact h
theorem Ok.at_ (h : Ok n) {t : Int} (ht : isNow t = true) : Ok (n.at_ t) := by
  unfold isNow at ht
  rw [decide_eq_true_eq] at ht
  have h1 := h.time
  refine { h with time := ?_, mem := fun r hr => ?_ }
  · show 0 ≤ max n.time t ∧ max n.time t ≤ 274877906944
    omega
  · have := h.mem r hr
    exact ⟨this.1, by show r.fa ≤ max n.time t; omega⟩
theorem Ok.clear (h : Ok n) : Ok n.clear := ⟨h.id, h.tm, h.time, (by decide : (0 : Int) ≤ 0 ∧ (0 : Int) ≤ 4294967296), h.ep, h.off, zero_ok, rfl, (fun r hr => by cases hr), (by decide : (-1 : Int) ≤ -1 ∧ (-1 : Int) ≤ 1099511627776)⟩
end
end Go.Proofs.YteoodompphhkbaaGreatDoor.Nod
