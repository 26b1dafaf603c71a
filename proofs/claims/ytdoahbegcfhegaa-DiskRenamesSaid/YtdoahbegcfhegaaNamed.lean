/-
  WHAT IS PROVED: the law DiskRenames answers true for all bytes and all names, which read behind the call as before it. No condition beyond those of the given row.
-/
import Derived.Test.YtdoahbegcfhegaaApart
namespace Go.Proofs.Ytdoahbegcfhegaa
open Go.RowKit Go.Lib Go.Sort

set_option maxRecDepth 100000 in
set_option maxHeartbeats 4000000 in
theorem named_any (s : List UInt8) (w : World) (hs : s.length ≤ 1000) :
    Calls Try.prog 18 #[.string (str s)] w fun e w' => e = .returned (.bool (nameB s)) ∧ w' = w := by
  obtain ⟨n, hn⟩ : ∃ n, (str s).size = n := ⟨_, rfl⟩
  have hl : s.length = n := by rw [← hn, str_size]
  have HN := Lib.hid hn
  have HL := Lib.hid hl
  clear hl
  go_enter Try.func18, Try.ntmps18
  go_wp2
  go_loopw [6] (fun i wr => ∃ k : Nat, k ≤ n ∧ i = .int .i64 (k : Int) ∧ wr = w ∧ ∀ (j : Nat) (c : UInt8), j < k → s[j]? = some c → low c = true) (fun i _ => n - (intOf i).toNat)
  case atStart => exact ⟨0, by omega, rfl, rfl, fun j c h => absurd h (by omega)⟩
  case round =>
    obtain ⟨k, hk, rfl, rfl, hlow⟩ := hrel
    have HLOW := Lib.hid hlow
    clear hlow
    by_cases hkn : k < n
    · have hkl : k < s.length := by rw [HL.out]; exact hkn
      obtain ⟨c, hc⟩ : ∃ c, s[k]? = some c := ⟨_, List.getElem?_eq_getElem hkl⟩
      have hidx : ∀ h, (str s)[k]'h = c := fun h => by
        obtain ⟨h, e⟩ := List.getElem?_eq_some_iff.1 hc
        rw [← e]; rfl
      have q0 : (0 : Int) ≤ (k : Int) := by omega
      have q1 : (k : Int) < (n : Int) := by omega
      have HC := Lib.hid hc
      obtain ⟨z, hz⟩ : ∃ z : Int, (c.toNat : Int) = z := ⟨_, rfl⟩
      have HZ := Lib.hid hz
      clear hc
      by_cases z0 : z < 97
      · have hno : nameB s = false := nameB_no HC.out (by have := HZ.out; unfold low; simp; omega)
        have HNO := Lib.hid hno
        clear hno
        go_wp2
        go_ret
        exact ⟨by rw [HNO.out]; rfl, rfl⟩
      · by_cases z1 : 122 < z
        · have hno : nameB s = false := nameB_no HC.out (by have := HZ.out; unfold low; simp; omega)
          have HNO := Lib.hid hno
          clear hno
          go_wp2
          go_ret
          exact ⟨by rw [HNO.out]; rfl, rfl⟩
        · go_wp2
          go_roundw
          case rel =>
            refine ⟨k + 1, by omega, by go_num, by first | rfl | trivial, fun j c' hj hc' => ?_⟩
            rcases Nat.lt_or_ge j k with h | h
            · exact HLOW.out j c' h hc'
            · obtain rfl : j = k := by omega
              rw [HC.out] at hc'
              injection hc' with hc'
              subst hc'
              have := HZ.out
              unfold low
              simp
              omega
          case measure => simp [intOf]; omega
    · obtain rfl : k = n := by omega
      have hb : nameB s = (decide (1 ≤ (k : Int)) && decide ((k : Int) ≤ 16)) := by
        unfold nameB
        have : s.all (fun c => decide (97 ≤ c.toNat) && decide (c.toNat ≤ 122)) = true := List.all_eq_true.2 fun c hc => by
          obtain ⟨i, hi, e⟩ := List.mem_iff_getElem.1 hc
          exact HLOW.out i c (by rw [← HL.out]; exact hi) (by rw [List.getElem?_eq_getElem hi, e])
        rw [this, HL.out, Bool.and_true]
        congr 1 <;> exact decide_eq_decide.2 (by omega)
      by_cases g0 : (1 : Int) ≤ (k : Int)
      · by_cases g1 : (k : Int) ≤ 16
        · have HV : Hid (nameB s = true) := by show _ = _; rw [hb]; simp [g1]; omega
          clear hb
          go_wp2
          go_ret
          exact ⟨by rw [HV.out]; rfl, rfl⟩
        · have HV : Hid (nameB s = false) := by show _ = _; rw [hb]; simp; omega
          clear hb
          go_wp2
          go_ret
          exact ⟨by rw [HV.out]; rfl, rfl⟩
      · have HV : Hid (nameB s = false) := by show _ = _; rw [hb]; simp; omega
        clear hb
        go_wp2
        go_ret
        exact ⟨by rw [HV.out]; rfl, rfl⟩
end Go.Proofs.Ytdoahbegcfhegaa
