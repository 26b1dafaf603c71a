/-
  WHAT IS PROVED: contract of the function that tells what is wrong with bytes (the program's). Condition: the bytes are there.
-/
import Derived.Test.YtneanlffllejnaaEight
import Derived.Test.YtneanlffllejnaaBytesEq
import Derived.Test.YtneanlffllejnaaSec
import Derived.Test.YtneanlffllejnaaCells
import Derived.BigQuiet
import Derived.Deep.DeepCutAuto
import Derived.Deep.RegionHeld3
namespace Go.Proofs.Ytneanlffllejnaa
open Go.RowKit Go.Lib

set_option maxRecDepth 100000 in
set_option maxHeartbeats 600000 in
theorem check_any_in (c M : Nat) (ad : Addr) (cap : Nat) (l : List UInt8) (w : World) (hc3 : c ≤ 3) (hM : M = 77 + 9 * c) (n : Nat) (hn : n = M + 2) (hc : n ≤ cap) (hcm : cap ≤ 9223372036854775807) (hr : Reads w w.heap.size (some ad) n (bs l)) {b3 : Nat}
    (c0 : w.cell? ad = some (.int .u8 71)) (c1 : w.cell? ⟨ad.block, ad.off + 1, none⟩ = some (.int .u8 86)) (c2 : w.cell? ⟨ad.block, ad.off + 2, none⟩ = some (.int .u8 1)) (c3 : w.cell? ⟨ad.block, ad.off + 3, none⟩ = some (.int .u8 (b3 : Int))) (hk : isKd (b3 : Int) = true) (hk1 : 1 ≤ b3) (hk2 : b3 ≤ 7)
    (c76 : w.cell? ⟨ad.block, ad.off + 76, none⟩ = some (.int .u8 (c : Int))) (hchk : chk l = if l.drop M = two (crc 0 (l.take M)) then 0 else 14) :
    Calls Try.prog 32 #[.slice (some ad) n cap] w fun e w' => e = .returned (.int .i64 (chk l)) ∧ Below w.heap.size w w' := by
  have HK := Lib.hid hk
  obtain ⟨q, HQ⟩ : ∃ q, Hid (eqB (l.drop M) (two (crc 0 (l.take M))) = q) := ⟨_, Lib.hid rfl⟩
  have HCH : Hid (chk l = if q = true then 0 else 14) := by
    show _ = _
    rw [hchk, ← HQ.out]
    simp only [eqB_iff]
  have k0 : (0 : Int) ≤ (M : Int) := by omega
  have k1 : (M : Int) ≤ (n : Int) := by omega
  have k2 : (n : Int) ≤ (cap : Int) := by omega
  have k3 : (M : Int) ≤ (cap : Int) := by omega
  have hck : ¬ cap = M := by omega
  have k4 : ¬ ((n : Int) < 77) := by omega
  have k5 : ¬ ((n : Int) < 4) := by omega
  have k6 : ¬ ((n : Int) < 77 + (c : Int) * 9 + 2) := by omega
  have k7 : ¬ (77 + (c : Int) * 9 + 2 < (n : Int)) := by omega
  have HMC : Hid ((77 : Int) + (c : Int) * 9 = (M : Int)) := by show _ = _; omega
  have hrt : Reads w w.heap.size (some ad) M (bs (l.take M)) := by
    have := hr.take (k := M) (by omega)
    rwa [show (bs l).take M = bs (l.take M) by unfold bs; rw [List.map_take]] at this
  have hrd : Reads w w.heap.size (some (ad.add M)) (n - M) (bs (l.drop M)) := by
    have := hr.cut (k := M) (cap := cap) (by omega) hc
    rw [if_neg hck] at this
    rwa [show (bs l).drop M = bs (l.drop M) by unfold bs; rw [List.map_drop]] at this
  have HRT := Lib.hid hrt
  have HRD := Lib.hid hrd
  have HN := Lib.hid hn
  have HM := Lib.hid hM
  clear hk hchk hrt hrd hr hn hM
  go_enter Try.func32, Try.ntmps32
  go_upto_region 16 with (go_at_call 23; refine (kind_any _ _).mono ?_; rintro e w' ⟨rfl, rfl⟩; rw [HK.out])
  rw [HMC.out]
  go_region_held3 (fun _ => True) (first | exact trivial) (first | (go_at_call 22; refine (wsum_any (some ad) M cap (l.take M) w.drew (by have := HM.out; omega) (show Reads w.drew w.drew.heap.size (some ad) M (bs (l.take M)) from HRT.out)).mono ?_; rintro e w2 ⟨b2', rfl, hr2, hb2⟩; have hrd2 := (show Reads w.drew w.drew.heap.size (some (ad.add M)) (n - M) (bs (l.drop M)) from HRD.out).below hb2) | (go_at_call 44; refine (equal_any _ _ (n - M) (cap - M) 2 2 _ _ (l.drop M) (two (crc 0 (l.take M))) _ hrd2 hr2).mono ?_; rintro e w3 ⟨rfl, rfl⟩; rw [HQ.out]) | fail)
  have hb2' : Below w.heap.size w w2 := (Below.refl w.heap.size w).drew.trans hb2
  cases q
  all_goals
    go_wp2
    go_ret
    exact ⟨by rw [HCH.out]; rfl, hb2'⟩
set_option maxRecDepth 100000 in
set_option maxHeartbeats 2000000 in
theorem check_any (A : Option Addr) (n cap : Nat) (l : List UInt8) (w : World) (hl : l.length = n) (hc : n ≤ cap) (hcm : cap ≤ 9223372036854775807) (hn : n ≤ 1000000) (hr : Reads w w.heap.size A n (bs l)) :
    Calls Try.prog 32 #[.slice A n cap] w fun e w' => e = .returned (.int .i64 (chk l)) ∧ Below w.heap.size w w' := by
  have HL := Lib.hid hl
  by_cases h4 : n < 4
  · have HX : Hid (chk l = 11) := by show _ = _; unfold chk; rw [if_pos (by omega)]
    clear hl
    go_enter Try.func32, Try.ntmps32
    go_wp2
    go_ret
    exact ⟨by rw [HX.out]; rfl, Below.refl _ _⟩
  obtain ⟨ad, rfl, c0, c1, c2, c3⟩ := cells4 (l := l) (by omega) hr
  obtain ⟨b0, hb0⟩ : ∃ x, at_ l 0 = x := ⟨_, rfl⟩
  obtain ⟨b1, hb1⟩ : ∃ x, at_ l 1 = x := ⟨_, rfl⟩
  obtain ⟨b2, hb2⟩ : ∃ x, at_ l 2 = x := ⟨_, rfl⟩
  obtain ⟨b3, hb3⟩ : ∃ x, at_ l 3 = x := ⟨_, rfl⟩
  rw [hb0] at c0; rw [hb1] at c1; rw [hb2] at c2; rw [hb3] at c3
  have lt3 : b3 < 256 := by rw [← hb3]; exact UInt8.toNat_lt _
  by_cases e0 : b0 = 71
  · subst e0
    by_cases e1 : b1 = 86
    · subst e1
      by_cases e2 : b2 = 1
      · subst e2
        cases hk : isKd (b3 : Int) with
        | false =>
          have hk' : ¬ (1 ≤ b3 ∧ b3 ≤ 7) := by unfold isKd at hk; have := of_decide_eq_false hk; omega
          have HK := Lib.hid hk
          have HX : Hid (chk l = 13) := by show _ = _; unfold chk; rw [if_neg (by omega), if_neg (by omega), if_pos (by omega)]
          clear hl hb0 hb1 hb2 hb3 hk hk'
          go_enter Try.func32, Try.ntmps32
          go_wp2_with (go_at_call 23; refine (kind_any _ _).mono ?_; rintro e w' ⟨rfl, rfl⟩; rw [HK.out])
          go_ret
          exact ⟨by rw [HX.out]; rfl, Below.refl _ _⟩
        | true =>
          have hk' : 1 ≤ b3 ∧ b3 ≤ 7 := by unfold isKd at hk; have := of_decide_eq_true hk; omega
          have HK := Lib.hid hk
          clear hk
          by_cases h77 : n < 77
          · have HX : Hid (chk l = 11) := by show _ = _; unfold chk; rw [if_neg (by omega), if_neg (by omega), if_neg (by omega), if_pos (by omega)]
            clear hl hb0 hb1 hb2 hb3
            go_enter Try.func32, Try.ntmps32
            go_wp2_with (go_at_call 23; refine (kind_any _ _).mono ?_; rintro e w' ⟨rfl, rfl⟩; rw [HK.out])
            go_ret
            exact ⟨by rw [HX.out]; rfl, Below.refl _ _⟩
          have hc76 := cell76 (l := l) (by omega) hr
          obtain ⟨c, hcc⟩ : ∃ x, at_ l 76 = x := ⟨_, rfl⟩
          rw [hcc] at hc76
          by_cases h3 : 3 < c
          · have HX : Hid (chk l = 12) := by show _ = _; unfold chk; rw [if_neg (by omega), if_neg (by omega), if_neg (by omega), if_neg (by omega), if_pos (by omega)]
            clear hl hb0 hb1 hb2 hb3 hcc
            go_enter Try.func32, Try.ntmps32
            go_wp2_with (go_at_call 23; refine (kind_any _ _).mono ?_; rintro e w' ⟨rfl, rfl⟩; rw [HK.out])
            go_ret
            exact ⟨by rw [HX.out]; rfl, Below.refl _ _⟩
          rcases (show c = 0 ∨ c = 1 ∨ c = 2 ∨ c = 3 by omega) with rfl | rfl | rfl | rfl
          · by_cases hs : n < 79
            · have HX : Hid (chk l = 11) := by show _ = _; unfold chk; rw [if_neg (by omega), if_neg (by omega), if_neg (by omega), if_neg (by omega), if_neg (by omega), if_pos (by omega)]
              clear hl hb0 hb1 hb2 hb3 hcc
              go_enter Try.func32, Try.ntmps32
              go_wp2_with (go_at_call 23; refine (kind_any _ _).mono ?_; rintro e w' ⟨rfl, rfl⟩; rw [HK.out])
              go_ret
              exact ⟨by rw [HX.out]; rfl, Below.refl _ _⟩
            by_cases hg : 79 < n
            · have HX : Hid (chk l = 10) := by show _ = _; unfold chk; rw [if_neg (by omega), if_neg (by omega), if_neg (by omega), if_neg (by omega), if_neg (by omega), if_neg (by omega), if_pos (by omega)]
              clear hl hb0 hb1 hb2 hb3 hcc
              go_enter Try.func32, Try.ntmps32
              go_wp2_with (go_at_call 23; refine (kind_any _ _).mono ?_; rintro e w' ⟨rfl, rfl⟩; rw [HK.out])
              go_ret
              exact ⟨by rw [HX.out]; rfl, Below.refl _ _⟩
            obtain rfl : n = 79 := by omega
            have HC : Hid (chk l = if l.drop 77 = two (crc 0 (l.take 77)) then 0 else 14) := by show _ = _; unfold chk; rw [hcc, if_neg (by omega), if_neg (by omega), if_neg (by omega), if_neg (by omega), if_neg (by omega), if_neg (by omega), if_neg (by omega)]
            exact check_any_in 0 77 ad cap l w (by omega) rfl 79 rfl hc hcm hr c0 c1 c2 c3 HK.out (by omega) (by omega) hc76 HC.out
          · by_cases hs : n < 88
            · have HX : Hid (chk l = 11) := by show _ = _; unfold chk; rw [if_neg (by omega), if_neg (by omega), if_neg (by omega), if_neg (by omega), if_neg (by omega), if_pos (by omega)]
              clear hl hb0 hb1 hb2 hb3 hcc
              go_enter Try.func32, Try.ntmps32
              go_wp2_with (go_at_call 23; refine (kind_any _ _).mono ?_; rintro e w' ⟨rfl, rfl⟩; rw [HK.out])
              go_ret
              exact ⟨by rw [HX.out]; rfl, Below.refl _ _⟩
            by_cases hg : 88 < n
            · have HX : Hid (chk l = 10) := by show _ = _; unfold chk; rw [if_neg (by omega), if_neg (by omega), if_neg (by omega), if_neg (by omega), if_neg (by omega), if_neg (by omega), if_pos (by omega)]
              clear hl hb0 hb1 hb2 hb3 hcc
              go_enter Try.func32, Try.ntmps32
              go_wp2_with (go_at_call 23; refine (kind_any _ _).mono ?_; rintro e w' ⟨rfl, rfl⟩; rw [HK.out])
              go_ret
              exact ⟨by rw [HX.out]; rfl, Below.refl _ _⟩
            obtain rfl : n = 88 := by omega
            have HC : Hid (chk l = if l.drop 86 = two (crc 0 (l.take 86)) then 0 else 14) := by show _ = _; unfold chk; rw [hcc, if_neg (by omega), if_neg (by omega), if_neg (by omega), if_neg (by omega), if_neg (by omega), if_neg (by omega), if_neg (by omega)]
            exact check_any_in 1 86 ad cap l w (by omega) rfl 88 rfl hc hcm hr c0 c1 c2 c3 HK.out (by omega) (by omega) hc76 HC.out
          · by_cases hs : n < 97
            · have HX : Hid (chk l = 11) := by show _ = _; unfold chk; rw [if_neg (by omega), if_neg (by omega), if_neg (by omega), if_neg (by omega), if_neg (by omega), if_pos (by omega)]
              clear hl hb0 hb1 hb2 hb3 hcc
              go_enter Try.func32, Try.ntmps32
              go_wp2_with (go_at_call 23; refine (kind_any _ _).mono ?_; rintro e w' ⟨rfl, rfl⟩; rw [HK.out])
              go_ret
              exact ⟨by rw [HX.out]; rfl, Below.refl _ _⟩
            by_cases hg : 97 < n
            · have HX : Hid (chk l = 10) := by show _ = _; unfold chk; rw [if_neg (by omega), if_neg (by omega), if_neg (by omega), if_neg (by omega), if_neg (by omega), if_neg (by omega), if_pos (by omega)]
              clear hl hb0 hb1 hb2 hb3 hcc
              go_enter Try.func32, Try.ntmps32
              go_wp2_with (go_at_call 23; refine (kind_any _ _).mono ?_; rintro e w' ⟨rfl, rfl⟩; rw [HK.out])
              go_ret
              exact ⟨by rw [HX.out]; rfl, Below.refl _ _⟩
            obtain rfl : n = 97 := by omega
            have HC : Hid (chk l = if l.drop 95 = two (crc 0 (l.take 95)) then 0 else 14) := by show _ = _; unfold chk; rw [hcc, if_neg (by omega), if_neg (by omega), if_neg (by omega), if_neg (by omega), if_neg (by omega), if_neg (by omega), if_neg (by omega)]
            exact check_any_in 2 95 ad cap l w (by omega) rfl 97 rfl hc hcm hr c0 c1 c2 c3 HK.out (by omega) (by omega) hc76 HC.out
          · by_cases hs : n < 106
            · have HX : Hid (chk l = 11) := by show _ = _; unfold chk; rw [if_neg (by omega), if_neg (by omega), if_neg (by omega), if_neg (by omega), if_neg (by omega), if_pos (by omega)]
              clear hl hb0 hb1 hb2 hb3 hcc
              go_enter Try.func32, Try.ntmps32
              go_wp2_with (go_at_call 23; refine (kind_any _ _).mono ?_; rintro e w' ⟨rfl, rfl⟩; rw [HK.out])
              go_ret
              exact ⟨by rw [HX.out]; rfl, Below.refl _ _⟩
            by_cases hg : 106 < n
            · have HX : Hid (chk l = 10) := by show _ = _; unfold chk; rw [if_neg (by omega), if_neg (by omega), if_neg (by omega), if_neg (by omega), if_neg (by omega), if_neg (by omega), if_pos (by omega)]
              clear hl hb0 hb1 hb2 hb3 hcc
              go_enter Try.func32, Try.ntmps32
              go_wp2_with (go_at_call 23; refine (kind_any _ _).mono ?_; rintro e w' ⟨rfl, rfl⟩; rw [HK.out])
              go_ret
              exact ⟨by rw [HX.out]; rfl, Below.refl _ _⟩
            obtain rfl : n = 106 := by omega
            have HC : Hid (chk l = if l.drop 104 = two (crc 0 (l.take 104)) then 0 else 14) := by show _ = _; unfold chk; rw [hcc, if_neg (by omega), if_neg (by omega), if_neg (by omega), if_neg (by omega), if_neg (by omega), if_neg (by omega), if_neg (by omega)]
            exact check_any_in 3 104 ad cap l w (by omega) rfl 106 rfl hc hcm hr c0 c1 c2 c3 HK.out (by omega) (by omega) hc76 HC.out
      · have HX : Hid (chk l = 13) := by show _ = _; unfold chk; rw [if_neg (by omega), if_neg (by omega), if_pos (by omega)]
        clear hl hb0 hb1 hb2 hb3
        go_enter Try.func32, Try.ntmps32
        go_wp2
        go_ret
        exact ⟨by rw [HX.out]; rfl, Below.refl _ _⟩
    · have HX : Hid (chk l = 10) := by show _ = _; unfold chk; rw [if_neg (by omega), if_pos (by omega)]
      clear hl hb0 hb1 hb2 hb3
      go_enter Try.func32, Try.ntmps32
      go_wp2
      go_ret
      exact ⟨by rw [HX.out]; rfl, Below.refl _ _⟩
  · have HX : Hid (chk l = 10) := by show _ = _; unfold chk; rw [if_neg (by omega), if_pos (by omega)]
    clear hl hb0 hb1 hb2 hb3
    go_enter Try.func32, Try.ntmps32
    go_wp2
    go_ret
    exact ⟨by rw [HX.out]; rfl, Below.refl _ _⟩
end Go.Proofs.Ytneanlffllejnaa
