/-
  WHAT IS PROVED: contract of the function that tells what is wrong with bytes (the document's). Condition: the bytes are there.
-/
import Derived.Test.YtneanlffllejnaaEight
import Derived.Test.YtneanlffllejnaaBytesEq
import Derived.Test.YtneanlffllejnaaSec
import Derived.Test.YtneanlffllejnaaCells
import Derived.BigQuiet
import Derived.Deep.DeepCutAuto
import Derived.Deep.RegionHeld3
namespace Go.Proofs.Ytneanlffllejnaa
open Go.RowKit Go.Lib

theorem tail_two {l : List UInt8} {M s : Nat} (hl : l.length = M + 2) (hs : s < 65536) : (l.drop M = two s) ↔ ((s : Int) = (at_ l M : Int) * 256 + (at_ l (M + 1) : Int)) := by
  have e : l.drop M = [b8 (at_ l M), b8 (at_ l (M + 1))] := by
    rw [List.drop_eq_getElem_cons (show M < l.length by omega), List.drop_eq_getElem_cons (show M + 1 < l.length by omega), List.drop_of_length_le (by omega)]
    unfold at_
    rw [List.getElem?_eq_getElem (show M < l.length by omega), List.getElem?_eq_getElem (show M + 1 < l.length by omega), Option.getD_some, Option.getD_some, b8_of, b8_of]
  have h1 : at_ l M < 256 := UInt8.toNat_lt _
  have h2 : at_ l (M + 1) < 256 := UInt8.toNat_lt _
  rw [e]
  unfold two
  constructor
  · intro h
    simp only [List.cons.injEq, and_true] at h
    have k1 := congrArg UInt8.toNat h.1
    have k2 := congrArg UInt8.toNat h.2
    rw [b8_nat, b8_nat] at k1 k2
    omega
  · intro h
    simp only [List.cons.injEq, and_true]
    refine ⟨?_, ?_⟩ <;> (apply UInt8.toNat_inj.1; rw [b8_nat, b8_nat]; omega)

set_option maxRecDepth 100000 in
set_option maxHeartbeats 600000 in
theorem frame_any_in (c M : Nat) (ad : Addr) (cap : Nat) (l : List UInt8) (w : World) (hc3 : c ≤ 3) (hM : M = 77 + 9 * c) (n : Nat) (hn : n = M + 2) (hl : l.length = n) (hc : n ≤ cap) (hcm : cap ≤ 9223372036854775807) (hr : Reads w w.heap.size (some ad) n (bs l)) {b3 : Nat}
    (c0 : w.cell? ad = some (.int .u8 71)) (c1 : w.cell? ⟨ad.block, ad.off + 1, none⟩ = some (.int .u8 86)) (c2 : w.cell? ⟨ad.block, ad.off + 2, none⟩ = some (.int .u8 1)) (c3 : w.cell? ⟨ad.block, ad.off + 3, none⟩ = some (.int .u8 (b3 : Int))) (hk1 : 1 ≤ b3) (hk2 : b3 ≤ 7)
    (c76 : w.cell? ⟨ad.block, ad.off + 76, none⟩ = some (.int .u8 (c : Int))) (hchk : chk l = if l.drop M = two (crc 0 (l.take M)) then 0 else 14) :
    Calls Try.prog 38 #[.slice (some ad) n cap] w fun e w' => e = .returned (.int .i64 (chk l)) ∧ Below w.heap.size w w' := by
  have hlt := crc_lt 0 (l.take M) (by omega)
  obtain ⟨s, HS⟩ : ∃ s, Hid (crc 0 (l.take M) = s) := ⟨_, Lib.hid rfl⟩
  obtain ⟨_, e, cM⟩ := byte_cell (i := M) (by omega) hr
  cases e
  obtain ⟨_, e, cN⟩ := byte_cell (i := M + 1) (by omega) hr
  cases e
  have lx : at_ l M < 256 := UInt8.toNat_lt _
  have ly : at_ l (M + 1) < 256 := UInt8.toNat_lt _
  have ht := tail_two (l := l) (M := M) (by omega) hlt
  obtain ⟨x, hx⟩ : ∃ x, at_ l M = x := ⟨_, rfl⟩
  obtain ⟨y, hy⟩ : ∃ y, at_ l (M + 1) = y := ⟨_, rfl⟩
  rw [hx] at cM lx ht
  rw [hy] at cN ly ht
  rw [HS.out] at ht hlt hchk
  obtain ⟨X, hX⟩ : ∃ X : Nat, X = x * 256 := ⟨_, rfl⟩
  obtain ⟨Y, hY⟩ : ∃ Y : Nat, Y = X + y := ⟨_, rfl⟩
  obtain ⟨N, hNN⟩ : ∃ N : Nat, N = M + 1 := ⟨_, rfl⟩
  rw [show (x : Int) * 256 + (y : Int) = (Y : Int) by omega] at ht
  have v1 : IntKind.i64.wrap (x : Int) = (x : Int) := by rw [IntKind.wrap_i64]; omega
  have v2 : IntKind.i64.wrap (y : Int) = (y : Int) := by rw [IntKind.wrap_i64]; omega
  have w1 : IntKind.i64.wrap ((x : Int) * 256) = (X : Int) := by rw [IntKind.wrap_i64]; omega
  have w2 : IntKind.i64.wrap ((X : Int) + (y : Int)) = (Y : Int) := by rw [IntKind.wrap_i64]; omega
  have w3 : IntKind.i64.wrap ((M : Int) + 1) = (N : Int) := by rw [IntKind.wrap_i64]; omega
  rw [← hNN] at cN
  obtain ⟨q, HQ⟩ : ∃ q, Hid (((s : Int) != (Y : Int)) = q) := ⟨_, Lib.hid rfl⟩
  have HCH : Hid (chk l = if q = true then 14 else 0) := by
    show _ = _
    rw [hchk, ← HQ.out]
    by_cases h : (s : Int) = (Y : Int)
    · rw [if_pos (ht.2 h), if_neg (by simpa using h)]
    · rw [if_neg (fun e => h (ht.1 e)), if_pos (by simpa using h)]
  have k0 : (0 : Int) ≤ (M : Int) := by omega
  have k1 : (M : Int) ≤ (n : Int) := by omega
  have k2 : (n : Int) ≤ (cap : Int) := by omega
  have k3 : (M : Int) ≤ (cap : Int) := by omega
  have k4 : ¬ ((n : Int) < 77) := by omega
  have k5 : ¬ ((n : Int) < 4) := by omega
  have k6 : ¬ ((n : Int) < 77 + 9 * (c : Int) + 2) := by omega
  have k7 : ¬ (77 + 9 * (c : Int) + 2 < (n : Int)) := by omega
  have k8 : (M : Int) < (n : Int) := by omega
  have k9 : (N : Int) < (n : Int) := by omega
  have k10 : (0 : Int) ≤ (N : Int) := by omega
  have HMC : Hid ((77 : Int) + 9 * (c : Int) = (M : Int)) := by show _ = _; omega
  have hrt : Reads w w.heap.size (some ad) M (bs (l.take M)) := by
    have := hr.take (k := M) (by omega)
    rwa [show (bs l).take M = bs (l.take M) by unfold bs; rw [List.map_take]] at this
  have HRT := Lib.hid hrt
  have HN := Lib.hid hn
  have HM := Lib.hid hM
  clear hchk hrt hr hn hM hl hx hy ht hX hY hNN lx ly hlt
  have hb2' : Below w.heap.size w w.drew := (Below.refl w.heap.size w).drew
  cases q
  all_goals
    have hq := HQ.out
    go_enter Try.func38, Try.ntmps38
    go_upto_region 16 with (fail)
    rw [HMC.out]
    go_region_held3 (fun w' => w'.cell? (ad.add M) = some (.int .u8 (x : Int)) ∧ w'.cell? (ad.add N) = some (.int .u8 (y : Int))) (first | exact ⟨cM, cN⟩) (first | (go_at_call 37; refine (refsum_any (some ad) M cap w.heap.size (l.take M) w.drew (by have := HM.out; omega) (show Reads w.drew w.heap.size (some ad) M (bs (l.take M)) from HRT.out)).mono ?_; rintro e w2 ⟨rfl, rfl⟩; rw [HS.out]) | fail)
    go_wp2
    go_ret
    exact ⟨by rw [HCH.out]; rfl, hb2'⟩
set_option maxRecDepth 100000 in
set_option maxHeartbeats 2000000 in
theorem frame_any (A : Option Addr) (n cap : Nat) (l : List UInt8) (w : World) (hl : l.length = n) (hc : n ≤ cap) (hcm : cap ≤ 9223372036854775807) (hn : n ≤ 1000000) (hr : Reads w w.heap.size A n (bs l)) :
    Calls Try.prog 38 #[.slice A n cap] w fun e w' => e = .returned (.int .i64 (chk l)) ∧ Below w.heap.size w w' := by
  have HL := Lib.hid hl
  by_cases h4 : n < 4
  · have HX : Hid (chk l = 11) := by show _ = _; unfold chk; rw [if_pos (by omega)]
    clear hl
    go_enter Try.func38, Try.ntmps38
    go_wp2
    go_ret
    exact ⟨by rw [HX.out]; rfl, Below.refl _ _⟩
  obtain ⟨ad, rfl, c0, c1, c2, c3⟩ := cells4 (l := l) (by omega) hr
  obtain ⟨b0, hb0⟩ : ∃ x, at_ l 0 = x := ⟨_, rfl⟩
  obtain ⟨b1, hb1⟩ : ∃ x, at_ l 1 = x := ⟨_, rfl⟩
  obtain ⟨b2, hb2⟩ : ∃ x, at_ l 2 = x := ⟨_, rfl⟩
  obtain ⟨b3, hb3⟩ : ∃ x, at_ l 3 = x := ⟨_, rfl⟩
  rw [hb0] at c0; rw [hb1] at c1; rw [hb2] at c2; rw [hb3] at c3
  have lt3 : b3 < 256 := by rw [← hb3]; exact UInt8.toNat_lt _
  by_cases e0 : b0 = 71
  · subst e0
    by_cases e1 : b1 = 86
    · subst e1
      by_cases e2 : b2 = 1
      · subst e2
        by_cases k1 : b3 < 1
        · have HX : Hid (chk l = 13) := by show _ = _; unfold chk; rw [if_neg (by omega), if_neg (by omega), if_pos (by omega)]
          clear hl hb0 hb1 hb2 hb3
          go_enter Try.func38, Try.ntmps38
          go_wp2
          go_ret
          exact ⟨by rw [HX.out]; rfl, Below.refl _ _⟩
        by_cases k2 : 7 < b3
        · have HX : Hid (chk l = 13) := by show _ = _; unfold chk; rw [if_neg (by omega), if_neg (by omega), if_pos (by omega)]
          clear hl hb0 hb1 hb2 hb3
          go_enter Try.func38, Try.ntmps38
          go_wp2
          go_ret
          exact ⟨by rw [HX.out]; rfl, Below.refl _ _⟩
        by_cases h77 : n < 77
        · have HX : Hid (chk l = 11) := by show _ = _; unfold chk; rw [if_neg (by omega), if_neg (by omega), if_neg (by omega), if_pos (by omega)]
          clear hl hb0 hb1 hb2 hb3
          go_enter Try.func38, Try.ntmps38
          go_wp2
          go_ret
          exact ⟨by rw [HX.out]; rfl, Below.refl _ _⟩
        have hc76 := cell76 (l := l) (by omega) hr
        obtain ⟨c, hcc⟩ : ∃ x, at_ l 76 = x := ⟨_, rfl⟩
        rw [hcc] at hc76
        by_cases h3 : 3 < c
        · have HX : Hid (chk l = 12) := by show _ = _; unfold chk; rw [if_neg (by omega), if_neg (by omega), if_neg (by omega), if_neg (by omega), if_pos (by omega)]
          clear hl hb0 hb1 hb2 hb3 hcc
          go_enter Try.func38, Try.ntmps38
          go_wp2
          go_ret
          exact ⟨by rw [HX.out]; rfl, Below.refl _ _⟩
        rcases (show c = 0 ∨ c = 1 ∨ c = 2 ∨ c = 3 by omega) with rfl | rfl | rfl | rfl
        · by_cases hs : n < 79
          · have HX : Hid (chk l = 11) := by show _ = _; unfold chk; rw [if_neg (by omega), if_neg (by omega), if_neg (by omega), if_neg (by omega), if_neg (by omega), if_pos (by omega)]
            clear hl hb0 hb1 hb2 hb3 hcc
            go_enter Try.func38, Try.ntmps38
            go_wp2
            go_ret
            exact ⟨by rw [HX.out]; rfl, Below.refl _ _⟩
          by_cases hg : 79 < n
          · have HX : Hid (chk l = 10) := by show _ = _; unfold chk; rw [if_neg (by omega), if_neg (by omega), if_neg (by omega), if_neg (by omega), if_neg (by omega), if_neg (by omega), if_pos (by omega)]
            clear hl hb0 hb1 hb2 hb3 hcc
            go_enter Try.func38, Try.ntmps38
            go_wp2
            go_ret
            exact ⟨by rw [HX.out]; rfl, Below.refl _ _⟩
          obtain rfl : n = 79 := by omega
          have HC : Hid (chk l = if l.drop 77 = two (crc 0 (l.take 77)) then 0 else 14) := by show _ = _; unfold chk; rw [hcc, if_neg (by omega), if_neg (by omega), if_neg (by omega), if_neg (by omega), if_neg (by omega), if_neg (by omega), if_neg (by omega)]
          exact frame_any_in 0 77 ad cap l w (by omega) rfl 79 rfl hl hc hcm hr c0 c1 c2 c3 (by omega) (by omega) hc76 HC.out
        · by_cases hs : n < 88
          · have HX : Hid (chk l = 11) := by show _ = _; unfold chk; rw [if_neg (by omega), if_neg (by omega), if_neg (by omega), if_neg (by omega), if_neg (by omega), if_pos (by omega)]
            clear hl hb0 hb1 hb2 hb3 hcc
            go_enter Try.func38, Try.ntmps38
            go_wp2
            go_ret
            exact ⟨by rw [HX.out]; rfl, Below.refl _ _⟩
          by_cases hg : 88 < n
          · have HX : Hid (chk l = 10) := by show _ = _; unfold chk; rw [if_neg (by omega), if_neg (by omega), if_neg (by omega), if_neg (by omega), if_neg (by omega), if_neg (by omega), if_pos (by omega)]
            clear hl hb0 hb1 hb2 hb3 hcc
            go_enter Try.func38, Try.ntmps38
            go_wp2
            go_ret
            exact ⟨by rw [HX.out]; rfl, Below.refl _ _⟩
          obtain rfl : n = 88 := by omega
          have HC : Hid (chk l = if l.drop 86 = two (crc 0 (l.take 86)) then 0 else 14) := by show _ = _; unfold chk; rw [hcc, if_neg (by omega), if_neg (by omega), if_neg (by omega), if_neg (by omega), if_neg (by omega), if_neg (by omega), if_neg (by omega)]
          exact frame_any_in 1 86 ad cap l w (by omega) rfl 88 rfl hl hc hcm hr c0 c1 c2 c3 (by omega) (by omega) hc76 HC.out
        · by_cases hs : n < 97
          · have HX : Hid (chk l = 11) := by show _ = _; unfold chk; rw [if_neg (by omega), if_neg (by omega), if_neg (by omega), if_neg (by omega), if_neg (by omega), if_pos (by omega)]
            clear hl hb0 hb1 hb2 hb3 hcc
            go_enter Try.func38, Try.ntmps38
            go_wp2
            go_ret
            exact ⟨by rw [HX.out]; rfl, Below.refl _ _⟩
          by_cases hg : 97 < n
          · have HX : Hid (chk l = 10) := by show _ = _; unfold chk; rw [if_neg (by omega), if_neg (by omega), if_neg (by omega), if_neg (by omega), if_neg (by omega), if_neg (by omega), if_pos (by omega)]
            clear hl hb0 hb1 hb2 hb3 hcc
            go_enter Try.func38, Try.ntmps38
            go_wp2
            go_ret
            exact ⟨by rw [HX.out]; rfl, Below.refl _ _⟩
          obtain rfl : n = 97 := by omega
          have HC : Hid (chk l = if l.drop 95 = two (crc 0 (l.take 95)) then 0 else 14) := by show _ = _; unfold chk; rw [hcc, if_neg (by omega), if_neg (by omega), if_neg (by omega), if_neg (by omega), if_neg (by omega), if_neg (by omega), if_neg (by omega)]
          exact frame_any_in 2 95 ad cap l w (by omega) rfl 97 rfl hl hc hcm hr c0 c1 c2 c3 (by omega) (by omega) hc76 HC.out
        · by_cases hs : n < 106
          · have HX : Hid (chk l = 11) := by show _ = _; unfold chk; rw [if_neg (by omega), if_neg (by omega), if_neg (by omega), if_neg (by omega), if_neg (by omega), if_pos (by omega)]
            clear hl hb0 hb1 hb2 hb3 hcc
            go_enter Try.func38, Try.ntmps38
            go_wp2
            go_ret
            exact ⟨by rw [HX.out]; rfl, Below.refl _ _⟩
          by_cases hg : 106 < n
          · have HX : Hid (chk l = 10) := by show _ = _; unfold chk; rw [if_neg (by omega), if_neg (by omega), if_neg (by omega), if_neg (by omega), if_neg (by omega), if_neg (by omega), if_pos (by omega)]
            clear hl hb0 hb1 hb2 hb3 hcc
            go_enter Try.func38, Try.ntmps38
            go_wp2
            go_ret
            exact ⟨by rw [HX.out]; rfl, Below.refl _ _⟩
          obtain rfl : n = 106 := by omega
          have HC : Hid (chk l = if l.drop 104 = two (crc 0 (l.take 104)) then 0 else 14) := by show _ = _; unfold chk; rw [hcc, if_neg (by omega), if_neg (by omega), if_neg (by omega), if_neg (by omega), if_neg (by omega), if_neg (by omega), if_neg (by omega)]
          exact frame_any_in 3 104 ad cap l w (by omega) rfl 106 rfl hl hc hcm hr c0 c1 c2 c3 (by omega) (by omega) hc76 HC.out
      · have HX : Hid (chk l = 13) := by show _ = _; unfold chk; rw [if_neg (by omega), if_neg (by omega), if_pos (by omega)]
        clear hl hb0 hb1 hb2 hb3
        go_enter Try.func38, Try.ntmps38
        go_wp2
        go_ret
        exact ⟨by rw [HX.out]; rfl, Below.refl _ _⟩
    · have HX : Hid (chk l = 10) := by show _ = _; unfold chk; rw [if_neg (by omega), if_pos (by omega)]
      clear hl hb0 hb1 hb2 hb3
      go_enter Try.func38, Try.ntmps38
      go_wp2
      go_ret
      exact ⟨by rw [HX.out]; rfl, Below.refl _ _⟩
  · have HX : Hid (chk l = 10) := by show _ = _; unfold chk; rw [if_neg (by omega), if_pos (by omega)]
    clear hl hb0 hb1 hb2 hb3
    go_enter Try.func38, Try.ntmps38
    go_wp2
    go_ret
    exact ⟨by rw [HX.out]; rfl, Below.refl _ _⟩
end Go.Proofs.Ytneanlffllejnaa
