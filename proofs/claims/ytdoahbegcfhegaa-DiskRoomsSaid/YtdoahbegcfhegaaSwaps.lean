/-
  WHAT IS PROVED: the law DiskSwaps answers true for all bytes, old and new, wherever the disk goes down, and whatever the crash keeps. No condition beyond those of the given row.
-/
import Derived.Test.YtdoahbegcfhegaaArgs
import Derived.Deep.CutRange
namespace Go.Proofs.Ytdoahbegcfhegaa
open Go.RowKit Go.Lib

def stepZ (z : Int) : Int := if 0 < z then z - 1 else z
theorem spend_ok {S : Ds} (h : S.left ≠ 0) : spendD S = (0, { S with left := stepZ S.left }) := by
  unfold stepZ
  rcases spend_cases S with ⟨h1, e⟩ | ⟨h1, e⟩ | ⟨h1, e⟩
  · exact absurd h1 h
  · rw [e, if_pos h1]
  · rw [e, if_neg (by omega)]
theorem spend_no {S : Ds} (h : S.left = 0) : spendD S = (50, { S with down := true }) := by
  unfold spendD; rw [if_pos h]
theorem names_ok : nameB [97] = true ∧ nameB [98] = true := by constructor <;> kernel_rfl
section
variable (o nx : List UInt8) (z : Int)
abbrev W0 : Ds := ⟨[], 4000, -1, false⟩
abbrev W1 : Ds := ⟨[⟨[97], o, false⟩], 4000, -1, false⟩
abbrev W2 : Ds := ⟨[⟨[97], o, true⟩], 4000, z, false⟩
abbrev W3 (d : Bool) : Ds := ⟨[⟨[98], nx, false⟩, ⟨[97], o, true⟩], 4000, z, d⟩
abbrev W4 (d : Bool) : Ds := ⟨[⟨[98], nx, true⟩, ⟨[97], o, true⟩], 4000, z, d⟩
abbrev W5 : Ds := ⟨[⟨[97], nx, true⟩], 4000, z, false⟩
theorem q1 (h : o.length ≤ 1000) : writeD W0 [97] o = (0, W1 o) := by
  unfold writeD
  rw [if_neg (by simp), names_ok.1, if_neg (by simp), if_neg (by show ¬ (4000 : Int) < (((butF [] [97] : Nat) : Int)) + (o.length : Int); rw [show butF [] [97] = 0 from rfl]; omega)]
  rfl
theorem q2 : syncD (W1 o) [97] = (0, W2 o (-1)) := by rfl
theorem q3 (h : o.length ≤ 1000) (hn : nx.length ≤ 1000) : writeD (W2 o z) [98] nx = spendD (W3 o nx z false) := by
  unfold writeD
  rw [if_neg (by simp), names_ok.2, if_neg (by simp), if_neg (by
    show ¬ (4000 : Int) < (((butF [⟨[97], o, true⟩] [98] : Nat) : Int)) + (nx.length : Int)
    rw [show butF [⟨[97], o, true⟩] [98] = o.length from rfl]
    omega)]
  rfl
theorem q4 (h : z ≠ 0) : syncD (W3 o nx z false) [98] = (0, W4 o nx (stepZ z) false) := by
  unfold syncD
  rw [if_neg (by simp), if_neg (by show ¬ hasF [⟨[98], nx, false⟩, ⟨[97], o, true⟩] [98] = false; simp [hasF]), spend_ok (S := W3 o nx z false) h, if_pos rfl]
  rfl
theorem q4' (h : z = 0) : syncD (W3 o nx z false) [98] = (50, W3 o nx z true) := by
  unfold syncD
  rw [if_neg (by simp), if_neg (by show ¬ hasF [⟨[98], nx, false⟩, ⟨[97], o, true⟩] [98] = false; simp [hasF]), spend_no (S := W3 o nx z false) h, if_neg (by simp)]
theorem q5 (h : z ≠ 0) : renameD (W4 o nx z false) [98] [97] = (0, W5 nx (stepZ z)) := by
  unfold renameD
  rw [if_neg (by simp), names_ok.1, if_neg (by show ¬ (hasF [⟨[98], nx, true⟩, ⟨[97], o, true⟩] [98] = false ∨ true = false); simp [hasF]), spend_ok (S := W4 o nx z false) h, if_pos rfl]
  rfl
theorem q5' (h : z = 0) : renameD (W4 o nx z false) [98] [97] = (50, W4 o nx z true) := by
  unfold renameD
  rw [if_neg (by simp), names_ok.1, if_neg (by show ¬ (hasF [⟨[98], nx, true⟩, ⟨[97], o, true⟩] [98] = false ∨ true = false); simp [hasF]), spend_no (S := W4 o nx z false) h, if_neg (by simp)]
end
/-- what is safe stays through a crash -/
theorem crash_keeps : ∀ (ns : List (List UInt8)) (keep : List Int) (l : List Fl) (x : List UInt8), hasF l x = true → (getF l x).safe = true → hasF (crashG ns keep l) x = true ∧ getF (crashG ns keep l) x = getF l x
  | [], keep, l, x, h, _ => by rw [crashG_nil]; exact ⟨h, rfl⟩
  | y :: ns, keep, l, x, h, hs => by
    cases hy : (getF l y).safe with
    | true => rw [crashG_safe hy]; exact crash_keeps ns keep l x h hs
    | false =>
      have hne : x ≠ y := fun e => by rw [e, hy] at hs; cases hs
      have hp : ∀ b, hasF (putF l ⟨y, b, true⟩) x = true ∧ getF (putF l ⟨y, b, true⟩) x = getF l x := fun b => ⟨by rw [has_putF, h]; simp, getF_put_ne _ hne⟩
      cases keep with
      | nil =>
        rw [crashG_none hy]
        have := crash_keeps ns [] (putF l ⟨y, [], true⟩) x (hp _).1 (by rw [(hp _).2]; exact hs)
        rw [(hp _).2] at this
        exact this
      | cons k ks =>
        rw [crashG_some hy]
        have := crash_keeps ns ks (putF l ⟨y, (getF l y).b.take k.toNat, true⟩) x (hp _).1 (by rw [(hp _).2]; exact hs)
        rw [(hp _).2] at this
        exact this

set_option maxRecDepth 100000 in
set_option maxHeartbeats 16000000 in
theorem swaps_any (A0 : Option Addr) (n0 c0 : Nat) (old : List UInt8) (A1 : Option Addr) (n1 c1 : Nat) (nx : List UInt8) (arm : Int) (A3 : Option Addr) (n3 c3 : Nat) (keep : List Int) (w : World)
    (hl0 : old.length = n0) (hr0 : Reads w w.heap.size A0 n0 (bs old)) (hl1 : nx.length = n1) (hr1 : Reads w w.heap.size A1 n1 (bs nx)) (hz : -9223372036854775808 ≤ arm ∧ arm ≤ 9223372036854775807) (hc3 : n3 ≤ c3) (hm3 : c3 ≤ 9223372036854775807) (hr3 : Reads w w.heap.size A3 n3 (zs keep)) :
    Calls Try.prog 3 #[.slice A0 n0 c0, .slice A1 n1 c1, .int .i64 arm, .slice A3 n3 c3] w (Says true w) := by
  have HL0 := Lib.hid hl0
  have HL1 := Lib.hid hl1
  have HR0 := Lib.hid hr0
  have HR1 := Lib.hid hr1
  have HR3 := Lib.hid hr3
  have HZ := Lib.hid hz
  clear hl0 hl1 hr0 hr1 hr3 hz
  by_cases hb0 : (1000 : Int) < (n0 : Int)
  · go_enter Try.func3, Try.ntmps3
    go_wp2_with (fail)
    refine (anchor_any w).mono ?_
    rintro e w1 ⟨rfl, hb1⟩
    go_wp2
    go_ret
    exact ⟨rfl, hb1⟩
  by_cases hb1 : (1000 : Int) < (n1 : Int)
  · go_enter Try.func3, Try.ntmps3
    go_wp2_with (fail)
    refine (anchor_any w).mono ?_
    rintro e w1 ⟨rfl, hb1⟩
    go_wp2
    go_ret
    exact ⟨rfl, hb1⟩
  by_cases hb3 : (50 : Int) < (n3 : Int)
  · go_enter Try.func3, Try.ntmps3
    go_wp2_with (fail)
    refine (anchor_any w).mono ?_
    rintro e w1 ⟨rfl, hb1⟩
    go_wp2
    go_ret
    exact ⟨rfl, hb1⟩
  have ho : old.length ≤ 1000 := by rw [HL0.out]; omega
  have hn : nx.length ≤ 1000 := by rw [HL1.out]; omega
  have Q1 := Lib.hid (q1 old ho)
  have Q2 := Lib.hid (q2 old)
  have Q3 := Lib.hid (q3 old nx arm ho hn)
  clear ho hn
  by_cases z0 : arm = 0
  · have E0 := Lib.hid (spend_no (S := W3 old nx arm false) z0)
    have a0 : ¬ arm < 0 := by omega
    have a2 : ¬ 2 < arm := by omega
    have e2 : Hid (arm = 0) := z0
    clear z0
    go_enter Try.func3, Try.ntmps3
    go_wp2_with (fail)
    refine (anchor_any w).mono ?_
    rintro e w1 ⟨rfl, hbb1⟩
    have HB1 := Lib.hid hbb1
    clear hbb1
    go_wp2_with (fail)
    refine (new_ok 4000 w1 (by omega) (by omega)).mono ?_
    rintro e w2 ⟨d, g, rfl, hk2, hd0, hg0, hbb2⟩
    have hd : w.heap.size ≤ d := by have := HB1.out.size; omega
    have hg : w.heap.size ≤ g := by have := HB1.out.size; omega
    have HB2 := Lib.hid (HB1.out.trans (hbb2.mono HB1.out.size))
    have HK2 := Lib.hid hk2
    clear hk2 hbb2 hd0 hg0
    go_wp2_with (fail)
    refine (write_any d g _ [97] A0 n0 c0 old w2 HK2.out (by decide) (by decide) (rd_arg HR0.out HB2.out hd hg) (by omega)).mono ?_
    rw [Q1.out]
    rintro e w3 ⟨rfl, hk3, ht3⟩
    dsimp only at hk3 ⊢
    have HK3 := Lib.hid hk3
    have HB3 := Lib.hid (HB2.out.trans (ht3.low hd hg HB2.out.size))
    clear hk3 ht3
    go_wp2_with (fail)
    refine (sync_any d g _ [97] w3 HK3.out (by simp) (by decide)).mono ?_
    rw [Q2.out]
    rintro e w4 ⟨rfl, hk4, ht4⟩
    dsimp only at hk4 ⊢
    have HK4 := Lib.hid hk4
    have HB4 := Lib.hid (HB3.out.trans (ht4.low hd hg HB3.out.size))
    clear hk4 ht4
    go_wp2_with (fail)
    refine (arm_any d g _ arm w4 HK4.out HZ.out).mono ?_
    rintro e w5 ⟨rfl, hk5, ht5⟩
    have HK5 : Hid (Dk w5 d g (W2 old arm)) := hk5
    have HB5 := Lib.hid (HB4.out.trans (ht5.low hd hg HB4.out.size))
    clear hk5 ht5
    go_wp2_with (fail)
    refine (write_any d g _ [98] A1 n1 c1 nx w5 HK5.out (by simp) (by decide) (rd_arg HR1.out HB5.out hd hg) (by omega)).mono ?_
    rw [Q3.out]
    rw [E0.out]
    rintro e w6 ⟨rfl, hk6, ht6⟩
    dsimp only at hk6 ⊢
    have HK6 := Lib.hid hk6
    have HB6 := Lib.hid (HB5.out.trans (ht6.low hd hg HB5.out.size))
    clear hk6 ht6
    go_wp2_with (fail)
    refine (crash_any d g _ A3 n3 c3 keep w6 HK6.out (by simp) (rd_arg HR3.out HB6.out hd hg) hc3 hm3).mono ?_
    rintro e w8 ⟨ns, rfl, hp, hk8, ht8⟩
    have hcr := crash_keeps ns keep [⟨[98], nx, false⟩, ⟨[97], old, true⟩] [97] (by simp [hasF]) (by simp [getF])
    have hga : getF [⟨[98], nx, false⟩, ⟨[97], old, true⟩] [97] = ⟨[97], old, true⟩ := by simp [getF]
    have HK8 := Lib.hid hk8
    have HB8 := Lib.hid (HB6.out.trans (ht8.low hd hg HB6.out.size))
    have hre : readE ⟨crashG ns keep [⟨[98], nx, false⟩, ⟨[97], old, true⟩], 4000, -1, false⟩ [97] = 0 := by unfold readE; rw [if_neg (by simp), if_neg (by show ¬ hasF (crashG ns keep [⟨[98], nx, false⟩, ⟨[97], old, true⟩]) [97] = false; rw [hcr.1]; simp)]
    have hrb : readB ⟨crashG ns keep [⟨[98], nx, false⟩, ⟨[97], old, true⟩], 4000, -1, false⟩ [97] = old := by unfold readB; rw [if_pos hre]; show (getF (crashG ns keep [⟨[98], nx, false⟩, ⟨[97], old, true⟩]) [97]).b = old; rw [hcr.2, hga]
    have HRE := Lib.hid hre
    have HRB := Lib.hid hrb
    clear hcr hga hre hrb hk8 ht8 hp
    go_wp2_with (fail)
    refine (read_any d g _ [97] w8 HK8.out (by decide)).mono ?_
    rw [HRE.out, HRB.out]
    rintro e w9 ⟨A, n, c, rfl, hln, _, _, how, hb9⟩
    have hr9 : Rd w9 no 1 A n (bs old) := Rd.of_own how rfl (fun _ _ f => f)
    have HB9 := Lib.hid (HB8.out.trans (hb9.mono HB8.out.size))
    have hcv := bytes_back (c := c) hr9.reads
    have hc0 := bytes_back (c := c0) (rd_arg HR0.out HB9.out hd hg).reads
    have hc1 := bytes_back (c := c1) (rd_arg HR1.out HB9.out hd hg).reads
    clear hr9 how hb9
    go_wp2
    go_ret
    exact ⟨rfl, HB9.out⟩
  by_cases z1 : stepZ arm = 0
  · have E0 := Lib.hid (spend_ok (S := W3 old nx arm false) z0)
    have E1 := Lib.hid (q4' old nx (stepZ arm) z1)
    have a0 : ¬ arm < 0 := by unfold stepZ at z1; split at z1 <;> omega
    have a2 : ¬ 2 < arm := by unfold stepZ at z1; split at z1 <;> omega
    clear z0 z1
    go_enter Try.func3, Try.ntmps3
    go_wp2_with (fail)
    refine (anchor_any w).mono ?_
    rintro e w1 ⟨rfl, hbb1⟩
    have HB1 := Lib.hid hbb1
    clear hbb1
    go_wp2_with (fail)
    refine (new_ok 4000 w1 (by omega) (by omega)).mono ?_
    rintro e w2 ⟨d, g, rfl, hk2, hd0, hg0, hbb2⟩
    have hd : w.heap.size ≤ d := by have := HB1.out.size; omega
    have hg : w.heap.size ≤ g := by have := HB1.out.size; omega
    have HB2 := Lib.hid (HB1.out.trans (hbb2.mono HB1.out.size))
    have HK2 := Lib.hid hk2
    clear hk2 hbb2 hd0 hg0
    go_wp2_with (fail)
    refine (write_any d g _ [97] A0 n0 c0 old w2 HK2.out (by decide) (by decide) (rd_arg HR0.out HB2.out hd hg) (by omega)).mono ?_
    rw [Q1.out]
    rintro e w3 ⟨rfl, hk3, ht3⟩
    dsimp only at hk3 ⊢
    have HK3 := Lib.hid hk3
    have HB3 := Lib.hid (HB2.out.trans (ht3.low hd hg HB2.out.size))
    clear hk3 ht3
    go_wp2_with (fail)
    refine (sync_any d g _ [97] w3 HK3.out (by simp) (by decide)).mono ?_
    rw [Q2.out]
    rintro e w4 ⟨rfl, hk4, ht4⟩
    dsimp only at hk4 ⊢
    have HK4 := Lib.hid hk4
    have HB4 := Lib.hid (HB3.out.trans (ht4.low hd hg HB3.out.size))
    clear hk4 ht4
    go_wp2_with (fail)
    refine (arm_any d g _ arm w4 HK4.out HZ.out).mono ?_
    rintro e w5 ⟨rfl, hk5, ht5⟩
    have HK5 : Hid (Dk w5 d g (W2 old arm)) := hk5
    have HB5 := Lib.hid (HB4.out.trans (ht5.low hd hg HB4.out.size))
    clear hk5 ht5
    go_wp2_with (fail)
    refine (write_any d g _ [98] A1 n1 c1 nx w5 HK5.out (by simp) (by decide) (rd_arg HR1.out HB5.out hd hg) (by omega)).mono ?_
    rw [Q3.out]
    rw [E0.out]
    rintro e w6 ⟨rfl, hk6, ht6⟩
    dsimp only at hk6 ⊢
    have HK6 := Lib.hid hk6
    have HB6 := Lib.hid (HB5.out.trans (ht6.low hd hg HB5.out.size))
    clear hk6 ht6
    go_wp2_with (fail)
    refine (sync_any d g _ [98] w6 HK6.out (by simp) (by decide)).mono ?_
    rw [E1.out]
    rintro e w7 ⟨rfl, hk7, ht7⟩
    dsimp only at hk7 ⊢
    have HK7 := Lib.hid hk7
    have HB7 := Lib.hid (HB6.out.trans (ht7.low hd hg HB6.out.size))
    clear hk7 ht7
    go_wp2_with (fail)
    refine (crash_any d g _ A3 n3 c3 keep w7 HK7.out (by simp) (rd_arg HR3.out HB7.out hd hg) hc3 hm3).mono ?_
    rintro e w8 ⟨ns, rfl, hp, hk8, ht8⟩
    have hcr := crash_keeps ns keep [⟨[98], nx, false⟩, ⟨[97], old, true⟩] [97] (by simp [hasF]) (by simp [getF])
    have hga : getF [⟨[98], nx, false⟩, ⟨[97], old, true⟩] [97] = ⟨[97], old, true⟩ := by simp [getF]
    have HK8 := Lib.hid hk8
    have HB8 := Lib.hid (HB7.out.trans (ht8.low hd hg HB7.out.size))
    have hre : readE ⟨crashG ns keep [⟨[98], nx, false⟩, ⟨[97], old, true⟩], 4000, -1, false⟩ [97] = 0 := by unfold readE; rw [if_neg (by simp), if_neg (by show ¬ hasF (crashG ns keep [⟨[98], nx, false⟩, ⟨[97], old, true⟩]) [97] = false; rw [hcr.1]; simp)]
    have hrb : readB ⟨crashG ns keep [⟨[98], nx, false⟩, ⟨[97], old, true⟩], 4000, -1, false⟩ [97] = old := by unfold readB; rw [if_pos hre]; show (getF (crashG ns keep [⟨[98], nx, false⟩, ⟨[97], old, true⟩]) [97]).b = old; rw [hcr.2, hga]
    have HRE := Lib.hid hre
    have HRB := Lib.hid hrb
    clear hcr hga hre hrb hk8 ht8 hp
    go_wp2_with (fail)
    refine (read_any d g _ [97] w8 HK8.out (by decide)).mono ?_
    rw [HRE.out, HRB.out]
    rintro e w9 ⟨A, n, c, rfl, hln, _, _, how, hb9⟩
    have hr9 : Rd w9 no 1 A n (bs old) := Rd.of_own how rfl (fun _ _ f => f)
    have HB9 := Lib.hid (HB8.out.trans (hb9.mono HB8.out.size))
    have hcv := bytes_back (c := c) hr9.reads
    have hc0 := bytes_back (c := c0) (rd_arg HR0.out HB9.out hd hg).reads
    have hc1 := bytes_back (c := c1) (rd_arg HR1.out HB9.out hd hg).reads
    clear hr9 how hb9
    go_wp2
    go_ret
    exact ⟨rfl, HB9.out⟩
  by_cases z2 : stepZ (stepZ arm) = 0
  · have E0 := Lib.hid (spend_ok (S := W3 old nx arm false) z0)
    have E1 := Lib.hid (q4 old nx (stepZ arm) z1)
    have E2 := Lib.hid (q5' old nx (stepZ (stepZ arm)) z2)
    have a0 : ¬ arm < 0 := by
      intro h
      have h1 : stepZ arm = arm := by unfold stepZ; rw [if_neg (by omega)]
      rw [h1, h1] at z2; exact z0 z2
    have a2 : ¬ 2 < arm := by
      intro h
      have h1 : stepZ arm = arm - 1 := by unfold stepZ; rw [if_pos (by omega)]
      rw [h1] at z2
      unfold stepZ at z2
      rw [if_pos (by omega)] at z2
      omega
    clear z0 z1 z2
    go_enter Try.func3, Try.ntmps3
    go_wp2_with (fail)
    refine (anchor_any w).mono ?_
    rintro e w1 ⟨rfl, hbb1⟩
    have HB1 := Lib.hid hbb1
    clear hbb1
    go_wp2_with (fail)
    refine (new_ok 4000 w1 (by omega) (by omega)).mono ?_
    rintro e w2 ⟨d, g, rfl, hk2, hd0, hg0, hbb2⟩
    have hd : w.heap.size ≤ d := by have := HB1.out.size; omega
    have hg : w.heap.size ≤ g := by have := HB1.out.size; omega
    have HB2 := Lib.hid (HB1.out.trans (hbb2.mono HB1.out.size))
    have HK2 := Lib.hid hk2
    clear hk2 hbb2 hd0 hg0
    go_wp2_with (fail)
    refine (write_any d g _ [97] A0 n0 c0 old w2 HK2.out (by decide) (by decide) (rd_arg HR0.out HB2.out hd hg) (by omega)).mono ?_
    rw [Q1.out]
    rintro e w3 ⟨rfl, hk3, ht3⟩
    dsimp only at hk3 ⊢
    have HK3 := Lib.hid hk3
    have HB3 := Lib.hid (HB2.out.trans (ht3.low hd hg HB2.out.size))
    clear hk3 ht3
    go_wp2_with (fail)
    refine (sync_any d g _ [97] w3 HK3.out (by simp) (by decide)).mono ?_
    rw [Q2.out]
    rintro e w4 ⟨rfl, hk4, ht4⟩
    dsimp only at hk4 ⊢
    have HK4 := Lib.hid hk4
    have HB4 := Lib.hid (HB3.out.trans (ht4.low hd hg HB3.out.size))
    clear hk4 ht4
    go_wp2_with (fail)
    refine (arm_any d g _ arm w4 HK4.out HZ.out).mono ?_
    rintro e w5 ⟨rfl, hk5, ht5⟩
    have HK5 : Hid (Dk w5 d g (W2 old arm)) := hk5
    have HB5 := Lib.hid (HB4.out.trans (ht5.low hd hg HB4.out.size))
    clear hk5 ht5
    go_wp2_with (fail)
    refine (write_any d g _ [98] A1 n1 c1 nx w5 HK5.out (by simp) (by decide) (rd_arg HR1.out HB5.out hd hg) (by omega)).mono ?_
    rw [Q3.out]
    rw [E0.out]
    rintro e w6 ⟨rfl, hk6, ht6⟩
    dsimp only at hk6 ⊢
    have HK6 := Lib.hid hk6
    have HB6 := Lib.hid (HB5.out.trans (ht6.low hd hg HB5.out.size))
    clear hk6 ht6
    go_wp2_with (fail)
    refine (sync_any d g _ [98] w6 HK6.out (by simp) (by decide)).mono ?_
    rw [E1.out]
    rintro e w7 ⟨rfl, hk7, ht7⟩
    dsimp only at hk7 ⊢
    have HK7 := Lib.hid hk7
    have HB7 := Lib.hid (HB6.out.trans (ht7.low hd hg HB6.out.size))
    clear hk7 ht7
    go_wp2_with (fail)
    refine (rename_any d g _ [98] [97] w7 HK7.out (by simp) (by decide) (by decide)).mono ?_
    rw [E2.out]
    rintro e w7b ⟨rfl, hk7b, ht7b⟩
    dsimp only at hk7b ⊢
    have HK7b := Lib.hid hk7b
    have HB7b := Lib.hid (HB7.out.trans (ht7b.low hd hg HB7.out.size))
    clear hk7b ht7b
    go_wp2_with (fail)
    refine (crash_any d g _ A3 n3 c3 keep w7b HK7b.out (by simp) (rd_arg HR3.out HB7b.out hd hg) hc3 hm3).mono ?_
    rintro e w8 ⟨ns, rfl, hp, hk8, ht8⟩
    have hcr := crash_keeps ns keep [⟨[98], nx, true⟩, ⟨[97], old, true⟩] [97] (by simp [hasF]) (by simp [getF])
    have hga : getF [⟨[98], nx, true⟩, ⟨[97], old, true⟩] [97] = ⟨[97], old, true⟩ := by simp [getF]
    have HK8 := Lib.hid hk8
    have HB8 := Lib.hid (HB7b.out.trans (ht8.low hd hg HB7b.out.size))
    have hre : readE ⟨crashG ns keep [⟨[98], nx, true⟩, ⟨[97], old, true⟩], 4000, -1, false⟩ [97] = 0 := by unfold readE; rw [if_neg (by simp), if_neg (by show ¬ hasF (crashG ns keep [⟨[98], nx, true⟩, ⟨[97], old, true⟩]) [97] = false; rw [hcr.1]; simp)]
    have hrb : readB ⟨crashG ns keep [⟨[98], nx, true⟩, ⟨[97], old, true⟩], 4000, -1, false⟩ [97] = old := by unfold readB; rw [if_pos hre]; show (getF (crashG ns keep [⟨[98], nx, true⟩, ⟨[97], old, true⟩]) [97]).b = old; rw [hcr.2, hga]
    have HRE := Lib.hid hre
    have HRB := Lib.hid hrb
    clear hcr hga hre hrb hk8 ht8 hp
    go_wp2_with (fail)
    refine (read_any d g _ [97] w8 HK8.out (by decide)).mono ?_
    rw [HRE.out, HRB.out]
    rintro e w9 ⟨A, n, c, rfl, hln, _, _, how, hb9⟩
    have hr9 : Rd w9 no 1 A n (bs old) := Rd.of_own how rfl (fun _ _ f => f)
    have HB9 := Lib.hid (HB8.out.trans (hb9.mono HB8.out.size))
    have hcv := bytes_back (c := c) hr9.reads
    have hc0 := bytes_back (c := c0) (rd_arg HR0.out HB9.out hd hg).reads
    have hc1 := bytes_back (c := c1) (rd_arg HR1.out HB9.out hd hg).reads
    clear hr9 how hb9
    go_wp2
    go_ret
    exact ⟨rfl, HB9.out⟩
  have E0 := Lib.hid (spend_ok (S := W3 old nx arm false) z0)
  have E1 := Lib.hid (q4 old nx (stepZ arm) z1)
  have E2 := Lib.hid (q5 old nx (stepZ (stepZ arm)) z2)
  have hside : ¬ arm < 0 → 2 < arm := fun h => by
    have h0 : 0 < arm := by omega
    have h1 : stepZ arm = arm - 1 := by unfold stepZ; rw [if_pos h0]
    rw [h1] at z1 z2
    have h2 : stepZ (arm - 1) = arm - 1 - 1 := by unfold stepZ; rw [if_pos (by omega)]
    rw [h2] at z2
    omega
  clear z0 z1 z2
  by_cases a0 : arm < 0
  · clear hside
    go_enter Try.func3, Try.ntmps3
    go_wp2_with (fail)
    refine (anchor_any w).mono ?_
    rintro e w1 ⟨rfl, hbb1⟩
    have HB1 := Lib.hid hbb1
    clear hbb1
    go_wp2_with (fail)
    refine (new_ok 4000 w1 (by omega) (by omega)).mono ?_
    rintro e w2 ⟨d, g, rfl, hk2, hd0, hg0, hbb2⟩
    have hd : w.heap.size ≤ d := by have := HB1.out.size; omega
    have hg : w.heap.size ≤ g := by have := HB1.out.size; omega
    have HB2 := Lib.hid (HB1.out.trans (hbb2.mono HB1.out.size))
    have HK2 := Lib.hid hk2
    clear hk2 hbb2 hd0 hg0
    go_wp2_with (fail)
    refine (write_any d g _ [97] A0 n0 c0 old w2 HK2.out (by decide) (by decide) (rd_arg HR0.out HB2.out hd hg) (by omega)).mono ?_
    rw [Q1.out]
    rintro e w3 ⟨rfl, hk3, ht3⟩
    dsimp only at hk3 ⊢
    have HK3 := Lib.hid hk3
    have HB3 := Lib.hid (HB2.out.trans (ht3.low hd hg HB2.out.size))
    clear hk3 ht3
    go_wp2_with (fail)
    refine (sync_any d g _ [97] w3 HK3.out (by simp) (by decide)).mono ?_
    rw [Q2.out]
    rintro e w4 ⟨rfl, hk4, ht4⟩
    dsimp only at hk4 ⊢
    have HK4 := Lib.hid hk4
    have HB4 := Lib.hid (HB3.out.trans (ht4.low hd hg HB3.out.size))
    clear hk4 ht4
    go_wp2_with (fail)
    refine (arm_any d g _ arm w4 HK4.out HZ.out).mono ?_
    rintro e w5 ⟨rfl, hk5, ht5⟩
    have HK5 : Hid (Dk w5 d g (W2 old arm)) := hk5
    have HB5 := Lib.hid (HB4.out.trans (ht5.low hd hg HB4.out.size))
    clear hk5 ht5
    go_wp2_with (fail)
    refine (write_any d g _ [98] A1 n1 c1 nx w5 HK5.out (by simp) (by decide) (rd_arg HR1.out HB5.out hd hg) (by omega)).mono ?_
    rw [Q3.out]
    rw [E0.out]
    rintro e w6 ⟨rfl, hk6, ht6⟩
    dsimp only at hk6 ⊢
    have HK6 := Lib.hid hk6
    have HB6 := Lib.hid (HB5.out.trans (ht6.low hd hg HB5.out.size))
    clear hk6 ht6
    go_wp2_with (fail)
    refine (sync_any d g _ [98] w6 HK6.out (by simp) (by decide)).mono ?_
    rw [E1.out]
    rintro e w7 ⟨rfl, hk7, ht7⟩
    dsimp only at hk7 ⊢
    have HK7 := Lib.hid hk7
    have HB7 := Lib.hid (HB6.out.trans (ht7.low hd hg HB6.out.size))
    clear hk7 ht7
    go_wp2_with (fail)
    refine (rename_any d g _ [98] [97] w7 HK7.out (by simp) (by decide) (by decide)).mono ?_
    rw [E2.out]
    rintro e w7b ⟨rfl, hk7b, ht7b⟩
    dsimp only at hk7b ⊢
    have HK7b := Lib.hid hk7b
    have HB7b := Lib.hid (HB7.out.trans (ht7b.low hd hg HB7.out.size))
    clear hk7b ht7b
    go_wp2_with (fail)
    refine (crash_any d g _ A3 n3 c3 keep w7b HK7b.out (by simp) (rd_arg HR3.out HB7b.out hd hg) hc3 hm3).mono ?_
    rintro e w8 ⟨ns, rfl, hp, hk8, ht8⟩
    have hcr := crash_keeps ns keep [⟨[97], nx, true⟩] [97] (by simp [hasF]) (by simp [getF])
    have hga : getF [⟨[97], nx, true⟩] [97] = ⟨[97], nx, true⟩ := by simp [getF]
    have HK8 := Lib.hid hk8
    have HB8 := Lib.hid (HB7b.out.trans (ht8.low hd hg HB7b.out.size))
    have hre : readE ⟨crashG ns keep [⟨[97], nx, true⟩], 4000, -1, false⟩ [97] = 0 := by unfold readE; rw [if_neg (by simp), if_neg (by show ¬ hasF (crashG ns keep [⟨[97], nx, true⟩]) [97] = false; rw [hcr.1]; simp)]
    have hrb : readB ⟨crashG ns keep [⟨[97], nx, true⟩], 4000, -1, false⟩ [97] = nx := by unfold readB; rw [if_pos hre]; show (getF (crashG ns keep [⟨[97], nx, true⟩]) [97]).b = nx; rw [hcr.2, hga]
    have HRE := Lib.hid hre
    have HRB := Lib.hid hrb
    clear hcr hga hre hrb hk8 ht8 hp
    go_wp2_with (fail)
    refine (read_any d g _ [97] w8 HK8.out (by decide)).mono ?_
    rw [HRE.out, HRB.out]
    rintro e w9 ⟨A, n, c, rfl, hln, _, _, how, hb9⟩
    have hr9 : Rd w9 no 1 A n (bs nx) := Rd.of_own how rfl (fun _ _ f => f)
    have HB9 := Lib.hid (HB8.out.trans (hb9.mono HB8.out.size))
    have hcv := bytes_back (c := c) hr9.reads
    have hc0 := bytes_back (c := c0) (rd_arg HR0.out HB9.out hd hg).reads
    have hc1 := bytes_back (c := c1) (rd_arg HR1.out HB9.out hd hg).reads
    clear hr9 how hb9
    go_wp2
    go_ret
    exact ⟨rfl, HB9.out⟩
  · have a2 := hside a0
    clear hside
    go_enter Try.func3, Try.ntmps3
    go_wp2_with (fail)
    refine (anchor_any w).mono ?_
    rintro e w1 ⟨rfl, hbb1⟩
    have HB1 := Lib.hid hbb1
    clear hbb1
    go_wp2_with (fail)
    refine (new_ok 4000 w1 (by omega) (by omega)).mono ?_
    rintro e w2 ⟨d, g, rfl, hk2, hd0, hg0, hbb2⟩
    have hd : w.heap.size ≤ d := by have := HB1.out.size; omega
    have hg : w.heap.size ≤ g := by have := HB1.out.size; omega
    have HB2 := Lib.hid (HB1.out.trans (hbb2.mono HB1.out.size))
    have HK2 := Lib.hid hk2
    clear hk2 hbb2 hd0 hg0
    go_wp2_with (fail)
    refine (write_any d g _ [97] A0 n0 c0 old w2 HK2.out (by decide) (by decide) (rd_arg HR0.out HB2.out hd hg) (by omega)).mono ?_
    rw [Q1.out]
    rintro e w3 ⟨rfl, hk3, ht3⟩
    dsimp only at hk3 ⊢
    have HK3 := Lib.hid hk3
    have HB3 := Lib.hid (HB2.out.trans (ht3.low hd hg HB2.out.size))
    clear hk3 ht3
    go_wp2_with (fail)
    refine (sync_any d g _ [97] w3 HK3.out (by simp) (by decide)).mono ?_
    rw [Q2.out]
    rintro e w4 ⟨rfl, hk4, ht4⟩
    dsimp only at hk4 ⊢
    have HK4 := Lib.hid hk4
    have HB4 := Lib.hid (HB3.out.trans (ht4.low hd hg HB3.out.size))
    clear hk4 ht4
    go_wp2_with (fail)
    refine (arm_any d g _ arm w4 HK4.out HZ.out).mono ?_
    rintro e w5 ⟨rfl, hk5, ht5⟩
    have HK5 : Hid (Dk w5 d g (W2 old arm)) := hk5
    have HB5 := Lib.hid (HB4.out.trans (ht5.low hd hg HB4.out.size))
    clear hk5 ht5
    go_wp2_with (fail)
    refine (write_any d g _ [98] A1 n1 c1 nx w5 HK5.out (by simp) (by decide) (rd_arg HR1.out HB5.out hd hg) (by omega)).mono ?_
    rw [Q3.out]
    rw [E0.out]
    rintro e w6 ⟨rfl, hk6, ht6⟩
    dsimp only at hk6 ⊢
    have HK6 := Lib.hid hk6
    have HB6 := Lib.hid (HB5.out.trans (ht6.low hd hg HB5.out.size))
    clear hk6 ht6
    go_wp2_with (fail)
    refine (sync_any d g _ [98] w6 HK6.out (by simp) (by decide)).mono ?_
    rw [E1.out]
    rintro e w7 ⟨rfl, hk7, ht7⟩
    dsimp only at hk7 ⊢
    have HK7 := Lib.hid hk7
    have HB7 := Lib.hid (HB6.out.trans (ht7.low hd hg HB6.out.size))
    clear hk7 ht7
    go_wp2_with (fail)
    refine (rename_any d g _ [98] [97] w7 HK7.out (by simp) (by decide) (by decide)).mono ?_
    rw [E2.out]
    rintro e w7b ⟨rfl, hk7b, ht7b⟩
    dsimp only at hk7b ⊢
    have HK7b := Lib.hid hk7b
    have HB7b := Lib.hid (HB7.out.trans (ht7b.low hd hg HB7.out.size))
    clear hk7b ht7b
    go_wp2_with (fail)
    refine (crash_any d g _ A3 n3 c3 keep w7b HK7b.out (by simp) (rd_arg HR3.out HB7b.out hd hg) hc3 hm3).mono ?_
    rintro e w8 ⟨ns, rfl, hp, hk8, ht8⟩
    have hcr := crash_keeps ns keep [⟨[97], nx, true⟩] [97] (by simp [hasF]) (by simp [getF])
    have hga : getF [⟨[97], nx, true⟩] [97] = ⟨[97], nx, true⟩ := by simp [getF]
    have HK8 := Lib.hid hk8
    have HB8 := Lib.hid (HB7b.out.trans (ht8.low hd hg HB7b.out.size))
    have hre : readE ⟨crashG ns keep [⟨[97], nx, true⟩], 4000, -1, false⟩ [97] = 0 := by unfold readE; rw [if_neg (by simp), if_neg (by show ¬ hasF (crashG ns keep [⟨[97], nx, true⟩]) [97] = false; rw [hcr.1]; simp)]
    have hrb : readB ⟨crashG ns keep [⟨[97], nx, true⟩], 4000, -1, false⟩ [97] = nx := by unfold readB; rw [if_pos hre]; show (getF (crashG ns keep [⟨[97], nx, true⟩]) [97]).b = nx; rw [hcr.2, hga]
    have HRE := Lib.hid hre
    have HRB := Lib.hid hrb
    clear hcr hga hre hrb hk8 ht8 hp
    go_wp2_with (fail)
    refine (read_any d g _ [97] w8 HK8.out (by decide)).mono ?_
    rw [HRE.out, HRB.out]
    rintro e w9 ⟨A, n, c, rfl, hln, _, _, how, hb9⟩
    have hr9 : Rd w9 no 1 A n (bs nx) := Rd.of_own how rfl (fun _ _ f => f)
    have HB9 := Lib.hid (HB8.out.trans (hb9.mono HB8.out.size))
    have hcv := bytes_back (c := c) hr9.reads
    have hc0 := bytes_back (c := c0) (rd_arg HR0.out HB9.out hd hg).reads
    have hc1 := bytes_back (c := c1) (rd_arg HR1.out HB9.out hd hg).reads
    clear hr9 how hb9
    go_wp2
    go_ret
    exact ⟨rfl, HB9.out⟩
end Go.Proofs.Ytdoahbegcfhegaa
