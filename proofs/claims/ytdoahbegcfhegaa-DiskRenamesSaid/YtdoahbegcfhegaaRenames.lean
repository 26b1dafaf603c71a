/-
  WHAT IS PROVED: the law DiskRenames answers true for all bytes and all names, which read behind the call as before it. No condition beyond those of the given row.
-/
import Derived.Test.YtdoahbegcfhegaaNamed
import Derived.Deep.CutRange
namespace Go.Proofs.Ytdoahbegcfhegaa
open Go.RowKit Go.Lib Go.Sort

abbrev fN : List UInt8 := [102, 105, 114, 115, 116]
theorem fN_ok : nameB fN = true := by kernel_rfl
theorem j1 (o : List UInt8) (h : o.length ≤ 300) : writeD ⟨[], 1000, -1, false⟩ fN o = (0, ⟨[⟨fN, o, false⟩], 1000, -1, false⟩) := by
  unfold writeD
  rw [if_neg (by simp), fN_ok, if_neg (by simp), if_neg (by show ¬ (1000 : Int) < (((butF [] fN : Nat) : Int)) + (o.length : Int); rw [show butF [] fN = 0 from rfl]; omega)]
  rfl
theorem j2 (o : List UInt8) : syncD ⟨[⟨fN, o, false⟩], 1000, -1, false⟩ fN = (0, ⟨[⟨fN, o, true⟩], 1000, -1, false⟩) := by rfl
theorem j3 (o : List UInt8) (s : Bool) (x y : List UInt8) (h : nameB y = true) : renameD ⟨[⟨x, o, s⟩], 1000, -1, false⟩ x y = (0, ⟨[⟨y, o, s⟩], 1000, -1, false⟩) := by
  unfold renameD
  rw [if_neg (by simp), h, if_neg (by simp [hasF]), spend_ok (by show (-1 : Int) ≠ 0; omega), if_pos rfl]
  have h1 : delF [⟨x, o, s⟩] x = [] := by simp [delF]
  have h2 : getF [⟨x, o, s⟩] x = ⟨x, o, s⟩ := by simp [getF]
  rw [h1, h2]
  rfl
theorem j4 (o : List UInt8) (s : Bool) (x y : List UInt8) (h : nameB y = false) : renameD ⟨[⟨x, o, s⟩], 1000, -1, false⟩ x y = (52, ⟨[⟨x, o, s⟩], 1000, -1, false⟩) := by
  unfold renameD
  rw [if_neg (by simp), h, if_pos (.inr rfl)]

set_option maxRecDepth 100000 in
set_option maxHeartbeats 16000000 in
theorem renames_any (A0 : Option Addr) (n0 c0 : Nat) (b : List UInt8) (sy : Bool) (A3 : Option Addr) (n3 c3 : Nat) (l : List (List UInt8)) (w : World)
    (hl0 : b.length = n0) (hr0 : Reads w w.heap.size A0 n0 (bs b)) (hl3 : l.length = n3) (hr3 : Rd w no 1 A3 n3 (l.map fun x => .string (str x))) :
    Calls Try.prog 6 #[.slice A0 n0 c0, .bool sy, .slice A3 n3 c3] w (Says true w) := by
  have HL0 := Lib.hid hl0
  have HR0 := Lib.hid hr0
  have HR3 := Lib.hid hr3
  have HL3 := Lib.hid hl3
  clear hl0 hr0 hr3 hl3
  by_cases hb0 : (300 : Int) < (n0 : Int)
  · go_enter Try.func6, Try.ntmps6
    go_wp2_with (fail)
    refine (anchor_any w).mono ?_
    rintro e w1 ⟨rfl, hb1⟩
    go_wp2
    go_ret
    exact ⟨rfl, hb1⟩
  by_cases hb3 : (30 : Int) < (n3 : Int)
  · go_enter Try.func6, Try.ntmps6
    go_wp2_with (fail)
    refine (anchor_any w).mono ?_
    rintro e w1 ⟨rfl, hb1⟩
    go_wp2
    go_ret
    exact ⟨rfl, hb1⟩
  have Q1 := Lib.hid (j1 b (by rw [HL0.out]; omega))
  have Q2 := Lib.hid (j2 b)
  cases sy with
  | false =>
    go_enter Try.func6, Try.ntmps6
    go_wp2_with (fail)
    refine (anchor_any w).mono ?_
    rintro e w1 ⟨rfl, hbb1⟩
    have HB1 := Lib.hid hbb1
    clear hbb1
    go_wp2_with (fail)
    refine (new_ok 1000 w1 (by omega) (by omega)).mono ?_
    rintro e w2 ⟨d, g, rfl, hk2, hd0, hg0, hbb2⟩
    have hd : w.heap.size ≤ d := by have := HB1.out.size; omega
    have hg : w.heap.size ≤ g := by have := HB1.out.size; omega
    have HB2 := Lib.hid (HB1.out.trans (hbb2.mono HB1.out.size))
    have HK2 := Lib.hid hk2
    clear hk2 hbb2 hd0 hg0
    go_wp2_with (fail)
    refine (write_any d g _ fN A0 n0 c0 b w2 HK2.out (by decide) (by decide) (rd_arg HR0.out HB2.out hd hg) (by omega)).mono ?_
    rw [Q1.out]
    rintro e w3 ⟨rfl, hk3, ht3⟩
    dsimp only at hk3 ⊢
    have HK3 := Lib.hid hk3
    have HB3 := Lib.hid (HB2.out.trans (ht3.low hd hg HB2.out.size))
    clear hk3 ht3 HK2 HB1 HB2 Q1
    have HK4 := Lib.hid HK3.out
    have HB4 := Lib.hid HB3.out
    obtain ⟨w4, hw4⟩ : ∃ x, w3 = x := ⟨_, rfl⟩
    rw [hw4] at HK4 HB4 ⊢
    clear HK3 HB3 hw4
    obtain ⟨sy, hsy⟩ : ∃ s, s = false := ⟨_, rfl⟩
    have HK4' : Hid (Dk w4 d g ⟨[⟨fN, b, sy⟩], 1000, -1, false⟩) := by rw [hsy]; exact HK4.out
    clear HK4
    have HK4 := Lib.hid HK4'.out
    have HSY := Lib.hid hsy
    clear hsy Q2 HK4'
    go_wp2
    go_loopw [8, 40] (fun a i wr => ∃ (k : Nat) (x : List UInt8), k ≤ n3 ∧ a = .string (str x) ∧ i = .int .i64 (k : Int) ∧ x.length ≤ 1000 ∧ Dk wr d g ⟨[⟨x, b, sy⟩], 1000, -1, false⟩ ∧ Below w.heap.size w wr) (fun _ i _ => n3 - (intOf i).toNat)
    case atStart => exact ⟨0, fN, by omega, rfl, rfl, by decide, HK4.out, HB4.out⟩
    case round =>
      clear HK4 HB4
      obtain ⟨k, x, hk, rfl, rfl, hx, hk1, hb1⟩ := hrel
      have HK1 := Lib.hid hk1
      have HB1 := Lib.hid hb1
      clear hk1 hb1
      by_cases hkn : k < n3
      · obtain ⟨y, hy⟩ : ∃ y, l[k]? = some y := ⟨_, List.getElem?_eq_getElem (by rw [HL3.out]; exact hkn)⟩
        obtain ⟨ad, rfl, hal, haf, hac⟩ := HR3.out.2 (by omega)
        have cy : wr.cell? (ad.add k) = some (.string (str y)) := (HB1.out.cell (by rw [block_of_add]; exact hal)).trans (hac k _ (by rw [List.getElem?_map, hy]; rfl))
        have q0 : (0 : Int) ≤ (k : Int) := by omega
        have q1 : (k : Int) < (n3 : Int) := by omega
        obtain ⟨s1, hs1⟩ : ∃ n, (str y).size = n := ⟨_, rfl⟩
        have HS1 : Hid (y.length = s1) := by show _ = _; rw [← hs1, str_size]
        clear hy hal haf hac
        by_cases l1 : (100 : Int) < (s1 : Int)
        · go_wp2
          go_ret
          exact ⟨rfl, HB1.out⟩
        have hyl : y.length ≤ 1000 := by rw [HS1.out]; omega
        cases hnm : nameB y with
        | true =>
          have J := Lib.hid (j3 b sy x y hnm)
          have HNM := Lib.hid hnm
          clear hnm
          go_wp2_with (fail)
          refine (rename_any d g _ x y wr HK1.out (by simp) hx hyl).mono ?_
          rw [J.out]
          rintro e w5 ⟨rfl, hk5, ht5⟩
          dsimp only at hk5 ⊢
          have HK5 := Lib.hid hk5
          have HB5 := Lib.hid (HB1.out.trans (ht5.low hd hg HB1.out.size))
          clear hk5 ht5
          go_wp2_with (fail)
          refine (named_any y w5 hyl).mono ?_
          rintro e w6 ⟨rfl, rfl⟩
          rw [HNM.out]
          go_wp2
          go_roundw
          case rel => exact ⟨k + 1, y, by omega, rfl, by go_num, hyl, HK5.out, HB5.out⟩
          case measure => simp [intOf]; omega
        | false =>
          have J := Lib.hid (j4 b sy x y hnm)
          have HNM := Lib.hid hnm
          clear hnm
          go_wp2_with (fail)
          refine (rename_any d g _ x y wr HK1.out (by simp) hx hyl).mono ?_
          rw [J.out]
          rintro e w5 ⟨rfl, hk5, ht5⟩
          dsimp only at hk5 ⊢
          have HK5 := Lib.hid hk5
          have HB5 := Lib.hid (HB1.out.trans (ht5.low hd hg HB1.out.size))
          clear hk5 ht5
          go_wp2_with (fail)
          refine (named_any y w5 hyl).mono ?_
          rintro e w6 ⟨rfl, rfl⟩
          rw [HNM.out]
          go_wp2
          go_roundw
          case rel => exact ⟨k + 1, x, by omega, rfl, by go_num, hx, HK5.out, HB5.out⟩
          case measure => simp [intOf]; omega
      · obtain rfl : k = n3 := by omega
        go_wp2_with (fail)
        refine (Names_any d g _ wr HK1.out (by simp) rfl).mono ?_
        rintro e w5 ⟨v, rfl, ns, hp, hrow, hb5⟩
        obtain rfl : ns = [x] := List.perm_singleton.1 hp
        obtain ⟨A5, c5, rfl, _, _⟩ := own_form hrow
        have hrd := (Rd.of_own (F := no) hrow rfl (fun _ _ f => f))
        have HK5 := Lib.hid (HK1.out.below hb5)
        have HB5 := Lib.hid (HB1.out.trans (hb5.mono HB1.out.size))
        have HRD : Hid (Rd w5 no 1 A5 1 [encStr x]) := hrd
        clear hrow hb5 hp hrd
        go_wp2_with (fail)
        refine (read_any d g _ x w5 HK5.out hx).mono ?_
        have hre : readE ⟨[⟨x, b, sy⟩], 1000, -1, false⟩ x = 0 := by unfold readE; rw [if_neg (by simp), if_neg (by simp [hasF])]
        have hrb : readB ⟨[⟨x, b, sy⟩], 1000, -1, false⟩ x = b := by unfold readB; rw [if_pos hre]; simp [getF]
        rw [hre, hrb]
        rintro e w6 ⟨A, n, c, rfl, hln', _, _, how, hb6⟩
        have hr6 : Rd w6 no 1 A n (bs b) := Rd.of_own how rfl (fun _ _ f => f)
        have HB6 := Lib.hid (HB5.out.trans (hb6.mono HB5.out.size))
        have HK6 := Lib.hid (HK5.out.below hb6)
        have hcv := bytes_back (c := c) hr6.reads
        have hc0 := bytes_back (c := c0) (rd_arg HR0.out HB6.out hd hg).reads
        obtain ⟨a5, rfl, h5l, _, h5c⟩ := HRD.out.2 (by omega)
        have cx : w6.cell? a5 = some (.string (str x)) := by
          have := h5c 0 _ rfl
          rw [show a5.add 0 = a5 by unfold Addr.add; simp] at this
          exact (hb6.cell h5l).trans this
        clear hr6 how hb6 h5l h5c hre hrb
        go_wp2_with (fail)
        refine (safe_any d g _ x w6 HK6.out hx).mono ?_
        rw [show (getF [⟨x, b, sy⟩] x).safe = sy by simp [getF], HSY.out]
        rintro e w7 ⟨rfl, rfl⟩
        go_wp2
        go_ret
        exact ⟨rfl, HB6.out⟩
  | true =>
    go_enter Try.func6, Try.ntmps6
    go_wp2_with (fail)
    refine (anchor_any w).mono ?_
    rintro e w1 ⟨rfl, hbb1⟩
    have HB1 := Lib.hid hbb1
    clear hbb1
    go_wp2_with (fail)
    refine (new_ok 1000 w1 (by omega) (by omega)).mono ?_
    rintro e w2 ⟨d, g, rfl, hk2, hd0, hg0, hbb2⟩
    have hd : w.heap.size ≤ d := by have := HB1.out.size; omega
    have hg : w.heap.size ≤ g := by have := HB1.out.size; omega
    have HB2 := Lib.hid (HB1.out.trans (hbb2.mono HB1.out.size))
    have HK2 := Lib.hid hk2
    clear hk2 hbb2 hd0 hg0
    go_wp2_with (fail)
    refine (write_any d g _ fN A0 n0 c0 b w2 HK2.out (by decide) (by decide) (rd_arg HR0.out HB2.out hd hg) (by omega)).mono ?_
    rw [Q1.out]
    rintro e w3 ⟨rfl, hk3, ht3⟩
    dsimp only at hk3 ⊢
    have HK3 := Lib.hid hk3
    have HB3 := Lib.hid (HB2.out.trans (ht3.low hd hg HB2.out.size))
    clear hk3 ht3 HK2 HB1 HB2 Q1
    go_wp2_with (fail)
    refine (sync_any d g _ fN w3 HK3.out (by simp) (by decide)).mono ?_
    rw [Q2.out]
    rintro e w4 ⟨rfl, hk4, ht4⟩
    dsimp only at hk4 ⊢
    have HK4 := Lib.hid hk4
    have HB4 := Lib.hid (HB3.out.trans (ht4.low hd hg HB3.out.size))
    clear hk4 ht4 HK3 HB3
    obtain ⟨sy, hsy⟩ : ∃ s, s = true := ⟨_, rfl⟩
    have HK4' : Hid (Dk w4 d g ⟨[⟨fN, b, sy⟩], 1000, -1, false⟩) := by rw [hsy]; exact HK4.out
    clear HK4
    have HK4 := Lib.hid HK4'.out
    have HSY := Lib.hid hsy
    clear hsy Q2 HK4'
    go_wp2
    go_loopw [8, 40] (fun a i wr => ∃ (k : Nat) (x : List UInt8), k ≤ n3 ∧ a = .string (str x) ∧ i = .int .i64 (k : Int) ∧ x.length ≤ 1000 ∧ Dk wr d g ⟨[⟨x, b, sy⟩], 1000, -1, false⟩ ∧ Below w.heap.size w wr) (fun _ i _ => n3 - (intOf i).toNat)
    case atStart => exact ⟨0, fN, by omega, rfl, rfl, by decide, HK4.out, HB4.out⟩
    case round =>
      clear HK4 HB4
      obtain ⟨k, x, hk, rfl, rfl, hx, hk1, hb1⟩ := hrel
      have HK1 := Lib.hid hk1
      have HB1 := Lib.hid hb1
      clear hk1 hb1
      by_cases hkn : k < n3
      · obtain ⟨y, hy⟩ : ∃ y, l[k]? = some y := ⟨_, List.getElem?_eq_getElem (by rw [HL3.out]; exact hkn)⟩
        obtain ⟨ad, rfl, hal, haf, hac⟩ := HR3.out.2 (by omega)
        have cy : wr.cell? (ad.add k) = some (.string (str y)) := (HB1.out.cell (by rw [block_of_add]; exact hal)).trans (hac k _ (by rw [List.getElem?_map, hy]; rfl))
        have q0 : (0 : Int) ≤ (k : Int) := by omega
        have q1 : (k : Int) < (n3 : Int) := by omega
        obtain ⟨s1, hs1⟩ : ∃ n, (str y).size = n := ⟨_, rfl⟩
        have HS1 : Hid (y.length = s1) := by show _ = _; rw [← hs1, str_size]
        clear hy hal haf hac
        by_cases l1 : (100 : Int) < (s1 : Int)
        · go_wp2
          go_ret
          exact ⟨rfl, HB1.out⟩
        have hyl : y.length ≤ 1000 := by rw [HS1.out]; omega
        cases hnm : nameB y with
        | true =>
          have J := Lib.hid (j3 b sy x y hnm)
          have HNM := Lib.hid hnm
          clear hnm
          go_wp2_with (fail)
          refine (rename_any d g _ x y wr HK1.out (by simp) hx hyl).mono ?_
          rw [J.out]
          rintro e w5 ⟨rfl, hk5, ht5⟩
          dsimp only at hk5 ⊢
          have HK5 := Lib.hid hk5
          have HB5 := Lib.hid (HB1.out.trans (ht5.low hd hg HB1.out.size))
          clear hk5 ht5
          go_wp2_with (fail)
          refine (named_any y w5 hyl).mono ?_
          rintro e w6 ⟨rfl, rfl⟩
          rw [HNM.out]
          go_wp2
          go_roundw
          case rel => exact ⟨k + 1, y, by omega, rfl, by go_num, hyl, HK5.out, HB5.out⟩
          case measure => simp [intOf]; omega
        | false =>
          have J := Lib.hid (j4 b sy x y hnm)
          have HNM := Lib.hid hnm
          clear hnm
          go_wp2_with (fail)
          refine (rename_any d g _ x y wr HK1.out (by simp) hx hyl).mono ?_
          rw [J.out]
          rintro e w5 ⟨rfl, hk5, ht5⟩
          dsimp only at hk5 ⊢
          have HK5 := Lib.hid hk5
          have HB5 := Lib.hid (HB1.out.trans (ht5.low hd hg HB1.out.size))
          clear hk5 ht5
          go_wp2_with (fail)
          refine (named_any y w5 hyl).mono ?_
          rintro e w6 ⟨rfl, rfl⟩
          rw [HNM.out]
          go_wp2
          go_roundw
          case rel => exact ⟨k + 1, x, by omega, rfl, by go_num, hx, HK5.out, HB5.out⟩
          case measure => simp [intOf]; omega
      · obtain rfl : k = n3 := by omega
        go_wp2_with (fail)
        refine (Names_any d g _ wr HK1.out (by simp) rfl).mono ?_
        rintro e w5 ⟨v, rfl, ns, hp, hrow, hb5⟩
        obtain rfl : ns = [x] := List.perm_singleton.1 hp
        obtain ⟨A5, c5, rfl, _, _⟩ := own_form hrow
        have hrd := (Rd.of_own (F := no) hrow rfl (fun _ _ f => f))
        have HK5 := Lib.hid (HK1.out.below hb5)
        have HB5 := Lib.hid (HB1.out.trans (hb5.mono HB1.out.size))
        have HRD : Hid (Rd w5 no 1 A5 1 [encStr x]) := hrd
        clear hrow hb5 hp hrd
        go_wp2_with (fail)
        refine (read_any d g _ x w5 HK5.out hx).mono ?_
        have hre : readE ⟨[⟨x, b, sy⟩], 1000, -1, false⟩ x = 0 := by unfold readE; rw [if_neg (by simp), if_neg (by simp [hasF])]
        have hrb : readB ⟨[⟨x, b, sy⟩], 1000, -1, false⟩ x = b := by unfold readB; rw [if_pos hre]; simp [getF]
        rw [hre, hrb]
        rintro e w6 ⟨A, n, c, rfl, hln', _, _, how, hb6⟩
        have hr6 : Rd w6 no 1 A n (bs b) := Rd.of_own how rfl (fun _ _ f => f)
        have HB6 := Lib.hid (HB5.out.trans (hb6.mono HB5.out.size))
        have HK6 := Lib.hid (HK5.out.below hb6)
        have hcv := bytes_back (c := c) hr6.reads
        have hc0 := bytes_back (c := c0) (rd_arg HR0.out HB6.out hd hg).reads
        obtain ⟨a5, rfl, h5l, _, h5c⟩ := HRD.out.2 (by omega)
        have cx : w6.cell? a5 = some (.string (str x)) := by
          have := h5c 0 _ rfl
          rw [show a5.add 0 = a5 by unfold Addr.add; simp] at this
          exact (hb6.cell h5l).trans this
        clear hr6 how hb6 h5l h5c hre hrb
        go_wp2_with (fail)
        refine (safe_any d g _ x w6 HK6.out hx).mono ?_
        rw [show (getF [⟨x, b, sy⟩] x).safe = sy by simp [getF], HSY.out]
        rintro e w7 ⟨rfl, rfl⟩
        go_wp2
        go_ret
        exact ⟨rfl, HB6.out⟩
end Go.Proofs.Ytdoahbegcfhegaa
