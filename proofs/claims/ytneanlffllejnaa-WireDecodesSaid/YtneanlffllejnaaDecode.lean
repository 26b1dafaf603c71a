/-
  WHAT IS PROVED: contract of Decode: the packet that the bytes are, or the first error. Condition: the bytes are there, at most a million.
-/
import Derived.Test.YtneanlffllejnaaPack
import Derived.Test.YtneanlffllejnaaCheck
import Derived.Deep.RegionHeld3
import Derived.Deep.CutRange
namespace Go.Proofs.Ytneanlffllejnaa
open Go.RowKit Go.Lib

abbrev zcP : Array Value := #[.int .i64 0, .int .i64 0, .int .i64 0, .int .i64 0, .int .i64 0, .int .u64 0, .int .i64 0, .int .i64 0, .int .i64 0, .int .u64 0, .slice none 0 0]
theorem fz_all {w : World} {b : Nat} {t : TypeId} {cs : Array Value} (h : Blk w b t cs) : w.frozen? ⟨b, 0, none⟩ = false ∧ w.frozen? ⟨b, 1, none⟩ = false ∧ w.frozen? ⟨b, 2, none⟩ = false ∧ w.frozen? ⟨b, 3, none⟩ = false ∧ w.frozen? ⟨b, 4, none⟩ = false ∧ w.frozen? ⟨b, 5, none⟩ = false ∧ w.frozen? ⟨b, 6, none⟩ = false ∧ w.frozen? ⟨b, 7, none⟩ = false ∧ w.frozen? ⟨b, 8, none⟩ = false ∧ w.frozen? ⟨b, 9, none⟩ = false ∧ w.frozen? ⟨b, 10, none⟩ = false :=
  ⟨h.frozen 0, h.frozen 1, h.frozen 2, h.frozen 3, h.frozen 4, h.frozen 5, h.frozen 6, h.frozen 7, h.frozen 8, h.frozen 9, h.frozen 10⟩

set_option maxRecDepth 100000 in
set_option maxHeartbeats 1000000 in
theorem decode_bad (A : Option Addr) (n cap : Nat) (l : List UInt8) (w : World) (hl : l.length = n) (hc : n ≤ cap) (hcm : cap ≤ 9223372036854775807) (hn : n ≤ 1000000) (hr : Reads w w.heap.size A n (bs l)) (h : chk l ≠ 0) :
    Calls Try.prog 15 #[.slice A n cap] w fun e w' => e = .returned (.tuple #[vP zeroP (.slice none 0 0), .int .i64 (chk l)]) ∧ Below w.heap.size w w' := by
  have bk0 := Blk.new w 26 zcP
  have hB0 : Below w.heap.size w (w.alloc (.cells zcP 26)) := (Below.refl _ _).alloc (Nat.le_refl _) _
  have HL := Lib.hid hl
  clear hl
  go_enter Try.func15, Try.ntmps15
  go_wp2_with (fail)
  refine (check_any A n cap l _ HL.out hc hcm hn (hr.old hB0 (by simp))).mono ?_
  rintro e w1 ⟨rfl, hb1⟩
  have bk1 := bk0.below hb1 bk0.lt
  have hB1 := hB0.trans (hb1.mono hB0.size)
  obtain ⟨k, hk⟩ : ∃ k, chk l = k := ⟨_, rfl⟩
  rw [hk] at h ⊢
  have hne : (k != 0) = true := by simpa using h
  obtain ⟨k0, k1, k2, k3, k4, k5, k6, k7, k8, k9, k10⟩ := pk_cells bk1
  obtain ⟨f0, f1, f2, f3, f4, f5, f6, f7, f8, f9, f10⟩ := fz_all bk1
  have BK := Lib.hid bk1
  have HB := Lib.hid hB1
  clear h bk0 hB0 hb1 bk1 hB1 hr
  go_wp2
  exact bodyPost_ret (results_pk (p := 2) (u := 3) rfl _ _ w.heap.size zeroP (.slice none 0 0) rfl (pk_store BK.out _ _ _ _ _ _ _ _ _ _ _)) rfl ⟨by rw [hk]; rfl, below_store HB.out (Nat.le_refl _) _ _ _ _ _ _ _ _ _ _ _⟩

theorem grown_store (w : World) (b : Nat) (v0 v1 v2 v3 v4 v5 v6 v7 v8 v9 v10 : Value) : w.grownBy (((((((((((w.setCell ⟨b, 0, none⟩ v0).setCell ⟨b, 1, none⟩ v1).setCell ⟨b, 2, none⟩ v2).setCell ⟨b, 3, none⟩ v3).setCell ⟨b, 4, none⟩ v4).setCell ⟨b, 5, none⟩ v5).setCell ⟨b, 6, none⟩ v6).setCell ⟨b, 7, none⟩ v7).setCell ⟨b, 8, none⟩ v8).setCell ⟨b, 9, none⟩ v9).setCell ⟨b, 10, none⟩ v10) (some b) := by
  have h0 := only_setCell (World.grownBy.refl w (some b)) (p := ⟨b, 0, none⟩) (.inl rfl) v0
  have h1 := only_setCell h0 (p := ⟨b, 1, none⟩) (.inl rfl) v1
  have h2 := only_setCell h1 (p := ⟨b, 2, none⟩) (.inl rfl) v2
  have h3 := only_setCell h2 (p := ⟨b, 3, none⟩) (.inl rfl) v3
  have h4 := only_setCell h3 (p := ⟨b, 4, none⟩) (.inl rfl) v4
  have h5 := only_setCell h4 (p := ⟨b, 5, none⟩) (.inl rfl) v5
  have h6 := only_setCell h5 (p := ⟨b, 6, none⟩) (.inl rfl) v6
  have h7 := only_setCell h6 (p := ⟨b, 7, none⟩) (.inl rfl) v7
  have h8 := only_setCell h7 (p := ⟨b, 8, none⟩) (.inl rfl) v8
  have h9 := only_setCell h8 (p := ⟨b, 9, none⟩) (.inl rfl) v9
  have h10 := only_setCell h9 (p := ⟨b, 10, none⟩) (.inl rfl) v10
  exact h10
theorem ahead11 {w w5 : World} (h5 : Below (w.alloc (.cells zcP 26)).drew.heap.size (w.alloc (.cells zcP 26)).drew w5) : Blk w5 w.heap.size 26 zcP ∧ Below w.heap.size w w5 :=
  ⟨((Blk.new w _ zcP).drew).below h5 (by show w.heap.size < (w.alloc _).heap.size; simp), (((Below.refl _ w).alloc (Nat.le_refl _) _).drew).trans (h5.mono (by show w.heap.size ≤ (w.alloc _).heap.size; simp))⟩
/-- the array of numbers when k of them are read -/
def na (l : List UInt8) (k : Nat) : Array Value := #[.int .u64 (if 0 < k then (numAt l 4 : Int) else 0), .int .u64 (if 1 < k then (numAt l 12 : Int) else 0), .int .u64 (if 2 < k then (numAt l 20 : Int) else 0), .int .u64 (if 3 < k then (numAt l 28 : Int) else 0), .int .u64 (if 4 < k then (numAt l 36 : Int) else 0), .int .u64 (if 5 < k then (numAt l 44 : Int) else 0), .int .u64 (if 6 < k then (numAt l 52 : Int) else 0), .int .u64 (if 7 < k then (numAt l 60 : Int) else 0), .int .u64 (if 8 < k then (numAt l 68 : Int) else 0)]
theorem na_set (l : List UInt8) (k q : Nat) (hk : k < 9) (hq : q = 4 + 8 * k) : (na l k).setIfInBounds k (.int .u64 (numAt l q : Int)) = na l (k + 1) := by
  subst hq
  match k, hk with
  | 0, _ => simp [na]
  | 1, _ => simp [na]
  | 2, _ => simp [na]
  | 3, _ => simp [na]
  | 4, _ => simp [na]
  | 5, _ => simp [na]
  | 6, _ => simp [na]
  | 7, _ => simp [na]
  | 8, _ => simp [na]
theorem na_old (l : List UInt8) (k : Nat) (hk : k < 9) : (na l k)[k]? = some (.int .u64 0) := by
  match k, hk with
  | 0, _ => simp [na]
  | 1, _ => simp [na]
  | 2, _ => simp [na]
  | 3, _ => simp [na]
  | 4, _ => simp [na]
  | 5, _ => simp [na]
  | 6, _ => simp [na]
  | 7, _ => simp [na]
  | 8, _ => simp [na]
abbrev nvL (l : List UInt8) : Array Value := #[.int .u64 (numAt l 4 : Int), .int .u64 (numAt l 12 : Int), .int .u64 (numAt l 20 : Int), .int .u64 (numAt l 28 : Int), .int .u64 (numAt l 36 : Int), .int .u64 (numAt l 44 : Int), .int .u64 (numAt l 52 : Int), .int .u64 (numAt l 60 : Int), .int .u64 (numAt l 68 : Int)]
theorem na_all (l : List UInt8) : na l 9 = nvL l := by simp [na]
theorem na_none (l : List UInt8) : na l 0 = #[.int .u64 0, .int .u64 0, .int .u64 0, .int .u64 0, .int .u64 0, .int .u64 0, .int .u64 0, .int .u64 0, .int .u64 0] := by simp [na]
def nvs (l : List UInt8) : List Value := [.int .u64 (numAt l 4 : Int), .int .u64 (numAt l 12 : Int), .int .u64 (numAt l 20 : Int), .int .u64 (numAt l 28 : Int), .int .u64 (numAt l 36 : Int), .int .u64 (numAt l 44 : Int), .int .u64 (numAt l 52 : Int), .int .u64 (numAt l 60 : Int), .int .u64 (numAt l 68 : Int)]
theorem nvs_range {w : World} {b : Nat} {t : TypeId} {l : List UInt8} (h : Blk w b t (nvL l)) : w.rangeAt b 0 (nvs l) := fun j v hv => by
  rw [Nat.zero_add, h.cell]
  have e : nvL l = (nvs l).toArray := rfl
  rw [e, List.getElem?_toArray]
  exact hv
theorem nvs_size (l : List UInt8) : (Try.prog.info? 51).map (·.size) = some (nvs l).length := nums_size
theorem packet_at (l : List UInt8) (k : Nat) (hk : at_ l 3 = k) (w : World) : Calls Try.prog 34 #[.agg (nvs l).toArray, .int .i64 (k : Int)] w fun e w' => e = .returned (.agg (pc (pkt0 l) (.slice none 0 0))) ∧ Below w.heap.size w w' := by
  subst hk
  exact packet_any (numAt l 4) (numAt l 12) (numAt l 20) (numAt l 28) (numAt l 36) (numAt l 44) (numAt l 52) (numAt l 60) (numAt l 68) (at_ l 3 : Int) w (numAt_lt l 4) (numAt_lt l 12) (numAt_lt l 20) (numAt_lt l 28) (numAt_lt l 44) (numAt_lt l 52) (numAt_lt l 60)
theorem sec_eq (l : List UInt8) (c L : Nat) (hL : L = 9 * c) : (List.range c).map (pe ((l.drop 77).take L)) = (List.range c).map (entAt l) := by
  refine List.map_congr_left fun i hi => ?_
  have hi := List.mem_range.1 hi
  have e1 : ((((l.drop 77).take L).drop (i * 9)).take 8) = (l.drop (77 + 9 * i)).take 8 := by
    rw [List.drop_take, List.drop_drop, List.take_take, show min 8 (L - i * 9) = 8 by omega, show 77 + i * 9 = 77 + 9 * i by omega]
  have e2 : at_ ((l.drop 77).take L) (i * 9 + 8) = at_ l (85 + 9 * i) := by
    unfold at_
    rw [List.getElem?_take, if_pos (by omega), List.getElem?_drop, show 77 + (i * 9 + 8) = 85 + 9 * i by omega]
  unfold pe entAt numAt
  rw [e1, e2]

set_option maxRecDepth 100000 in
set_option maxHeartbeats 1000000 in
theorem decode_good (A : Option Addr) (n cap : Nat) (l : List UInt8) (w : World) (hl : l.length = n) (hc : n ≤ cap) (hcm : cap ≤ 9223372036854775807) (hn : n ≤ 1000000) (hr : Reads w w.heap.size A n (bs l)) (h : chk l = 0) :
    Calls Try.prog 15 #[.slice A n cap] w fun e w' => ∃ v, e = .returned (.tuple #[vP (dec l).1 v, .int .i64 (dec l).2]) ∧ w'.ownsRow w.heap.size 48 2 v (dec l).1.sec.length (flatR (dec l).1.sec) ∧ Below w.heap.size w w' := by
  obtain ⟨_, _, _, _, _, hc3, hln, _⟩ := chk_zero h
  have hn79 : 79 ≤ n := by omega
  have bk0 := Blk.new w 26 zcP
  have hB0 : Below w.heap.size w (w.alloc (.cells zcP 26)) := (Below.refl _ _).alloc (Nat.le_refl _) _
  have HL := Lib.hid hl
  have HCK := Lib.hid h
  have HLN := Lib.hid hln
  clear hl h hln
  go_enter Try.func15, Try.ntmps15
  go_wp2_with (fail)
  refine (check_any A n cap l _ HL.out hc hcm hn (hr.old hB0 (by simp))).mono ?_
  rintro e w1 ⟨rfl, hb1⟩
  rw [HCK.out]
  have BK1 := Lib.hid (bk0.below hb1 bk0.lt)
  have HB1 := Lib.hid (hB0.trans (hb1.mono hB0.size))
  have hs1 : w.heap.size < w1.heap.size := BK1.out.lt
  have HR1 := Lib.hid (hr.old HB1.out HB1.out.size)
  have hbN : Blk (w1.alloc (.cells #[.int .u64 0, .int .u64 0, .int .u64 0, .int .u64 0, .int .u64 0, .int .u64 0, .int .u64 0, .int .u64 0, .int .u64 0] 51)) w1.heap.size 51 (na l 0) := by rw [na_none]; exact Blk.new _ _ _
  clear bk0 hB0 hb1 hr
  go_wp2
  go_loopw [6, 14] (fun _ i wr => ∃ k : Nat, k ≤ 9 ∧ i = .int .i64 k ∧ Blk wr w1.heap.size 51 (na l k) ∧ Below w1.heap.size w1 wr) (fun _ i _ => 9 - (intOf i).toNat)
  case atStart => exact ⟨0, by omega, rfl, hbN, (Below.refl _ _).alloc (Nat.le_refl _) _⟩
  case round =>
    obtain ⟨k, hk, rfl, hbk, hbw⟩ := hrel
    clear hbN
    by_cases hk9 : k < 9
    · obtain ⟨q, hq⟩ : ∃ q, q = 4 + 8 * k := ⟨_, rfl⟩
      have HQ := Lib.hid hq
      have q0 : (0 : Int) ≤ (q : Int) := by omega
      have q1 : (q : Int) ≤ (n : Int) := by omega
      have q2 : (n : Int) ≤ (cap : Int) := by omega
      have q3 : ¬ cap = q := by omega
      have q4 : (4 : Int) + (k : Int) * 8 = (q : Int) := by omega
      have hce : wr.cell? ⟨w1.heap.size, k, none⟩ = some (.int .u64 0) := by rw [hbk.cell]; exact na_old l k hk9
      have hfz := hbk.frozen k
      have HS := Lib.hid (na_set l k q hk9 hq)
      obtain ⟨ad, hAe, _⟩ := HR1.out.2 (by omega)
      subst hAe
      have hrk := (HR1.out.old hbw hbw.size).cut (k := q) (cap := cap) (by omega) hc
      rw [if_neg q3, show (bs l).drop q = bs (l.drop q) by unfold bs; rw [List.map_drop]] at hrk
      have hnq : 8 ≤ n - q := by omega
      clear hq
      go_wp2_with (go_at_call 33; refine (read_any (some (ad.add q)) (n - q) (cap - q) _ (l.drop q) _ hnq (by omega) (by omega) hrk).mono ?_; rintro e w' ⟨rfl, rfl⟩)
      go_roundw
      case rel => exact ⟨k + 1, by omega, by go_num, by rw [← HS.out]; exact hbk.set_ _ _, hbw.setCell (Nat.le_refl _) _⟩
      case measure => simp [intOf]; omega
    · obtain rfl : k = 9 := by omega
      obtain ⟨w2, rfl⟩ : ∃ w2, w2 = wr := ⟨_, rfl⟩
      rw [na_all] at hbk
      have hs2 : w1.heap.size < w2.heap.size := hbk.lt
      obtain ⟨ad, rfl, _, _, _, c3⟩ := cells4 (l := l) (by omega) (HR1.out.old hbw hbw.size)
      obtain ⟨b3, hb3⟩ : ∃ b, at_ l 3 = b := ⟨_, rfl⟩
      rw [hb3] at c3
      have hbl : ad.block < w2.heap.size := lt_of_cell (a := ⟨ad.block, ad.off + 3, none⟩) c3
      have lt3 : b3 < 256 := by rw [← hb3]; exact UInt8.toNat_lt _
      have hw3 : IntKind.i64.wrap (b3 : Int) = (b3 : Int) := by rw [IntKind.wrap_i64]; omega
      have HB3 := Lib.hid hb3
      clear hb3
      have HN : Hid (∀ w', Below w2.heap.size w2 w' → (fun w' => w'.rangeAt w1.heap.size 0 (nvs l) ∧ w'.cell? ⟨ad.block, ad.off + 3, none⟩ = some (.int .u8 (b3 : Int))) w') := fun w' hb => ⟨nvs_range (hbk.below hb hbk.lt), (hb.cell (p := ⟨ad.block, ad.off + 3, none⟩) hbl).trans c3⟩
      have HD0 : Below w2.heap.size w2 w2.drew := (Below.refl _ _).drew
      have HD1 : Below w2.heap.size w2 (w2.alloc (.cells zcP 26)).drew := ((Below.refl _ _).alloc (Nat.le_refl _) _).drew
      have HBW := Lib.hid hbw
      have hu51 := Try.underlying51
      have hi51 := nvs_size l
      have hn3 : (3 : Int) < (n : Int) := by omega
      clear hbk hbw c3
      go_upto_region 10 with (fail)
      go_cut [7] from 26 to 31 (fun vx wx => ∃ bx, vx = .pointer (some ⟨bx, 0, none⟩) ∧ Blk wx bx 26 (pc (pkt0 l) (.slice none 0 0)) ∧ Below w2.heap.size w2 wx ∧ w2.heap.size ≤ bx)
      case first =>
        go_region_held3 (fun w' => w'.rangeAt w1.heap.size 0 (nvs l) ∧ w'.cell? ⟨ad.block, ad.off + 3, none⟩ = some (.int .u8 (b3 : Int))) ((refine HN.out _ ?_; first | with_reducible exact HD0 | with_reducible exact HD1 | with_reducible exact HB5 | with_reducible exact HB5.alloc HB5.size _ | (with_reducible refine below_store HB5 ?_ _ _ _ _ _ _ _ _ _ _ _; exact Nat.le_refl _) | (with_reducible refine below_store (HB5.alloc HB5.size _) ?_ _ _ _ _ _ _ _ _ _ _ _; exact HB5.size) | fail)) (first | (go_at_call 34; refine (packet_at l b3 HB3.out _).mono ?_; rintro en w5 ⟨rfl, hb5⟩; dsimp only [pc, pkt0]; rw [HB3.out]; first | (have HN6 := ahead11 (w := w2) hb5; have HB5 := HN6.2; have HN5 := HN6.1; obtain ⟨k0, k1, k2, k3, k4, k5, k6, k7, k8, k9, k10⟩ := pk_cells HN5; obtain ⟨f0, f1, f2, f3, f4, f5, f6, f7, f8, f9, f10⟩ := fz_all HN5) | (have HB5 : Below w2.heap.size w2 w5 := HD0.trans hb5)) | fail)
        · go_wp2_with fail
          go_meet
          refine ⟨w5.heap.size, rfl, ?_, HB5.alloc HB5.size _, HB5.size⟩
          unfold pc pkt0
          rw [HB3.out]
          with_reducible exact Blk.new w5 _ _
        · go_wp2_with fail
          go_meet
          refine ⟨w2.heap.size, rfl, ?_, below_store HB5 (Nat.le_refl _) _ _ _ _ _ _ _ _ _ _ _, Nat.le_refl _⟩
          unfold pc pkt0
          rw [HB3.out]
          with_reducible exact pk_store HN5 _ _ _ _ _ _ _ _ _ _ _
      case rest =>
        obtain ⟨bx, rfl, hP, hwc, hbx⟩ := hcut
        obtain ⟨c, hcc⟩ : ∃ c, at_ l 76 = c := ⟨_, rfl⟩
        obtain ⟨N2, hN2⟩ : ∃ N2, N2 = n - 2 := ⟨_, rfl⟩
        have hL9 : N2 - 77 = c * 9 := by have := HLN.out; have := HL.out; omega
        have hc3' : c ≤ 3 := by omega
        have g1 : (n : Int) - 2 = (N2 : Int) := by omega
        have g2 : (77 : Int) ≤ (N2 : Int) := by omega
        have g3 : (N2 : Int) ≤ (cap : Int) := by omega
        have g4 : ¬ cap = 77 := by omega
        have hBc : Below w1.heap.size w1 wc := HBW.out.trans (hwc.mono (by omega))
        have hrs := (((HR1.out.old hBc hBc.size).cut (k := 77) (cap := cap) (by omega) hc).take (k := N2 - 77) (by omega))
        rw [if_neg g4, show ((bs l).drop 77).take (N2 - 77) = bs ((l.drop 77).take (N2 - 77)) by unfold bs; rw [List.map_take, List.map_drop]] at hrs
        have HSE := Lib.hid (sec_eq l c (N2 - 77) (by omega))
        have hcap2 : N2 - 77 ≤ cap - 77 := by omega
        have hcap3 : cap - 77 ≤ 9223372036854775807 := by omega
        have HPX := Lib.hid hP
        have HBC := Lib.hid hBc
        have HWC := Lib.hid hwc
        have HRS := Lib.hid hrs
        have hbxlt := hP.lt
        have HCC := Lib.hid hcc
        have HL9 := Lib.hid hL9
        clear hP hBc hwc hrs hN2 hcc hL9
        go_wp2_with (fail)
        refine (wsection_any (ad.add 77) c (N2 - 77) (cap - 77) ((l.drop 77).take (N2 - 77)) _ HL9.out hc3' hcap2 hcap3 HRS.out).mono ?_
        rintro e w7 ⟨v7, rfl, hown7, hb7⟩
        rw [HSE.out] at hown7
        obtain ⟨A9, c9, rfl, hc9, hcm9, hE7⟩ := own_reps hown7
        obtain ⟨es, hes⟩ : ∃ es, (List.range c).map (entAt l) = es := ⟨_, rfl⟩
        rw [hes] at hown7 hE7
        have hesl : es.length = c := by rw [← hes]; simp
        have hPK2 : pkt l = { pkt0 l with sec := es } := by unfold pkt; rw [HCC.out, hes]
        have hd : dec l = if okP (pkt l) then (pkt l, 0) else (zeroP, 10) := by unfold dec; rw [if_neg (by rw [HCK.out]; simp)]
        have bk7 := HPX.out.below hb7 hbxlt
        obtain ⟨q, hq⟩ : ∃ q, pkt0 l = q := ⟨_, rfl⟩
        rw [hq] at bk7 hPK2
        obtain ⟨kind, frm, ep, cf, ma, sl, off, ab, ac, as_, sec0⟩ := q
        have bk7' : Blk w7 bx 26 #[.int .i64 kind, .int .i64 frm, .int .i64 ep, .int .i64 cf, .int .i64 ma, .int .u64 sl, .int .i64 off, .int .i64 ab, .int .i64 ac, .int .u64 as_, .slice none 0 0] := bk7
        have u10 := bk7'.cell 10
        have f10 := bk7'.frozen 10
        have bk8 : Blk (w7.setCell ⟨bx, 10, none⟩ (.slice A9 c c9)) bx 26 #[.int .i64 kind, .int .i64 frm, .int .i64 ep, .int .i64 cf, .int .i64 ma, .int .u64 sl, .int .i64 off, .int .i64 ab, .int .i64 ac, .int .u64 as_, .slice A9 c c9] := by
          have := bk7'.set_ 10 (.slice A9 c c9)
          simpa only [List.setIfInBounds_toArray, List.set_cons_zero, List.set_cons_succ] using this
        obtain ⟨k0, k1, k2, k3, k4, k5, k6, k7, k8, k9, k10⟩ := pk_cells bk8
        have hown8 : (w7.setCell ⟨bx, 10, none⟩ (.slice A9 c c9)).ownsRow wc.heap.size 48 2 (.slice A9 c c9) c (flatR es) := World.ownsRow.kept hown7 (only_setCell (World.grownBy.refl _ _) (p := ⟨bx, 10, none⟩) (.inl rfl) _) (.inr fun e => by have := (hown7.lt bx e).1; omega)
        have hs7 := hb7.size
        have hB8 : Below w1.heap.size w1 (w7.setCell ⟨bx, 10, none⟩ (.slice A9 c c9)) := (HBC.out.trans (hb7.mono (Nat.le_trans HBC.out.size (Nat.le_refl _)))).setCell (p := ⟨bx, 10, none⟩) (by show w1.heap.size ≤ bx; omega) _
        have u10' : w7.cell? ⟨bx, 10, none⟩ = some (.slice none 0 0) := u10
        have BK8 := Lib.hid bk8
        have HB8 := Lib.hid hB8
        have HOWN8 := Lib.hid hown8
        have HPK := Lib.hid hPK2
        have HDD := Lib.hid hd
        clear bk7 bk7' bk8 hB8 hown7 hown8 hE7 hPK2 hd hq hes hb7 u10
        go_wp2_with (fail)
        obtain ⟨w8, hw8⟩ : ∃ w8, w7.setCell ⟨bx, 10, none⟩ (.slice A9 c c9) = w8 := ⟨_, rfl⟩
        rw [hw8] at BK8 HB8 HOWN8 k0 k1 k2 k3 k4 k5 k6 k7 k8 k9 k10 ⊢
        obtain ⟨A8, c8, e8, _, _, hE8⟩ := own_reps HOWN8.out
        cases e8
        refine (right_any ⟨kind, frm, ep, cf, ma, sl, off, ab, ac, as_, es⟩ A9 c c9 _ hesl hE8).mono ?_
        rintro e w9 ⟨rfl, hb9⟩
        have bk9 := BK8.out.below hb9 BK8.out.lt
        have hB9 := HB8.out.trans (hb9.mono (Nat.le_trans HB8.out.size (Nat.le_refl _)))
        have br9 := BK1.out.below hB9 hs1
        have hown9 : w9.ownsRow wc.heap.size 48 2 (.slice A9 c c9) c (flatR es) := ekept HOWN8.out hb9
        obtain ⟨j0, j1, j2, j3, j4, j5, j6, j7, j8, j9, j10⟩ := pk_cells bk9
        obtain ⟨m0, m1, m2, m3, m4, m5, m6, m7, m8, m9, m10⟩ := pk_cells br9
        obtain ⟨f0, f1, f2, f3, f4, f5, f6, f7, f8, f9, f10'⟩ := fz_all br9
        have BR9 := Lib.hid br9
        have HB9 := Lib.hid (HB1.out.trans (hB9.mono (Nat.le_of_lt hs1)))
        have HOWN9 := Lib.hid hown9
        have hwcs := HBC.out.size
        clear k0 k1 k2 k3 k4 k5 k6 k7 k8 k9 k10 hw8 bk9 br9 hB9 hown9 hb9 hE8 f10 u10'
        cases hok : okP ⟨kind, frm, ep, cf, ma, sl, off, ab, ac, as_, es⟩ with
        | true =>
          have HX : Hid (dec l = (⟨kind, frm, ep, cf, ma, sl, off, ab, ac, as_, es⟩, 0)) := by show _ = _; rw [HDD.out, HPK.out]; exact if_pos hok
          clear hok
          go_wp2
          refine bodyPost_ret (results_pk (p := 2) (u := 3) rfl _ _ w.heap.size ⟨kind, frm, ep, cf, ma, sl, off, ab, ac, as_, es⟩ (.slice A9 c c9) rfl (pk_store BR9.out _ _ _ _ _ _ _ _ _ _ _)) rfl ⟨.slice A9 c c9, by rw [HX.out]; rfl, ?_, below_store HB9.out (Nat.le_refl _) _ _ _ _ _ _ _ _ _ _ _⟩
          rw [HX.out]
          show World.ownsRow _ w.heap.size _ 2 _ es.length (flatR es)
          rw [hesl]
          refine row_mono (B := wc.heap.size) ?_ (by omega)
          exact World.ownsRow.kept HOWN9.out (grown_store w9 w.heap.size _ _ _ _ _ _ _ _ _ _ _) (.inr fun e => by have := (HOWN9.out.lt _ e).1; omega)
        | false =>
          have HX : Hid (dec l = (zeroP, 10)) := by show _ = _; rw [HDD.out, HPK.out]; exact if_neg (by rw [hok]; simp)
          clear hok
          go_wp2
          refine bodyPost_ret (results_pk (p := 2) (u := 3) rfl _ _ w.heap.size zeroP (.slice none 0 0) rfl (pk_store BR9.out _ _ _ _ _ _ _ _ _ _ _)) rfl ⟨.slice none 0 0, by rw [HX.out]; rfl, ?_, below_store HB9.out (Nat.le_refl _) _ _ _ _ _ _ _ _ _ _ _⟩
          rw [HX.out]
          exact World.ownsRow_nil _ _ _ _
/-- what Decode comes to -/
theorem decode_any (A : Option Addr) (n cap : Nat) (l : List UInt8) (w : World) (hl : l.length = n) (hc : n ≤ cap) (hcm : cap ≤ 9223372036854775807) (hn : n ≤ 1000000) (hr : Reads w w.heap.size A n (bs l)) :
    Calls Try.prog 15 #[.slice A n cap] w fun e w' => ∃ v, e = .returned (.tuple #[vP (dec l).1 v, .int .i64 (dec l).2]) ∧ w'.ownsRow w.heap.size 48 2 v (dec l).1.sec.length (flatR (dec l).1.sec) ∧ Below w.heap.size w w' := by
  by_cases h : chk l = 0
  · exact decode_good A n cap l w hl hc hcm hn hr h
  · refine (decode_bad A n cap l w hl hc hcm hn hr h).mono ?_
    rintro e w' ⟨rfl, hb⟩
    have hd : dec l = (zeroP, chk l) := if_pos h
    rw [hd]
    exact ⟨_, rfl, World.ownsRow_nil _ _ _ _, hb⟩
end Go.Proofs.Ytneanlffllejnaa
