/-
  WHAT IS PROVED: the law RosterRounds answers true for all arguments: spoken of again and again every member comes, and each as often as another, but for one time. No condition beyond those of the given row.
-/
import Derived.Test.YtfchhlibjhblmaaForgets
import Derived.BigRegion
namespace Go.Proofs.Ytfchhlibjhblmaa
open Go.RowKit Go.Lib Go.Maps

/-- how often the i-th of a is told, when T are told round and round -/
def cnt (T a i : Nat) : Nat := T / a + if i < T % a then 1 else 0
theorem cnt_zero (a i : Nat) : cnt 0 a i = 0 := by unfold cnt; simp
theorem cnt_succ {T a i : Nat} (ha : 0 < a) (hi : i < a) : cnt (T + 1) a i = cnt T a i + if i = T % a then 1 else 0 := by
  have hs := Nat.mod_lt T ha
  have hT := Nat.div_add_mod T a
  unfold cnt
  by_cases h : T % a + 1 < a
  · have e1 : (T + 1) / a = T / a := by
      have : T + 1 = (T % a + 1) + a * (T / a) := by omega
      rw [this, Nat.add_mul_div_left _ _ ha, Nat.div_eq_of_lt h, Nat.zero_add]
    have e2 : (T + 1) % a = T % a + 1 := by
      have : T + 1 = (T % a + 1) + a * (T / a) := by omega
      rw [this, Nat.add_mul_mod_self_left, Nat.mod_eq_of_lt h]
    rw [e1, e2]
    split <;> split <;> split <;> omega
  · have he : T + 1 = a * (T / a + 1) := by rw [Nat.mul_add, Nat.mul_one]; omega
    have e1 : (T + 1) / a = T / a + 1 := by rw [he, Nat.mul_div_cancel_left _ ha]
    have e2 : (T + 1) % a = 0 := by rw [he, Nat.mul_mod_right]
    rw [e1, e2]
    split <;> split <;> split <;> omega
theorem but_all {L : List Mb} (h : ∀ p ∈ L, okM p) : butL L 0 = L.map Mb.id := by
  unfold butL
  congr 1
  rw [List.filter_eq_self]
  intro p hp
  have := (h p hp).1
  simp; omega
theorem pick_get {l : List Int} {c k j : Nat} (h : j < k) : (pickL l c k)[j]? = some (l.getD ((c + j) % l.length) 0) := by
  unfold pickL
  rw [List.getElem?_map, List.getElem?_range h]
  rfl
theorem next_len {R : Ro} (h : ∀ p ∈ R.L, okM p) (q : Nat) : (nextL R q 0).length = min q R.L.length := by
  unfold nextL
  rw [pick_len, but_all h]
  unfold numN
  rw [List.length_map]
  omega
theorem next_at {R : Ro} (h : ∀ p ∈ R.L, okM p) {q : Int} {u : Nat} {z : Int} (hz : (nextL R q 0)[u]? = some z) : ∃ p, R.L[(R.c + u) % R.L.length]? = some p ∧ p.id = z := by
  unfold nextL at hz
  have hu := (List.getElem?_eq_some_iff.1 hz).1
  rw [pick_len] at hu
  rw [pick_get hu] at hz
  have h1 := num_le (butL R.L 0) q
  rw [but_all h, List.length_map] at h1 hz
  have hlt : (R.c + u) % R.L.length < R.L.length := Nat.mod_lt _ (by rw [but_all h] at hu; omega)
  refine ⟨R.L[(R.c + u) % R.L.length], List.getElem?_eq_getElem hlt, ?_⟩
  injection hz with hz
  rw [← hz, List.getD_eq_getElem?_getD, List.getElem?_map, List.getElem?_eq_getElem hlt]
  rfl
theorem next_c (R : Ro) (h : ∀ p ∈ R.L, okM p) (q : Nat) : (nextR R q 0).c = R.c + min q R.L.length := by
  show R.c + numN (butL R.L 0) q = _
  rw [but_all h]
  unfold numN
  rw [List.length_map]
  omega
theorem row_turn {w w' : World} {F : Nat → Prop} {b n : Nat} {t : TypeId} {f : Nat → Value} (h : w.rowIs b t n f) (k : Turn w w' F) (hF : ¬ F b) : w'.rowIs b t n f := h.of_block (k.block b h.lt hF)

set_option maxRecDepth 100000 in
set_option maxHeartbeats 4000000 in
theorem rounds_in (A : Option Addr) (n c : Nat) (l : List Int) (qn rn : Nat) (W : World) (hn : n ≤ 60) (hq1 : 1 ≤ qn) (hq2 : qn ≤ 20) (hr2 : rn ≤ 60) (hr : Reads W W.heap.size A n (zints l)) :
    Calls Try.prog 5 #[.slice A n c, .int .i64 (qn : Int), .int .i64 (rn : Int)] W (Says true W) := by
  have d0 : (n : Int) ≤ 60 := by omega
  have d1 : (1 : Int) ≤ (qn : Int) := by omega
  have d2 : (qn : Int) ≤ 20 := by omega
  have d3 : (rn : Int) ≤ 60 := by omega
  have d4 : (0 : Int) ≤ (rn : Int) := by omega
  have HR := Lib.hid hr
  have hmk := fun (a : Nat) (ha : a ≤ 1000) (w : World) => run_make_row' (P := Try.prog) 43 3 (.int .i64 0) 8 Try.underlying43 int_info rfl .i64 .i64 a (by omega) (by omega) w
  clear hr
  go_enter Try.func5, Try.ntmps5
  go_wp2_with (fail)
  refine (anchor_any _).mono ?_
  rintro e w0 ⟨rfl, hb0⟩
  have HB0 := Lib.hid hb0
  clear hb0
  go_wp2_with (fail)
  refine (new_yes 1 _ id1).mono ?_
  rintro e w1 ⟨g, F, rfl, k1, hb1⟩
  have K1 := Lib.hid (k1.low HB0.out.size)
  have HB1 := Lib.hid (HB0.out.trans (hb1.mono HB0.out.size))
  clear k1 hb1
  go_wp2
  go_loopw [53] (fun i wr => ∃ (k : Nat) (F : Nat → Prop) (R : Ro), k ≤ n ∧ i = .int .i64 k ∧ Rs wr W.heap.size g F R ∧ Fresh R ∧ Below W.heap.size W wr) (fun i _ => n - (RowKit.intOf i).toNat)
  case atStart => exact ⟨0, F, _, by omega, rfl, K1.out, Fresh.nil, HB1.out⟩
  case round =>
    obtain ⟨w3, rfl⟩ : ∃ w3, w3 = wr := ⟨_, rfl⟩
    obtain ⟨k, F, R, hk, rfl, hwt, hfr, hbw⟩ := hrel
    have HK := Lib.hid hwt
    have HFR := Lib.hid hfr
    have HW := Lib.hid hbw
    clear hwt hbw hfr
    by_cases hlt : k < n
    · obtain ⟨ad, u, rfl, hu, hcx⟩ := (HR.out.old HW.out HW.out.size).at_ hlt
      obtain ⟨x, _, rfl⟩ := zints_at hu
      clear hu
      go_wp2_with (fail)
      refine (add_any _ g F R _ HK.out x 0).mono ?_
      rintro e w5 ⟨rfl, F5, k5, t5, _⟩
      have K5 := Lib.hid k5
      have HB5 := Lib.hid (HK.out.go HW.out t5)
      clear k5 t5
      go_wp2
      go_roundw
      case rel => exact ⟨k + 1, F5, _, by omega, by go_num, K5.out, HFR.out.add HK.out.good x 0, HB5.out⟩
      case measure => simp [RowKit.intOf]; omega
    · obtain rfl : k = n := by omega
      obtain ⟨a, ha⟩ : ∃ a, R.L.length = a := ⟨_, rfl⟩
      have HLA := Lib.hid ha
      have ha15 : a ≤ 15 := by rw [← ha]; exact HK.out.good.len
      have HOK := Lib.hid HK.out.good.ok
      have HUP := Lib.hid HK.out.good.up
      have HC0 := Lib.hid HFR.out.c
      clear ha
      go_wp2_with (fail)
      refine (list_any _ g F R _ HK.out).mono ?_
      rintro e w4 ⟨hb4, v4, rfl, ho4⟩
      rw [HLA.out] at ho4
      obtain ⟨A4, c4, rfl, hc4, hcm4⟩ := own_form ho4
      have HL4 : Hid (Rd w4 F 5 A4 a (flatM R.L)) := Lib.hid (rd_own ho4 HK.out.lt (Nat.le_refl _))
      have K4 := Lib.hid (HK.out.below hb4)
      have HB4 := Lib.hid (HW.out.trans (hb4.mono HW.out.size))
      clear hb4 ho4
      have hmk4 := hmk a (by omega) w4
      obtain ⟨gt, hgt⟩ : ∃ gt, w4.heap.size = gt := ⟨_, rfl⟩
      obtain ⟨w5, hw5⟩ : ∃ w5, w4.alloc (.cells (madeCells #[.int .i64 0] a) 3) = w5 := ⟨_, rfl⟩
      rw [hgt, hw5] at hmk4
      have hal : Below w4.heap.size w4 w5 := by rw [← hw5]; exact (Below.refl _ _).alloc (Nat.le_refl _) _
      have K5 := Lib.hid (K4.out.below hal)
      have HB5 := Lib.hid (HB4.out.trans (hal.mono HB4.out.size))
      have HGT : Hid (¬ F gt) := Lib.hid (fun f => by have := K4.out.lt gt f; omega)
      have HGW : Hid (W.heap.size ≤ gt) := Lib.hid (by rw [← hgt]; exact HB4.out.size)
      have HL5 : Hid (Rd w5 (fun i => F i ∨ i = gt) 5 A4 a (flatM R.L)) := Lib.hid ⟨(HL4.out.below hal).1, fun hn => by
        obtain ⟨ad, e, hlt, hf, hc⟩ := HL4.out.2 hn
        exact ⟨ad, e, Nat.lt_of_lt_of_le hlt hal.size, fun f => by rcases f with f | f; (· exact hf f); (· omega), fun j u hu => (hal.cell (by rw [block_of_add]; exact hlt)).trans (hc j u hu)⟩⟩
      have HT5 : Hid (w5.rowIs gt 3 a (fun t => .int .i64 ((cnt 0 a t : Nat) : Int))) := Lib.hid (by
        rw [← hw5, ← hgt]
        exact (World.rowIs_made w4 (.int .i64 0) a _).congr (fun i _ => by rw [cnt_zero]; rfl))
      clear hal hgt hw5
      have hway : qn ≤ a ∨ a < qn := by omega
      rcases hway with hqa | hqa
      · have hmin : min qn a = qn := by omega
        have HMN := Lib.hid hmin
        clear hmin
        go_wp2
        go_loopw [67] (fun i wr => ∃ (j : Nat) (R' : Ro), j ≤ rn ∧ i = .int .i64 j ∧ Rs wr W.heap.size g F R' ∧ R'.L = R.L ∧ R'.c = j * qn ∧ wr.rowIs gt 3 a (fun t => .int .i64 ((cnt (j * qn) a t : Nat) : Int)) ∧ Rd wr (fun i => F i ∨ i = gt) 5 A4 a (flatM R.L) ∧ Below W.heap.size W wr) (fun i _ => rn - (RowKit.intOf i).toNat)
        case atStart => exact ⟨0, R, by omega, rfl, K5.out, rfl, by rw [HC0.out, Nat.zero_mul], by rw [Nat.zero_mul]; exact HT5.out, HL5.out, HB5.out⟩
        case round =>
          clear K4 HB4 K5 HB5 HL4 HL5 HT5
          obtain ⟨w6, rfl⟩ : ∃ w6, w6 = wr := ⟨_, rfl⟩
          obtain ⟨j, R', hj, rfl, hrs, hRL, hRc, hrow, hrd, hb6⟩ := hrel
          have K6 := Lib.hid hrs
          have HRL := Lib.hid hRL
          have HRC := Lib.hid hRc
          have HT6 := Lib.hid hrow
          have HL6 := Lib.hid hrd
          have HB6 := Lib.hid hb6
          clear hrs hRL hRc hrow hrd hb6
          by_cases hjl : j < rn
          · have hjN : j * qn ≤ 60 * 20 := Nat.mul_le_mul (by omega) (by omega)
            have HJN := Lib.hid hjN
            obtain ⟨LT, HLT⟩ : ∃ y, Hid (nextL R' qn 0 = y) := ⟨_, Lib.hid rfl⟩
            have hlen : LT.length = qn := by rw [← HLT.out, next_len K6.out.good.ok, HRL.out, HLA.out]; exact HMN.out
            have HLN := Lib.hid hlen
            have HNA : Hid (∀ (u : Nat) (z : Int), LT[u]? = some z → ∃ p, R.L[(j * qn + u) % a]? = some p ∧ p.id = z) := Lib.hid (fun u z hz => by
              rw [← HLT.out] at hz
              have := next_at K6.out.good.ok hz
              rwa [HRL.out, HRC.out, HLA.out] at this)
            clear hjN hlen
            go_wp2_with (fail)
            refine (next_any _ g F R' _ K6.out (by rw [HRC.out]; have := HJN.out; omega) (qn : Int) 0).mono ?_
            rintro e w8 ⟨⟨v8, rfl, ho8⟩, k8, t8⟩
            rw [HLT.out, HLN.out] at ho8
            obtain ⟨A8, c8, rfl, hc8, hcm8⟩ := own_form ho8
            have HO8 : Hid (Rd w8 (fun i => i = gt) 1 A8 qn (zints LT)) := Lib.hid (rd_own (W := w6) ho8 (fun i e => by rw [e]; exact HT6.out.lt) (Nat.le_refl _))
            have K8 := Lib.hid k8
            have HB8 := Lib.hid (K6.out.go HB6.out t8)
            have HT8 := Lib.hid (row_turn HT6.out t8 HGT.out)
            have HL8 := Lib.hid (HL6.out.turn (t8.mono (fun i e => .inl e)) (Sub.refl _ _))
            clear ho8 k8 t8
            go_wp2
            go_loopw [81] (fun i wr => ∃ (u : Nat), u ≤ qn ∧ i = .int .i64 u ∧ wr.rowIs gt 3 a (fun t => .int .i64 ((cnt (j * qn + u) a t : Nat) : Int)) ∧ Turn w8 wr (fun i => i = gt)) (fun i _ => qn - (RowKit.intOf i).toNat)
            case atStart => exact ⟨0, by omega, rfl, HT8.out, Turn.refl _ _⟩
            case round =>
              obtain ⟨w9, rfl⟩ : ∃ w9, w9 = wr := ⟨_, rfl⟩
              obtain ⟨u, hu, rfl, hrow, ht9⟩ := hrel
              have HT9 := Lib.hid hrow
              have HU9 := Lib.hid ht9
              clear hrow ht9
              by_cases hul : u < qn
              · obtain ⟨ad, z, rfl, hz, _, _, e0⟩ := (HO8.out.turn HU9.out (Sub.refl _ _)).atZ hul
                obtain ⟨py, hpy, hpz⟩ := HNA.out u z hz
                obtain ⟨y, hy⟩ : ∃ y, (j * qn + u) % a = y := ⟨_, rfl⟩
                rw [hy] at hpy
                have hya : y < a := by rw [← hy]; exact Nat.mod_lt _ (by omega)
                have HPY := Lib.hid hpy
                have HPZ := Lib.hid hpz
                have HY := Lib.hid hy
                clear hz hpy hpz hy
                go_wp2
                go_loopw [87] (fun i wr => ∃ (i' : Nat), i' ≤ a ∧ i = .int .i64 i' ∧ wr.rowIs gt 3 a (fun t => .int .i64 ((cnt (j * qn + u) a t + (if t < i' ∧ t = y then 1 else 0) : Nat) : Int)) ∧ Turn w8 wr (fun i => i = gt)) (fun i _ => a - (RowKit.intOf i).toNat)
                case atStart => exact ⟨0, by omega, rfl, HT9.out.congr (fun t _ => by simp), HU9.out⟩
                case round =>
                  obtain ⟨w10, rfl⟩ : ∃ w10, w10 = wr := ⟨_, rfl⟩
                  obtain ⟨i', hi, rfl, hrow, ht10⟩ := hrel
                  have HT10 := Lib.hid hrow
                  have HU10 := Lib.hid ht10
                  clear hrow ht10
                  by_cases hil : i' < a
                  · obtain ⟨ad3, p, rfl, hp, _, _, b0, b1, b2, b3, b4⟩ := (HL8.out.turn (HU10.out.mono (fun i e => .inr e)) (Sub.refl _ _)).atM hil
                    have x0 := (Bx.new w10 p rfl).cells.1
                    have HBA : Hid (Turn w8 (w10.alloc (.cells #[.int .i64 p.id, .int .i64 p.ma, .int .i64 p.co, .int .i64 p.of_, .int .i64 p.fa] 34)) (fun i => i = gt)) := Lib.hid (HU10.out.then_ ((Below.refl _ _).alloc (Nat.le_refl _) _))
                    have HTA := Lib.hid (HT10.out.alloc (.cells #[.int .i64 p.id, .int .i64 p.ma, .int .i64 p.co, .int .i64 p.of_, .int .i64 p.fa] 34))
                    by_cases hiy : i' = y
                    · subst hiy
                      have hpp : p = py := by have := HPY.out; rw [hp] at this; injection this
                      have tz : (p.id == z) = true := by rw [hpp, HPZ.out]; simp
                      obtain ⟨v, hv⟩ : ∃ v : Int, ((cnt (j * qn + u) a i' + (if i' < i' ∧ i' = i' then 1 else 0) : Nat) : Int) = v := ⟨_, rfl⟩
                      have y0 := HTA.out.cell hil
                      rw [hv] at y0
                      have y1 := HTA.out.frozen i'
                      have hv2 : v = ((cnt (j * qn + u) a i' : Nat) : Int) := by rw [← hv]; simp
                      have hvb : (cnt (j * qn + u) a i') ≤ 100000 := by
                        unfold cnt
                        have h1 := Nat.div_le_self (j * qn + u) a
                        have h2 := HJN.out
                        split <;> omega
                      have hv3 : 0 ≤ v ∧ v ≤ 100000 := by omega
                      obtain ⟨hv4, hv5⟩ := hv3
                      have HV := Lib.hid hv2
                      clear hp hpp hv hv2 hvb
                      go_wp2
                      go_roundw
                      case rel =>
                        refine ⟨i' + 1, by omega, by go_num, (HTA.out.set i' (.int .i64 (v + 1))).congr (fun t ht => ?_), HBA.out.trans (turn_set _ _ _) (fun i _ e => e)⟩
                        by_cases e : t = i'
                        · subst e
                          simp only [if_true]
                          rw [HV.out]
                          simp
                        · simp only [if_neg e]
                          congr 2
                          rw [if_neg (fun h => e h.2), if_neg (fun h => e h.2)]
                      case measure => simp [RowKit.intOf]; omega
                    · have tz : (p.id == z) = false := by
                        rw [← HPZ.out]
                        simp only [beq_eq_false_iff_ne]
                        intro e
                        rcases (by omega : i' < y ∨ y < i') with h | h
                        · have := up_get HUP.out hp HPY.out h; omega
                        · have := up_get HUP.out HPY.out hp h; omega
                      clear hp
                      go_wp2
                      go_roundw
                      case rel =>
                        refine ⟨i' + 1, by omega, by go_num, HTA.out.congr (fun t ht => ?_), HBA.out⟩
                        congr 2
                        by_cases e : t = y
                        · subst e
                          by_cases h : t < i'
                          · rw [if_pos ⟨h, rfl⟩, if_pos ⟨by omega, rfl⟩]
                          · rw [if_neg (fun q => h q.1), if_neg (fun q => by omega)]
                        · rw [if_neg (fun h => e h.2), if_neg (fun h => e h.2)]
                      case measure => simp [RowKit.intOf]; omega
                  · obtain rfl : a = i' := by omega
                    go_wp2
                    go_roundw
                    case rel =>
                      refine ⟨u + 1, by omega, by go_num, HT10.out.congr (fun t ht => ?_), HU10.out⟩
                      congr 2
                      rw [show j * qn + (u + 1) = (j * qn + u) + 1 by omega, cnt_succ (by omega) ht, HY.out]
                      congr 1
                      by_cases e : t = y
                      · rw [if_pos ⟨ht, e⟩, if_pos e]
                      · rw [if_neg (fun h => e h.2), if_neg e]
                    case measure => simp [RowKit.intOf]; omega
              · obtain rfl : qn = u := by omega
                have HKN : Hid ((nextR R' qn 0).c = (j + 1) * qn) := Lib.hid (by rw [next_c R' K6.out.good.ok, HRL.out, HRC.out, HLA.out, HMN.out, Nat.add_mul, Nat.one_mul])
                go_wp2
                go_roundw
                case rel => exact ⟨j + 1, nextR R' qn 0, by omega, by go_num, K8.out.turn HU9.out (fun i f e => HGT.out (by rw [← e]; exact f)), HRL.out, HKN.out, by rw [Nat.add_mul, Nat.one_mul]; exact HT9.out, HL8.out.turn (HU9.out.mono (fun i e => .inr e)) (Sub.refl _ _), HB8.out.trans (HU9.out.below (fun i e => by rw [e]; exact HGW.out) HB8.out.size)⟩
                case measure => simp [RowKit.intOf]; omega
          · obtain rfl : j = rn := by omega
            obtain ⟨T, hT⟩ : ∃ T, j * qn = T := ⟨_, rfl⟩
            have HTT : Hid (w6.rowIs gt 3 a (fun t => .int .i64 ((cnt T a t : Nat) : Int))) := Lib.hid (by rw [← hT]; exact HT6.out)
            have hTb : T ≤ 60 * 20 := by rw [← hT]; exact Nat.mul_le_mul (by omega) (by omega)
            go_wp2
            go_loopw [107] (fun i wr => ∃ (i' : Nat), i' ≤ a ∧ i = .int .i64 i' ∧ Below w6.heap.size w6 wr) (fun i _ => a - (RowKit.intOf i).toNat)
            case atStart => exact ⟨0, by omega, rfl, Below.refl _ _⟩
            case round =>
              obtain ⟨w9, rfl⟩ : ∃ w9, w9 = wr := ⟨_, rfl⟩
              obtain ⟨i', hi, rfl, hb9⟩ := hrel
              have HB9 := Lib.hid hb9
              have HT9 := Lib.hid (HTT.out.of_block (hb9.block gt HTT.out.lt))
              clear hb9
              by_cases hil : i' < a
              · obtain ⟨X, hX⟩ : ∃ X, T / a = X := ⟨_, rfl⟩
                have hXT : X ≤ T := by rw [← hX]; exact Nat.div_le_self _ _
                obtain ⟨v, hv⟩ : ∃ v : Int, ((cnt T a i' : Nat) : Int) = v := ⟨_, rfl⟩
                obtain ⟨v0, hv0⟩ : ∃ v : Int, ((cnt T a 0 : Nat) : Int) = v := ⟨_, rfl⟩
                have c0 := HT9.out.cell hil
                rw [hv] at c0
                have c1 := HT9.out.cell (i := 0) (by omega)
                rw [hv0] at c1
                have hvw : v = (X : Int) ∨ v = (X : Int) + 1 := by rw [← hv]; unfold cnt; rw [hX]; split <;> simp
                have hvw0 : v0 = (X : Int) ∨ v0 = (X : Int) + 1 := by rw [← hv0]; unfold cnt; rw [hX]; split <;> simp
                obtain ⟨dd, hdd⟩ : ∃ dd, v - v0 = dd := ⟨_, rfl⟩
                have td1 : decide (dd < -1) = false := by simp; omega
                have td2 : decide (1 < dd) = false := by simp; omega
                have twd : IntKind.i64.wrap (v - v0) = dd := by rw [IntKind.wrap_i64]; omega
                have hmulc : (j : Int) * (qn : Int) = (T : Int) := by rw [← hT, Int.natCast_mul]
                have twm : IntKind.i64.wrap ((j : Int) * (qn : Int)) = (T : Int) := by rw [hmulc, IntKind.wrap_i64]; omega
                have tdiv : Int.tdiv (T : Int) (a : Int) = (X : Int) := by rw [Int.tdiv_eq_ediv_of_nonneg (by omega), ← Int.natCast_ediv, hX]
                have twq : IntKind.i64.wrap (X : Int) = (X : Int) := by rw [IntKind.wrap_i64]; omega
                have twa : IntKind.i64.wrap ((X : Int) + 1) = (X : Int) + 1 := by rw [IntKind.wrap_i64]; omega
                have tne : ((a : Int) == 0) = false := by simp; omega
                have tne2 : ¬ ((a : Int) = 0) := by omega
                have l1 : (i' : Int) < (a : Int) := by omega
                have l0 : (0 : Int) ≤ (i' : Int) := by omega
                have l2 : (0 : Int) < (a : Int) := by omega
                clear hv hv0 hX hmulc
                go_wp2
                have C0 : ∀ q : Later w9, q.now.cell? ⟨gt, i', none⟩ = some (.int .i64 v) := fun q => q.cell c0
                have C1 : ∀ q : Later w9, q.now.cell? ⟨gt, 0, none⟩ = some (.int .i64 v0) := fun q => q.cell c1
                refine wp_region_later (by kernel_rfl) (by kernel_rfl) ?_
                repeat (go_big_quiet_step (first | fail))
                refine wpQuiet_nil ?_
                intro _ hw'
                obtain ⟨pr, hw''⟩ := hw'
                subst hw''
                have hbr := pr.below
                have c2 := pr.cell c0
                obtain ⟨w11, hw11⟩ : ∃ w, pr.now = w := ⟨_, rfl⟩
                rw [hw11] at hbr c2 ⊢
                have HB11 := Lib.hid (HB9.out.trans (hbr.mono HB9.out.size))
                clear hbr hw11 C0 C1 c0 c1
                have C2 : ∀ q : Later w11, q.now.cell? ⟨gt, i', none⟩ = some (.int .i64 v) := fun q => q.cell c2
                have tmin : min (qn : Int) (a : Int) = (qn : Int) := by have := HMN.out; omega
                have hv7 : (X : Int) ≤ v ∧ v ≤ (X : Int) + 1 := by omega
                obtain ⟨hv8, hv9⟩ := hv7
                go_wp2
                rcases hvw with rfl | rfl
                · refine wp_region_later (by kernel_rfl) (by kernel_rfl) ?_
                  repeat (go_big_quiet_step (first | fail))
                  refine wpQuiet_nil ?_
                  intro _ hw'
                  obtain ⟨pr2, hw''⟩ := hw'
                  subst hw''
                  go_wp2
                  go_roundw
                  case rel => exact ⟨i' + 1, by omega, by go_num, HB11.out.trans (pr2.below.mono HB11.out.size)⟩
                  case measure => simp [RowKit.intOf]; omega
                · have ta : ((X : Int) + 1 != (X : Int)) = true := by simp; omega
                  have tb : ((X : Int) + 1 == (X : Int)) = false := by simp; omega
                  refine wp_region_later (by kernel_rfl) (by kernel_rfl) ?_
                  repeat (go_big_quiet_step (first | fail))
                  refine wpQuiet_nil ?_
                  intro _ hw'
                  obtain ⟨pr2, hw''⟩ := hw'
                  subst hw''
                  go_wp2
                  go_roundw
                  case rel => exact ⟨i' + 1, by omega, by go_num, HB11.out.trans (pr2.below.mono HB11.out.size)⟩
                  case measure => simp [RowKit.intOf]; omega
              · obtain rfl : a = i' := by omega
                go_wp2
                go_ret
                exact ⟨rfl, HB6.out.trans (HB9.out.mono HB6.out.size)⟩
      · have hmin : min qn a = a := by omega
        have HMN := Lib.hid hmin
        clear hmin
        go_wp2
        go_loopw [67] (fun i wr => ∃ (j : Nat) (R' : Ro), j ≤ rn ∧ i = .int .i64 j ∧ Rs wr W.heap.size g F R' ∧ R'.L = R.L ∧ R'.c = j * a ∧ wr.rowIs gt 3 a (fun t => .int .i64 ((cnt (j * a) a t : Nat) : Int)) ∧ Rd wr (fun i => F i ∨ i = gt) 5 A4 a (flatM R.L) ∧ Below W.heap.size W wr) (fun i _ => rn - (RowKit.intOf i).toNat)
        case atStart => exact ⟨0, R, by omega, rfl, K5.out, rfl, by rw [HC0.out, Nat.zero_mul], by rw [Nat.zero_mul]; exact HT5.out, HL5.out, HB5.out⟩
        case round =>
          clear K4 HB4 K5 HB5 HL4 HL5 HT5
          obtain ⟨w6, rfl⟩ : ∃ w6, w6 = wr := ⟨_, rfl⟩
          obtain ⟨j, R', hj, rfl, hrs, hRL, hRc, hrow, hrd, hb6⟩ := hrel
          have K6 := Lib.hid hrs
          have HRL := Lib.hid hRL
          have HRC := Lib.hid hRc
          have HT6 := Lib.hid hrow
          have HL6 := Lib.hid hrd
          have HB6 := Lib.hid hb6
          clear hrs hRL hRc hrow hrd hb6
          by_cases hjl : j < rn
          · have hjN : j * a ≤ 60 * 20 := Nat.mul_le_mul (by omega) (by omega)
            have HJN := Lib.hid hjN
            obtain ⟨LT, HLT⟩ : ∃ y, Hid (nextL R' qn 0 = y) := ⟨_, Lib.hid rfl⟩
            have hlen : LT.length = a := by rw [← HLT.out, next_len K6.out.good.ok, HRL.out, HLA.out]; exact HMN.out
            have HLN := Lib.hid hlen
            have HNA : Hid (∀ (u : Nat) (z : Int), LT[u]? = some z → ∃ p, R.L[(j * a + u) % a]? = some p ∧ p.id = z) := Lib.hid (fun u z hz => by
              rw [← HLT.out] at hz
              have := next_at K6.out.good.ok hz
              rwa [HRL.out, HRC.out, HLA.out] at this)
            clear hjN hlen
            go_wp2_with (fail)
            refine (next_any _ g F R' _ K6.out (by rw [HRC.out]; have := HJN.out; omega) (qn : Int) 0).mono ?_
            rintro e w8 ⟨⟨v8, rfl, ho8⟩, k8, t8⟩
            rw [HLT.out, HLN.out] at ho8
            obtain ⟨A8, c8, rfl, hc8, hcm8⟩ := own_form ho8
            have HO8 : Hid (Rd w8 (fun i => i = gt) 1 A8 a (zints LT)) := Lib.hid (rd_own (W := w6) ho8 (fun i e => by rw [e]; exact HT6.out.lt) (Nat.le_refl _))
            have K8 := Lib.hid k8
            have HB8 := Lib.hid (K6.out.go HB6.out t8)
            have HT8 := Lib.hid (row_turn HT6.out t8 HGT.out)
            have HL8 := Lib.hid (HL6.out.turn (t8.mono (fun i e => .inl e)) (Sub.refl _ _))
            clear ho8 k8 t8
            go_wp2
            go_loopw [81] (fun i wr => ∃ (u : Nat), u ≤ a ∧ i = .int .i64 u ∧ wr.rowIs gt 3 a (fun t => .int .i64 ((cnt (j * a + u) a t : Nat) : Int)) ∧ Turn w8 wr (fun i => i = gt)) (fun i _ => a - (RowKit.intOf i).toNat)
            case atStart => exact ⟨0, by omega, rfl, HT8.out, Turn.refl _ _⟩
            case round =>
              obtain ⟨w9, rfl⟩ : ∃ w9, w9 = wr := ⟨_, rfl⟩
              obtain ⟨u, hu, rfl, hrow, ht9⟩ := hrel
              have HT9 := Lib.hid hrow
              have HU9 := Lib.hid ht9
              clear hrow ht9
              by_cases hul : u < a
              · obtain ⟨ad, z, rfl, hz, _, _, e0⟩ := (HO8.out.turn HU9.out (Sub.refl _ _)).atZ hul
                obtain ⟨py, hpy, hpz⟩ := HNA.out u z hz
                obtain ⟨y, hy⟩ : ∃ y, (j * a + u) % a = y := ⟨_, rfl⟩
                rw [hy] at hpy
                have hya : y < a := by rw [← hy]; exact Nat.mod_lt _ (by omega)
                have HPY := Lib.hid hpy
                have HPZ := Lib.hid hpz
                have HY := Lib.hid hy
                clear hz hpy hpz hy
                go_wp2
                go_loopw [87] (fun i wr => ∃ (i' : Nat), i' ≤ a ∧ i = .int .i64 i' ∧ wr.rowIs gt 3 a (fun t => .int .i64 ((cnt (j * a + u) a t + (if t < i' ∧ t = y then 1 else 0) : Nat) : Int)) ∧ Turn w8 wr (fun i => i = gt)) (fun i _ => a - (RowKit.intOf i).toNat)
                case atStart => exact ⟨0, by omega, rfl, HT9.out.congr (fun t _ => by simp), HU9.out⟩
                case round =>
                  obtain ⟨w10, rfl⟩ : ∃ w10, w10 = wr := ⟨_, rfl⟩
                  obtain ⟨i', hi, rfl, hrow, ht10⟩ := hrel
                  have HT10 := Lib.hid hrow
                  have HU10 := Lib.hid ht10
                  clear hrow ht10
                  by_cases hil : i' < a
                  · obtain ⟨ad3, p, rfl, hp, _, _, b0, b1, b2, b3, b4⟩ := (HL8.out.turn (HU10.out.mono (fun i e => .inr e)) (Sub.refl _ _)).atM hil
                    have x0 := (Bx.new w10 p rfl).cells.1
                    have HBA : Hid (Turn w8 (w10.alloc (.cells #[.int .i64 p.id, .int .i64 p.ma, .int .i64 p.co, .int .i64 p.of_, .int .i64 p.fa] 34)) (fun i => i = gt)) := Lib.hid (HU10.out.then_ ((Below.refl _ _).alloc (Nat.le_refl _) _))
                    have HTA := Lib.hid (HT10.out.alloc (.cells #[.int .i64 p.id, .int .i64 p.ma, .int .i64 p.co, .int .i64 p.of_, .int .i64 p.fa] 34))
                    by_cases hiy : i' = y
                    · subst hiy
                      have hpp : p = py := by have := HPY.out; rw [hp] at this; injection this
                      have tz : (p.id == z) = true := by rw [hpp, HPZ.out]; simp
                      obtain ⟨v, hv⟩ : ∃ v : Int, ((cnt (j * a + u) a i' + (if i' < i' ∧ i' = i' then 1 else 0) : Nat) : Int) = v := ⟨_, rfl⟩
                      have y0 := HTA.out.cell hil
                      rw [hv] at y0
                      have y1 := HTA.out.frozen i'
                      have hv2 : v = ((cnt (j * a + u) a i' : Nat) : Int) := by rw [← hv]; simp
                      have hvb : (cnt (j * a + u) a i') ≤ 100000 := by
                        unfold cnt
                        have h1 := Nat.div_le_self (j * a + u) a
                        have h2 := HJN.out
                        split <;> omega
                      have hv3 : 0 ≤ v ∧ v ≤ 100000 := by omega
                      obtain ⟨hv4, hv5⟩ := hv3
                      have HV := Lib.hid hv2
                      clear hp hpp hv hv2 hvb
                      go_wp2
                      go_roundw
                      case rel =>
                        refine ⟨i' + 1, by omega, by go_num, (HTA.out.set i' (.int .i64 (v + 1))).congr (fun t ht => ?_), HBA.out.trans (turn_set _ _ _) (fun i _ e => e)⟩
                        by_cases e : t = i'
                        · subst e
                          simp only [if_true]
                          rw [HV.out]
                          simp
                        · simp only [if_neg e]
                          congr 2
                          rw [if_neg (fun h => e h.2), if_neg (fun h => e h.2)]
                      case measure => simp [RowKit.intOf]; omega
                    · have tz : (p.id == z) = false := by
                        rw [← HPZ.out]
                        simp only [beq_eq_false_iff_ne]
                        intro e
                        rcases (by omega : i' < y ∨ y < i') with h | h
                        · have := up_get HUP.out hp HPY.out h; omega
                        · have := up_get HUP.out HPY.out hp h; omega
                      clear hp
                      go_wp2
                      go_roundw
                      case rel =>
                        refine ⟨i' + 1, by omega, by go_num, HTA.out.congr (fun t ht => ?_), HBA.out⟩
                        congr 2
                        by_cases e : t = y
                        · subst e
                          by_cases h : t < i'
                          · rw [if_pos ⟨h, rfl⟩, if_pos ⟨by omega, rfl⟩]
                          · rw [if_neg (fun q => h q.1), if_neg (fun q => by omega)]
                        · rw [if_neg (fun h => e h.2), if_neg (fun h => e h.2)]
                      case measure => simp [RowKit.intOf]; omega
                  · obtain rfl : a = i' := by omega
                    go_wp2
                    go_roundw
                    case rel =>
                      refine ⟨u + 1, by omega, by go_num, HT10.out.congr (fun t ht => ?_), HU10.out⟩
                      congr 2
                      rw [show j * a + (u + 1) = (j * a + u) + 1 by omega, cnt_succ (by omega) ht, HY.out]
                      congr 1
                      by_cases e : t = y
                      · rw [if_pos ⟨ht, e⟩, if_pos e]
                      · rw [if_neg (fun h => e h.2), if_neg e]
                    case measure => simp [RowKit.intOf]; omega
              · obtain rfl : a = u := by omega
                have HKN : Hid ((nextR R' qn 0).c = (j + 1) * a) := Lib.hid (by rw [next_c R' K6.out.good.ok, HRL.out, HRC.out, HLA.out, HMN.out, Nat.add_mul, Nat.one_mul])
                go_wp2
                go_roundw
                case rel => exact ⟨j + 1, nextR R' qn 0, by omega, by go_num, K8.out.turn HU9.out (fun i f e => HGT.out (by rw [← e]; exact f)), HRL.out, HKN.out, by rw [Nat.add_mul, Nat.one_mul]; exact HT9.out, HL8.out.turn (HU9.out.mono (fun i e => .inr e)) (Sub.refl _ _), HB8.out.trans (HU9.out.below (fun i e => by rw [e]; exact HGW.out) HB8.out.size)⟩
                case measure => simp [RowKit.intOf]; omega
          · obtain rfl : j = rn := by omega
            obtain ⟨T, hT⟩ : ∃ T, j * a = T := ⟨_, rfl⟩
            have HTT : Hid (w6.rowIs gt 3 a (fun t => .int .i64 ((cnt T a t : Nat) : Int))) := Lib.hid (by rw [← hT]; exact HT6.out)
            have hTb : T ≤ 60 * 20 := by rw [← hT]; exact Nat.mul_le_mul (by omega) (by omega)
            go_wp2
            go_loopw [107] (fun i wr => ∃ (i' : Nat), i' ≤ a ∧ i = .int .i64 i' ∧ Below w6.heap.size w6 wr) (fun i _ => a - (RowKit.intOf i).toNat)
            case atStart => exact ⟨0, by omega, rfl, Below.refl _ _⟩
            case round =>
              obtain ⟨w9, rfl⟩ : ∃ w9, w9 = wr := ⟨_, rfl⟩
              obtain ⟨i', hi, rfl, hb9⟩ := hrel
              have HB9 := Lib.hid hb9
              have HT9 := Lib.hid (HTT.out.of_block (hb9.block gt HTT.out.lt))
              clear hb9
              by_cases hil : i' < a
              · obtain ⟨X, hX⟩ : ∃ X, T / a = X := ⟨_, rfl⟩
                have hXT : X ≤ T := by rw [← hX]; exact Nat.div_le_self _ _
                obtain ⟨v, hv⟩ : ∃ v : Int, ((cnt T a i' : Nat) : Int) = v := ⟨_, rfl⟩
                obtain ⟨v0, hv0⟩ : ∃ v : Int, ((cnt T a 0 : Nat) : Int) = v := ⟨_, rfl⟩
                have c0 := HT9.out.cell hil
                rw [hv] at c0
                have c1 := HT9.out.cell (i := 0) (by omega)
                rw [hv0] at c1
                have hvw : v = (X : Int) ∨ v = (X : Int) + 1 := by rw [← hv]; unfold cnt; rw [hX]; split <;> simp
                have hvw0 : v0 = (X : Int) ∨ v0 = (X : Int) + 1 := by rw [← hv0]; unfold cnt; rw [hX]; split <;> simp
                obtain ⟨dd, hdd⟩ : ∃ dd, v - v0 = dd := ⟨_, rfl⟩
                have td1 : decide (dd < -1) = false := by simp; omega
                have td2 : decide (1 < dd) = false := by simp; omega
                have twd : IntKind.i64.wrap (v - v0) = dd := by rw [IntKind.wrap_i64]; omega
                have hmulc : (j : Int) * (a : Int) = (T : Int) := by rw [← hT, Int.natCast_mul]
                have twm : IntKind.i64.wrap ((j : Int) * (a : Int)) = (T : Int) := by rw [hmulc, IntKind.wrap_i64]; omega
                have tdiv : Int.tdiv (T : Int) (a : Int) = (X : Int) := by rw [Int.tdiv_eq_ediv_of_nonneg (by omega), ← Int.natCast_ediv, hX]
                have twq : IntKind.i64.wrap (X : Int) = (X : Int) := by rw [IntKind.wrap_i64]; omega
                have twa : IntKind.i64.wrap ((X : Int) + 1) = (X : Int) + 1 := by rw [IntKind.wrap_i64]; omega
                have tne : ((a : Int) == 0) = false := by simp; omega
                have tne2 : ¬ ((a : Int) = 0) := by omega
                have l1 : (i' : Int) < (a : Int) := by omega
                have l0 : (0 : Int) ≤ (i' : Int) := by omega
                have l2 : (0 : Int) < (a : Int) := by omega
                clear hv hv0 hX hmulc
                go_wp2
                have C0 : ∀ q : Later w9, q.now.cell? ⟨gt, i', none⟩ = some (.int .i64 v) := fun q => q.cell c0
                have C1 : ∀ q : Later w9, q.now.cell? ⟨gt, 0, none⟩ = some (.int .i64 v0) := fun q => q.cell c1
                refine wp_region_later (by kernel_rfl) (by kernel_rfl) ?_
                repeat (go_big_quiet_step (first | fail))
                refine wpQuiet_nil ?_
                intro _ hw'
                obtain ⟨pr, hw''⟩ := hw'
                subst hw''
                have hbr := pr.below
                have c2 := pr.cell c0
                obtain ⟨w11, hw11⟩ : ∃ w, pr.now = w := ⟨_, rfl⟩
                rw [hw11] at hbr c2 ⊢
                have HB11 := Lib.hid (HB9.out.trans (hbr.mono HB9.out.size))
                clear hbr hw11 C0 C1 c0 c1
                have C2 : ∀ q : Later w11, q.now.cell? ⟨gt, i', none⟩ = some (.int .i64 v) := fun q => q.cell c2
                have tmin : min (qn : Int) (a : Int) = (a : Int) := by have := HMN.out; omega
                have hv7 : (X : Int) ≤ v ∧ v ≤ (X : Int) + 1 := by omega
                obtain ⟨hv8, hv9⟩ := hv7
                go_wp2
                rcases hvw with rfl | rfl
                · refine wp_region_later (by kernel_rfl) (by kernel_rfl) ?_
                  repeat (go_big_quiet_step (first | fail))
                  refine wpQuiet_nil ?_
                  intro _ hw'
                  obtain ⟨pr2, hw''⟩ := hw'
                  subst hw''
                  go_wp2
                  go_roundw
                  case rel => exact ⟨i' + 1, by omega, by go_num, HB11.out.trans (pr2.below.mono HB11.out.size)⟩
                  case measure => simp [RowKit.intOf]; omega
                · have ta : ((X : Int) + 1 != (X : Int)) = true := by simp; omega
                  have tb : ((X : Int) + 1 == (X : Int)) = false := by simp; omega
                  refine wp_region_later (by kernel_rfl) (by kernel_rfl) ?_
                  repeat (go_big_quiet_step (first | fail))
                  refine wpQuiet_nil ?_
                  intro _ hw'
                  obtain ⟨pr2, hw''⟩ := hw'
                  subst hw''
                  go_wp2
                  go_roundw
                  case rel => exact ⟨i' + 1, by omega, by go_num, HB11.out.trans (pr2.below.mono HB11.out.size)⟩
                  case measure => simp [RowKit.intOf]; omega
              · obtain rfl : a = i' := by omega
                go_wp2
                go_ret
                exact ⟨rfl, HB6.out.trans (HB9.out.mono HB6.out.size)⟩
set_option maxRecDepth 100000 in
set_option maxHeartbeats 2000000 in
theorem rounds_out (A : Option Addr) (n c : Nat) (q r : Int) (W : World) (h : 60 < n ∨ (n ≤ 60 ∧ q < 1) ∨ (n ≤ 60 ∧ 1 ≤ q ∧ 20 < q) ∨ (n ≤ 60 ∧ 1 ≤ q ∧ q ≤ 20 ∧ r < 0) ∨ (n ≤ 60 ∧ 1 ≤ q ∧ q ≤ 20 ∧ 0 ≤ r ∧ 60 < r)) :
    Calls Try.prog 5 #[.slice A n c, .int .i64 q, .int .i64 r] W (Says true W) := by
  have h' : (60 : Int) < n ∨ ((n : Int) ≤ 60 ∧ q < 1) ∨ ((n : Int) ≤ 60 ∧ 1 ≤ q ∧ 20 < q) ∨ ((n : Int) ≤ 60 ∧ 1 ≤ q ∧ q ≤ 20 ∧ r < 0) ∨ ((n : Int) ≤ 60 ∧ 1 ≤ q ∧ q ≤ 20 ∧ 0 ≤ r ∧ 60 < r) := by omega
  clear h
  rcases h' with h | ⟨h1, h⟩ | ⟨h1, h2, h⟩ | ⟨h1, h2, h3, h⟩ | ⟨h1, h2, h3, h4, h⟩
  all_goals
    go_enter Try.func5, Try.ntmps5
    go_wp2_with (fail)
    refine (anchor_any _).mono ?_
    rintro e w0 ⟨rfl, hb0⟩
    have HB0 := Lib.hid hb0
    clear hb0
    go_wp2_with (fail)
    refine (new_yes 1 _ id1).mono ?_
    rintro e w1 ⟨g, F, rfl, k1, hb1⟩
    have K1 := Lib.hid (k1.low HB0.out.size)
    have HB1 := Lib.hid (HB0.out.trans (hb1.mono HB0.out.size))
    clear k1 hb1
    go_wp2
    go_ret
    exact ⟨rfl, HB1.out⟩
theorem rounds_any (A : Option Addr) (n c : Nat) (l : List Int) (q r : Int) (W : World) (hr : Reads W W.heap.size A n (zints l)) : Calls Try.prog 5 #[.slice A n c, .int .i64 q, .int .i64 r] W (Says true W) := by
  by_cases h : n ≤ 60 ∧ 1 ≤ q ∧ q ≤ 20 ∧ 0 ≤ r ∧ r ≤ 60
  · obtain ⟨h0, h1, h2, h3, h4⟩ := h
    obtain ⟨qn, rfl⟩ : ∃ k : Nat, q = k := ⟨q.toNat, by omega⟩
    obtain ⟨rn, rfl⟩ : ∃ k : Nat, r = k := ⟨r.toNat, by omega⟩
    exact rounds_in A n c l qn rn W h0 (by omega) (by omega) (by omega) hr
  · exact rounds_out A n c q r W (by omega)
end Go.Proofs.Ytfchhlibjhblmaa
