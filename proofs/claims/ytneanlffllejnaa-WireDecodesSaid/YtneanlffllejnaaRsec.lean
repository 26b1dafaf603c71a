/-
  WHAT IS PROVED: contract of the document's test of a packet's section. Condition: the section's cells are there.
-/
import Derived.Test.YtneanlffllejnaaSec
import Derived.Test.YtneanlffllejnaaRt
import Derived.Deep.RegionHeld3
namespace Go.Proofs.Ytneanlffllejnaa
open Go.RowKit Go.Lib

theorem take_oneE {l : List En} {k : Nat} {z : En} (h : l[k]? = some z) : l.take (k + 1) = l.take k ++ [z] := by
  rw [List.take_add_one, h]; rfl
theorem ids_no {l : List En} {k : Nat} {x : Int} (h : ∀ i, i < k → ∀ y, l[i]? = some y → y.id ≠ x) : hasB ((l.take k).map (·.id)) x = false := by
  refine has_no fun hm => ?_
  obtain ⟨y, hy, e⟩ := List.mem_map.1 hm
  obtain ⟨i, hi⟩ := List.mem_iff_getElem?.1 hy
  rw [List.getElem?_take] at hi
  by_cases hk : i < k
  · rw [if_pos hk] at hi
    exact h i hk y hi e
  · rw [if_neg hk] at hi; cases hi
theorem ids_yes {l : List En} {k i : Nat} {x : Int} {y : En} (hi : i < k) (hy : l[i]? = some y) (e : y.id = x) : hasB ((l.take k).map (·.id)) x = true :=
  has_yes (List.mem_map.2 ⟨y, List.mem_of_getElem? (by rw [List.getElem?_take, if_pos hi]; exact hy), e⟩)
theorem told_has (f x : Int) (l : List Int) : (f :: l).contains x = (decide (x = f) || hasB l x) := by
  rw [has_contains]
  by_cases h : x = f
  · subst h; simp
  · have h' : (x == f) = false := by simpa using h
    rw [List.contains_cons, h', decide_eq_false h]

set_option maxRecDepth 100000 in
set_option maxHeartbeats 4000000 in
theorem rsec_any (p : Pk) (A : Option Addr) (n cap : Nat) (w : World) (hl : p.sec.length = n) (hE : EsAt w A n p.sec) : Calls Try.prog 31 #[vP p (.slice A n cap)] w (AnsB (okSec p) w) := by
  obtain ⟨kind, frm, ep, cf, ma, sl, off, ab, ac, as_, sec⟩ := p
  dsimp only at hl hE
  simp only [vP]
  have hB0 : Below w.heap.size w (w.alloc (.cells #[.int .i64 kind, .int .i64 frm, .int .i64 ep, .int .i64 cf, .int .i64 ma, .int .u64 sl, .int .i64 off, .int .i64 ab, .int .i64 ac, .int .u64 as_, .slice A n cap] 30)) := (Below.refl _ _).alloc (Nat.le_refl _) _
  by_cases h0 : n = 0
  · subst h0
    have HX : Hid (okSec ⟨kind, frm, ep, cf, ma, sl, off, ab, ac, as_, sec⟩ = true) := by
      show _ = _
      have : sec = [] := List.eq_nil_of_length_eq_zero hl
      subst this
      simp [okSec, okEs]
    clear hl hE
    go_enter Try.func31, Try.ntmps31
    go_wp2
    go_ret
    exact ⟨by rw [HX.out]; rfl, hB0⟩
  by_cases hk : 3 < kind
  · have HX : Hid (okSec ⟨kind, frm, ep, cf, ma, sl, off, ab, ac, as_, sec⟩ = false) := by show _ = _; simp only [okSec, hl]; rw [decide_eq_false h0, decide_eq_false (show ¬ kind ≤ 3 by omega)]; simp
    clear hl hE
    go_enter Try.func31, Try.ntmps31
    go_wp2
    go_ret
    exact ⟨by rw [HX.out]; rfl, hB0⟩
  by_cases h3 : 3 < n
  · have HX : Hid (okSec ⟨kind, frm, ep, cf, ma, sl, off, ab, ac, as_, sec⟩ = false) := by show _ = _; simp only [okSec, hl]; rw [decide_eq_false (show ¬ n ≤ 3 by omega)]; rfl
    clear hl hE
    go_enter Try.func31, Try.ntmps31
    go_wp2
    go_ret
    exact ⟨by rw [HX.out]; rfl, hB0⟩
  have HO : Hid (okSec ⟨kind, frm, ep, cf, ma, sl, off, ab, ac, as_, sec⟩ = okEs [frm] sec) := by
    show _ = _
    simp only [okSec, hl]
    rw [decide_eq_true (show n ≤ 3 by omega), decide_eq_true (show kind ≤ 3 by omega)]; simp
  have BK0 := Lib.hid (Blk.new w 30 #[.int .i64 kind, .int .i64 frm, .int .i64 ep, .int .i64 cf, .int .i64 ma, .int .u64 sl, .int .i64 off, .int .i64 ab, .int .i64 ac, .int .u64 as_, .slice A n cap])
  have HE := Lib.hid hE
  have HL := Lib.hid hl
  have HB0 := Lib.hid hB0
  clear hl hE hB0
  go_enter Try.func31, Try.ntmps31
  go_wp2
  go_loopw [3, 4, 5] (fun i _ _ wr => ∃ k : Nat, k ≤ n ∧ i = .int .i64 k ∧ Below (w.heap.size + 1) (w.alloc (.cells #[.int .i64 kind, .int .i64 frm, .int .i64 ep, .int .i64 cf, .int .i64 ma, .int .u64 sl, .int .i64 off, .int .i64 ab, .int .i64 ac, .int .u64 as_, .slice A n cap] 30)) wr ∧ Hid (okEs [frm] sec = okEs (frm :: (sec.take k).map (·.id)) (sec.drop k))) (fun i _ _ _ => n - (intOf i).toNat)
  case atStart => exact ⟨0, by omega, rfl, Below.refl _ _, rfl⟩
  case round =>
    obtain ⟨w1, rfl⟩ : ∃ x, x = wr := ⟨_, rfl⟩
    obtain ⟨k, hk', rfl, hbw, HK⟩ := hrel
    have bk1 := BK0.out.below hbw (Nat.lt_succ_self _)
    have hB1 := HB0.out.trans (hbw.mono (Nat.le_succ _))
    have HBW := Lib.hid hbw
    have hsz : w.heap.size + 1 ≤ w1.heap.size := by have := hbw.size; simpa using this
    clear hbw
    obtain ⟨k0, k1, k2, k3, k4, k5, k6, k7, k8, k9, k10⟩ := pk_cells bk1
    by_cases hkn : k < n
    · obtain ⟨ad, e, rfl, he, hlt, c0, c1⟩ := (HE.out.below hB1).at_ hkn
      have HS := Lib.hid (okEs_step (told := frm :: (sec.take k).map (·.id)) he)
      have HTK := Lib.hid (take_oneE he)
      clear he
      obtain ⟨id, st⟩ := e
      dsimp only at c0 c1 HS HTK
      have HBA := Lib.hid (hB1.alloc hB1.size (.cells #[.int .i64 id, .int .i64 st] 49))
      have bka := bk1.alloc (.cells #[.int .i64 id, .int .i64 st] 49)
      clear k0 k1 k2 k3 k4 k5 k6 k7 k8 k9 k10
      obtain ⟨k0, k1, k2, k3, k4, k5, k6, k7, k8, k9, k10⟩ := pk_cells bka
      have i10 := bk1.cell 10
      have hxb := Blk.new w1 49 #[.int .i64 id, .int .i64 st]
      clear bk1 hB1
      cases hI : isId id with
      | false =>
        have HX : Hid (okSec ⟨kind, frm, ep, cf, ma, sl, off, ab, ac, as_, sec⟩ = false) := by show _ = _; rw [HO.out, HK.out, HS.out, hI]; rfl
        have HI := Lib.hid hI
        clear hI HK HS hxb bka
        go_wp2_with (first | (go_at_call 29; refine (rid_any _ _).mono ?_; rintro e w' ⟨rfl, rfl⟩; rw [HI.out]))
        go_ret
        exact ⟨by rw [HX.out]; rfl, HBA.out⟩
      | true =>
        by_cases hf : id = frm
        · have HX : Hid (okSec ⟨kind, frm, ep, cf, ma, sl, off, ab, ac, as_, sec⟩ = false) := by show _ = _; rw [HO.out, HK.out, HS.out, told_has, decide_eq_true hf]; simp
          have HI := Lib.hid hI
          subst hf
          clear hI HK HS hxb bka
          go_wp2_with (first | (go_at_call 29; refine (rid_any _ _).mono ?_; rintro e w' ⟨rfl, rfl⟩; rw [HI.out]))
          go_ret
          exact ⟨by rw [HX.out]; rfl, HBA.out⟩
        have hfb : (id == frm) = false := by simpa using hf
        cases hT : isIn st 2 with
        | false =>
          have HX : Hid (okSec ⟨kind, frm, ep, cf, ma, sl, off, ab, ac, as_, sec⟩ = false) := by show _ = _; rw [HO.out, HK.out, HS.out, hT]; simp
          have HI := Lib.hid hI
          have HT := Lib.hid hT
          clear hI hT HK HS hxb bka
          go_wp2_with (first | (go_at_call 29; refine (rid_any _ _).mono ?_; rintro e w' ⟨rfl, rfl⟩; rw [HI.out]) | (go_at_call 30; refine (rin_any _ _ _).mono ?_; rintro e w' ⟨rfl, rfl⟩; rw [HT.out]))
          go_ret
          exact ⟨by rw [HX.out]; rfl, HBA.out⟩
        | true =>
          have HY : Hid (okSec ⟨kind, frm, ep, cf, ma, sl, off, ab, ac, as_, sec⟩ = (!hasB ((sec.take k).map (·.id)) id && okEs (frm :: (sec.take (k + 1)).map (·.id)) (sec.drop (k + 1)))) := by
            show _ = _
            rw [HO.out, HK.out, HS.out, hI, hT, told_has, decide_eq_false hf, HTK.out, List.map_append]
            simp
          have HI := Lib.hid hI
          have HT := Lib.hid hT
          have HXB := Lib.hid hxb
          have BKA := Lib.hid bka
          clear hI hT HS hxb bka
          go_wp2_with (first | (go_at_call 29; refine (rid_any _ _).mono ?_; rintro e w' ⟨rfl, rfl⟩; rw [HI.out]) | (go_at_call 30; refine (rin_any _ _ _).mono ?_; rintro e w' ⟨rfl, rfl⟩; rw [HT.out]))
          clear k0 k1 k2 k3 k4 k5 k6 k7 k8 k9 k10 i10 c0 c1
          go_loopw [5] (fun j wr => ∃ jn : Nat, jn ≤ k ∧ j = .int .i64 jn ∧ Below (w1.alloc (.cells #[.int .i64 id, .int .i64 st] 49)).heap.size (w1.alloc (.cells #[.int .i64 id, .int .i64 st] 49)) wr ∧ ∀ i, i < jn → ∀ y, sec[i]? = some y → y.id ≠ id) (fun j _ => k - (intOf j).toNat)
          case atStart => exact ⟨0, by omega, rfl, Below.refl _ _, fun i hi => absurd hi (Nat.not_lt_zero i)⟩
          case round =>
            obtain ⟨w2, rfl⟩ : ∃ x, x = wr := ⟨_, rfl⟩
            obtain ⟨j, hj, rfl, hbj, hno⟩ := hrel
            have HBJ := Lib.hid hbj
            have HNO := Lib.hid hno
            have hB2 := HBA.out.trans (hbj.mono HBA.out.size)
            have i10 := (BKA.out.below hbj BKA.out.lt).cell 10
            have z0 := (HXB.out.below hbj HXB.out.lt).cell 0
            clear hbj hno
            by_cases hjk : j < k
            · obtain ⟨ad2, y, e2, hy, hlt2, d0, d1⟩ := (HE.out.below hB2).at_ (show j < n by omega)
              injection e2 with e2
              subst e2
              have HY2 := Lib.hid hy
              have HB2 := Lib.hid hB2
              have hjn : (j : Int) < (n : Int) := by omega
              have hj0 : (0 : Int) ≤ (j : Int) := by omega
              clear hy hB2 d1
              by_cases hyi : y.id = id
              · have hde : (y.id == id) = true := by simpa using hyi
                have HX : Hid (okSec ⟨kind, frm, ep, cf, ma, sl, off, ab, ac, as_, sec⟩ = false) := by show _ = _; rw [HY.out, ids_yes hjk HY2.out hyi]; rfl
                clear hyi
                go_wp2
                go_region_held3 (fun w' => w'.cell? ⟨w.heap.size, 10, none⟩ = some (.slice (some ad) n cap) ∧ w'.cell? (ad.add (j * 2)) = some (.int .i64 y.id) ∧ w'.cell? ⟨w1.heap.size, 0, none⟩ = some (.int .i64 id)) (first | exact ⟨i10, d0, z0⟩) (first | fail)
                go_wp2
                go_ret
                exact ⟨by rw [HX.out]; rfl, HB2.out.drew⟩
              · have hde : (y.id == id) = false := by simpa using hyi
                have HNO2 : Hid (∀ i, i < j + 1 → ∀ y, sec[i]? = some y → y.id ≠ id) := by
                  show ∀ i : Nat, _
                  intro i hi y' hy'
                  rcases Nat.lt_or_ge i j with h | h
                  · exact HNO.out i h y' hy'
                  · obtain rfl : i = j := by omega
                    rw [HY2.out] at hy'
                    injection hy' with hy'
                    rw [← hy']
                    exact hyi
                clear hyi
                go_wp2
                go_region_held3 (fun w' => w'.cell? ⟨w.heap.size, 10, none⟩ = some (.slice (some ad) n cap) ∧ w'.cell? (ad.add (j * 2)) = some (.int .i64 y.id) ∧ w'.cell? ⟨w1.heap.size, 0, none⟩ = some (.int .i64 id)) (first | exact ⟨i10, d0, z0⟩) (first | fail)
                go_wp2
                go_roundw
                case rel => exact ⟨j + 1, by omega, by go_num, HBJ.out.drew, HNO2.out⟩
                case measure => simp [intOf]; omega
            · obtain rfl : k = j := by omega
              have HZ : Hid (okEs [frm] sec = okEs (frm :: (sec.take (k + 1)).map (·.id)) (sec.drop (k + 1))) := by show _ = _; rw [← HO.out, HY.out, ids_no HNO.out]; rfl
              clear HK HY
              go_wp2
              go_roundw
              case rel => exact ⟨k + 1, by omega, by go_num, (HBW.out.alloc hsz _).trans (HBJ.out.mono (by simp; omega)), HZ.out⟩
              case measure => simp [intOf]; omega
    · obtain rfl : n = k := by omega
      have HX : Hid (okSec ⟨kind, frm, ep, cf, ma, sl, off, ab, ac, as_, sec⟩ = true) := by show _ = _; rw [HO.out, HK.out, okEs_end (by rw [HL.out]; exact Nat.le_refl _)]
      clear HK
      go_wp2
      go_ret
      exact ⟨by rw [HX.out]; rfl, hB1⟩
end Go.Proofs.Ytneanlffllejnaa
