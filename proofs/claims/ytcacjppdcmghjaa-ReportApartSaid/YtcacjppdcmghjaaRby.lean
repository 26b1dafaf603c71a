/-
  WHAT IS PROVED: the contract of the document's own by. Conditions: the size; the reports are right.
-/
import Derived.Test.YtcacjppdcmghjaaInsert
namespace Go.Proofs.Ytcacjppdcmghjaa
open Go.RowKit Go.Lib Go.Maps

theorem by_take_yes {L : List Rp} {k : Nat} {r : Rp} {about now win : Int} {S : List Int} {j : Nat} (hr : L[k]? = some r) (h : tellB about now win r = true) (hS : byL (L.take k) about now win = S) (h1 : ∀ y ∈ S.take j, y < r.b) (h2 : ∀ y, S[j]? = some y → r.b ≤ y) :
    byL (L.take (k + 1)) about now win = S.take j ++ [r.b] ++ S.drop j := by
  rw [ins_sorted (l := whoL (L.take k) about now win) hS.symm h1 h2]
  unfold byL
  rw [who_yes hr h]
theorem by_take_no {L : List Rp} {k : Nat} {r : Rp} {about now win : Int} (hr : L[k]? = some r) (h : tellB about now win r = false) : byL (L.take (k + 1)) about now win = byL (L.take k) about now win := by
  unfold byL
  rw [who_no hr h]
theorem by_zero (L : List Rp) (about now win : Int) : byL (L.take 0) about now win = [] := by simp [byL, whoL, sorted]

set_option maxRecDepth 100000 in
set_option maxHeartbeats 8000000 in
theorem rby_any (A : Option Addr) (n c : Nat) (L : List Rp) (about now win : Int) (w : World) (hn : n ≤ 1000) (hr : RpsAt w A n L) (hok : ∀ r ∈ L, okRp r) (hwin : 1 ≤ win ∧ win ≤ 1073741824) (hnow : inInt now) :
    Calls Try.prog 20 #[.slice A n c, .int .i64 about, .int .i64 now, .int .i64 win] w (Lists (byL L about now win) w) := by
  obtain ⟨i0, hi0, hz0, hz1, hz2⟩ := info_parts int_info
  have HI0 : Hid (Try.prog.info? 3 = some i0) := hi0
  have HZ0 := Lib.hid hz0
  have HZ1 := Lib.hid hz1
  have HZ2 := Lib.hid hz2
  clear hi0 hz0 hz1 hz2
  obtain ⟨hn1, hn2⟩ := hnow
  obtain ⟨hw1, hw2⟩ := hwin
  have HR := Lib.hid hr
  have HLN := Lib.hid hr.1
  have HOK := Lib.hid hok
  have HB00 := Lib.hid (by_zero L about now win)
  clear hr hok
  go_enter Try.func20, Try.ntmps20
  go_wp2
  go_loopw [9, 15] (fun va i wr => ∃ k : Nat, k ≤ n ∧ i = .int .i64 k ∧ wr.ownsRow w.heap.size 3 1 va (byL (L.take k) about now win).length (zints (byL (L.take k) about now win)) ∧ Below w.heap.size w wr) (fun _ i _ => n - (intOf i).toNat)
  case atStart => exact ⟨0, by omega, rfl, by rw [HB00.out]; exact World.ownsRow_nil _ _ _ _, Below.refl _ _⟩
  case round =>
    obtain ⟨w1, rfl⟩ : ∃ w1, w1 = wr := ⟨_, rfl⟩
    obtain ⟨k, hk, rfl, hrow, hb⟩ := hrel
    have HRW := Lib.hid hrow
    have hbs := hb.size
    have HB := Lib.hid hb
    have hkl : (byL (L.take k) about now win).length ≤ 1000 := by
      have h1 := by_le (L.take k) about now win
      have h2 : (L.take k).length ≤ k := List.length_take_le _ _
      omega
    clear hrow hb
    by_cases hlt : k < n
    · obtain ⟨ad, r, rfl, hrk, hbl, d0, d1, d2⟩ := (HR.out.below HB.out).at_ hlt
      have HRK := Lib.hid hrk
      obtain ⟨_, _, hr0, hr1⟩ := HOK.out r (List.mem_of_getElem? hrk)
      have HRA := Lib.hid (HRW.out.alloc (.cells #[.int .i64 r.a, .int .i64 r.b, .int .i64 r.t] 53))
      have HBA : Hid (Below w.heap.size w (w1.alloc (.cells #[.int .i64 r.a, .int .i64 r.b, .int .i64 r.t] 53))) := Lib.hid (HB.out.alloc hbs _)
      have HBX : Hid (Blk (w1.alloc (.cells #[.int .i64 r.a, .int .i64 r.b, .int .i64 r.t] 53)) w1.heap.size 53 #[.int .i64 r.a, .int .i64 r.b, .int .i64 r.t]) := Lib.hid (Blk.new _ _ _)
      clear hrk
      have hways : (tellB about now win r = false ∧ ((r.a != about) = true ∨ ((r.a != about) = false ∧ r.t < now ∧ win < now - r.t))) ∨ (tellB about now win r = true ∧ ((r.a != about) = false ∧ now ≤ r.t ∨ (r.a != about) = false ∧ r.t < now ∧ decide (win < now - r.t) = false)) := by
        by_cases ha : r.a = about
        · by_cases h1 : r.t < now
          · by_cases h2 : win < now - r.t
            · exact .inl ⟨by unfold tellB countB; simp; omega, .inr ⟨by simpa using ha, h1, h2⟩⟩
            · exact .inr ⟨by unfold tellB countB; simp [ha]; omega, .inr ⟨by simpa using ha, h1, by simpa using h2⟩⟩
          · exact .inr ⟨by unfold tellB countB; simp [ha]; omega, .inl ⟨by simpa using ha, by omega⟩⟩
        · exact .inl ⟨by unfold tellB; simp [ha], .inl (by simpa using ha)⟩
      rcases hways with ⟨ht, hc⟩ | ⟨ht, hc⟩
      · have HKN := Lib.hid (by_take_no HRK.out ht)
        clear ht
        rcases hc with e1 | ⟨e1, e2, e3⟩
        all_goals
          go_wp2
          go_roundw
          case rel => exact ⟨k + 1, by omega, by go_num, by rw [HKN.out]; exact HRA.out, HBA.out⟩
          case measure => simp [intOf]; omega
      · obtain ⟨S, HS⟩ : ∃ l, Hid (byL (L.take k) about now win = l) := ⟨_, Lib.hid rfl⟩
        have HTL := Lib.hid ht
        rw [HS.out] at hkl HRW HRA
        obtain ⟨m, HM⟩ : ∃ m, Hid (S.length = m) := ⟨_, Lib.hid rfl⟩
        rw [HM.out] at hkl HRW HRA
        obtain ⟨A9, c9, rfl, hc9, hcm9⟩ := own_slice HRA.out
        have HRD := Lib.hid (own_read HRA.out _ (.inl (Nat.le_refl _)))
        clear ht
        rcases hc with ⟨e1, e2⟩ | ⟨e1, e2, e3⟩
        all_goals
          go_wp2
          go_loopw [12] (fun i wq => ∃ j : Nat, j ≤ m ∧ i = .int .i64 j ∧ (∀ y ∈ S.take j, y < r.b) ∧ Below (w1.alloc (.cells #[.int .i64 r.a, .int .i64 r.b, .int .i64 r.t] 53)).heap.size (w1.alloc (.cells #[.int .i64 r.a, .int .i64 r.b, .int .i64 r.t] 53)) wq) (fun i _ => m - (intOf i).toNat)
          case atStart => exact ⟨0, by omega, rfl, by simp, Below.refl _ _⟩
          case round =>
            obtain ⟨j, hj, rfl, hlo, hbq⟩ := hrel
            have HLO := Lib.hid hlo
            have HBQ := Lib.hid hbq
            have hbx := HBX.out.below hbq HBX.out.lt
            have f1 := hbx.cell 1
            simp at f1
            have hsz := hbq.size
            have hlt1 : w1.heap.size < wr.heap.size := hbx.lt
            have HRQ := Lib.hid (HRD.out.old hbq hsz)
            have HXQ := Lib.hid hbx
            clear hlo hbq hbx
            have hq : (∃ y ad9, j < m ∧ S[j]? = some y ∧ y < r.b ∧ A9 = some ad9 ∧ wr.cell? (ad9.add j) = some (.int .i64 y)) ∨ (∃ y ad9, j < m ∧ S[j]? = some y ∧ decide (y < r.b) = false ∧ A9 = some ad9 ∧ wr.cell? (ad9.add j) = some (.int .i64 y)) ∨ j = m := by
              by_cases hjm : j < m
              · obtain ⟨ad9, u, e9, hu, hcu⟩ := HRQ.out.at_ hjm
                obtain ⟨y, hy, rfl⟩ := zints_at hu
                by_cases hyr : y < r.b
                · exact .inl ⟨y, ad9, hjm, hy, hyr, e9, hcu⟩
                · exact .inr (.inl ⟨y, ad9, hjm, hy, by simpa using hyr, e9, hcu⟩)
              · exact .inr (.inr (by omega))
            obtain ⟨q, HQ⟩ : ∃ q : Bool, Hid (q = true ∧ (∃ y, j < m ∧ S[j]? = some y ∧ y < r.b) ∨ q = false ∧ ∀ y, S[j]? = some y → r.b ≤ y) := by
              rcases hq with ⟨y, _, h1, h2, h3, _⟩ | ⟨y, _, h1, h2, h3, _⟩ | h1
              · exact ⟨true, Lib.hid (.inl ⟨rfl, y, h1, h2, h3⟩)⟩
              · refine ⟨false, Lib.hid (.inr ⟨rfl, fun z hz => ?_⟩)⟩
                rw [h2] at hz
                injection hz with hz
                simp at h3
                omega
              · refine ⟨false, Lib.hid (.inr ⟨rfl, fun z hz => ?_⟩)⟩
                have := (List.getElem?_eq_some_iff.1 hz).1
                have := HM.out
                omega
            go_upto_region 7 with (fail)
            go_cut [49] from 37 to 48 (fun v wx => v = .bool q ∧ Below wr.heap.size wr wx)
            case first =>
              rcases hq with ⟨y, ad9, h1, h2, h3, rfl, h5⟩ | ⟨y, ad9, h1, h2, h3, rfl, h5⟩ | h1
              · have hqt : q = true := by
                  rcases HQ.out with ⟨h, _⟩ | ⟨_, h⟩
                  · exact h
                  · have := h y h2; omega
                subst hqt
                clear h2
                have i1 : (j : Int) < (m : Int) := by omega
                go_quiet (fail)
                go_wp2
                go_meet
                exact ⟨rfl, below_drewN (Below.refl _ _) _⟩
              · have hqt : q = false := by
                  rcases HQ.out with ⟨_, y', _, h, h'⟩ | ⟨h, _⟩
                  · rw [h2] at h; injection h with h; subst h; simp at h3; omega
                  · exact h
                subst hqt
                clear h2
                have i1 : (j : Int) < (m : Int) := by omega
                go_quiet (fail)
                go_wp2
                go_meet
                exact ⟨rfl, below_drewN (Below.refl _ _) _⟩
              · have hqt : q = false := by
                  rcases HQ.out with ⟨_, y', h, _⟩ | ⟨h, _⟩
                  · omega
                  · exact h
                subst hqt
                have i1 : decide ((j : Int) < (m : Int)) = false := by simp; omega
                have i2 : decide (j < m) = false := by simp; omega
                clear h1
                go_quiet (fail)
                go_wp2
                go_meet
                exact ⟨rfl, below_drewN (Below.refl _ _) _⟩
            case rest =>
              obtain ⟨rfl, hb2⟩ := hcut
              clear hq
              obtain ⟨w2, rfl⟩ : ∃ w2, w2 = wc := ⟨_, rfl⟩
              have HB2 := Lib.hid hb2
              have HBQ2 : Hid (Below (w1.alloc (.cells #[.int .i64 r.a, .int .i64 r.b, .int .i64 r.t] 53)).heap.size (w1.alloc (.cells #[.int .i64 r.a, .int .i64 r.b, .int .i64 r.t] 53)) w2) := Lib.hid (HBQ.out.trans (hb2.mono hsz))
              clear hb2 f1
              cases q
              · have HHI : Hid (∀ y, S[j]? = some y → r.b ≤ y) := by
                  rcases HQ.out with ⟨h, _⟩ | ⟨_, h⟩
                  · cases h
                  · exact Lib.hid h
                have HKN := Lib.hid (by_take_yes HRK.out HTL.out HS.out HLO.out HHI.out)
                have HX2 := Lib.hid (HBX.out.below HBQ2.out HBX.out.lt)
                have HC : Hid (∀ w', Below w2.heap.size w2 w' → w'.cell? ⟨w1.heap.size, 1, none⟩ = some (.int .i64 r.b)) := Lib.hid fun w' h => by
                  have := (HX2.out.below h HX2.out.lt).cell 1
                  simpa using this
                have HRT : Hid (∀ w', Below w2.heap.size w2 w' → Reads w' w'.heap.size A9 j (zints (S.take j))) := Lib.hid fun w' h => by
                  rw [zints_take]
                  exact ((HRD.out.old HBQ2.out HBQ2.out.size).old h h.size).take hj
                have HRC0 : Hid (∀ w', Below w2.heap.size w2 w' → Reads w' w'.heap.size (if c9 = j then A9 else A9.map (·.add j)) (m - j) (zints (S.drop j))) := Lib.hid fun w' h => by
                  rw [zints_drop]
                  exact ((HRD.out.old HBQ2.out HBQ2.out.size).old h h.size).cut hj hc9
                have hszw : w.heap.size ≤ w2.heap.size := by have := HBA.out.size; have := HBQ2.out.size; omega
                have HB0 : Hid (Below w.heap.size w w2) := Lib.hid (HBA.out.trans (HBQ2.out.mono HBA.out.size))
                have hlen : j + 1 + (m - j) = m + 1 := by omega
                have HLEN := Lib.hid hlen
                have HLX : Hid ((S.take j ++ [r.b] ++ S.drop j).length = m + 1) := Lib.hid (by have := HM.out; simp; omega)
                have k0 : (0 : Int) ≤ (j : Int) := by omega
                have k1 : (j : Int) ≤ (m : Int) := by omega
                have k2 : (m : Int) ≤ (c9 : Int) := by omega
                have k3 : (j : Int) ≤ (c9 : Int) := by omega
                clear hlen
                go_upto_region 9 with (fail)
                by_cases hck : c9 = j
                · have HRC := HRC0
                  rw [if_pos hck] at HRC
                  obtain rfl : m = j := by omega
                  obtain rfl : c9 = m := hck
                  rw [Nat.sub_self] at HRC
                  go_region_held3 (fun w' => w'.cell? ⟨w1.heap.size, 1, none⟩ = some (.int .i64 r.b)) (first | exact HC.out _ (b0 w2) | exact HC.out _ (bE w2) | exact HC.out _ (bEO w2 r.b) | exact HC.out _ (bO w2 r.b) | exact HC.out _ (bOE w2 r.b) | exact HC.out _ HB6.out | exact HC.out _ HB5.out | exact HC.out _ HB4.out | exact HC.out _ (HB4.out.alloc HB4.out.size (oO r.b))) (first | ((refine step_append_cells _ (by rfl) (.tmp 52) (.tmp 55) 39 (by rfl) w2.heap.size 3 i0 _ 8 Try.underlying39 HI0.out HZ0.out HZ1.out HZ2.out (by rfl) (vAt w2.heap.size) 0 [] (by rfl) (ownE w2) _ A9 c9 c9 (zints (S.take c9)) (by rfl) (HRT.out _ (bE w2)) (zints_oneCell _) (by unfold maxLen; omega) (by omega) (bE w2).size ?_; intro v4 w4 hown4 hg4 hob4; clear hob4; simp only [Nat.zero_add, List.nil_append] at hown4; have HO4 := Lib.hid hown4; have HB4 := Lib.hid (grE w2 hg4); clear hown4 hg4)) | ((refine step_append_cells _ (by rfl) (.tmp 52) (.tmp 55) 39 (by rfl) w2.heap.size 3 i0 _ 8 Try.underlying39 HI0.out HZ0.out HZ1.out HZ2.out (by rfl) (vAt w2.heap.size) 0 [] (by rfl) (ownEO w2 r.b) _ A9 c9 c9 (zints (S.take c9)) (by rfl) (HRT.out _ (bEO w2 r.b)) (zints_oneCell _) (by unfold maxLen; omega) (by omega) (bEO w2 r.b).size ?_; intro v4 w4 hown4 hg4 hob4; clear hob4; simp only [Nat.zero_add, List.nil_append] at hown4; have HO4 := Lib.hid hown4; have HB4 := Lib.hid (grEO w2 r.b hg4); have HONE := Lib.hid (oneEO w2 r.b hg4); clear hown4 hg4)) | ((refine step_append_cells _ (by rfl) (.tmp 52) (.tmp 55) 39 (by rfl) w2.heap.size 3 i0 _ 8 Try.underlying39 HI0.out HZ0.out HZ1.out HZ2.out (by rfl) (vAt (w2.heap.size + 1)) 0 [] (by rfl) (ownOE w2 r.b) _ A9 c9 c9 (zints (S.take c9)) (by rfl) (HRT.out _ (bOE w2 r.b)) (zints_oneCell _) (by unfold maxLen; omega) (by omega) (bOE w2 r.b).size ?_; intro v4 w4 hown4 hg4 hob4; clear hob4; simp only [Nat.zero_add, List.nil_append] at hown4; have HO4 := Lib.hid hown4; have HB4 := Lib.hid (grOE w2 r.b hg4); have HONE := Lib.hid (oneOE w2 r.b hg4); clear hown4 hg4)) | ((refine step_append_cells _ (by rfl) (.tmp 56) (.tmp 59) 39 (by rfl) w2.heap.size 3 i0 _ 8 Try.underlying39 HI0.out HZ0.out HZ1.out HZ2.out (by rfl) v4 c9 (zints (S.take c9)) (by rfl) (HO4.out.alloc _) _ _ 1 1 (zints [r.b]) (by rfl) (one_reads w4 r.b (w4.heap.size + 1) (by omega)) (zints_oneCell _) (by unfold maxLen; omega) (by omega) (HB4.out.alloc HB4.out.size (oO r.b)).size ?_; intro v5 w5 hown5 hg5 hob5; clear hob5; have HO5 := Lib.hid hown5; have HB5 : Hid (Below w2.heap.size w2 w5) := Lib.hid ((HB4.out.alloc HB4.out.size (oO r.b)).grown hg5 (HB4.out.alloc HB4.out.size (oO r.b)).size (fun i e => (HO4.out.lt i e).1)); clear hown5 hg5)) | ((refine step_append_cells _ (by rfl) (.tmp 56) (.tmp 59) 39 (by rfl) w2.heap.size 3 i0 _ 8 Try.underlying39 HI0.out HZ0.out HZ1.out HZ2.out (by rfl) v4 c9 (zints (S.take c9)) (by rfl) HO4.out _ _ 1 1 (zints [r.b]) (by rfl) HONE.out (zints_oneCell _) (by unfold maxLen; omega) (by omega) (HB4.out).size ?_; intro v5 w5 hown5 hg5 hob5; clear hob5; have HO5 := Lib.hid hown5; have HB5 : Hid (Below w2.heap.size w2 w5) := Lib.hid ((HB4.out).grown hg5 (HB4.out).size (fun i e => (HO4.out.lt i e).1)); clear hown5 hg5)) | ((refine step_append_cells _ (by rfl) (.tmp 60) (.tmp 63) 39 (by rfl) w2.heap.size 3 i0 _ 8 Try.underlying39 HI0.out HZ0.out HZ1.out HZ2.out (by rfl) v5 (c9 + 1) (zints (S.take c9) ++ zints [r.b]) (by rfl) HO5.out _ A9 0 0 (zints (S.drop c9)) (by rfl) (HRC.out _ HB5.out) (zints_oneCell _) (by unfold maxLen; omega) (by omega) HB5.out.size ?_; intro v6 w6 hown6 hg6 hob6; clear hob6; have HO6 := Lib.hid hown6; have HB6 : Hid (Below w2.heap.size w2 w6) := Lib.hid (HB5.out.grown hg6 HB5.out.size (fun i e => (HO5.out.lt i e).1)); clear hown6 hg6)))
                  all_goals
                    have HO7 : Hid (w6.ownsRow w.heap.size 3 1 v6 (c9 + 1) (zints (S.take c9 ++ [r.b] ++ S.drop c9))) := Lib.hid (by rw [zints_append, zints_append]; have h6 := HO6.out; rw [Nat.add_zero] at h6; exact own_base h6 hszw)
                    have HB7 : Hid (Below w.heap.size w w6) := Lib.hid (HB0.out.trans (HB6.out.mono hszw))
                    go_wp2
                    go_roundw
                    case rel => exact ⟨k + 1, by omega, by go_num, by rw [HKN.out, HLX.out]; exact HO7.out, HB7.out⟩
                    case measure => simp [intOf]; omega
                · have HRC := HRC0
                  rw [if_neg hck] at HRC
                  go_region_held3 (fun w' => w'.cell? ⟨w1.heap.size, 1, none⟩ = some (.int .i64 r.b)) (first | exact HC.out _ (b0 w2) | exact HC.out _ (bE w2) | exact HC.out _ (bEO w2 r.b) | exact HC.out _ (bO w2 r.b) | exact HC.out _ (bOE w2 r.b) | exact HC.out _ HB6.out | exact HC.out _ HB5.out | exact HC.out _ HB4.out | exact HC.out _ (HB4.out.alloc HB4.out.size (oO r.b))) (first | ((refine step_append_cells _ (by rfl) (.tmp 52) (.tmp 55) 39 (by rfl) w2.heap.size 3 i0 _ 8 Try.underlying39 HI0.out HZ0.out HZ1.out HZ2.out (by rfl) (vAt w2.heap.size) 0 [] (by rfl) (ownE w2) _ A9 j c9 (zints (S.take j)) (by rfl) (HRT.out _ (bE w2)) (zints_oneCell _) (by unfold maxLen; omega) (by omega) (bE w2).size ?_; intro v4 w4 hown4 hg4 hob4; clear hob4; simp only [Nat.zero_add, List.nil_append] at hown4; have HO4 := Lib.hid hown4; have HB4 := Lib.hid (grE w2 hg4); clear hown4 hg4)) | ((refine step_append_cells _ (by rfl) (.tmp 52) (.tmp 55) 39 (by rfl) w2.heap.size 3 i0 _ 8 Try.underlying39 HI0.out HZ0.out HZ1.out HZ2.out (by rfl) (vAt w2.heap.size) 0 [] (by rfl) (ownEO w2 r.b) _ A9 j c9 (zints (S.take j)) (by rfl) (HRT.out _ (bEO w2 r.b)) (zints_oneCell _) (by unfold maxLen; omega) (by omega) (bEO w2 r.b).size ?_; intro v4 w4 hown4 hg4 hob4; clear hob4; simp only [Nat.zero_add, List.nil_append] at hown4; have HO4 := Lib.hid hown4; have HB4 := Lib.hid (grEO w2 r.b hg4); have HONE := Lib.hid (oneEO w2 r.b hg4); clear hown4 hg4)) | ((refine step_append_cells _ (by rfl) (.tmp 52) (.tmp 55) 39 (by rfl) w2.heap.size 3 i0 _ 8 Try.underlying39 HI0.out HZ0.out HZ1.out HZ2.out (by rfl) (vAt (w2.heap.size + 1)) 0 [] (by rfl) (ownOE w2 r.b) _ A9 j c9 (zints (S.take j)) (by rfl) (HRT.out _ (bOE w2 r.b)) (zints_oneCell _) (by unfold maxLen; omega) (by omega) (bOE w2 r.b).size ?_; intro v4 w4 hown4 hg4 hob4; clear hob4; simp only [Nat.zero_add, List.nil_append] at hown4; have HO4 := Lib.hid hown4; have HB4 := Lib.hid (grOE w2 r.b hg4); have HONE := Lib.hid (oneOE w2 r.b hg4); clear hown4 hg4)) | ((refine step_append_cells _ (by rfl) (.tmp 56) (.tmp 59) 39 (by rfl) w2.heap.size 3 i0 _ 8 Try.underlying39 HI0.out HZ0.out HZ1.out HZ2.out (by rfl) v4 j (zints (S.take j)) (by rfl) (HO4.out.alloc _) _ _ 1 1 (zints [r.b]) (by rfl) (one_reads w4 r.b (w4.heap.size + 1) (by omega)) (zints_oneCell _) (by unfold maxLen; omega) (by omega) (HB4.out.alloc HB4.out.size (oO r.b)).size ?_; intro v5 w5 hown5 hg5 hob5; clear hob5; have HO5 := Lib.hid hown5; have HB5 : Hid (Below w2.heap.size w2 w5) := Lib.hid ((HB4.out.alloc HB4.out.size (oO r.b)).grown hg5 (HB4.out.alloc HB4.out.size (oO r.b)).size (fun i e => (HO4.out.lt i e).1)); clear hown5 hg5)) | ((refine step_append_cells _ (by rfl) (.tmp 56) (.tmp 59) 39 (by rfl) w2.heap.size 3 i0 _ 8 Try.underlying39 HI0.out HZ0.out HZ1.out HZ2.out (by rfl) v4 j (zints (S.take j)) (by rfl) HO4.out _ _ 1 1 (zints [r.b]) (by rfl) HONE.out (zints_oneCell _) (by unfold maxLen; omega) (by omega) (HB4.out).size ?_; intro v5 w5 hown5 hg5 hob5; clear hob5; have HO5 := Lib.hid hown5; have HB5 : Hid (Below w2.heap.size w2 w5) := Lib.hid ((HB4.out).grown hg5 (HB4.out).size (fun i e => (HO4.out.lt i e).1)); clear hown5 hg5)) | ((refine step_append_cells _ (by rfl) (.tmp 60) (.tmp 63) 39 (by rfl) w2.heap.size 3 i0 _ 8 Try.underlying39 HI0.out HZ0.out HZ1.out HZ2.out (by rfl) v5 (j + 1) (zints (S.take j) ++ zints [r.b]) (by rfl) HO5.out _ (A9.map fun x => x.add j) (m - j) (c9 - j) (zints (S.drop j)) (by rfl) (HRC.out _ HB5.out) (zints_oneCell _) (by unfold maxLen; omega) (by omega) HB5.out.size ?_; intro v6 w6 hown6 hg6 hob6; clear hob6; have HO6 := Lib.hid hown6; have HB6 : Hid (Below w2.heap.size w2 w6) := Lib.hid (HB5.out.grown hg6 HB5.out.size (fun i e => (HO5.out.lt i e).1)); clear hown6 hg6)))
                  all_goals
                    have HO7 : Hid (w6.ownsRow w.heap.size 3 1 v6 (m + 1) (zints (S.take j ++ [r.b] ++ S.drop j))) := Lib.hid (by rw [zints_append, zints_append, ← HLEN.out]; exact own_base HO6.out hszw)
                    have HB7 : Hid (Below w.heap.size w w6) := Lib.hid (HB0.out.trans (HB6.out.mono hszw))
                    go_wp2
                    go_roundw
                    case rel => exact ⟨k + 1, by omega, by go_num, by rw [HKN.out, HLX.out]; exact HO7.out, HB7.out⟩
                    case measure => simp [intOf]; omega
              · have HL1 : Hid (j + 1 ≤ m ∧ ∀ y ∈ S.take (j + 1), y < r.b) := by
                  rcases HQ.out with ⟨_, y, h1, h2, h3⟩ | ⟨h, _⟩
                  · refine Lib.hid ⟨by omega, fun z hz => ?_⟩
                    rw [take_snoc_ h2] at hz
                    rcases List.mem_append.1 hz with hz | hz
                    · exact HLO.out z hz
                    · simp at hz; subst hz; exact h3
                  · cases h
                have hj1 := HL1.out.1
                go_wp2
                go_roundw
                case rel => exact ⟨j + 1, hj1, by go_num, HL1.out.2, HBQ2.out⟩
                case measure => simp [intOf]; omega
    · obtain rfl : k = n := by omega
      have HT : Hid (L.take k = L) := Lib.hid (List.take_of_length_le (by rw [HLN.out]; exact Nat.le_refl _))
      rw [HT.out] at HRW
      go_wp2
      go_ret
      exact ⟨HB.out, _, rfl, HRW.out⟩
end Go.Proofs.Ytcacjppdcmghjaa
