/-
  WHAT IS PROVED: the contract of the document's own without. Conditions: the size; the reports are right.
-/
import Derived.Test.YtcacjppdcmghjaaNote
namespace Go.Proofs.Ytcacjppdcmghjaa
open Go.RowKit Go.Lib Go.Maps

/-- the ways through without's round: what is asked, and what comes of it -/
theorem goes_ways (ho xa xb xt win : Int) (r : Rp) (hw : 1 ≤ win) :
    (goesB ho xa xb xt win r = false ∧ ((ho = 2 ∧ (r.a == xa) = false) ∨ (ho = 2 ∧ (r.a == xa) = true ∧ (r.b == xb) = false) ∨ (ho = 3 ∧ (r.a == xa) = false ∧ (r.b == xa) = false) ∨
      (ho = 4 ∧ xt ≤ r.t) ∨ (ho = 4 ∧ r.t < xt ∧ decide (win < xt - r.t) = false) ∨ ((ho == 2) = false ∧ (ho == 3) = false ∧ (ho == 4) = false))) ∨
    (goesB ho xa xb xt win r = true ∧ ((ho = 2 ∧ (r.a == xa) = true ∧ (r.b == xb) = true) ∨ (ho = 3 ∧ (r.a == xa) = true) ∨ (ho = 3 ∧ (r.a == xa) = false ∧ (r.b == xa) = true) ∨ (ho = 4 ∧ r.t < xt ∧ win < xt - r.t))) := by
  by_cases h2 : ho = 2
  · subst h2
    by_cases ha : r.a = xa
    · by_cases hb : r.b = xb
      · exact .inr ⟨by unfold goesB Rp.is; simp [ha, hb], .inl ⟨rfl, by simpa using ha, by simpa using hb⟩⟩
      · exact .inl ⟨by unfold goesB Rp.is; simp [hb], .inr (.inl ⟨rfl, by simpa using ha, by simpa using hb⟩)⟩
    · exact .inl ⟨by unfold goesB Rp.is; simp [ha], .inl ⟨rfl, by simpa using ha⟩⟩
  · by_cases h3 : ho = 3
    · subst h3
      by_cases ha : r.a = xa
      · exact .inr ⟨by unfold goesB; simp [ha], .inr (.inl ⟨rfl, by simpa using ha⟩)⟩
      · by_cases hb : r.b = xa
        · exact .inr ⟨by unfold goesB; simp [hb], .inr (.inr (.inl ⟨rfl, by simpa using ha, by simpa using hb⟩))⟩
        · exact .inl ⟨by unfold goesB; simp [ha, hb], .inr (.inr (.inl ⟨rfl, by simpa using ha, by simpa using hb⟩))⟩
    · by_cases h4 : ho = 4
      · subst h4
        by_cases h : r.t < xt
        · by_cases hd : win < xt - r.t
          · exact .inr ⟨by unfold goesB countB; simp; omega, .inr (.inr (.inr ⟨rfl, h, hd⟩))⟩
          · exact .inl ⟨by unfold goesB countB; simp; omega, .inr (.inr (.inr (.inr (.inl ⟨rfl, h, by simpa using hd⟩))))⟩
        · exact .inl ⟨by unfold goesB countB; simp; omega, .inr (.inr (.inr (.inl ⟨rfl, by omega⟩)))⟩
      · exact .inl ⟨by unfold goesB; simp [h2, h3, h4], .inr (.inr (.inr (.inr (.inr ⟨by simpa using h2, by simpa using h3, by simpa using h4⟩))))⟩

set_option maxRecDepth 100000 in
set_option maxHeartbeats 8000000 in
theorem without_any (A : Option Addr) (n c : Nat) (L : List Rp) (x : St) (win : Int) (w : World) (hn : n ≤ 1000) (hnc : n ≤ c) (hcm : c ≤ 9223372036854775807) (hr : RpsAt w A n L) (hok : ∀ r ∈ L, okRp r) (hwin : 1 ≤ win ∧ win ≤ 1073741824) (hx : inInt x.t) :
    Calls Try.prog 13 #[.slice A n c, vSt x, .int .i64 win] w (Back (keepL x.how x.a x.b x.t win L) ((L.length : Int) - ((keepL x.how x.a x.b x.t win L).length : Int)) w) := by
  obtain ⟨i0, hi0, hz0, hz1, hz2⟩ := info_parts rp_info
  have HI0 : Hid (Try.prog.info? 53 = some i0) := hi0
  have HZ0 := Lib.hid hz0
  have HZ1 := Lib.hid hz1
  have HZ2 := Lib.hid hz2
  clear hi0 hz0 hz1 hz2
  obtain ⟨ho, xa, xb, xt⟩ := x
  simp only at hx ⊢
  obtain ⟨hx1, hx2⟩ := hx
  obtain ⟨hw1, hw2⟩ := hwin
  have HR := Lib.hid hr
  have HLN := Lib.hid hr.1
  have HOK := Lib.hid hok
  clear hr hok
  have HX0 : Hid (Sx (w.alloc (.cells #[.int .i64 ho, .int .i64 xa, .int .i64 xb, .int .i64 xt] 30)) w.heap.size ⟨ho, xa, xb, xt⟩) := Lib.hid (Sx.new w ⟨ho, xa, xb, xt⟩)
  have HW0 : Hid (Below w.heap.size w (w.alloc (.cells #[.int .i64 ho, .int .i64 xa, .int .i64 xb, .int .i64 xt] 30))) := Lib.hid ((Below.refl _ w).alloc (Nat.le_refl _) _)
  have HS0 : Hid (w.heap.size + 1 = (w.alloc (.cells #[.int .i64 ho, .int .i64 xa, .int .i64 xb, .int .i64 xt] 30)).heap.size) := Lib.hid (by simp)
  go_enter Try.func13, Try.ntmps13
  go_wp2
  go_loopw [8, 14] (fun va i wr => ∃ k : Nat, k ≤ n ∧ i = .int .i64 k ∧ wr.ownsRow (w.heap.size + 1) 53 3 va (keepL ho xa xb xt win (L.take k)).length (flatR (keepL ho xa xb xt win (L.take k))) ∧ Below (w.heap.size + 1) (w.alloc (.cells #[.int .i64 ho, .int .i64 xa, .int .i64 xb, .int .i64 xt] 30)) wr) (fun _ i _ => n - (intOf i).toNat)
  case atStart => exact ⟨0, by omega, rfl, by simpa [keepL, flatR] using World.ownsRow_nil _ _ _ _, Below.refl _ _⟩
  case round =>
    obtain ⟨k, hk, rfl, hrow, hb⟩ := hrel
    have HRW := Lib.hid hrow
    have hbs := hb.size
    rw [← HS0.out] at hbs
    have HB := Lib.hid hb
    have HWW : Hid (Below w.heap.size w wr) := Lib.hid (HW0.out.trans (hb.mono (by omega)))
    have HX : Hid (Sx wr w.heap.size ⟨ho, xa, xb, xt⟩) := Lib.hid (HX0.out.below (by rw [← HS0.out]; exact hb))
    have hbx : w.heap.size < wr.heap.size := HX.out.lt
    have hkl : (keepL ho xa xb xt win (L.take k)).length ≤ 1000 := by
      have h1 := keep_le ho xa xb xt win (L.take k)
      have h2 : (L.take k).length ≤ k := List.length_take_le _ _
      omega
    clear hrow hb
    by_cases hlt : k < n
    · obtain ⟨c0, c1, c2, c3⟩ := HX.out.cells
      simp only at c0 c1 c2 c3
      obtain ⟨ad, r, rfl, hrk, hbl, d0, d1, d2⟩ := (HR.out.below HWW.out).at_ hlt
      have HRK := Lib.hid hrk
      obtain ⟨_, _, hr0, hr1⟩ := HOK.out r (List.mem_of_getElem? hrk)
      have HRA : Hid ((wr.alloc (.cells #[.int .i64 r.a, .int .i64 r.b, .int .i64 r.t] 53)).ownsRow (w.heap.size + 1) 53 3 u8 (keepL ho xa xb xt win (L.take k)).length (flatR (keepL ho xa xb xt win (L.take k)))) := Lib.hid (HRW.out.alloc _)
      have HBA : Hid (Below (w.heap.size + 1) (w.alloc (.cells #[.int .i64 ho, .int .i64 xa, .int .i64 xb, .int .i64 xt] 30)) (wr.alloc (.cells #[.int .i64 r.a, .int .i64 r.b, .int .i64 r.t] 53))) := Lib.hid (HB.out.alloc hbs _)
      clear hrk
      rcases goes_ways ho xa xb xt win r hw1 with ⟨hq, hc⟩ | ⟨hq, hc⟩
      · -- it stays
        have HKN := Lib.hid (keep_no HRK.out hq)
        obtain ⟨kl0, HKL⟩ : ∃ l, Hid (keepL ho xa xb xt win (L.take k) = l) := ⟨_, Lib.hid rfl⟩
        rw [HKL.out] at hkl HRA HRW HKN
        clear hq
        rcases hc with ⟨rfl, e1⟩ | ⟨rfl, e1, e2⟩ | ⟨rfl, e1, e2⟩ | ⟨rfl, e1⟩ | ⟨rfl, e1, e2⟩ | ⟨e1, e2, e3⟩
        all_goals
          go_wp2_with (at_builtin; refine wpList_append_reps _ rfl _ _ 28 rfl (w.heap.size + 1) 53 i0 _ Try.underlying28 HI0.out HZ0.out HZ1.out HZ2.out rfl u8 kl0.length kl0 rfl (HRA.out.alloc _) (some ⟨wr.heap.size + 1, 0, none⟩) 1 1 [r] rfl (by simpa using RpsAt.one (wr.alloc (.cells #[.int .i64 r.a, .int .i64 r.b, .int .i64 r.t] 53)) r _) (by omega) (by simp; omega) ?_; intro v9 w9 hown9 hg9 hob9; clear hob9)
          have HB9 : Hid (Below (w.heap.size + 1) (w.alloc (.cells #[.int .i64 _, .int .i64 xa, .int .i64 xb, .int .i64 xt] 30)) w9) := Lib.hid ((HBA.out.alloc (by simp; omega) _).grown hg9 (by simp; omega) (fun j e => (HRW.out.lt j e).1))
          have HO9 := Lib.hid hown9
          clear hown9 hg9
          go_roundw
          case rel => exact ⟨k + 1, by omega, by go_num, by rw [HKN.out, List.length_append]; exact HO9.out, HB9.out⟩
          case measure => simp [intOf]; omega
      · -- it goes
        have HKN := Lib.hid (keep_yes HRK.out hq)
        clear hq
        rcases hc with ⟨rfl, e1, e2⟩ | ⟨rfl, e1⟩ | ⟨rfl, e1, e2⟩ | ⟨rfl, e1, e2⟩
        all_goals
          go_wp2
          go_roundw
          case rel => exact ⟨k + 1, by omega, by go_num, by rw [HKN.out]; exact HRA.out, HBA.out⟩
          case measure => simp [intOf]; omega
    · obtain rfl : k = n := by omega
      have HT : Hid (L.take k = L) := Lib.hid (List.take_of_length_le (by rw [HLN.out]; exact Nat.le_refl _))
      rw [HT.out] at HRW hkl
      have hle := keep_le ho xa xb xt win L
      rw [HLN.out] at hle
      obtain ⟨kk, HK⟩ : ∃ l, Hid (keepL ho xa xb xt win L = l) := ⟨_, Lib.hid rfl⟩
      rw [HK.out] at HRW hkl hle
      obtain ⟨A9, c9, rfl, hc9, hcm9, hrp9⟩ := own_reps HRW.out
      have HRP := Lib.hid hrp9
      clear hrp9
      go_wp2
      go_ret2
      exact ⟨A9, kk.length, c9, by rw [HK.out, HLN.out]; rfl, by rw [HK.out]; exact HRP.out, hc9, hcm9, HWW.out⟩
end Go.Proofs.Ytcacjppdcmghjaa
