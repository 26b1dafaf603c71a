/-
  that takes one away IS PROVED: the contract of the document's own step that takes one away. Conditions: the size; the list is one of peers.
-/
import Derived.Test.YtcphodnenhnalaaStep
import Derived.Deep.RegionLaw
namespace Go.Proofs.Ytcphodnenhnalaa
open Go.RowKit Go.Lib Go.Maps

set_option maxRecDepth 100000 in
set_option maxHeartbeats 2000000 in
theorem step_takes (A : Option Addr) (n c : Nat) (L : List Pr) (xi xt : Int) (w : World) (hn : n ≤ 100) (hnc : n ≤ c) (hcm : c ≤ 9223372036854775807) (hr : PrsAt w A n L) (hu : Up L) (hq : hasL L xi = true) :
    Calls Try.prog 10 #[.slice A n c, vSt ⟨2, xi, xt⟩] w (Back (delL L xi) 1 w) := by
  obtain ⟨i0, hi0, hz0, hz1, hz2⟩ := info_parts pr_info
  have HI0 : Hid (Try.prog.info? 50 = some i0) := hi0
  have HZ0 := Lib.hid hz0
  have HZ1 := Lib.hid hz1
  have HZ2 := Lib.hid hz2
  clear hi0 hz0 hz1 hz2
  have HR := Lib.hid hr
  have HU := Lib.hid hu
  have HN := Lib.hid hr.1
  have HX1 : Hid (Sx (w.alloc (.cells #[.int .i64 2, .int .i64 xi, .int .i64 xt] 30)) w.heap.size ⟨2, xi, xt⟩) := Lib.hid (Sx.new w ⟨2, xi, xt⟩)
  have HA : Hid (Below w.heap.size w (w.alloc (.cells #[.int .i64 2, .int .i64 xi, .int .i64 xt] 30))) := Lib.hid ((Below.refl _ _).alloc (Nat.le_refl _) _)
  obtain ⟨k, HK⟩ : ∃ k, Hid (posL L xi = k) := ⟨_, Lib.hid rfl⟩
  have hkn : k ≤ n := by have := pos_le L xi; rw [HK.out, HN.out] at this; exact this
  have HQ := Lib.hid hq
  have hk2 : k < n := by have := pos_has hu hq; rw [HK.out, HN.out] at this; exact this
  obtain ⟨k1, hk1⟩ : ∃ k1, k1 = k + 1 := ⟨_, rfl⟩
  have HDL : Hid (delL L xi = L.take k ++ L.drop k1) := Lib.hid (by rw [del_at hu hq, HK.out, hk1])
  have e1 : IntKind.i64.wrap ((k : Int) + 1) = ((k1 : Nat) : Int) := by rw [IntKind.wrap_i64]; omega
  have k0 : (0 : Int) ≤ (k : Int) := by omega
  have k2 : (k : Int) ≤ (n : Int) := by omega
  have k3 : (k : Int) ≤ (c : Int) := by omega
  have k4 : (0 : Int) ≤ (k1 : Int) := by omega
  have k5 : (k1 : Int) ≤ (n : Int) := by omega
  have k6 : (n : Int) ≤ (c : Int) := by omega
  have k7 : (k1 : Int) ≤ (c : Int) := by omega
  clear hr hu hq hk1
  go_enter Try.func10, Try.ntmps10
  go_wp2_with (fail)
  refine (place_any A n c L xi _ (by omega) (HR.out.below HA.out) HU.out).mono ?_
  rintro e w2 ⟨rfl, hb2⟩
  rw [HK.out, HQ.out]
  have HX2 := Lib.hid (HX1.out.below hb2)
  have HB2 := Lib.hid (HA.out.trans (hb2.mono HA.out.size))
  obtain ⟨a0, a1, a2⟩ := HX2.out.cells
  have hs2 : w.heap.size < w2.heap.size := HX2.out.lt
  simp only at a0 a1 a2
  clear hb2

  have HW1 : Hid (Below w2.heap.size w2 (w2.drew.alloc (.cells #[] 50))) := Lib.hid ((below_drewN (Below.refl _ _) 1).alloc (Nat.le_refl _) _)
  have HBB : Hid (∀ w', (w2.drew.alloc (.cells #[] 50)).grownBy w' (some w2.heap.size) → Below w2.heap.size w2 w') := Lib.hid fun w' hg => HW1.out.grown hg HW1.out.size (fun j e => by injection e with e; omega)
  have HR2 := Lib.hid (HR.out.below HB2.out)
  have HRT : Hid (PrsAt (w2.drew.alloc (.cells #[] 50)) A k (L.take k)) := Lib.hid ((HR2.out.take (by omega)).below HW1.out)
  have HRC : Hid (∀ w', Below w2.heap.size w2 w' → PrsAt w' (if c = k1 then A else A.map (·.add (k1 * 4))) (n - k1) (L.drop k1)) := Lib.hid fun w' hb => (HR2.out.drop (by omega) hnc).below hb
  by_cases hck : c = k1
  · have HRD := HRC
    rw [if_pos hck] at HRD
    obtain rfl : n = k1 := by omega
    obtain rfl : c = n := hck
    rw [Nat.sub_self] at HRD
    clear HRC
    go_wp2
    go_region_held3 (fun _ => True) (first | exact trivial) (first | ((refine step_append_prs _ (by rfl) (.tmp 22) (.tmp 25) 28 (by rfl) w2.heap.size 50 i0 _ Try.underlying28 HI0.out HZ0.out HZ1.out HZ2.out (by rfl) _ 0 [] (by rfl) (World.ownsRow_made w2.drew #[] 0 (Nat.le_refl _) (Nat.zero_le _) rfl) A k c (L.take k) (by rfl) HRT.out (by omega) (by simp) ?_; intro v4 w4 hown4 hg4 _; simp only [Nat.zero_add, List.nil_append] at hown4; have HO4 := Lib.hid hown4; have HB4 := HBB.out w4 hg4; clear hown4 hg4)) | ((refine step_append_prs _ (by rfl) (.tmp 26) (.tmp 30) 28 (by rfl) w2.heap.size 50 i0 _ Try.underlying28 HI0.out HZ0.out HZ1.out HZ2.out (by rfl) _ k _ (by rfl) HO4.out A 0 0 (L.drop c) (by rfl) (HRD.out w4 HB4) (by omega) HB4.size ?_; intro v5 w5 hown5 hg5 _; have HO5 := Lib.hid hown5; have HB5 := HB4.grown hg5 HB4.size (fun j e => (HO4.out.lt j e).1); clear hown5 hg5)))
    obtain ⟨A5, c5, rfl, hc5, hcm5, hrp5⟩ := own_prs HO5.out
    have HP5 := Lib.hid hrp5
    have HW5 := Lib.hid (HB2.out.trans (HB5.mono HB2.out.size))
    clear hrp5
    go_wp2
    go_ret2
    exact ⟨A5, _, c5, rfl, by rw [HDL.out]; exact HP5.out, hc5, hcm5, HW5.out⟩
  · have HRD := HRC
    rw [if_neg hck] at HRD
    clear HRC
    go_wp2
    go_region_held3 (fun _ => True) (first | exact trivial) (first | ((refine step_append_prs _ (by rfl) (.tmp 22) (.tmp 25) 28 (by rfl) w2.heap.size 50 i0 _ Try.underlying28 HI0.out HZ0.out HZ1.out HZ2.out (by rfl) _ 0 [] (by rfl) (World.ownsRow_made w2.drew #[] 0 (Nat.le_refl _) (Nat.zero_le _) rfl) A k c (L.take k) (by rfl) HRT.out (by omega) (by simp) ?_; intro v4 w4 hown4 hg4 _; simp only [Nat.zero_add, List.nil_append] at hown4; have HO4 := Lib.hid hown4; have HB4 := HBB.out w4 hg4; clear hown4 hg4)) | ((refine step_append_prs _ (by rfl) (.tmp 26) (.tmp 30) 28 (by rfl) w2.heap.size 50 i0 _ Try.underlying28 HI0.out HZ0.out HZ1.out HZ2.out (by rfl) _ k _ (by rfl) HO4.out (A.map fun x => x.add (k1 * 4)) (n - k1) (c - k1) (L.drop k1) (by rfl) (HRD.out w4 HB4) (by omega) HB4.size ?_; intro v5 w5 hown5 hg5 _; have HO5 := Lib.hid hown5; have HB5 := HB4.grown hg5 HB4.size (fun j e => (HO4.out.lt j e).1); clear hown5 hg5)))
    obtain ⟨A5, c5, rfl, hc5, hcm5, hrp5⟩ := own_prs HO5.out
    have HP5 := Lib.hid hrp5
    have HW5 := Lib.hid (HB2.out.trans (HB5.mono HB2.out.size))
    clear hrp5
    go_wp2
    go_ret2
    exact ⟨A5, _, c5, rfl, by rw [HDL.out]; exact HP5.out, hc5, hcm5, HW5.out⟩
end Go.Proofs.Ytcphodnenhnalaa
