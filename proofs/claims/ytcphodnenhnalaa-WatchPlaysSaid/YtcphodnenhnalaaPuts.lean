/-
  that puts one in IS PROVED: the contract of the document's own step that puts one in. Conditions: the size; the list is one of peers.
-/
import Derived.Test.YtcphodnenhnalaaStep
import Derived.Deep.RegionLaw
namespace Go.Proofs.Ytcphodnenhnalaa
open Go.RowKit Go.Lib Go.Maps

set_option maxRecDepth 100000 in
set_option maxHeartbeats 2000000 in
theorem step_puts (A : Option Addr) (n c : Nat) (L : List Pr) (xi xt : Int) (w : World) (hn : n ≤ 100) (hnc : n ≤ c) (hcm : c ≤ 9223372036854775807) (hr : PrsAt w A n L) (hu : Up L) (hq : hasL L xi = false) (h1 : 1 ≤ xi) (h2 : xi ≤ 4294967296) (h3 : 0 ≤ xt) (h4 : xt ≤ 1099511627776) (h16 : n ≠ 16) :
    Calls Try.prog 10 #[.slice A n c, vSt ⟨1, xi, xt⟩] w (Back (insL L ⟨xi, xt, false, 0⟩) 0 w) := by
  obtain ⟨i0, hi0, hz0, hz1, hz2⟩ := info_parts pr_info
  have HI0 : Hid (Try.prog.info? 50 = some i0) := hi0
  have HZ0 := Lib.hid hz0
  have HZ1 := Lib.hid hz1
  have HZ2 := Lib.hid hz2
  clear hi0 hz0 hz1 hz2
  have HR := Lib.hid hr
  have HU := Lib.hid hu
  have HN := Lib.hid hr.1
  have HX1 : Hid (Sx (w.alloc (.cells #[.int .i64 1, .int .i64 xi, .int .i64 xt] 30)) w.heap.size ⟨1, xi, xt⟩) := Lib.hid (Sx.new w ⟨1, xi, xt⟩)
  have HA : Hid (Below w.heap.size w (w.alloc (.cells #[.int .i64 1, .int .i64 xi, .int .i64 xt] 30))) := Lib.hid ((Below.refl _ _).alloc (Nat.le_refl _) _)
  obtain ⟨k, HK⟩ : ∃ k, Hid (posL L xi = k) := ⟨_, Lib.hid rfl⟩
  have hkn : k ≤ n := by have := pos_le L xi; rw [HK.out, HN.out] at this; exact this
  have HQ := Lib.hid hq
  have HIL : Hid (insL L ⟨xi, xt, false, 0⟩ = (L.take k ++ [⟨xi, xt, false, 0⟩]) ++ L.drop k) := Lib.hid (by rw [ins_new hq]; show L.take (posL L xi) ++ _ :: L.drop (posL L xi) = _; rw [HK.out]; simp)
  have n16 : ((n : Int) == 16) = false := by simp; omega
  have k0 : (0 : Int) ≤ (k : Int) := by omega
  have k2 : (k : Int) ≤ (n : Int) := by omega
  have k3 : (k : Int) ≤ (c : Int) := by omega
  have k6 : (n : Int) ≤ (c : Int) := by omega
  clear hr hu hq h16
  go_enter Try.func10, Try.ntmps10
  go_wp2_with (fail)
  refine (place_any A n c L xi _ (by omega) (HR.out.below HA.out) HU.out).mono ?_
  rintro e w2 ⟨rfl, hb2⟩
  rw [HK.out, HQ.out]
  have HX2 := Lib.hid (HX1.out.below hb2)
  have HB2 := Lib.hid (HA.out.trans (hb2.mono HA.out.size))
  obtain ⟨a0, a1, a2⟩ := HX2.out.cells
  have hs2 : w.heap.size < w2.heap.size := HX2.out.lt
  simp only at a0 a1 a2
  clear hb2
  go_wp2_with (at_builtin; refine wpList_append_prs _ rfl _ _ 28 rfl w2.heap.size 50 i0 _ Try.underlying28 HI0.out HZ0.out HZ1.out HZ2.out rfl (.slice (some ⟨w2.heap.size, 0, none⟩) 0 0) 0 [] rfl (World.ownsRow_made w2 #[] 0 (Nat.le_refl _) (Nat.zero_le _) rfl) A n c L rfl (HR.out.below (HB2.out.alloc HB2.out.size _)) (by omega) (by simp) ?_; intro v3 w3 hown3 hg3 hob3; simp only [Nat.zero_add, List.nil_append] at hown3; obtain ⟨ad3, c3, rfl, hc3, hcm3, hbs3⟩ := own_some hown3 (own_ob hob3); clear hob3; have HO3 := Lib.hid hown3; have HB3 := Lib.hid (copied HB2.out hg3); have HX3 := Lib.hid (HX2.out.below (copied (Below.refl _ w2) hg3)); have ⟨b0, b1, b2⟩ := HX3.out.cells; have hs3 : w.heap.size < w3.heap.size := HX3.out.lt; simp only at b0 b1 b2; clear hown3 hg3 a0 a1 a2)
  have k8 : (k : Int) ≤ (c3 : Int) := by omega
  have HD0 : Hid (Below w3.heap.size w3 w3.drew) := Lib.hid (below_drewN (Below.refl _ _) 1)
  have HD1 : Hid (Below w3.heap.size w3 (w3.drew.alloc (.cells #[.int .i64 xi, .int .i64 0, .int .i64 xt, .bool false] 50))) := Lib.hid (HD0.out.alloc (Nat.le_refl _) _)
  have HC : Hid (∀ w', Below w3.heap.size w3 w' → w'.cell? ⟨w.heap.size, 1, none⟩ = some (.int .i64 xi) ∧ w'.cell? ⟨w.heap.size, 2, none⟩ = some (.int .i64 xt)) := Lib.hid fun w' hb => ⟨(hb.cell (p := ⟨w.heap.size, 1, none⟩) hs3).trans b1, (hb.cell (p := ⟨w.heap.size, 2, none⟩) hs3).trans b2⟩
  have HBB : Hid (∀ w', (w3.drew.alloc (.cells #[.int .i64 xi, .int .i64 0, .int .i64 xt, .bool false] 50)).grownBy w' none → Below w3.heap.size w3 w') := Lib.hid fun w' hg => HD1.out.grown hg HD1.out.size (fun j e => by cases e)
  have HRT : Hid (PrsAt (w3.drew.alloc (.cells #[.int .i64 xi, .int .i64 0, .int .i64 xt, .bool false] 50)) (some ad3) k (L.take k)) := Lib.hid (by
    obtain ⟨A9, c9, e9, _, _, hrp9⟩ := own_prs HO3.out
    injection e9 with e9a
    rw [e9a]
    exact (hrp9.take (by omega)).below HD1.out)
  have HONE : Hid (PrsAt (w3.drew.alloc (.cells #[.int .i64 xi, .int .i64 0, .int .i64 xt, .bool false] 50)) (some ⟨w3.heap.size, 0, none⟩) 1 [⟨xi, xt, false, 0⟩]) := Lib.hid (PrsAt.one w3.drew ⟨xi, xt, false, 0⟩ _)
  have HRC : Hid (∀ w', Below w3.heap.size w3 w' → PrsAt w' (if c = k then A else A.map (·.add (k * 4))) (n - k) (L.drop k)) := Lib.hid fun w' hb => ((HR.out.below HB3.out).drop (by omega) hnc).below hb
  by_cases hck : c = k
  · have HRD := HRC
    rw [if_pos hck] at HRD
    obtain rfl : n = k := by omega
    obtain rfl : c = n := hck
    rw [Nat.sub_self] at HRD
    clear HRC
    go_wp2
    go_region_held3 (fun w' => w'.cell? ⟨w.heap.size, 1, none⟩ = some (.int .i64 xi) ∧ w'.cell? ⟨w.heap.size, 2, none⟩ = some (.int .i64 xt)) ((refine HC.out _ ?_; first | exact HD0.out | exact HD1.out | exact HB4 | exact HB5)) (first | ((refine step_append_full _ (by rfl) (.tmp 67) (.tmp 73) 28 (by rfl) w3.heap.size 50 i0 _ Try.underlying28 HI0.out HZ0.out HZ1.out HZ2.out (by rfl) ad3 c (L.take c) (by rfl) HRT.out ⟨w3.heap.size, 0, none⟩ 1 1 [⟨xi, xt, false, 0⟩] (by rfl) HONE.out (by omega) (by omega) (by simp) ?_; intro v4 w4 hown4 hg4; have HO4 := Lib.hid hown4; have HB4 := HBB.out w4 hg4; clear hown4 hg4)) | ((refine step_append_prs _ (by rfl) (.tmp 74) (.tmp 77) 28 (by rfl) w3.heap.size 50 i0 _ Try.underlying28 HI0.out HZ0.out HZ1.out HZ2.out (by rfl) _ (c + 1) _ (by rfl) HO4.out A 0 0 (L.drop c) (by rfl) (HRD.out w4 HB4) (by omega) HB4.size ?_; intro v5 w5 hown5 hg5 _; have HO5 := Lib.hid hown5; have HB5 := HB4.grown hg5 HB4.size (fun j e => (HO4.out.lt j e).1); clear hown5 hg5)))

    obtain ⟨A5, c5, rfl, hc5, hcm5, hrp5⟩ := own_prs HO5.out
    have HP5 := Lib.hid hrp5
    have HW5 := Lib.hid (HB3.out.trans (HB5.mono HB3.out.size))
    clear hrp5
    go_wp2
    go_ret2
    exact ⟨A5, _, c5, rfl, by rw [HIL.out]; exact HP5.out, hc5, hcm5, HW5.out⟩
  · have HRD := HRC
    rw [if_neg hck] at HRD
    clear HRC
    go_wp2
    go_region_held3 (fun w' => w'.cell? ⟨w.heap.size, 1, none⟩ = some (.int .i64 xi) ∧ w'.cell? ⟨w.heap.size, 2, none⟩ = some (.int .i64 xt)) ((refine HC.out _ ?_; first | exact HD0.out | exact HD1.out | exact HB4 | exact HB5)) (first | ((refine step_append_full _ (by rfl) (.tmp 67) (.tmp 73) 28 (by rfl) w3.heap.size 50 i0 _ Try.underlying28 HI0.out HZ0.out HZ1.out HZ2.out (by rfl) ad3 k (L.take k) (by rfl) HRT.out ⟨w3.heap.size, 0, none⟩ 1 1 [⟨xi, xt, false, 0⟩] (by rfl) HONE.out (by omega) (by omega) (by simp) ?_; intro v4 w4 hown4 hg4; have HO4 := Lib.hid hown4; have HB4 := HBB.out w4 hg4; clear hown4 hg4)) | ((refine step_append_prs _ (by rfl) (.tmp 74) (.tmp 77) 28 (by rfl) w3.heap.size 50 i0 _ Try.underlying28 HI0.out HZ0.out HZ1.out HZ2.out (by rfl) _ (k + 1) _ (by rfl) HO4.out (A.map fun x => x.add (k * 4)) (n - k) (c - k) (L.drop k) (by rfl) (HRD.out w4 HB4) (by omega) HB4.size ?_; intro v5 w5 hown5 hg5 _; have HO5 := Lib.hid hown5; have HB5 := HB4.grown hg5 HB4.size (fun j e => (HO4.out.lt j e).1); clear hown5 hg5)))

    obtain ⟨A5, c5, rfl, hc5, hcm5, hrp5⟩ := own_prs HO5.out
    have HP5 := Lib.hid hrp5
    have HW5 := Lib.hid (HB3.out.trans (HB5.mono HB3.out.size))
    clear hrp5
    go_wp2
    go_ret2
    exact ⟨A5, _, c5, rfl, by rw [HIL.out]; exact HP5.out, hc5, hcm5, HW5.out⟩
end Go.Proofs.Ytcphodnenhnalaa
