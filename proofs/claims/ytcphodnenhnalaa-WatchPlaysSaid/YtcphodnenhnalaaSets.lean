/-
  that pings one, or hears it IS PROVED: the contract of the document's own step that pings one, or hears it. Conditions: the size; the list is one of peers.
-/
import Derived.Test.YtcphodnenhnalaaStep
import Derived.Deep.RegionLaw
namespace Go.Proofs.Ytcphodnenhnalaa
open Go.RowKit Go.Lib Go.Maps

theorem own_some2 {w : World} {base n : Nat} {e : TypeId} {v : Value} {l : List Pr} (h : w.ownsRow base e 4 v n (flatP l)) (hb : ∃ g, v.ownBlock = some g) :
    ∃ g cap, v = .slice (some ⟨g, 0, none⟩) n cap ∧ n ≤ cap ∧ cap ≤ 9223372036854775807 ∧ base ≤ g := by
  obtain ⟨g, hg⟩ := hb
  rcases h.2 with ⟨rfl, rfl⟩ | ⟨b, cap, cur, rfl, hb, hh, hnc, hcm, _⟩
  · simp [Value.ownBlock] at hg
  · exact ⟨b, cap, rfl, hnc, by unfold maxLen at hcm; omega, hb⟩
theorem own_whole {w : World} {base n k c g : Nat} {e : TypeId} {l : List Pr} {p : Pr} (h : w.ownsRow base e 4 (.slice (some ⟨g, 0, none⟩) n c) n (flatP l)) (hr : l[k]? = some p) (q : Pr) :
    ((((w.setCell ⟨g, k * 4, none⟩ (.int .i64 q.id)).setCell ⟨g, k * 4 + 1, none⟩ (.int .i64 q.since)).setCell ⟨g, k * 4 + 2, none⟩ (.int .i64 q.last)).setCell ⟨g, k * 4 + 3, none⟩ (.bool q.waits)).ownsRow base e 4 (.slice (some ⟨g, 0, none⟩) n c) n (flatP (l.set k q)) := by
  obtain ⟨ad, c', e', _, _, _, _, _, _, _, _, _, h4⟩ := own_at h hr
  injection e' with e1 _ e3
  injection e1 with e1
  subst e1; subst e3
  have := h4 q
  rwa [Go.WideShapes.add_plain, Nat.zero_add] at this

set_option maxRecDepth 100000 in
set_option maxHeartbeats 2000000 in
theorem step_pings (A : Option Addr) (n c : Nat) (L : List Pr) (xi xt : Int) (w : World) (hn : n ≤ 100) (hr : PrsAt w A n L) (hu : Up L) (p : Pr) (hp : L[posL L xi]? = some p) (he : p.id = xi) (h1 : 1 ≤ xi) (h2 : xi ≤ 4294967296) (h3 : 0 ≤ xt) (h4 : xt ≤ 1099511627776) :
    Calls Try.prog 10 #[.slice A n c, vSt ⟨3, xi, xt⟩] w (Back (L.set (posL L xi) (pingP p xt)) 0 w) := by
  obtain ⟨i0, hi0, hz0, hz1, hz2⟩ := info_parts pr_info
  have HI0 : Hid (Try.prog.info? 50 = some i0) := hi0
  have HZ0 := Lib.hid hz0
  have HZ1 := Lib.hid hz1
  have HZ2 := Lib.hid hz2
  clear hi0 hz0 hz1 hz2
  have HR := Lib.hid hr
  have HU := Lib.hid hu
  have HN := Lib.hid hr.1
  have HX1 : Hid (Sx (w.alloc (.cells #[.int .i64 3, .int .i64 xi, .int .i64 xt] 30)) w.heap.size ⟨3, xi, xt⟩) := Lib.hid (Sx.new w ⟨3, xi, xt⟩)
  have HA : Hid (Below w.heap.size w (w.alloc (.cells #[.int .i64 3, .int .i64 xi, .int .i64 xt] 30))) := Lib.hid ((Below.refl _ _).alloc (Nat.le_refl _) _)
  obtain ⟨k, HK⟩ : ∃ k, Hid (posL L xi = k) := ⟨_, Lib.hid rfl⟩
  have hkn : k ≤ n := by have := pos_le L xi; rw [HK.out, HN.out] at this; exact this
  have HQ : Hid (hasL L xi = true) := Lib.hid (at_has hp he)
  have HP : Hid (L[k]? = some p) := Lib.hid (by rw [← HK.out]; exact hp)
  have hk2 : k < n := by have := (List.getElem?_eq_some_iff.1 HP.out).1; rw [HN.out] at this; exact this
  have HE := Lib.hid he
  have k0 : (0 : Int) ≤ (k : Int) := by omega
  have k2 : (k : Int) < (n : Int) := by omega
  clear hr hu hp he
  obtain ⟨i, l, s, e⟩ := p
  go_enter Try.func10, Try.ntmps10
  go_wp2_with (fail)
  refine (place_any A n c L xi _ (by omega) (HR.out.below HA.out) HU.out).mono ?_
  rintro e w2 ⟨rfl, hb2⟩
  rw [HK.out, HQ.out]
  have HX2 := Lib.hid (HX1.out.below hb2)
  have HB2 := Lib.hid (HA.out.trans (hb2.mono HA.out.size))
  obtain ⟨a0, a1, a2⟩ := HX2.out.cells
  have hs2 : w.heap.size < w2.heap.size := HX2.out.lt
  simp only at a0 a1 a2
  clear hb2
  go_wp2_with (at_builtin; refine wpList_append_prs _ rfl _ _ 28 rfl w2.heap.size 50 i0 _ Try.underlying28 HI0.out HZ0.out HZ1.out HZ2.out rfl (.slice (some ⟨w2.heap.size, 0, none⟩) 0 0) 0 [] rfl (World.ownsRow_made w2 #[] 0 (Nat.le_refl _) (Nat.zero_le _) rfl) A n c L rfl (HR.out.below (HB2.out.alloc HB2.out.size _)) (by omega) (by simp) ?_; intro v3 w3 hown3 hg3 hob3; simp only [Nat.zero_add, List.nil_append] at hown3; obtain ⟨ad3, c3, rfl, hc3, hcm3, hbs3⟩ := own_some hown3 (own_ob hob3); clear hob3; have HO3 := Lib.hid hown3; have HB3 := Lib.hid (copied HB2.out hg3); have HX3 := Lib.hid (HX2.out.below (copied (Below.refl _ w2) hg3)); have ⟨b0, b1, b2⟩ := HX3.out.cells; have hs3 : w.heap.size < w3.heap.size := HX3.out.lt; simp only at b0 b1 b2; clear hown3 hg3 a0 a1 a2)
  obtain ⟨ad9, c9, e9, _, _, _, hadlt, hadb, ⟨q0, q1, q2, q3⟩, ⟨f0, f1, f2, f3⟩, hset2, hset13, hset4⟩ := own_at HO3.out HP.out
  injection e9 with e9a e9b e9c
  injection e9a with e9a
  subst e9a; subst e9c
  have HADB := Lib.hid hadb
  have HS2 := Lib.hid hset2
  have HS4 := Lib.hid hset4
  have HBS := Lib.hid hbs3
  have HD0 : Hid (Below w.heap.size w w3.drew) := Lib.hid (HB3.out.trans (below_drewN (Below.refl _ _) 1))
  have hne : (ad3.add (k * 4)).block ≠ w.heap.size := by rw [hadb]; omega
  clear hadb hset2 hset13 hset4 hbs3
  simp only at q0 q1 q2 q3
  have HW4 : Hid (Below w.heap.size w (w3.setCell ⟨(ad3.add (k * 4)).block, (ad3.add (k * 4)).off + 2, none⟩ (.int .i64 (max l xt))).drew) := Lib.hid (below_drewN (below_set HB3.out (by show w.heap.size ≤ (ad3.add (k * 4)).block; rw [HADB.out]; have := HBS.out; omega) _) 1)
  have HO4 : Hid ((w3.setCell ⟨(ad3.add (k * 4)).block, (ad3.add (k * 4)).off + 2, none⟩ (.int .i64 (max l xt))).drew.ownsRow w2.heap.size 50 4 (.slice (some ad3) n c3) n (flatP (L.set k ⟨i, max l xt, s, e⟩))) := Lib.hid ((HS2.out (max l xt)).kept (only_drew (World.grownBy.refl _ none)) (by simp [Value.ownBlock]))
  have HX4 : Hid (Sx (w3.setCell ⟨(ad3.add (k * 4)).block, (ad3.add (k * 4)).off + 2, none⟩ (.int .i64 (max l xt))).drew w.heap.size ⟨3, xi, xt⟩) := Lib.hid (Blk.drew (Blk.far (p := ⟨(ad3.add (k * 4)).block, (ad3.add (k * 4)).off + 2, none⟩) HX3.out hne.symm _))
  go_wp2
  go_region
  obtain ⟨w4, HE4⟩ : ∃ w4, Hid ((w3.setCell ⟨(ad3.add (k * 4)).block, (ad3.add (k * 4)).off + 2, none⟩ (.int .i64 (max l xt))).drew = w4) := ⟨_, Lib.hid rfl⟩
  rw [HE4.out] at HW4 HO4 HX4 ⊢
  have HPP : Hid ((L.set k ⟨i, max l xt, s, e⟩)[k]? = some ⟨i, max l xt, s, e⟩) := Lib.hid (List.getElem?_set_self (by rw [HN.out]; omega))
  clear b0 b1 b2 q0 q1 q2 q3 f0 f1 f2 f3
  obtain ⟨ad9, c9, e9, hc9, hcm9, _, hadlt4, hadb4, ⟨q0, q1, q2, q3⟩, ⟨f0, f1, f2, f3⟩, hset2, hset13, hset4⟩ := own_at HO4.out HPP.out
  injection e9 with e9a e9b e9c
  injection e9a with e9a
  subst e9a; subst e9c
  have HS13 := Lib.hid hset13
  obtain ⟨b0, b1, b2⟩ := HX4.out.cells
  simp only at q0 q1 q2 q3 b0 b1 b2
  clear hset2 hset13 hset4 hadb4
  cases s
  · have HST : Hid (L.set (posL L xi) (pingP ⟨i, l, false, e⟩ xt) = (L.set k ⟨i, max l xt, false, e⟩).set k ⟨i, max l xt, true, xt⟩) := Lib.hid (by rw [HK.out, List.set_set]; rfl)
    go_wp2
    go_ret2
    obtain ⟨A5, c5, e5, hc5, hcm5, hrp5⟩ := own_prs (HS13.out xt true)
    injection e5 with e5a e5b e5c
    subst e5a; subst e5c
    exact ⟨some ad3, n, c3, rfl, by rw [HST.out]; exact hrp5, hc5, hcm5, below_set (below_set HW4.out (by show w.heap.size ≤ (ad3.add (k * 4)).block; rw [HADB.out]; have := HBS.out; omega) _) (by show w.heap.size ≤ (ad3.add (k * 4)).block; rw [HADB.out]; have := HBS.out; omega) _⟩
  · have HST : Hid (L.set (posL L xi) (pingP ⟨i, l, true, e⟩ xt) = L.set k ⟨i, max l xt, true, e⟩) := Lib.hid (by rw [HK.out]; rfl)
    go_wp2
    go_ret2
    obtain ⟨A5, c5, e5, hc5, hcm5, hrp5⟩ := own_prs HO4.out
    injection e5 with e5a e5b e5c
    subst e5a; subst e5c
    exact ⟨some ad3, n, c3, rfl, by rw [HST.out]; exact hrp5, hc5, hcm5, HW4.out⟩

set_option maxRecDepth 100000 in
set_option maxHeartbeats 2000000 in
theorem step_pongs (A : Option Addr) (n c : Nat) (L : List Pr) (xi xt : Int) (w : World) (hn : n ≤ 100) (hr : PrsAt w A n L) (hu : Up L) (p : Pr) (hp : L[posL L xi]? = some p) (he : p.id = xi) (h1 : 1 ≤ xi) (h2 : xi ≤ 4294967296) (h3 : 0 ≤ xt) (h4 : xt ≤ 1099511627776) :
    Calls Try.prog 10 #[.slice A n c, vSt ⟨4, xi, xt⟩] w (Back (L.set (posL L xi) (pongP p xt)) 0 w) := by
  obtain ⟨i0, hi0, hz0, hz1, hz2⟩ := info_parts pr_info
  have HI0 : Hid (Try.prog.info? 50 = some i0) := hi0
  have HZ0 := Lib.hid hz0
  have HZ1 := Lib.hid hz1
  have HZ2 := Lib.hid hz2
  clear hi0 hz0 hz1 hz2
  have HR := Lib.hid hr
  have HU := Lib.hid hu
  have HN := Lib.hid hr.1
  have HX1 : Hid (Sx (w.alloc (.cells #[.int .i64 4, .int .i64 xi, .int .i64 xt] 30)) w.heap.size ⟨4, xi, xt⟩) := Lib.hid (Sx.new w ⟨4, xi, xt⟩)
  have HA : Hid (Below w.heap.size w (w.alloc (.cells #[.int .i64 4, .int .i64 xi, .int .i64 xt] 30))) := Lib.hid ((Below.refl _ _).alloc (Nat.le_refl _) _)
  obtain ⟨k, HK⟩ : ∃ k, Hid (posL L xi = k) := ⟨_, Lib.hid rfl⟩
  have hkn : k ≤ n := by have := pos_le L xi; rw [HK.out, HN.out] at this; exact this
  have HQ : Hid (hasL L xi = true) := Lib.hid (at_has hp he)
  have HP : Hid (L[k]? = some p) := Lib.hid (by rw [← HK.out]; exact hp)
  have hk2 : k < n := by have := (List.getElem?_eq_some_iff.1 HP.out).1; rw [HN.out] at this; exact this
  have HE := Lib.hid he
  have k0 : (0 : Int) ≤ (k : Int) := by omega
  have k2 : (k : Int) < (n : Int) := by omega
  clear hr hu hp he
  obtain ⟨i, l, s, e⟩ := p
  have HST : Hid (L.set (posL L xi) (pongP ⟨i, l, s, e⟩ xt) = L.set k ⟨xi, max l xt, false, 0⟩) := Lib.hid (by rw [HK.out, ← HE.out]; rfl)
  go_enter Try.func10, Try.ntmps10
  go_wp2_with (fail)
  refine (place_any A n c L xi _ (by omega) (HR.out.below HA.out) HU.out).mono ?_
  rintro e w2 ⟨rfl, hb2⟩
  rw [HK.out, HQ.out]
  have HX2 := Lib.hid (HX1.out.below hb2)
  have HB2 := Lib.hid (HA.out.trans (hb2.mono HA.out.size))
  obtain ⟨a0, a1, a2⟩ := HX2.out.cells
  have hs2 : w.heap.size < w2.heap.size := HX2.out.lt
  simp only at a0 a1 a2
  clear hb2
  go_wp2_with (at_builtin; refine wpList_append_prs _ rfl _ _ 28 rfl w2.heap.size 50 i0 _ Try.underlying28 HI0.out HZ0.out HZ1.out HZ2.out rfl (.slice (some ⟨w2.heap.size, 0, none⟩) 0 0) 0 [] rfl (World.ownsRow_made w2 #[] 0 (Nat.le_refl _) (Nat.zero_le _) rfl) A n c L rfl (HR.out.below (HB2.out.alloc HB2.out.size _)) (by omega) (by simp) ?_; intro v3 w3 hown3 hg3 hob3; simp only [Nat.zero_add, List.nil_append] at hown3; obtain ⟨g3, c3, rfl, hc3, hcm3, hbs3⟩ := own_some2 hown3 (own_ob hob3); clear hob3; have HO3 := Lib.hid hown3; have HB3 := Lib.hid (copied HB2.out hg3); have HX3 := Lib.hid (HX2.out.below (copied (Below.refl _ w2) hg3)); have ⟨b0, b1, b2⟩ := HX3.out.cells; have hs3 : w.heap.size < w3.heap.size := HX3.out.lt; simp only at b0 b1 b2; clear hown3 hg3 a0 a1 a2)
  obtain ⟨⟨q0, q1, q2, q3⟩, hf⟩ := own_cells HO3.out HP.out
  have f0 := hf (k * 4)
  have f1 := hf (k * 4 + 1)
  have f2 := hf (k * 4 + 2)
  have f3 := hf (k * 4 + 3)
  have HS4 := Lib.hid (own_whole HO3.out HP.out)
  have hne : g3 ≠ w.heap.size := by omega
  simp only at q0 q1 q2 q3
  clear hf
  go_wp2
  go_region
  go_wp2
  go_ret2
  obtain ⟨A5, c5, e5, hc5, hcm5, hrp5⟩ := own_prs ((HS4.out ⟨xi, max l xt, false, 0⟩).kept (only_drew (World.grownBy.refl _ none)) (by simp [Value.ownBlock]))
  injection e5 with e5a e5b e5c
  subst e5a; subst e5c
  have hle : w.heap.size ≤ g3 := by omega
  exact ⟨some ⟨g3, 0, none⟩, n, c3, rfl, by rw [HST.out]; exact hrp5, hc5, hcm5, below_drewN (below_set (below_set (below_set (below_set HB3.out (p := ⟨g3, k * 4, none⟩) hle _) (p := ⟨g3, k * 4 + 1, none⟩) hle _) (p := ⟨g3, k * 4 + 2, none⟩) hle _) (p := ⟨g3, k * 4 + 3, none⟩) hle _) 1⟩
end Go.Proofs.Ytcphodnenhnalaa
