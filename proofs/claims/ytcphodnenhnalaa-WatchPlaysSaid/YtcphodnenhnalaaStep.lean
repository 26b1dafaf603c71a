/-
  where the list stays IS PROVED: the contract of the document's own step where the list stays. Conditions: the size; the list is one of peers.
-/
import Derived.Test.YtcphodnenhnalaaRefs
namespace Go.Proofs.Ytcphodnenhnalaa
open Go.RowKit Go.Lib Go.Maps

/-- where an own row that was made lies -/
theorem own_some {w : World} {base n : Nat} {e : TypeId} {v : Value} {l : List Pr} (h : w.ownsRow base e 4 v n (flatP l)) (hb : ∃ g, v.ownBlock = some g) :
    ∃ ad cap, v = .slice (some ad) n cap ∧ n ≤ cap ∧ cap ≤ 9223372036854775807 ∧ base ≤ ad.block := by
  obtain ⟨g, hg⟩ := hb
  rcases h.2 with ⟨rfl, rfl⟩ | ⟨b, cap, cur, rfl, hb, hh, hnc, hcm, _⟩
  · simp [Value.ownBlock] at hg
  · exact ⟨_, cap, rfl, hnc, by unfold maxLen at hcm; omega, hb⟩
theorem own_ob {v : Value} {g m : Nat} (h : v.ownBlock = (Value.slice (some ⟨g, 0, none⟩) 0 0).ownBlock ∨ v.ownBlock = some m) : ∃ g, v.ownBlock = some g := by
  rcases h with h | h
  · exact ⟨g, h⟩
  · exact ⟨m, h⟩
theorem copied {w w2 w3 : World} {B : Nat} {o : Obj} (h : Below B w w2) (hg : (w2.alloc o).grownBy w3 (Value.slice (some ⟨w2.heap.size, 0, none⟩) 0 0).ownBlock) (hB : B ≤ w2.heap.size := by first | exact Nat.le_refl _ | exact Below.size ‹_› | omega) : Below B w w3 :=
  (h.alloc hB o).grown hg (by have := h.size; simp; omega) (fun j e => by have e2 : some w2.heap.size = some j := e; injection e2 with e2; omega)

set_option maxRecDepth 100000 in
set_option maxHeartbeats 1000000 in
theorem step_stays (A : Option Addr) (n c : Nat) (L : List Pr) (ho xi xt m : Int) (q : Bool) (w : World) (hn : n ≤ 100) (hnc : n ≤ c) (hcm : c ≤ 9223372036854775807) (hr : PrsAt w A n L) (hu : Up L) (hq : hasL L xi = q)
    (hh : (ho = 2 ∧ q = false ∧ m = 0) ∨ ((ho == 2) = false ∧ m = 10 ∧ (xi < 1 ∨ 4294967296 < xi)) ∨ ((ho == 2) = false ∧ m = 10 ∧ 1 ≤ xi ∧ xi ≤ 4294967296 ∧ (xt < 0 ∨ 1099511627776 < xt))) :
    Calls Try.prog 10 #[.slice A n c, vSt ⟨ho, xi, xt⟩] w (Back L m w) := by
  have HR := Lib.hid hr
  have HU := Lib.hid hu
  have HN := Lib.hid hr.1
  have HX1 : Hid (Sx (w.alloc (.cells #[.int .i64 ho, .int .i64 xi, .int .i64 xt] 30)) w.heap.size ⟨ho, xi, xt⟩) := Lib.hid (Sx.new w ⟨ho, xi, xt⟩)
  have HA : Hid (Below w.heap.size w (w.alloc (.cells #[.int .i64 ho, .int .i64 xi, .int .i64 xt] 30))) := Lib.hid ((Below.refl _ _).alloc (Nat.le_refl _) _)
  obtain ⟨k, HK⟩ : ∃ k, Hid (posL L xi = k) := ⟨_, Lib.hid rfl⟩
  have hkn : k ≤ n := by have := pos_le L xi; rw [HK.out, HN.out] at this; exact this
  have HQ := Lib.hid hq
  clear hr hu hq
  rcases hh with ⟨rfl, rfl, rfl⟩ | ⟨t2, rfl, h1⟩ | ⟨t2, rfl, h1, h2, h3⟩
  · go_enter Try.func10, Try.ntmps10
    go_wp2_with (fail)
    refine (place_any A n c L xi _ (by omega) (HR.out.below HA.out) HU.out).mono ?_
    rintro e w2 ⟨rfl, hb2⟩
    rw [HK.out, HQ.out]
    have HX2 := Lib.hid (HX1.out.below hb2)
    have HB2 := Lib.hid (HA.out.trans (hb2.mono HA.out.size))
    obtain ⟨a0, a1, a2⟩ := HX2.out.cells
    have hs2 : w.heap.size < w2.heap.size := HX2.out.lt
    simp only at a0 a1 a2
    clear hb2
    go_wp2
    go_ret2
    exact ⟨A, n, c, rfl, HR.out.below HB2.out, hnc, hcm, HB2.out⟩
  · rcases h1 with h1 | h1
    all_goals
      go_enter Try.func10, Try.ntmps10
      go_wp2_with (fail)
      refine (place_any A n c L xi _ (by omega) (HR.out.below HA.out) HU.out).mono ?_
      rintro e w2 ⟨rfl, hb2⟩
      rw [HK.out, HQ.out]
      have HX2 := Lib.hid (HX1.out.below hb2)
      have HB2 := Lib.hid (HA.out.trans (hb2.mono HA.out.size))
      obtain ⟨a0, a1, a2⟩ := HX2.out.cells
      have hs2 : w.heap.size < w2.heap.size := HX2.out.lt
      simp only at a0 a1 a2
      clear hb2
      go_wp2
      go_ret2
      exact ⟨A, n, c, rfl, HR.out.below HB2.out, hnc, hcm, HB2.out⟩
  · rcases h3 with h3 | h3
    all_goals
      go_enter Try.func10, Try.ntmps10
      go_wp2_with (fail)
      refine (place_any A n c L xi _ (by omega) (HR.out.below HA.out) HU.out).mono ?_
      rintro e w2 ⟨rfl, hb2⟩
      rw [HK.out, HQ.out]
      have HX2 := Lib.hid (HX1.out.below hb2)
      have HB2 := Lib.hid (HA.out.trans (hb2.mono HA.out.size))
      obtain ⟨a0, a1, a2⟩ := HX2.out.cells
      have hs2 : w.heap.size < w2.heap.size := HX2.out.lt
      simp only at a0 a1 a2
      clear hb2
      go_wp2
      go_ret2
      exact ⟨A, n, c, rfl, HR.out.below HB2.out, hnc, hcm, HB2.out⟩

set_option maxRecDepth 100000 in
set_option maxHeartbeats 1000000 in
theorem step_refuses (A : Option Addr) (n c : Nat) (L : List Pr) (ho xi xt m : Int) (q : Bool) (w : World) (hn : n ≤ 100) (hnc : n ≤ c) (hcm : c ≤ 9223372036854775807) (hr : PrsAt w A n L) (hu : Up L) (hq : hasL L xi = q) (h1 : 1 ≤ xi) (h2 : xi ≤ 4294967296) (h3 : 0 ≤ xt) (h4 : xt ≤ 1099511627776)
    (hh : (ho = 1 ∧ q = true ∧ m = 32) ∨ (ho = 1 ∧ q = false ∧ ((n : Int) == 16) = true ∧ m = 31) ∨ (ho = 3 ∧ q = false ∧ m = 30) ∨ (ho = 4 ∧ q = false ∧ m = 30)) :
    Calls Try.prog 10 #[.slice A n c, vSt ⟨ho, xi, xt⟩] w (Back L m w) := by
  obtain ⟨i0, hi0, hz0, hz1, hz2⟩ := info_parts pr_info
  have HI0 : Hid (Try.prog.info? 50 = some i0) := hi0
  have HZ0 := Lib.hid hz0
  have HZ1 := Lib.hid hz1
  have HZ2 := Lib.hid hz2
  clear hi0 hz0 hz1 hz2
  have HR := Lib.hid hr
  have HU := Lib.hid hu
  have HN := Lib.hid hr.1
  have HX1 : Hid (Sx (w.alloc (.cells #[.int .i64 ho, .int .i64 xi, .int .i64 xt] 30)) w.heap.size ⟨ho, xi, xt⟩) := Lib.hid (Sx.new w ⟨ho, xi, xt⟩)
  have HA : Hid (Below w.heap.size w (w.alloc (.cells #[.int .i64 ho, .int .i64 xi, .int .i64 xt] 30))) := Lib.hid ((Below.refl _ _).alloc (Nat.le_refl _) _)
  obtain ⟨k, HK⟩ : ∃ k, Hid (posL L xi = k) := ⟨_, Lib.hid rfl⟩
  have hkn : k ≤ n := by have := pos_le L xi; rw [HK.out, HN.out] at this; exact this
  have HQ := Lib.hid hq
  clear hr hu hq
  rcases hh with ⟨rfl, rfl, rfl⟩ | ⟨rfl, rfl, n16, rfl⟩ | ⟨rfl, rfl, rfl⟩ | ⟨rfl, rfl, rfl⟩
  all_goals
    go_enter Try.func10, Try.ntmps10
    go_wp2_with (fail)
    refine (place_any A n c L xi _ (by omega) (HR.out.below HA.out) HU.out).mono ?_
    rintro e w2 ⟨rfl, hb2⟩
    rw [HK.out, HQ.out]
    have HX2 := Lib.hid (HX1.out.below hb2)
    have HB2 := Lib.hid (HA.out.trans (hb2.mono HA.out.size))
    obtain ⟨a0, a1, a2⟩ := HX2.out.cells
    have hs2 : w.heap.size < w2.heap.size := HX2.out.lt
    simp only at a0 a1 a2
    clear hb2
    go_wp2_with (at_builtin; refine wpList_append_prs _ rfl _ _ 28 rfl w2.heap.size 50 i0 _ Try.underlying28 HI0.out HZ0.out HZ1.out HZ2.out rfl (.slice (some ⟨w2.heap.size, 0, none⟩) 0 0) 0 [] rfl (World.ownsRow_made w2 #[] 0 (Nat.le_refl _) (Nat.zero_le _) rfl) A n c L rfl (HR.out.below (HB2.out.alloc HB2.out.size _)) (by omega) (by simp) ?_; intro v3 w3 hown3 hg3 hob3; simp only [Nat.zero_add, List.nil_append] at hown3; obtain ⟨ad3, c3, rfl, hc3, hcm3, hbs3⟩ := own_some hown3 (own_ob hob3); clear hob3; have HO3 := Lib.hid hown3; have HB3 := Lib.hid (copied HB2.out hg3); have HX3 := Lib.hid (HX2.out.below (copied (Below.refl _ w2) hg3)); have ⟨b0, b1, b2⟩ := HX3.out.cells; have hs3 : w.heap.size < w3.heap.size := HX3.out.lt; simp only at b0 b1 b2; clear hown3 hg3 a0 a1 a2)
    go_ret2
    exact ⟨A, _, c, rfl, HR.out.below HB3.out, hnc, hcm, HB3.out⟩

set_option maxRecDepth 100000 in
set_option maxHeartbeats 1000000 in
/-- another step: the list is copied -/
theorem step_else (A : Option Addr) (n c : Nat) (L : List Pr) (ho xi xt : Int) (q : Bool) (w : World) (hn : n ≤ 100) (hr : PrsAt w A n L) (hu : Up L) (hq : hasL L xi = q) (h1 : 1 ≤ xi) (h2 : xi ≤ 4294967296) (h3 : 0 ≤ xt) (h4 : xt ≤ 1099511627776)
    (t1 : (ho == 1) = false) (t2 : (ho == 2) = false) (t3 : (ho == 3) = false) (t4 : (ho == 4) = false) :
    Calls Try.prog 10 #[.slice A n c, vSt ⟨ho, xi, xt⟩] w (Back L 0 w) := by
  obtain ⟨i0, hi0, hz0, hz1, hz2⟩ := info_parts pr_info
  have HI0 : Hid (Try.prog.info? 50 = some i0) := hi0
  have HZ0 := Lib.hid hz0
  have HZ1 := Lib.hid hz1
  have HZ2 := Lib.hid hz2
  clear hi0 hz0 hz1 hz2
  have HR := Lib.hid hr
  have HU := Lib.hid hu
  have HN := Lib.hid hr.1
  have HX1 : Hid (Sx (w.alloc (.cells #[.int .i64 ho, .int .i64 xi, .int .i64 xt] 30)) w.heap.size ⟨ho, xi, xt⟩) := Lib.hid (Sx.new w ⟨ho, xi, xt⟩)
  have HA : Hid (Below w.heap.size w (w.alloc (.cells #[.int .i64 ho, .int .i64 xi, .int .i64 xt] 30))) := Lib.hid ((Below.refl _ _).alloc (Nat.le_refl _) _)
  obtain ⟨k, HK⟩ : ∃ k, Hid (posL L xi = k) := ⟨_, Lib.hid rfl⟩
  have hkn : k ≤ n := by have := pos_le L xi; rw [HK.out, HN.out] at this; exact this
  have HQ := Lib.hid hq
  clear hr hu hq
  go_enter Try.func10, Try.ntmps10
  go_wp2_with (fail)
  refine (place_any A n c L xi _ (by omega) (HR.out.below HA.out) HU.out).mono ?_
  rintro e w2 ⟨rfl, hb2⟩
  rw [HK.out, HQ.out]
  have HX2 := Lib.hid (HX1.out.below hb2)
  have HB2 := Lib.hid (HA.out.trans (hb2.mono HA.out.size))
  obtain ⟨a0, a1, a2⟩ := HX2.out.cells
  have hs2 : w.heap.size < w2.heap.size := HX2.out.lt
  simp only at a0 a1 a2
  clear hb2
  go_wp2_with (at_builtin; refine wpList_append_prs _ rfl _ _ 28 rfl w2.heap.size 50 i0 _ Try.underlying28 HI0.out HZ0.out HZ1.out HZ2.out rfl (.slice (some ⟨w2.heap.size, 0, none⟩) 0 0) 0 [] rfl (World.ownsRow_made w2 #[] 0 (Nat.le_refl _) (Nat.zero_le _) rfl) A n c L rfl (HR.out.below (HB2.out.alloc HB2.out.size _)) (by omega) (by simp) ?_; intro v3 w3 hown3 hg3 hob3; simp only [Nat.zero_add, List.nil_append] at hown3; obtain ⟨ad3, c3, rfl, hc3, hcm3, hbs3⟩ := own_some hown3 (own_ob hob3); clear hob3; have HO3 := Lib.hid hown3; have HB3 := Lib.hid (copied HB2.out hg3); have HX3 := Lib.hid (HX2.out.below (copied (Below.refl _ w2) hg3)); have ⟨b0, b1, b2⟩ := HX3.out.cells; have hs3 : w.heap.size < w3.heap.size := HX3.out.lt; simp only at b0 b1 b2; clear hown3 hg3 a0 a1 a2)
  go_ret2
  obtain ⟨A9, c9, e9, hc9, hcm9, hrp9⟩ := own_prs HO3.out
  injection e9 with e9a e9b e9c
  subst e9a; subst e9c
  exact ⟨some ad3, n, c3, rfl, hrp9, hc9, hcm9, HB3.out⟩
end Go.Proofs.Ytcphodnenhnalaa
