/-
  WHAT IS PROVED: contracts of a meter's Count, Mark, Closed. Condition: the block is a meter that nobody is at.
-/
import Derived.Test.YthaikcopbeppeaaCount
import Derived.Deep.QuietTactic
import Derived.BigQuiet
namespace Go.Proofs.Ythaikcopbeppeaa
open Go.RowKit Go.Lib

theorem Me.did {w w1 : World} {g : Nat} {s : St} (h : Mt w1 g 0 0 (if s.closed then 1 else 0) 0 s) (ho : s.ok) (hg : w.grownBy w1 (some g)) {r : Value} : Did g r s w (.returned r) w1 := ⟨rfl, ⟨h, ho⟩, hg⟩

set_option maxHeartbeats 1000000 in
theorem count_bad (g : Nat) (s : St) (kind n : Int) (w : World) (h : Me w g s) (hv : ¬ (0 ≤ kind ∧ kind < 16 ∧ 0 ≤ n ∧ n ≤ 4294967296)) :
    Calls Try.prog 11 #[.pointer (some ⟨g, 0, none⟩), .int .i64 kind, .int .i64 n] w (Did g (.bool false) s w) := by
  by_cases hk : 0 ≤ kind ∧ kind < 16
  · have HK : Hid ((decide (0 ≤ kind) && decide (kind < 16)) = true) := by show _ = _; simp [hk.1, hk.2]
    by_cases hn : n < 0
    · go_enter_defers Try.func11, Try.ntmps11
      go_wp2_with (fail)
      refine (isKind_any kind _).mono ?_
      rintro e w1 ⟨rfl, rfl⟩
      rw [HK.out]
      go_wp2
      exact ⟨_, results_tmp rfl _ _ _, Me.did (h.1.alloc _) h.2 (only_alloc (World.grownBy.refl _ _) _)⟩
    · have hn2 : 4294967296 < n := by omega
      have hn3 : 0 ≤ n := by omega
      clear hn hv
      go_enter_defers Try.func11, Try.ntmps11
      go_wp2_with (fail)
      refine (isKind_any kind _).mono ?_
      rintro e w1 ⟨rfl, rfl⟩
      rw [HK.out]
      go_wp2
      exact ⟨_, results_tmp rfl _ _ _, Me.did (h.1.alloc _) h.2 (only_alloc (World.grownBy.refl _ _) _)⟩
  · have HK : Hid ((decide (0 ≤ kind) && decide (kind < 16)) = false) := by show _ = _; simp; omega
    go_enter_defers Try.func11, Try.ntmps11
    go_wp2_with (fail)
    refine (isKind_any kind _).mono ?_
    rintro e w1 ⟨rfl, rfl⟩
    rw [HK.out]
    go_wp2
    exact ⟨_, results_tmp rfl _ _ _, Me.did (h.1.alloc _) h.2 (only_alloc (World.grownBy.refl _ _) _)⟩

set_option maxHeartbeats 1000000 in
theorem count_shut (g : Nat) (s : St) (kind n : Int) (w : World) (h : Me w g s) (hk : 0 ≤ kind ∧ kind < 16) (hn : 0 ≤ n) (hn2 : n ≤ 4294967296) (hcl : s.closed = true) :
    Calls Try.prog 11 #[.pointer (some ⟨g, 0, none⟩), .int .i64 kind, .int .i64 n] w (Did g (.bool false) s w) := by
  have HK : Hid ((decide (0 ≤ kind) && decide (kind < 16)) = true) := by show _ = _; simp [hk.1, hk.2]
  go_enter_defers Try.func11, Try.ntmps11
  go_wp2_with (fail)
  refine (isKind_any kind _).mono ?_
  rintro e w1 ⟨rfl, rfl⟩
  rw [HK.out]
  go_wp2_with (fail)
  refine (rlock_any (h.1.alloc _)).mono ?_
  rintro e w1 ⟨rfl, h1, hg1⟩
  have c26 := h1.cc
  rw [hcl] at c26
  go_wp2
  refine leaves_cons (f := 20) (args := #[.pointer (some ⟨g, 0, none⟩)]) (by simp) (by simp [go_sem]) ?_
  refine (runlock_any .returning h1).mono ?_
  rintro e u' w2 ⟨rfl, rfl, h2, hg2⟩
  exact ⟨_, results_tmp rfl _ _ _, Me.did h2 h.2 ((only_alloc (World.grownBy.refl _ _) _).trans (hg1.trans hg2))⟩

set_option maxHeartbeats 1000000 in
theorem count_open (g : Nat) (s : St) (kind n : Int) (w : World) (h : Me w g s) (hk : 0 ≤ kind ∧ kind < 16) (hn : 0 ≤ n) (hn2 : n ≤ 4294967296) (hcl : s.closed = false) :
    Calls Try.prog 11 #[.pointer (some ⟨g, 0, none⟩), .int .i64 kind, .int .i64 n] w (Did g (.bool true) (s.put kind.toNat (plusI (s.f kind.toNat) n)) w) := by
  have HK : Hid ((decide (0 ≤ kind) && decide (kind < 16)) = true) := by show _ = _; simp [hk.1, hk.2]
  have hk16 : kind.toNat < 16 := by omega
  have hf := h.2.1 kind.toNat hk16
  have hok : (s.put kind.toNat (plusI (s.f kind.toNat) n)).ok := St.ok_put h.2 (by have := plusI_bounds hf.1 hf.2 hn; omega) (plusI_bounds hf.1 hf.2 hn).2
  go_enter_defers Try.func11, Try.ntmps11
  go_wp2_with (fail)
  refine (isKind_any kind _).mono ?_
  rintro e w1 ⟨rfl, rfl⟩
  rw [HK.out]
  go_wp2_with (fail)
  refine (rlock_any (h.1.alloc _)).mono ?_
  rintro e w1 ⟨rfl, h1, hg1⟩
  have c26 := h1.cc
  rw [hcl] at c26
  have hlt := h.lt
  have hblk : Blk w1 w.heap.size 3 #[.int .i64 n] := (Blk.new w _ _).grown hg1 (by simp; omega)
  go_wp2_with (fail)
  refine (raise_add ⟨g, 6 + kind.toNat, none⟩ w.heap.size (s.f kind.toNat) n _ (h1.cf hk16) (h1.fz _) hblk hf.1 hf.2 hn (by omega)).mono ?_
  rintro e w2 ⟨⟨r, rfl⟩, h2⟩
  have h3 : Mt w2 g 0 1 (if s.closed then 1 else 0) 0 (s.put kind.toNat (plusI (s.f kind.toNat) n)) ∧ w1.grownBy w2 (some g) := by
    rcases h2 with ⟨rfl, he⟩ | rfl
    · exact ⟨h1.same (fun i _ => by show _ = if i = kind.toNat then _ else _; split <;> simp_all) rfl rfl rfl, World.grownBy.refl _ _⟩
    · exact ⟨h1.sf hk16 _, grown_set g _ _ _⟩
  go_wp2
  refine leaves_cons (f := 20) (args := #[.pointer (some ⟨g, 0, none⟩)]) (by simp) (by simp [go_sem]) ?_
  refine (runlock_any .returning h3.1).mono ?_
  rintro e u' w4 ⟨rfl, rfl, h4, hg4⟩
  exact ⟨_, results_tmp rfl _ _ _, Me.did h4 hok ((only_alloc (World.grownBy.refl _ _) _).trans (hg1.trans (h3.2.trans hg4)))⟩

theorem count_any (g : Nat) (s : St) (kind n : Int) (w : World) (h : Me w g s) :
    Calls Try.prog 11 #[.pointer (some ⟨g, 0, none⟩), .int .i64 kind, .int .i64 n] w (Did g (.bool (s.okC kind n)) (s.count kind n) w) := by
  by_cases hv : 0 ≤ kind ∧ kind < 16 ∧ 0 ≤ n ∧ n ≤ 4294967296
  · cases hcl : s.closed with
    | true =>
      have ho : s.okC kind n = false := by unfold St.okC; rw [hcl]; rfl
      have hs : s.count kind n = s := by unfold St.count; rw [ho]; rfl
      rw [ho, hs]
      exact count_shut g s kind n w h ⟨hv.1, hv.2.1⟩ hv.2.2.1 hv.2.2.2 hcl
    | false =>
      have ho : s.okC kind n = true := by unfold St.okC; rw [hcl]; simp [hv.1, hv.2.1, hv.2.2.1, hv.2.2.2]
      have hs : s.count kind n = s.put kind.toNat (plusI (s.f kind.toNat) n) := by unfold St.count; rw [ho]; rfl
      rw [ho, hs]
      exact count_open g s kind n w h ⟨hv.1, hv.2.1⟩ hv.2.2.1 hv.2.2.2 hcl
  · have ho : s.okC kind n = false := by
      unfold St.okC
      rw [Bool.and_eq_false_iff]
      right
      simp only [Bool.and_eq_false_iff, decide_eq_false_iff_not]
      omega
    have hs : s.count kind n = s := by unfold St.count; rw [ho]; rfl
    rw [ho, hs]
    exact count_bad g s kind n w h hv

set_option maxHeartbeats 1000000 in
theorem mark_shut (g : Nat) (s : St) (n : Int) (w : World) (h : Me w g s) (hcl : s.closed = true) :
    Calls Try.prog 12 #[.pointer (some ⟨g, 0, none⟩), .int .i64 n] w (Did g (.bool false) s w) := by
  have hnot : ∀ (x : Bool) (w : World), (Op.unary .not (.bool x)).run Try.prog w = .ok (.bool (!x)) w := fun _ _ => rfl
  go_enter_defers Try.func12, Try.ntmps12
  go_wp2_with (fail)
  refine (rlock_any (h.1.alloc _)).mono ?_
  rintro e w1 ⟨rfl, h1, hg1⟩
  have c26 := h1.cc
  rw [hcl] at c26
  go_wp2
  refine leaves_cons (f := 20) (args := #[.pointer (some ⟨g, 0, none⟩)]) (by simp) (by simp [go_sem]) ?_
  refine (runlock_any .returning h1).mono ?_
  rintro e u' w2 ⟨rfl, rfl, h2, hg2⟩
  exact ⟨_, results_tmp rfl _ _ _, Me.did h2 h.2 ((only_alloc (World.grownBy.refl _ _) _).trans (hg1.trans hg2))⟩

set_option maxHeartbeats 1000000 in
theorem mark_open (g : Nat) (s s2 : St) (r : Bool) (n : Int) (w : World) (h : Me w g s) (hn : n ≤ 9223372036854775807) (hcl : s.closed = false) (hr : Hid (r = decide (s.high < n))) (hs : Hid (s2 = if s.high < n then { s with high := n } else s)) :
    Calls Try.prog 12 #[.pointer (some ⟨g, 0, none⟩), .int .i64 n] w (Did g (.bool r) s2 w) := by
  have hok : s2.ok := by
    rw [hs.out]
    split
    · exact St.ok_high h.2 (by have := h.2.2.1; omega) hn
    · exact h.2
  have hd : s2.closed = s.closed := by rw [hs.out]; split <;> rfl
  have hlt := h.lt
  go_enter_defers Try.func12, Try.ntmps12
  go_wp2_with (fail)
  refine (rlock_any (h.1.alloc _)).mono ?_
  rintro e w1 ⟨rfl, h1, hg1⟩
  have c26 := h1.cc
  rw [hcl] at c26
  have hblk : Blk w1 w.heap.size 3 #[.int .i64 n] := (Blk.new w _ _).grown hg1 (by simp; omega)
  go_wp2_with (fail)
  refine (raise_to ⟨g, 22, none⟩ w.heap.size s.high n _ h1.ch (h1.fz _) hblk).mono ?_
  rintro e w2 ⟨rfl, h2⟩
  rw [← hr.out]
  have h3 : Mt w2 g 0 1 (if s.closed then 1 else 0) 0 s2 ∧ w1.grownBy w2 (some g) := by
    rw [h2, hs.out]
    split
    · exact ⟨h1.sh _, grown_set g _ _ _⟩
    · exact ⟨h1, World.grownBy.refl _ _⟩
  clear h2
  rw [← hd] at h3
  obtain ⟨h4, hg4⟩ := h3
  clear hd
  go_wp2
  refine leaves_cons (f := 20) (args := #[.pointer (some ⟨g, 0, none⟩)]) (by simp) (by simp [go_sem]) ?_
  refine (runlock_any .returning h4).mono ?_
  rintro e u' w5 ⟨rfl, rfl, h5, hg5⟩
  exact ⟨_, results_tmp rfl _ _ _, Me.did h5 hok ((only_alloc (World.grownBy.refl _ _) _).trans (hg1.trans (hg4.trans hg5)))⟩

theorem mark_any (g : Nat) (s : St) (n : Int) (w : World) (h : Me w g s) (hn : n ≤ 9223372036854775807) :
    Calls Try.prog 12 #[.pointer (some ⟨g, 0, none⟩), .int .i64 n] w (Did g (.bool (s.okM n)) (s.mark n) w) := by
  cases hcl : s.closed with
  | true =>
    have ho : s.okM n = false := by unfold St.okM; rw [hcl]; rfl
    have hs : s.mark n = s := by unfold St.mark; rw [ho]; rfl
    rw [ho, hs]
    exact mark_shut g s n w h hcl
  | false =>
    have ho : s.okM n = decide (s.high < n) := by unfold St.okM; rw [hcl]; rfl
    have hs : s.mark n = if s.high < n then { s with high := n } else s := by unfold St.mark; rw [ho]; simp
    exact mark_open g s _ _ n w h hn hcl ho hs

set_option maxHeartbeats 1000000 in
theorem closed_any (g : Nat) (s : St) (w : World) (h : Me w g s) :
    Calls Try.prog 15 #[.pointer (some ⟨g, 0, none⟩)] w (Did g (.tuple #[.int .i64 s.reason, .bool s.closed]) s w) := by
  go_enter_defers Try.func15, Try.ntmps15
  go_wp2_with (fail)
  refine (rlock_any h.1).mono ?_
  rintro e w1 ⟨rfl, h1, hg1⟩
  have c26 := h1.cc
  have c27 := h1.cr
  go_wp2
  go_quiet (fail)
  go_wp2
  refine leaves_cons (f := 20) (args := #[.pointer (some ⟨g, 0, none⟩)]) (by simp) (by simp [go_sem]) ?_
  refine (runlock_any .returning (h1.drewN _)).mono ?_
  rintro e u' w2 ⟨rfl, rfl, h2, hg2⟩
  exact ⟨_, results_tmp2 rfl _ _ _, Me.did h2 h.2 ((only_drewN hg1 _).trans hg2)⟩
end Go.Proofs.Ythaikcopbeppeaa
