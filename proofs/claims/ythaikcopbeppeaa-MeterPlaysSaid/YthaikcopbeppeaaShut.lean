/-
  WHAT IS PROVED: the contract of a meter's Close (sync.Once, one goroutine). Condition: the block is a meter that nobody is at.
-/
import Derived.Test.YthaikcopbeppeaaUse
import Derived.RegionCalls
namespace Go.Proofs.Ythaikcopbeppeaa
open Go.RowKit Go.Lib

/-- '(*sync/atomic.Bool).Store(true)', entered as a deferred call: the cell holds 1. -/
theorem store_deferred (a : Addr) (x : Value) (u : FrameMode) (w : World) (hc : w.cell? a = some x) (hz : w.frozen? a = false) :
    CallsD Try.prog 51 #[.pointer (some a), .bool true] u w fun e u' w' => u' = u ∧ (e = .returned (.tuple #[]) ∧ w' = w.drew.setCell a (.int .u32 1)) := by
  have hc' : w.drew.cell? a = some x := by go_simp
  have hz' : w.drew.frozen? a = false := by go_simp
  have hst := run_call_store (P := Try.prog) Try.func54 (by kernel_rfl) (by kernel_rfl) (by kernel_rfl) (by kernel_rfl) (k := .u32) (y := 1) hc' hz'
  go_enter_d Try.func51, Try.ntmps51
  go_wp2
  go_region_calls
  all_goals (go_end0; exact ⟨rfl, rfl⟩)

/-- Close's closure: what it captured lies in the blocks p1 (the meter), p2 (the reason), p3 (whether this call is the first) -/
theorem shutFn_any (a : World) (g p1 p2 p3 : Nat) (r d m : Int) (s : St) (w : World) (h : Mt w g 0 0 d m s) (h1 : Blk w p1 24 #[.pointer (some ⟨g, 0, none⟩)]) (h2 : Blk w p2 3 #[.int .i64 r]) (h3 : Blk w p3 4 #[.bool false])
    (ha : a.grownBy w (some g)) (hp1 : p1 ≠ g) (hp2 : p2 ≠ g) (hp3 : a.heap.size ≤ p3) (hg3 : p3 ≠ g) :
    Calls Try.prog 26 #[.pointer (some ⟨p1, 0, none⟩), .pointer (some ⟨p2, 0, none⟩), .pointer (some ⟨p3, 0, none⟩)] w
      fun e w' => e = .returned (.tuple #[]) ∧ Mt w' g 0 0 d m { s with closed := true, reason := r } ∧ Blk w' p3 4 #[.bool true] ∧ a.grownBy w' (some g) := by
  have c1 : w.cell? ⟨p1, 0, none⟩ = some (.pointer (some ⟨g, 0, none⟩)) := h1.cell 0
  go_enter_defers Try.func26, Try.ntmps26
  go_wp2_with (fail)
  refine (wlock_any h).mono ?_
  rintro e w1 ⟨rfl, hm, hg1⟩
  have k1 := h1.grown hg1 (by simpa using hp1)
  have k2 := h2.grown hg1 (by simpa using hp2)
  have k3 := h3.grown hg1 (by simpa using hg3)
  have d1 : w1.cell? ⟨p1, 0, none⟩ = some (.pointer (some ⟨g, 0, none⟩)) := k1.cell 0
  have d2 : w1.cell? ⟨p2, 0, none⟩ = some (.int .i64 r) := k2.cell 0
  have d3 : w1.cell? ⟨p3, 0, none⟩ = some (.bool false) := k3.cell 0
  have f3 : w1.frozen? ⟨p3, 0, none⟩ = false := k3.frozen 0
  have c26 := hm.cc
  have c27 := hm.cr
  have z26 := hm.fz 26
  have z27 := hm.fz 27
  clear c1 h1 h2 h3
  go_wp2
  refine leaves_cons (f := 28) (args := #[.pointer (some ⟨g, 0, none⟩)]) (by simp) (by simp [go_sem]) ?_
  have hm2 := ((hm.sc true).sr r).far (p := ⟨p3, 0, none⟩) (fun e => hg3 e.symm) (.bool true)
  have k4 := ((k3.far (p := ⟨g, 26, none⟩) hg3 (.bool true)).far (p := ⟨g, 27, none⟩) hg3 (.int .i64 r)).set_ 0 (.bool true)
  have ha2 := only_setCell (only_setCell (only_setCell (ha.trans hg1) (p := ⟨g, 26, none⟩) (.inl rfl) (.bool true)) (p := ⟨g, 27, none⟩) (.inl rfl) (.int .i64 r)) (p := ⟨p3, 0, none⟩) (.inr hp3) (.bool true)
  refine (wunlock_any .returning hm2).mono ?_
  rintro e u' w5 ⟨rfl, rfl, h5, hg5⟩
  exact ⟨_, results_none rfl _ _ _, rfl, h5, k4.grown hg5 (by simpa using hg3), ha2.trans hg5⟩

/-- what the Once's call leaves -/
def Shut (a : World) (g p3 : Nat) (r : Int) (s : St) (e : Ending) (w' : World) : Prop :=
  e = .returned (.tuple #[]) ∧ Mt w' g 0 0 1 0 { s with closed := true, reason := r } ∧ Blk w' p3 4 #[.bool true] ∧ a.grownBy w' (some g)

set_option maxRecDepth 100000 in
set_option maxHeartbeats 1600000 in
theorem slow_any (a : World) (g p1 p2 p3 : Nat) (r : Int) (s : St) (w : World) (h : Mt w g 0 0 0 0 s) (h1 : Blk w p1 24 #[.pointer (some ⟨g, 0, none⟩)]) (h2 : Blk w p2 3 #[.int .i64 r]) (h3 : Blk w p3 4 #[.bool false])
    (ha : a.grownBy w (some g)) (hp1 : p1 ≠ g) (hp2 : p2 ≠ g) (hp3 : a.heap.size ≤ p3) (hg3 : p3 ≠ g) :
    Calls Try.prog 40 #[.pointer (some ⟨g, 23, none⟩), .func (.func 26) #[] #[.pointer (some ⟨p1, 0, none⟩), .pointer (some ⟨p2, 0, none⟩), .pointer (some ⟨p3, 0, none⟩)]] w (Shut a g p3 r s) := by
  have hm1 := h.sm 1
  have hl := run_call_load (P := Try.prog) Try.func50 (by kernel_rfl) (by kernel_rfl) (by kernel_rfl) .u32 (by kernel_rfl) hm1.cd
  have hnot : ∀ (x : Bool) (w : World), (Op.unary .not (.bool x)).run Try.prog w = .ok (.bool (!x)) w := fun _ _ => rfl
  have k1 := h1.far (p := ⟨g, 24, none⟩) hp1 (.int .i32 1)
  have k2 := h2.far (p := ⟨g, 24, none⟩) hp2 (.int .i32 1)
  have k3 := h3.far (p := ⟨g, 24, none⟩) hg3 (.int .i32 1)
  have ha1 := only_setCell ha (p := ⟨g, 24, none⟩) (.inl rfl) (.int .i32 1)
  go_enter_defers Try.func40, Try.ntmps40
  go_wp2_with (first | (go_at_call 41; refine (Go.MuLone.lock_free Try.muLib ⟨g, 24, none⟩ _ h.cm (h.fz 24)).mono ?_; rintro e w' ⟨rfl, rfl⟩) | (go_at_call 39; go_in) | (go_at_call 26; refine (shutFn_any a g p1 p2 p3 r 0 1 s _ hm1 k1 k2 k3 ha1 hp1 hp2 hp3 hg3).mono ?_; rintro e w1 ⟨rfl, h4, h5, ha4⟩))
  refine leaves_cons (f := 51) (args := #[.pointer (some ⟨g, 23, none⟩), .bool true]) (by simp) (by simp [go_sem]) ?_
  refine (store_deferred ⟨g, 23, none⟩ (.int .u32 0) .returning _ h4.cd (h4.fz 23)).mono ?_
  rintro e u' w'' ⟨rfl, rfl, rfl⟩
  have h6 := (h4.drew).sd 1
  have h7 := (h5.drew).far (p := ⟨g, 23, none⟩) hg3 (.int .u32 1)
  refine leaves_cons (f := 46) (args := #[.pointer (some ⟨g, 24, none⟩)]) (by simp [settle]) (by simp [go_sem]) ?_
  refine (Go.MuLone.unlock_deferred Try.muLib ⟨g, 24, none⟩ _ _ h6.cm (h6.fz 24)).mono ?_
  rintro e u' w'' ⟨rfl, rfl, rfl⟩
  have hfin : Shut a g p3 r s (.returned (.tuple #[])) ((w1.drew.setCell ⟨g, 23, none⟩ (.int .u32 1)).setCell ⟨g, 24, none⟩ (.int .i32 0)) :=
    ⟨rfl, h6.sm 0, h7.far (p := ⟨g, 24, none⟩) hg3 _, only_setCell (only_setCell (only_drew ha4) (.inl rfl) _) (.inl rfl) _⟩
  simpa [Leaves, settle, results, Try.results40] using hfin

theorem do_first (a : World) (g p1 p2 p3 : Nat) (r : Int) (s : St) (w : World) (h : Mt w g 0 0 0 0 s) (h1 : Blk w p1 24 #[.pointer (some ⟨g, 0, none⟩)]) (h2 : Blk w p2 3 #[.int .i64 r]) (h3 : Blk w p3 4 #[.bool false])
    (ha : a.grownBy w (some g)) (hp1 : p1 ≠ g) (hp2 : p2 ≠ g) (hp3 : a.heap.size ≤ p3) (hg3 : p3 ≠ g) :
    Calls Try.prog 25 #[.pointer (some ⟨g, 23, none⟩), .func (.func 26) #[] #[.pointer (some ⟨p1, 0, none⟩), .pointer (some ⟨p2, 0, none⟩), .pointer (some ⟨p3, 0, none⟩)]] w (Shut a g p3 r s) := by
  have hl := run_call_load (P := Try.prog) Try.func50 (by kernel_rfl) (by kernel_rfl) (by kernel_rfl) .u32 (by kernel_rfl) h.cd
  have hnot : ∀ (x : Bool) (w : World), (Op.unary .not (.bool x)).run Try.prog w = .ok (.bool (!x)) w := fun _ _ => rfl
  go_enter Try.func25, Try.ntmps25
  go_wp2_with (first | (go_at_call 40; refine (slow_any a g p1 p2 p3 r s _ h h1 h2 h3 ha hp1 hp2 hp3 hg3).mono ?_; rintro e w1 ⟨rfl, h4, h5, h6⟩) | (go_at_call 39; go_in))
  go_end0
  exact ⟨rfl, h4, h5, h6⟩

/-- '(*sync.Once).Do', done already: the function is not called. -/
theorem do_done (g : Nat) (rc m : Int) (s : St) (fv : Value) (w : World) (h : Mt w g 0 rc 1 m s) :
    Calls Try.prog 25 #[.pointer (some ⟨g, 23, none⟩), fv] w fun e w' => e = .returned (.tuple #[]) ∧ w = w' := by
  have hl := run_call_load (P := Try.prog) Try.func50 (by kernel_rfl) (by kernel_rfl) (by kernel_rfl) .u32 (by kernel_rfl) h.cd
  have hnot : ∀ (x : Bool) (w : World), (Op.unary .not (.bool x)).run Try.prog w = .ok (.bool (!x)) w := fun _ _ => rfl
  go_enter Try.func25, Try.ntmps25
  go_wp2
  go_end0
  exact ⟨rfl, rfl⟩

/-- the three variables that Close's closure captures, each a block of its own -/
theorem three_blocks (w : World) (u v x : Value) (t1 t2 t3 : TypeId) :
    Blk (((w.alloc (.cells #[u] t1)).alloc (.cells #[v] t2)).alloc (.cells #[x] t3)) w.heap.size t1 #[u] ∧ Blk (((w.alloc (.cells #[u] t1)).alloc (.cells #[v] t2)).alloc (.cells #[x] t3)) (w.heap.size + 1) t2 #[v] ∧
    Blk (((w.alloc (.cells #[u] t1)).alloc (.cells #[v] t2)).alloc (.cells #[x] t3)) (w.heap.size + 2) t3 #[x] := by
  have e1 : (w.alloc (.cells #[u] t1)).heap.size = w.heap.size + 1 := by simp
  have e2 : ((w.alloc (.cells #[u] t1)).alloc (.cells #[v] t2)).heap.size = w.heap.size + 2 := by simp
  refine ⟨((Blk.new w _ _).alloc _).alloc _, ?_, ?_⟩
  · rw [← e1]; exact (Blk.new _ _ _).alloc _
  · rw [← e2]; exact Blk.new _ _ _

set_option maxHeartbeats 1000000 in
theorem close_first (g : Nat) (s : St) (r : Int) (w : World) (h : Me w g s) (hcl : s.closed = false) :
    Calls Try.prog 13 #[.pointer (some ⟨g, 0, none⟩), .int .i64 r] w (Did g (.bool true) { s with closed := true, reason := r } w) := by
  have hlt := h.lt
  obtain ⟨b1, b2, b3⟩ := three_blocks w (.pointer (some ⟨g, 0, none⟩)) (.int .i64 r) (.bool false) 24 3 4
  have hm : Mt w g 0 0 0 0 s := by have := h.1; rwa [hcl] at this
  have hm1 := ((hm.alloc (.cells #[.pointer (some ⟨g, 0, none⟩)] 24)).alloc (.cells #[.int .i64 r] 3)).alloc (.cells #[.bool false] 4)
  have ha := only_alloc (only_alloc (only_alloc (World.grownBy.refl w (some g)) (.cells #[.pointer (some ⟨g, 0, none⟩)] 24)) (.cells #[.int .i64 r] 3)) (.cells #[.bool false] 4)
  have hmf : ∀ (fn : Fn) (first cap : Array Value) (w : World), (Instr.makeFunc fn first cap).run Try.prog w = .ok (.func fn first cap) w := fun _ _ _ _ => rfl
  go_enter Try.func13, Try.ntmps13
  go_wp2_with (fail)
  refine (do_first w g w.heap.size (w.heap.size + 1) (w.heap.size + 2) r s _ hm1 b1 b2 b3 ha (by omega) (by omega) (by omega) (by omega)).mono ?_
  rintro e w1 ⟨rfl, h4, h5, h6⟩
  have c3 : w1.cell? ⟨w.heap.size + 2, 0, none⟩ = some (.bool true) := h5.cell 0
  go_wp2
  go_ret
  exact ⟨rfl, ⟨h4, h.2⟩, h6⟩

set_option maxHeartbeats 1000000 in
theorem close_again (g : Nat) (s : St) (r : Int) (w : World) (h : Me w g s) (hcl : s.closed = true) :
    Calls Try.prog 13 #[.pointer (some ⟨g, 0, none⟩), .int .i64 r] w (Did g (.bool false) s w) := by
  have hlt := h.lt
  obtain ⟨b1, b2, b3⟩ := three_blocks w (.pointer (some ⟨g, 0, none⟩)) (.int .i64 r) (.bool false) 24 3 4
  have hm : Mt w g 0 0 1 0 s := by have := h.1; rwa [hcl] at this
  have hm1 := ((hm.alloc (.cells #[.pointer (some ⟨g, 0, none⟩)] 24)).alloc (.cells #[.int .i64 r] 3)).alloc (.cells #[.bool false] 4)
  have hm2 := ((h.1.alloc (.cells #[.pointer (some ⟨g, 0, none⟩)] 24)).alloc (.cells #[.int .i64 r] 3)).alloc (.cells #[.bool false] 4)
  have ha := only_alloc (only_alloc (only_alloc (World.grownBy.refl w (some g)) (.cells #[.pointer (some ⟨g, 0, none⟩)] 24)) (.cells #[.int .i64 r] 3)) (.cells #[.bool false] 4)
  have c3 : (((w.alloc (.cells #[.pointer (some ⟨g, 0, none⟩)] 24)).alloc (.cells #[.int .i64 r] 3)).alloc (.cells #[.bool false] 4)).cell? ⟨w.heap.size + 2, 0, none⟩ = some (.bool false) := b3.cell 0
  have hmf : ∀ (fn : Fn) (first cap : Array Value) (w : World), (Instr.makeFunc fn first cap).run Try.prog w = .ok (.func fn first cap) w := fun _ _ _ _ => rfl
  go_enter Try.func13, Try.ntmps13
  go_wp2_with (fail)
  refine (do_done g 0 0 s _ _ hm1).mono ?_
  rintro e w1 ⟨rfl, rfl⟩
  go_wp2
  go_ret
  exact ⟨rfl, ⟨hm2, h.2⟩, ha⟩

theorem close_any (g : Nat) (s : St) (r : Int) (w : World) (h : Me w g s) :
    Calls Try.prog 13 #[.pointer (some ⟨g, 0, none⟩), .int .i64 r] w (Did g (.bool (!s.closed)) (s.close r) w) := by
  unfold St.close
  cases hcl : s.closed with
  | true => exact close_again g s r w h hcl
  | false => exact close_first g s r w h hcl
end Go.Proofs.Ythaikcopbeppeaa
