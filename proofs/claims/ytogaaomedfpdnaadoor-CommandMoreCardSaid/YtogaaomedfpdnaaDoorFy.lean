/-
  WHAT IS PROVED: the contract of command.firstIn. Condition: the variable firsts holds what is laid there.
-/
import Derived.Test.YtogaaomedfpdnaaDoorFx
import Derived.Deep.QuietTactic
import Derived.BigQuiet
namespace Go.Proofs.YtogaaomedfpdnaaDoor
open Go.RowKit

theorem lt_of_cell {w : World} {a : Addr} {v : Value} (h : w.cell? a = some v) : a.block < w.heap.size := by
  unfold World.cell? at h
  rcases Nat.lt_or_ge a.block w.heap.size with hlt | hge
  · exact hlt
  · rw [Array.getElem?_eq_none hge] at h; cases h
/-- a world in which all that lay in w lies as it did -/
structure Later (w : World) where
  now : World
  below : Below w.heap.size w now
def Later.start (w : World) : Later w := ⟨w, Below.refl _ w⟩
instance (w : World) : Inhabited (Later w) := ⟨Later.start w⟩
theorem Later.cell {w : World} (p : Later w) {a : Addr} {v : Value} (h : w.cell? a = some v) : p.now.cell? a = some v := (p.below.cell (lt_of_cell h)).trans h
theorem wp_region_later {P : Program} {id : Nat} {Q : Exit → Act → World → Prop} {a : Act} {w : World} {l : List Oper} (hm : P.follows .mixedOrders = true) (hB : Region.lexB .any l.toArray = true)
    (h : wpQuiet P l.toArray (fun w' => ∃ p : Later w, w' = p.now) (fun a' => ∀ w', (∃ p : Later w, w' = p.now) → Q .normal a' w') l a) : (Code.region id l.toArray true).wp P Q a w :=
  wp_region_quiet (C := fun w' => ∃ p : Later w, w' = p.now) hm hB ⟨⟨w.drew, ⟨rfl, rfl, rfl, Nat.le_refl _, fun _ _ => rfl⟩⟩, rfl⟩ (by simpa using h)
/-- a callee's contract, met in such a world -/
theorem Later.calls {P : Program} {f : FuncId} {args : Array Value} {w : World} {p : Later w} {v : Value}
    (h : Calls P f args p.now fun e w' => e = .returned v ∧ Below p.now.heap.size p.now w') : Calls P f args p.now fun e w'' => e = .returned v ∧ ∃ p : Later w, w'' = p.now :=
  h.mono fun _ w' ⟨he, hb⟩ => ⟨he, ⟨w', p.below.trans (hb.mono p.below.size)⟩, rfl⟩

def NoW (u : List UInt8) (k : Nat) : Prop := ∀ j, j < k → (firstsL.getD j noF).w ≠ u
theorem inW_at {u : List UInt8} {k : Nat} (hk : k < 15) (h : NoW u k) (e : (firstsL.getD k noF).w = u) : inW u = some (firstsL.getD k noF) := by
  unfold inW
  exact find_at (p := fun f => decide (f.w = u)) (l := firstsL) (k := k) hk (by simpa using e) (fun j hj => by simpa using h j hj)
theorem inW_none {u : List UInt8} (h : NoW u 15) : inW u = none := by
  unfold inW
  exact find_none (p := fun f => decide (f.w = u)) (l := firstsL) (fun j hj => by simpa using h j hj)
def GivesIn (o : Option Fw) (w : World) (e : Ending) (w' : World) : Prop := e = .returned (.tuple #[.agg (fA (o.getD noF)), .bool o.isSome]) ∧ Below w.heap.size w w'
theorem results_fw2 {fn : Func} {p u : Tmp} (h : fn.results = #[.cell p 48, .tmp u]) (tmps : Array Value) (w : World) (b : Nat) (f : Fw)
    (hp : tmps.getD p undef = .pointer (some ⟨b, 0, none⟩)) (hb : Blk w b 48 (fA f)) : (results fn tmps).run Tryd.prog w = .ok (.tuple #[.agg (fA f), tmps.getD u undef]) w := by
  have hp' : tmps[p]?.getD undef = .pointer (some ⟨b, 0, none⟩) := by simpa using hp
  simp [results, h, hp', asAddr, run_loadVar_row w b 48 48 (fA f) (0, 0) _ hb Tryd.underlying48 rfl (fw_size f), Result.andThen]

set_option maxRecDepth 100000 in
set_option maxHeartbeats 1000000 in
theorem firstin_any (l : List UInt8) (hl : l.length ≤ 4294967296) (w : World) (hF : FirstsAt w) : Calls Tryd.prog 14 #[.string (str l)] w (GivesIn (inW (up l)) w) := by
  obtain ⟨tF, frF, hF⟩ := hF
  have hb0 : Below w.heap.size w (w.alloc (.cells (fA noF) 48)) := (Below.refl _ w).alloc (Nat.le_refl _) _
  have HF : Hid ((w.alloc (.cells (fA noF) 48)).heap[0]? = some (.cells firstsV tF frF)) := Lib.hid ((hb0.block _ (Array.getElem?_eq_some_iff.1 hF).1).trans hF)
  have HB0 := Lib.hid hb0
  have HR0 : Hid (Blk (w.alloc (.cells (fA noF) 48)) w.heap.size 48 (fA noF)) := Lib.hid (Blk.new w _ _)
  clear hb0 hF
  have HU : Hid (∀ W : World, Calls Tryd.prog 26 #[.string (str l)] W (fun e w' => e = .returned (.string (str (up l))) ∧ Below W.heap.size W w')) := Lib.hid fun W => big_any l hl W
  generalize up l = u at *
  go_enter Tryd.func14, Tryd.ntmps14
  go_wp2_with (refine wpList_load_row rfl 65 (.global 0) rfl 0 rfl _ firstsV _ _ HF.out Tryd.underlying65 rfl firsts_size ?_)
  go_loopw [7] (fun i wr => ∃ k : Nat, k ≤ 15 ∧ i = .int .i64 k ∧ Hid (NoW u k) ∧ Hid (Blk wr w.heap.size 48 (fA noF)) ∧ Hid (Below w.heap.size w wr)) (fun i _ => 15 - (intOf i).toNat)
  case atStart => exact ⟨0, by omega, rfl, Lib.hid (fun j hj => absurd hj (by omega)), HR0, HB0⟩
  case round =>
    obtain ⟨k, hk, rfl, hn, hr, hb⟩ := hrel
    by_cases hlt : k < 15
    · have hk0 : (0 : Int) ≤ k := by omega
      have hk1 : (k : Int) < 15 := by omega
      have hix := index_first hlt
      have HA := Lib.hid (@inW_at u k hlt hn.out)
      have HS : Hid ((firstsL.getD k noF).w ≠ u → NoW u (k + 1)) := Lib.hid fun h j hj => by
        rcases Nat.lt_or_ge j k with h1 | h1
        · exact hn.out j h1
        · obtain rfl : j = k := by omega
          exact h
      generalize firstsL.getD k noF = f at *
      have hfv : fA f = #[.string (str f.w), .int .i64 f.k, .int .i64 f.a] := rfl
      have K : Hid (Blk (wr.alloc (.cells #[.string (str f.w), .int .i64 f.k, .int .i64 f.a] 48)) w.heap.size 48 (fA noF)) := Lib.hid (hr.out.alloc _)
      have KF : Hid (Blk (wr.alloc (.cells #[.string (str f.w), .int .i64 f.k, .int .i64 f.a] 48)) wr.heap.size 48 (fA f)) := Lib.hid (Blk.new wr _ _)
      have KB : Hid (Below w.heap.size w (wr.alloc (.cells #[.string (str f.w), .int .i64 f.k, .int .i64 f.a] 48))) := Lib.hid (hb.out.alloc hb.out.size _)
      clear hr hb hn
      go_wp2_with (fail)
      obtain ⟨wa, hwa⟩ : ∃ wa, wr.alloc (.cells #[.string (str f.w), .int .i64 f.k, .int .i64 f.a] 48) = wa := ⟨_, rfl⟩
      rw [hwa] at K KF KB ⊢
      clear hwa
      have hc0 : ∀ p : Later wa, p.now.cell? ⟨wr.heap.size, 0, none⟩ = some (.string (str f.w)) := fun p => p.cell (KF.out.cell 0)
      obtain ⟨q, hq⟩ : ∃ q, decide (f.w = u) = q := ⟨_, rfl⟩
      have hqe : ((str f.w).toList == (str u).toList) = q := by rw [str_toList, str_toList, ← hq, Bool.eq_iff_iff]; simp
      have HQ := Lib.hid hq
      clear hq
      refine wp_region_later (by kernel_rfl) (by kernel_rfl) ?_
      repeat (first | go_big_quiet_step ((go_at_call 26; with_reducible exact Later.calls (HU.out _))))
      refine wpQuiet_nil ?_
      intro _ hw'
      obtain ⟨pq, hw''⟩ := hw'
      subst hw''
      have L := Lib.hid (K.out.below pq.below K.out.lt)
      have LF := Lib.hid (KF.out.below pq.below KF.out.lt)
      have LB := Lib.hid (KB.out.trans (pq.below.mono KB.out.size))
      obtain ⟨w5, e5⟩ : ∃ w5, pq.now = w5 := ⟨_, rfl⟩
      rw [e5] at L LF LB ⊢
      clear e5 hc0 K KF KB
      have c0 : w5.cell? ⟨w.heap.size, 0, none⟩ = some (.string ⟨#[]⟩) := L.out.cell 0
      have c1 : w5.cell? ⟨w.heap.size, 1, none⟩ = some (.int .i64 0) := L.out.cell 1
      have c2 : w5.cell? ⟨w.heap.size, 2, none⟩ = some (.int .i64 0) := L.out.cell 2
      have f0 : w5.cell? ⟨wr.heap.size, 0, none⟩ = some (.string (str f.w)) := LF.out.cell 0
      have f1 : w5.cell? ⟨wr.heap.size, 1, none⟩ = some (.int .i64 f.k) := LF.out.cell 1
      have f2 : w5.cell? ⟨wr.heap.size, 2, none⟩ = some (.int .i64 f.a) := LF.out.cell 2
      have fz := L.out.frozen
      clear hqe
      cases q with
      | true =>
        have HX := Lib.hid (HA.out (of_decide_eq_true HQ.out))
        clear HA HS
        go_wp2
        exact bodyPost_ret (results_fw2 rfl _ _ w.heap.size f rfl (blk_store3 L.out f)) rfl ⟨by rw [HX.out]; rfl, below_store3 LB.out (Nat.le_refl _) _ _ _⟩
      | false =>
        have HX := Lib.hid (HS.out (of_decide_eq_false HQ.out))
        clear HA HS
        go_wp2
        go_roundw
        case rel => exact ⟨k + 1, by omega, by go_num, HX, L, LB⟩
        case measure => simp [intOf]; omega
    · obtain rfl : k = 15 := by omega
      have HX := Lib.hid (inW_none hn.out)
      have c0 : wr.cell? ⟨w.heap.size, 0, none⟩ = some (.string ⟨#[]⟩) := hr.out.cell 0
      have c1 : wr.cell? ⟨w.heap.size, 1, none⟩ = some (.int .i64 0) := hr.out.cell 1
      have c2 : wr.cell? ⟨w.heap.size, 2, none⟩ = some (.int .i64 0) := hr.out.cell 2
      have fz := hr.out.frozen
      go_wp2
      exact bodyPost_ret (results_fw2 rfl _ _ w.heap.size noF rfl (blk_store3 hr.out noF)) rfl ⟨by rw [HX.out]; rfl, below_store3 hb.out (Nat.le_refl _) _ _ _⟩
end Go.Proofs.YtogaaomedfpdnaaDoor
