/-
  WHAT IS PROVED: one walk for a region that draws its order, only reads (whole states too), and whose callees leave all that was there as it was. Condition: none.
-/
import Derived.Test.YtmjbacmaafbdlaaGreatDoorRMade
import Derived.Deep.QuietTactic
import Derived.BigQuiet
namespace Go.Proofs.YtmjbacmaafbdlaaGreatDoor.R
open Go.RowKit C

/-- a world in which all that lay in w lies as it did -/
structure Later (w : World) where
  now : World
  below : Below w.heap.size w now
def Later.start (w : World) : Later w := ⟨w, Below.refl _ w⟩
instance (w : World) : Inhabited (Later w) := ⟨Later.start w⟩
theorem Later.cell {w : World} (p : Later w) {a : Addr} {v : Value} (h : w.cell? a = some v) : p.now.cell? a = some v := (p.below.cell (C.lt_of_cell h)).trans h
theorem wp_region_later {P : Program} {id : Nat} {Q : Exit → Act → World → Prop} {a : Act} {w : World} {l : List Oper} (hm : P.follows .mixedOrders = true) (hB : Region.lexB .any l.toArray = true)
    (h : wpQuiet P l.toArray (fun w' => ∃ p : Later w, w' = p.now) (fun a' => ∀ w', (∃ p : Later w, w' = p.now) → Q .normal a' w') l a) : (Code.region id l.toArray true).wp P Q a w :=
  wp_region_quiet (C := fun w' => ∃ p : Later w, w' = p.now) hm hB ⟨⟨w.drew, ⟨rfl, rfl, rfl, Nat.le_refl _, fun _ _ => rfl⟩⟩, rfl⟩ (by simpa using h)
/-- a callee's contract, met in such a world -/
theorem Later.calls {P : Program} {f : FuncId} {args : Array Value} {w : World} {p : Later w} {v : Value}
    (h : Calls P f args p.now fun e w' => e = .returned v ∧ Below p.now.heap.size p.now w') : Calls P f args p.now fun e w'' => e = .returned v ∧ ∃ p : Later w, w'' = p.now :=
  h.mono fun _ w' ⟨he, hb⟩ => ⟨he, ⟨w', p.below.trans (hb.mono p.below.size)⟩, rfl⟩
theorem Later.calls_same {P : Program} {f : FuncId} {args : Array Value} {w : World} {p : Later w} {v : Value}
    (h : Calls P f args p.now fun e w' => e = .returned v ∧ p.now = w') : Calls P f args p.now fun e w'' => e = .returned v ∧ ∃ p : Later w, w'' = p.now :=
  h.mono fun _ _ ⟨he, hb⟩ => ⟨he, p, hb.symm⟩
section
variable {ops : Array Oper} {rest : List Oper} {Q : Act → Prop} {a : Act} {w : World} {dst : Option Tmp} {ty : TypeId} {pos : String} {after : Array Edge} {g : Option (Nat × Bool)} {x : Operand} {b : Nat} {s : Sv}
theorem quiet_rt (hx : a.eval x = .pointer (some ⟨b, 0, none⟩)) (hT : RAt w b s) (hw : Region.wanted ⟨dst, .load 36 x, ty, pos, after, g⟩ (yielded ops a.tmps) = true)
    (h : wpQuiet Tryz.prog ops (fun w' => ∃ p : Later w, w' = p.now) Q rest (a.put dst (.agg (stv s)))) : wpQuiet Tryz.prog ops (fun w' => ∃ p : Later w, w' = p.now) Q (⟨dst, .load 36 x, ty, pos, after, g⟩ :: rest) a := by
  unfold wpQuiet
  rw [if_pos hw]
  refine ⟨.agg (stv s), fun w' hw' => ?_, h⟩
  obtain ⟨p, rfl⟩ := hw'
  unfold Oper.quietAt execOp
  simp only [hx, Instr.loadAt, Instr.sureAddr, Sem.run_bind, Sem.run_pure, Result.andThen_ok, run_loadVar_row p.now b 36 36 (stv s) (0, 0) _ (hT.later p.below) Tryz.underlying36 rfl (rt_size s)]
  exact ⟨rfl, rfl⟩
theorem quiet_st (hx : a.eval x = .pointer (some ⟨b, 0, none⟩)) (hT : StAt w b s) (hw : Region.wanted ⟨dst, .load 30 x, ty, pos, after, g⟩ (yielded ops a.tmps) = true)
    (h : wpQuiet Tryz.prog ops (fun w' => ∃ p : Later w, w' = p.now) Q rest (a.put dst (.agg (stv s)))) : wpQuiet Tryz.prog ops (fun w' => ∃ p : Later w, w' = p.now) Q (⟨dst, .load 30 x, ty, pos, after, g⟩ :: rest) a := by
  unfold wpQuiet
  rw [if_pos hw]
  refine ⟨.agg (stv s), fun w' hw' => ?_, h⟩
  obtain ⟨p, rfl⟩ := hw'
  unfold Oper.quietAt execOp
  simp only [hx, Instr.loadAt, Instr.sureAddr, Sem.run_bind, Sem.run_pure, Result.andThen_ok, run_loadVar_row p.now b 30 30 (stv s) (0, 0) _ (hT.later p.below) Tryz.underlying30 rfl (st_size s)]
  exact ⟨rfl, rfl⟩
end

/-! ### the document's small functions -/
set_option maxRecDepth 100000
theorem rid_any (n : Int) (w : World) : Calls Tryz.prog 28 #[.int .i64 n] w fun e w' => e = .returned (.bool (betB 1 4294967296 n)) ∧ w = w' := by
  by_cases h1 : 1 ≤ n
  · by_cases h2 : n ≤ 4294967296
    · have hb : betB 1 4294967296 n = true := bet_iff.2 ⟨h1, h2⟩
      go_enter Tryz.func28, Tryz.ntmps28
      go_wp2
      go_ret
      first | exact ⟨rfl, rfl⟩ | exact ⟨by rw [hb]; rfl, rfl⟩
    · have hb : betB 1 4294967296 n = false := by rw [← Bool.not_eq_true, bet_iff]; omega
      go_enter Tryz.func28, Tryz.ntmps28
      go_wp2
      go_ret
      first | exact ⟨rfl, rfl⟩ | exact ⟨by rw [hb]; rfl, rfl⟩
  · have hb : betB 1 4294967296 n = false := by rw [← Bool.not_eq_true, bet_iff]; omega
    go_enter Tryz.func28, Tryz.ntmps28
    go_wp2
    go_ret
    first | exact ⟨rfl, rfl⟩ | exact ⟨by rw [hb]; rfl, rfl⟩
theorem rep_any (n : Int) (w : World) : Calls Tryz.prog 29 #[.int .i64 n] w fun e w' => e = .returned (.bool (betB 0 281474976710656 n)) ∧ w = w' := by
  by_cases h1 : 0 ≤ n
  · by_cases h2 : n ≤ 281474976710656
    · have hb : betB 0 281474976710656 n = true := bet_iff.2 ⟨h1, h2⟩
      go_enter Tryz.func29, Tryz.ntmps29
      go_wp2
      go_ret
      first | exact ⟨rfl, rfl⟩ | exact ⟨by rw [hb]; rfl, rfl⟩
    · have hb : betB 0 281474976710656 n = false := by rw [← Bool.not_eq_true, bet_iff]; omega
      go_enter Tryz.func29, Tryz.ntmps29
      go_wp2
      go_ret
      first | exact ⟨rfl, rfl⟩ | exact ⟨by rw [hb]; rfl, rfl⟩
  · have hb : betB 0 281474976710656 n = false := by rw [← Bool.not_eq_true, bet_iff]; omega
    go_enter Tryz.func29, Tryz.ntmps29
    go_wp2
    go_ret
    first | exact ⟨rfl, rfl⟩ | exact ⟨by rw [hb]; rfl, rfl⟩
set_option maxHeartbeats 2000000 in
theorem rknows_any (s : Sv) (l : List Kn) (id : Int) (w : World) (hl : KnAt w s.a s.n l) (hN : s.n ≤ 9223372036854775806) : Calls Tryz.prog 30 #[.agg (stv s), .int .i64 id] w (Says (anyB l id || (id == s.i)) w) := by
  have HS : Hid (RAt (w.alloc (.cells (stv s) 36)) w.heap.size s) := Lib.hid (RAt.new w s)
  have HB0 : Hid (Below w.heap.size w (w.alloc (.cells (stv s) 36))) := Lib.hid ((Below.refl _ w).alloc (Nat.le_refl _) _)
  have HL := Lib.hid (hl.up HB0.out)
  have hn := hl.1
  obtain ⟨R, HR⟩ : ∃ R, Hid ((anyB l id || (id == s.i)) = R) := ⟨_, Lib.hid rfl⟩
  rw [HR.out]
  obtain ⟨si, sm, sc, sv, sf, A, n, cap, T⟩ := s
  simp only at hn hN HR
  clear hl
  obtain ⟨c0, c1, c2, c3, c4, c5⟩ := HS.out.box
  simp only at c0 c1 c2 c3 c4 c5
  go_enter Tryz.func30, Tryz.ntmps30
  go_wp2
  obtain ⟨w1, hw1⟩ : ∃ w1, w.alloc (.cells (stv ⟨si, sm, sc, sv, sf, A, n, cap, T⟩) 36) = w1 := ⟨_, rfl⟩
  rw [hw1] at HS HB0 HL c0 c1 c2 c3 c4 c5 ⊢
  clear hw1
  go_loop [5] (fun i => ∃ k : Nat, k ≤ n ∧ i = .int .i64 (k : Int) ∧ Hid (∀ j, j < k → (atK l j).i ≠ id)) (fun i => n - (intOf i).toNat)
  case atStart => exact ⟨0, Nat.zero_le _, rfl, Lib.hid fun j hj => absurd hj (by omega)⟩
  case round =>
    obtain ⟨k, hkn, rfl, hall⟩ := hrel
    by_cases hlt : k < n
    · obtain ⟨ad, r, hA, hr, hltb, d0, _, _⟩ := HL.out.at_ hlt
      subst hA
      have hk1 : 0 ≤ (k : Int) := by omega
      by_cases he : r.i = id
      · have hq : (r.i == id) = true := by simpa using he
        have HX : Hid (R = true) := Lib.hid (by rw [← HR.out, any_yes hr he]; rfl)
        go_wp2
        go_ret
        exact ⟨by rw [HX.out]; rfl, HB0.out⟩
      · have hq : (r.i == id) = false := by simpa using he
        have hnx := Lib.hid (fun (j : Nat) (hj : j < k + 1) => (show (atK l j).i ≠ id from by
          rcases Nat.lt_or_ge j k with h | h
          · exact hall.out j h
          · have : j = k := by omega
            subst this
            rw [at_some hr]; exact he))
        go_wp2
        go_round
        case rel => exact ⟨k + 1, by omega, by go_num, hnx⟩
        case measure => simp [intOf]; omega
    · obtain rfl : k = n := by omega
      have HX : Hid (R = (id == si)) := Lib.hid (by rw [← HR.out, any_no (fun j hj => hall.out j (by omega))]; rfl)
      go_wp2
      go_ret
      exact ⟨by rw [HX.out]; rfl, HB0.out⟩
end Go.Proofs.YtmjbacmaafbdlaaGreatDoor.R
