/-
  WHAT IS PROVED: what the library's variables and the program's own must hold, and that it lasts; contracts of command.number, command.set and a first word's line. Condition: those variables hold what the program's text lays there.
-/
import Derived.Test.YtogaaomedfpdnaaDoorSA
import Derived.Test.YtogaaomedfpdnaaDoorFy
import Derived.Test.YtogaaomedfpdnaaDoorRp
import Derived.Lib.SmallJoins
namespace Go.Proofs.YtogaaomedfpdnaaDoor
set_option maxRecDepth 100000
open Go.RowKit

/-- strconv's two errors hold an error, its table the powers of ten, firsts the first words -/
def Env (w : World) : Prop := S.Errs w ∧ Lib.TabIs Tryd.prog w "internal/strconv.uint64pow10" .u64 Lib.pow10Tab ∧ FirstsAt w
theorem g_pow : Tryd.prog.globalNamed "internal/strconv.uint64pow10" = some 4 := by kernel_rfl
theorem Env.below {w w' : World} (h : Env w) (hb : Below w.heap.size w w') : Env w' := by
  obtain ⟨h1, h2, h3⟩ := h
  exact ⟨h1.below hb, Go.Joins.tab_stays g_pow h2 hb (Nat.le_refl _), h3.below hb⟩
theorem Env.alloc {w : World} (h : Env w) (o : Obj) : Env (w.alloc o) := h.below ((Below.refl _ _).alloc (Nat.le_refl _) o)
theorem below_grown_draws (w : World) (k : Nat) (os : Array Obj) : Below w.heap.size w (Go.Sort.grow (w.drewN k) os) :=
  ⟨rfl, rfl, rfl, by simp [Go.Sort.grow], fun i hi => by
    show (w.heap ++ os)[i]? = w.heap[i]?
    rw [Array.getElem?_append_left hi]⟩
def AStr (b : List UInt8) (w : World) (e : Ending) (w' : World) : Prop := e = .returned (.string (str b)) ∧ Below w.heap.size w w'
theorem itoa_any (z : Int) (h0 : -9223372036854775808 ≤ z) (h1 : z ≤ 9223372036854775807) (w : World) (hE : Env w) : Calls Tryd.prog 31 #[.int .i64 z] w (AStr (itL z) w) :=
  (Tryd.strconv_Itoa z h0 h1 w hE.2.1).mono fun _ _ ⟨he, k, os, hw⟩ => ⟨he, hw ▸ below_grown_draws w k os⟩
theorem cut1_any (l : List UInt8) (c : UInt8) (hl : l.length ≤ 4294967296) (w : World) : Calls Tryd.prog 13 #[.string (str l), .string (str [c])] w fun e w' =>
    e = .returned (.tuple #[.string (str (cutL l c).1), .string (str (cutL l c).2.1), .bool (cutL l c).2.2]) ∧ Below w.heap.size w w' :=
  (cut_any l c w (by omega)).mono fun _ _ ⟨he, n, hw⟩ => ⟨he, hw ▸ below_drewN (Below.refl _ _) n⟩

/-! ### a number -/
theorem numC_ok {d : List UInt8} {v : Int} (h : Lib.atoiAll d = .ok v) : numC d = if 0 ≤ v ∧ v ≤ 999999999999999 ∧ dg v = d then some v else none := by
  unfold numC atoiO; rw [h]
theorem numC_bad {d : List UInt8} (h : ∀ v, Lib.atoiAll d ≠ .ok v) : numC d = none := by
  unfold numC atoiO
  split
  · rename_i z hz
    split at hz
    · rename_i v hv; exact absurd hv (h v)
    · cases hz
  · rfl
def NumPost (o : Option Int) (w : World) (e : Ending) (w' : World) : Prop := Below w.heap.size w w' ∧ ∃ z, e = .returned (.tuple #[.int .i64 z, .bool o.isSome]) ∧ ∀ x, o = some x → z = x
set_option maxHeartbeats 1000000 in
theorem cnumber_any (d : List UInt8) (hd : d.length ≤ 4294967296) (w : World) (hE : Env w) : Calls Tryd.prog 27 #[.string (str d)] w (NumPost (numC d) w) := by
  have HE := Lib.hid hE
  clear hE
  go_enter Tryd.func27, Tryd.ntmps27
  go_wp2_with (fail)
  refine (S.atoi_any d hd _ HE.out.1).mono ?_
  rintro e w1 ⟨hb1, ⟨v, hv, rfl⟩ | ⟨hv, v, t, p, rfl⟩⟩
  · have HB1 := Lib.hid hb1
    have HN := Lib.hid (numC_ok hv)
    clear hb1 hv
    by_cases h0 : 0 ≤ v
    · by_cases h1 : v ≤ 999999999999999
      · have HI := Lib.hid (itoa_any v (by omega) (by omega) w1 (HE.out.below HB1.out))
        rw [itL_pos h0] at HI
        go_wp2_with (fail)
        refine HI.out.mono ?_
        rintro e w2 ⟨rfl, hb2⟩
        have HB2 := Lib.hid (HB1.out.trans (hb2.mono HB1.out.size))
        clear hb2 HI
        by_cases hq : dg v = d
        · have q : ((str (dg v)).toList == (str d).toList) = true := by rw [str_toList, str_toList]; simpa using hq
          have HX := Lib.hid (HN.out.trans (if_pos ⟨h0, h1, hq⟩))
          clear hq HN
          go_wp2
          go_ret2
          exact ⟨HB2.out, v, by rw [HX.out]; rfl, fun x hx => by rw [HX.out] at hx; injection hx⟩
        · have q : ((str (dg v)).toList == (str d).toList) = false := by rw [str_toList, str_toList]; simpa using hq
          have HX := Lib.hid (HN.out.trans (if_neg (fun g => hq g.2.2)))
          clear hq HN
          go_wp2
          go_ret2
          exact ⟨HB2.out, v, by rw [HX.out]; rfl, fun x hx => by rw [HX.out] at hx; cases hx⟩
      · have HX := Lib.hid (HN.out.trans (if_neg (fun g => h1 g.2.1)))
        have q : decide (v ≤ 999999999999999) = false := decide_eq_false h1
        clear HN
        go_wp2
        go_ret2
        exact ⟨HB1.out, v, by rw [HX.out]; rfl, fun x hx => by rw [HX.out] at hx; cases hx⟩
    · have HX := Lib.hid (HN.out.trans (if_neg (fun g => h0 g.1)))
      have q : decide (0 ≤ v) = false := decide_eq_false h0
      clear HN
      go_wp2
      go_ret2
      exact ⟨HB1.out, v, by rw [HX.out]; rfl, fun x hx => by rw [HX.out] at hx; cases hx⟩
  · have HB1 := Lib.hid hb1
    have HX := Lib.hid (numC_bad hv)
    clear hb1 hv
    go_wp2
    go_ret2
    exact ⟨HB1.out, v, by rw [HX.out]; rfl, fun x hx => by rw [HX.out] at hx; cases hx⟩

/-! ### a set -/
def setC (t : List UInt8) : Bool := decide ((S.parseP t).2 = 0) && decide ((S.parseP t).1 ≠ 0)
set_option maxHeartbeats 1000000 in
theorem cset_any (t : List UInt8) (ht : t.length ≤ 4294967296) (w : World) (hE : Env w) : Calls Tryd.prog 28 #[.string (str t)] w fun e w' => e = .returned (.tuple #[.int .u64 ((S.parseP t).1 : Int), .bool (setC t)]) ∧ Below w.heap.size w w' := by
  have HP := Lib.hid (fun W (hW : S.Errs W) => S.parse_any t ht W hW)
  have HE := Lib.hid hE
  clear hE
  unfold setC
  generalize S.parseP t = r at *
  obtain ⟨s, z⟩ := r
  simp only at HP ⊢
  go_enter Tryd.func28, Tryd.ntmps28
  go_wp2_with (fail)
  refine (HP.out _ HE.out.1).mono ?_
  rintro e w1 ⟨rfl, hb1⟩
  have HB1 := Lib.hid hb1
  clear hb1
  by_cases hz : z = 0
  · have q : (z == 0) = true := by simpa using hz
    by_cases hs : s = 0
    · have q2 : (((s : Nat) : Int) != 0) = false := by rw [hs]; rfl
      have HX : Hid ((decide (z = 0) && decide (s ≠ 0)) = false) := Lib.hid (by simp [hs])
      clear hz hs
      go_wp2
      go_ret2
      exact ⟨by rw [HX.out]; rfl, HB1.out⟩
    · have q2 : (((s : Nat) : Int) != 0) = true := by rw [bne_iff_ne]; omega
      have HX : Hid ((decide (z = 0) && decide (s ≠ 0)) = true) := Lib.hid (by simp [hs, hz])
      clear hz hs
      go_wp2
      go_ret2
      exact ⟨by rw [HX.out]; rfl, HB1.out⟩
  · have q : (z == 0) = false := by simpa using hz
    have HX : Hid ((decide (z = 0) && decide (s ≠ 0)) = false) := Lib.hid (by simp [hz])
    clear hz
    go_wp2
    go_ret2
    exact ⟨by rw [HX.out]; rfl, HB1.out⟩
end Go.Proofs.YtogaaomedfpdnaaDoor
