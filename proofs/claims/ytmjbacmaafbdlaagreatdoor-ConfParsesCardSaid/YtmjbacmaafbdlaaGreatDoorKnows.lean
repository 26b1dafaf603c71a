/-
  WHAT IS PROVED: contracts of (State).rightKnown, (State).knows and the library's search that it calls. Condition: the known ones lie in memory.
-/
import Derived.Test.YtmjbacmaafbdlaaGreatDoorFns
namespace Go.Proofs.YtmjbacmaafbdlaaGreatDoor
open Go.RowKit C

def kz : Kn := ⟨0, 0, 0⟩
def atK (l : List Kn) (j : Nat) : Kn := l.getD j kz
def lastK (l : List Kn) (k : Nat) : Int := if k = 0 then 0 else (atK l (k - 1)).i
def stepB (id last : Int) (k : Kn) : Bool := knB k && (k.i != id) && decide (last < k.i)
/-- are the known ones right, and rise by their ids -/
def rkB (id : Int) (l : List Kn) : Bool := (List.range l.length).all fun j => stepB id (lastK l j) (atK l j)
theorem rk_iff {id : Int} {l : List Kn} : rkB id l = true ↔ ∀ j, j < l.length → stepB id (lastK l j) (atK l j) = true := by
  unfold rkB; simp
theorem rk_no {id : Int} {l : List Kn} {j : Nat} (hj : j < l.length) (h : stepB id (lastK l j) (atK l j) = false) : rkB id l = false := by
  rw [← Bool.not_eq_true]
  intro h'
  rw [rk_iff.1 h' j hj] at h
  cases h
theorem at_some {l : List Kn} {j : Nat} {r : Kn} (h : l[j]? = some r) : atK l j = r := by unfold atK; rw [List.getD_eq_getElem?_getD, h]; rfl
theorem last_succ (l : List Kn) (j : Nat) : lastK l (j + 1) = (atK l j).i := by unfold lastK; rw [if_neg (by omega)]; rfl
def fewB (s : Sv) (l : List Kn) : Bool := decide (s.n ≤ 15) && rkB s.i l

/-- a list that lies in memory, seen from behind whatever was laid since -/
theorem KnAt.up {w w' : World} {A : Option Addr} {n : Nat} {l : List Kn} (h : KnAt w A n l) (hb : Below w.heap.size w w') : KnAt w' A n l := h.below hb
/-- a new variable of type Known -/
def KBx (w : World) (b : Nat) (k : Kn) : Prop := Blk w b 52 #[.int .i64 k.i, .int .i64 k.m, .int .i64 k.c]
theorem KBx.new (w : World) (k : Kn) : KBx (w.alloc (.cells #[.int .i64 k.i, .int .i64 k.m, .int .i64 k.c] 52)) w.heap.size k := Blk.new _ _ _
theorem KBx.box {w : World} {b : Nat} {k : Kn} (h : KBx w b k) : w.cell? ⟨b, 0, none⟩ = some (.int .i64 k.i) ∧ w.cell? ⟨b, 1, none⟩ = some (.int .i64 k.m) ∧ w.cell? ⟨b, 2, none⟩ = some (.int .i64 k.c) := ⟨Blk.cell h 0, Blk.cell h 1, Blk.cell h 2⟩
theorem KBx.later {w w' : World} {b : Nat} {k : Kn} (h : KBx w b k) (hb : Below w.heap.size w w') : KBx w' b k := Blk.below h hb (Blk.lt h)

set_option maxRecDepth 100000 in
set_option maxHeartbeats 2000000 in
theorem rightknown_any (s : Sv) (l : List Kn) (w : World) (hl : KnAt w s.a s.n l) : Calls Tryz.prog 34 #[.agg (stv s)] w (Says (fewB s l) w) := by
  have HS : Hid (StAt (w.alloc (.cells (stv s) 30)) w.heap.size s) := Lib.hid (StAt.new w s)
  have HB0 : Hid (Below w.heap.size w (w.alloc (.cells (stv s) 30))) := Lib.hid ((Below.refl _ w).alloc (Nat.le_refl _) _)
  obtain ⟨si, sm, sc, sv, sf, A, n, cap, T⟩ := s
  have hn : l.length = n := hl.1
  have HF : Hid (fewB ⟨si, sm, sc, sv, sf, A, n, cap, T⟩ l = (decide (n ≤ 15) && rkB si l)) := rfl
  have HL : Hid (KnAt (w.alloc (.cells (stv ⟨si, sm, sc, sv, sf, A, n, cap, T⟩) 30)) A n l) := Lib.hid (hl.up HB0.out)
  clear hl
  obtain ⟨c0, c1, c2, c3, c4, c5⟩ := HS.out.box
  simp only at c0 c1 c2 c3 c4 c5
  generalize fewB ⟨si, sm, sc, sv, sf, A, n, cap, T⟩ l = R at *
  by_cases h15 : n ≤ 15
  · have hq2 : decide (15 < (n : Int)) = false := by simp; omega
    have HF2 : Hid (R = rkB si l) := Lib.hid (by rw [HF.out]; simp [h15])
    clear HF
    go_enter Tryz.func34, Tryz.ntmps34
    go_wp2
    obtain ⟨w1, hw1⟩ : ∃ w1, w.alloc (.cells (stv ⟨si, sm, sc, sv, sf, A, n, cap, T⟩) 30) = w1 := ⟨_, rfl⟩
    rw [hw1] at HS HB0 HL c0 c1 c2 c3 c4 c5 ⊢
    clear hw1
    go_loopw [3, 13] (fun q i wr => ∃ k : Nat, k ≤ n ∧ i = .int .i64 k ∧ q = .int .i64 (lastK l k) ∧ Hid (Below w1.heap.size w1 wr) ∧ Hid (∀ j, j < k → stepB si (lastK l j) (atK l j) = true)) (fun _ i _ => n - (intOf i).toNat)
    case atStart => exact ⟨0, by omega, rfl, rfl, Lib.hid (Below.refl _ _), Lib.hid fun j hj => absurd hj (by omega)⟩
    case round =>
      obtain ⟨k, hk, rfl, rfl, hb, hall⟩ := hrel
      by_cases hlt : k < n
      · obtain ⟨ad, r, hA, hr, hlt2, d0, d1, d2⟩ := (HL.out.below hb.out).at_ hlt
        subst hA
        have HR := Lib.hid (at_some hr)
        have HSW := Lib.hid (HS.out.later hb.out)
        obtain ⟨ri, rm, rc⟩ := r
        simp only at d0 d1 d2
        have HK := Lib.hid (KBx.new wr ⟨ri, rm, rc⟩)
        have HE : Hid (Below wr.heap.size wr (wr.alloc (.cells #[.int .i64 ri, .int .i64 rm, .int .i64 rc] 52))) := Lib.hid ((Below.refl _ _).alloc (Nat.le_refl _) _)
        obtain ⟨g0, g1, g2⟩ := HK.out.box
        simp only at g0 g1 g2
        obtain ⟨b1, B1⟩ : ∃ b, Hid (knB ⟨ri, rm, rc⟩ = b) := ⟨_, Lib.hid rfl⟩
        have HST : Hid (stepB si (lastK l k) (atK l k) = (b1 && (ri != si) && decide (lastK l k < ri))) := Lib.hid (by rw [HR.out, ← B1.out]; rfl)
        have HNO : Hid (stepB si (lastK l k) (atK l k) = false → R = false) := Lib.hid fun h => by rw [HF2.out]; exact rk_no (by omega) h
        have HNX : Hid (lastK l (k + 1) = ri) := Lib.hid (by rw [last_succ, HR.out])
        clear hr
        obtain ⟨la, HLA⟩ : ∃ la, Hid (lastK l k = la) := ⟨_, Lib.hid rfl⟩
        rw [HLA.out] at HST HNO ⊢
        go_wp2_with (fail)
        refine (kright_any ⟨ri, rm, rc⟩ _).mono ?_
        rintro e w2 ⟨rfl, hb2⟩
        have HK2 := HK.out.later hb2
        have HS2 := HSW.out.later (HE.out.trans (hb2.mono HE.out.size))
        have HB2 := Lib.hid (hb.out.trans ((HE.out.trans (hb2.mono HE.out.size)).mono hb.out.size))
        obtain ⟨x0, _⟩ := HS2.box
        obtain ⟨y0, _, _⟩ := HK2.box
        simp only at x0 y0
        rw [B1.out]
        clear hb2 HK2 HS2 HE HK d0 d1 d2 g0 g1 g2
        cases b1
        · go_wp2
          go_ret
          exact ⟨by rw [HNO.out (by rw [HST.out]; rfl)]; rfl, HB0.out.trans (HB2.out.mono HB0.out.size)⟩
        · by_cases hi : ri = si
          · subst hi
            go_wp2
            go_ret
            exact ⟨by rw [HNO.out (by rw [HST.out]; simp)]; simp, HB0.out.trans (HB2.out.mono HB0.out.size)⟩
          · have hi1 : (ri == si) = false := by simpa using hi
            by_cases hla : la < ri
            · have hq : decide (ri ≤ la) = false := by simp; omega
              have HYES : Hid (stepB si la (atK l k) = true) := Lib.hid (by rw [HST.out]; simp [hi, hla])
              clear hi hla
              go_wp2
              go_roundw
              case rel => exact ⟨k + 1, by omega, by go_num, by rw [HNX.out], HB2, Lib.hid fun j hj => by
                rcases Nat.lt_or_ge j k with h | h
                · exact hall.out j h
                · obtain rfl : k = j := by omega
                  rw [HLA.out]; exact HYES.out⟩
              case measure => simp [intOf]; omega
            · have hq : decide (ri ≤ la) = true := by simp; omega
              have HNY : Hid (stepB si la (atK l k) = false) := Lib.hid (by rw [HST.out]; simp [hla])
              clear hi hla
              go_wp2
              go_ret
              exact ⟨by rw [HNO.out HNY.out]; rfl, HB0.out.trans (HB2.out.mono HB0.out.size)⟩
      · obtain rfl : n = k := by omega
        have HY : Hid (R = true) := Lib.hid (by rw [HF2.out]; exact rk_iff.2 fun j hj => hall.out j (by omega))
        go_wp2
        go_ret
        exact ⟨by rw [HY.out]; rfl, HB0.out.trans (hb.out.mono HB0.out.size)⟩
  · have hq2 : decide (15 < (n : Int)) = true := by simp; omega
    have HF2 : Hid (R = false) := Lib.hid (by rw [HF.out]; simp [h15])
    clear HF
    go_enter Tryz.func34, Tryz.ntmps34
    go_wp2
    go_ret
    exact ⟨by rw [HF2.out]; rfl, HB0.out⟩
end Go.Proofs.YtmjbacmaafbdlaaGreatDoor

/-
  WHAT IS PROVED: contracts of (State).knows, its closure and the library's search that it calls. Condition: the known ones lie in memory.
-/
namespace Go.Proofs.YtmjbacmaafbdlaaGreatDoor
open Go.RowKit C

def anyB (l : List Kn) (id : Int) : Bool := l.any fun k => k.i == id
theorem any_no {l : List Kn} {id : Int} (h : ∀ j, j < l.length → (atK l j).i ≠ id) : anyB l id = false := by
  unfold anyB
  rw [List.any_eq_false]
  intro x hx
  obtain ⟨j, hj, rfl⟩ := List.getElem_of_mem hx
  have := h j hj
  rw [at_some (List.getElem?_eq_getElem hj)] at this
  simpa using this
theorem any_yes {l : List Kn} {id : Int} {j : Nat} {r : Kn} (h : l[j]? = some r) (hr : r.i = id) : anyB l id = true := by
  unfold anyB
  rw [List.any_eq_true]
  exact ⟨r, List.mem_of_getElem? h, by simpa using hr⟩

set_option maxRecDepth 100000 in
theorem knows1_any (k : Kn) (b : Nat) (id : Int) (w : World) (hb : w.cell? ⟨b, 0, none⟩ = some (.int .i64 id)) (hlt : b < w.heap.size) :
    Calls Tryz.prog 71 #[vKn k, .pointer (some ⟨b, 0, none⟩)] w (Says (k.i == id) w) := by
  obtain ⟨i, m, c⟩ := k
  have hb2 : (w.alloc (.cells #[.int .i64 i, .int .i64 m, .int .i64 c] 52)).cell? ⟨b, 0, none⟩ = some (.int .i64 id) := (((Below.refl _ w).alloc (Nat.le_refl _) _).cell (p := ⟨b, 0, none⟩) hlt).trans hb
  have close : ∀ o : Obj, Below w.heap.size w (w.alloc o) := fun o => (Below.refl _ w).alloc (Nat.le_refl _) o
  go_enter Tryz.func71, Tryz.ntmps71
  go_wp2
  go_ret
  exact ⟨rfl, close _⟩

/-- what a search hands back: a place, or -1 -/
def Found (b : Bool) (w : World) (e : Ending) (w' : World) : Prop := Below w.heap.size w w' ∧ ∃ z : Int, e = .returned (.int .i64 z) ∧ decide (0 ≤ z) = b
set_option maxRecDepth 100000 in
set_option maxHeartbeats 2000000 in
theorem indexk_any (A : Option Addr) (n cap : Nat) (l : List Kn) (b : Nat) (id : Int) (w : World) (hl : KnAt w A n l) (hb : w.cell? ⟨b, 0, none⟩ = some (.int .i64 id)) (hlt : b < w.heap.size) (hN : n ≤ 9223372036854775807) :
    Calls Tryz.prog 96 #[.slice A n cap, .func (.func 71) #[] #[.pointer (some ⟨b, 0, none⟩)]] w (Found (anyB l id) w) := by
  have hn : l.length = n := hl.1
  have HL := Lib.hid hl
  have HC := Lib.hid hb
  have HLT := Lib.hid hlt
  clear hl hb hlt
  go_enter Tryz.func96, Tryz.ntmps96
  go_wp2
  go_loopw [8] (fun i wr => ∃ k : Nat, k ≤ n ∧ i = .int .i64 k ∧ Hid (Below w.heap.size w wr) ∧ Hid (∀ j, j < k → (atK l j).i ≠ id)) (fun i _ => n - (intOf i).toNat)
  case atStart => exact ⟨0, by omega, rfl, Lib.hid (Below.refl _ _), Lib.hid fun j hj => absurd hj (by omega)⟩
  case round =>
    obtain ⟨k, hk, rfl, hb, hall⟩ := hrel
    by_cases hlt : k < n
    · obtain ⟨ad, r, hA, hr, hlt2, d0, d1, d2⟩ := (HL.out.below hb.out).at_ hlt
      subst hA
      obtain ⟨ri, rm, rc⟩ := r
      simp only at d0 d1 d2
      have HR := Lib.hid hr
      clear hr
      go_wp2_with (fail)
      refine (knows1_any ⟨ri, rm, rc⟩ b id _ ((hb.out.cell (p := ⟨b, 0, none⟩) HLT.out).trans HC.out) (Nat.lt_of_lt_of_le HLT.out hb.out.size)).mono ?_
      rintro e w2 ⟨rfl, hb2⟩
      have HB2 := Lib.hid (hb.out.trans (hb2.mono hb.out.size))
      clear hb2 d0 d1 d2
      by_cases hi : ri = id
      · have HY := Lib.hid (any_yes HR.out hi)
        have hq : (ri == id) = true := by simpa using hi
        clear hi
        simp only [hq]
        go_wp2
        go_ret
        exact ⟨HB2.out, _, rfl, by rw [HY.out]; simp⟩
      · have hq : (ri == id) = false := by simpa using hi
        have HI := Lib.hid hi
        clear hi
        simp only [hq]
        go_wp2
        go_roundw
        case rel => exact ⟨k + 1, by omega, by go_num, HB2, Lib.hid fun j hj => by
            rcases Nat.lt_or_ge j k with h | h
            · exact hall.out j h
            · obtain rfl : k = j := by omega
              rw [at_some HR.out]; exact HI.out⟩
        case measure => simp [intOf]; omega
    · obtain rfl : n = k := by omega
      have HN := Lib.hid (any_no (l := l) (id := id) fun j hj => hall.out j (by omega))
      go_wp2
      go_ret
      exact ⟨hb.out, _, rfl, by rw [HN.out]; rfl⟩

set_option maxRecDepth 100000 in
theorem containsk_any (A : Option Addr) (n cap : Nat) (l : List Kn) (b : Nat) (id : Int) (w : World) (hl : KnAt w A n l) (hb : w.cell? ⟨b, 0, none⟩ = some (.int .i64 id)) (hlt : b < w.heap.size) (hN : n ≤ 9223372036854775807) :
    Calls Tryz.prog 70 #[.slice A n cap, .func (.func 71) #[] #[.pointer (some ⟨b, 0, none⟩)]] w (Says (anyB l id) w) := by
  go_enter Tryz.func70, Tryz.ntmps70
  go_wp2_with (fail)
  refine (indexk_any A n cap l b id w hl hb hlt hN).mono ?_
  rintro e w2 ⟨hb2, z, rfl, hz⟩
  have HZ := Lib.hid hz
  clear hz hl hb hlt
  go_wp2
  go_ret
  exact ⟨by rw [← HZ.out]; rfl, hb2⟩

set_option maxRecDepth 100000 in
theorem knows_any (s : Sv) (l : List Kn) (id : Int) (w : World) (hl : KnAt w s.a s.n l) (hN : s.n ≤ 9223372036854775807) : Calls Tryz.prog 55 #[.agg (stv s), .int .i64 id] w (Says (anyB l id) w) := by
  have hmf : ∀ (fn : Fn) (first cap : Array Value) (w : World), (Instr.makeFunc fn first cap).run Tryz.prog w = .ok (.func fn first cap) w := fun _ _ _ _ => rfl
  have HS := Lib.hid ((StAt.new w s).alloc (.cells #[.int .i64 id] 3))
  have HB : Hid (Below w.heap.size w ((w.alloc (.cells (stv s) 30)).alloc (.cells #[.int .i64 id] 3))) := Lib.hid (((Below.refl _ w).alloc (Nat.le_refl _) _).alloc (by simp) _)
  have HI : Hid (Blk ((w.alloc (.cells (stv s) 30)).alloc (.cells #[.int .i64 id] 3)) (w.heap.size + 1) 3 #[.int .i64 id]) := Lib.hid (by
    have := Blk.new (w.alloc (.cells (stv s) 30)) 3 #[.int .i64 id]
    simpa using this)
  have HL := Lib.hid (hl.below HB.out)
  obtain ⟨_, _, _, _, _, c5⟩ := HS.out.box
  clear hl
  go_enter Tryz.func55, Tryz.ntmps55
  go_wp2_with (fail)
  refine (containsk_any s.a s.n s.cap l (w.heap.size + 1) id _ HL.out (HI.out.cell 0) HI.out.lt hN).mono ?_
  rintro e w2 ⟨rfl, hb2⟩
  have HB2 := HB.out.trans (hb2.mono HB.out.size)
  clear hb2 c5
  go_wp2
  go_ret
  exact ⟨rfl, HB2⟩
end Go.Proofs.YtmjbacmaafbdlaaGreatDoor
