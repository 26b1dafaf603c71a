/-
  WHAT IS PROVED: a disk's calls. Conditions: each states its own.
-/
import Derived.Test.YtijkdibccgdomaaGreatDoorDA
import Derived.Deep.RegionHeld3
import Derived.Deep.CutRange

/-
  WHAT IS PROVED: contract of Write. Conditions: the files' number, the name's length, the bytes are there.
-/
namespace Go.Proofs.YtijkdibccgdomaaGreatDoor.Dsk
set_option maxRecDepth 100000
open Go.RowKit Go.Lib

theorem but_le {l : List Fl} (h : Good l) (hl : l.length ≤ 1000000) (x : List UInt8) : butF l x ≤ 100000000000 := by
  have h1 := done_le l x (fun _ => false)
  rw [done_end (fun _ => rfl)] at h1
  have h2 := sumF_le (fun f hf => (h.small f hf).2)
  have h3 : l.length * 100000 ≤ 1000000 * 100000 := Nat.mul_le_mul_right _ hl
  omega
theorem nameB_le {x : List UInt8} (h : nameB x = true) : x.length ≤ 16 := by
  unfold nameB at h
  simp at h
  exact h.1.2
set_option maxRecDepth 100000 in
set_option maxHeartbeats 4000000 in
theorem write_any (d g : Nat) (S : Ds) (x : List UInt8) (A : Option Addr) (n c : Nat) (b : List UInt8) (w : World) (h : Dk w d g S) (hl : S.fs.length < 1000000) (hx : x.length ≤ 1000) (hr : Rd w (FD d g) 1 A n (bs b)) (hn : n ≤ 100000) :
    Calls Tryz.prog 26 #[.pointer (some ⟨d, 0, none⟩), .string (str x), .slice A n c] w fun e w' => e = .returned (.int .i64 (writeD S x b).1) ∧ Did w d g (writeD S x b).2 w' := by
  have hbl : b.length = n := by have := hr.1; rw [bs_len] at this; omega
  unfold writeD
  obtain ⟨c0, c1, c2, c3⟩ := h.cells
  have HK := Lib.hid h
  cases hd : S.down with
  | true =>
    rw [if_pos rfl]
    rw [hd] at c3
    clear h hr hbl
    go_enter Tryz.func26, Tryz.ntmps26
    go_wp2
    go_ret
    exact ⟨rfl, Did.refl HK.out⟩
  | false =>
    rw [if_neg (by simp)]
    rw [hd] at c3
    have HR := Lib.hid hr
    have HBL := Lib.hid hbl
    cases hnm : nameB x with
    | false =>
      rw [if_pos rfl]
      have HNM := Lib.hid hnm
      clear h hr hbl hnm
      go_enter Tryz.func26, Tryz.ntmps26
      go_wp2_with (fail)
      refine (name_any x w hx).mono ?_
      rintro e w1 ⟨rfl, hb1⟩
      rw [HNM.out]
      go_wp2
      go_ret
      exact ⟨rfl, HK.out.below hb1, Turn.of_below hb1 _⟩
    | true =>
      rw [if_neg (by simp)]
      have HNM := Lib.hid hnm
      have hbt := but_le h.good (Nat.le_of_lt hl) x
      obtain ⟨q, hq⟩ : ∃ q, butF S.fs x = q := ⟨_, rfl⟩
      obtain ⟨t, ht⟩ : ∃ t : Int, t = (q : Int) + (n : Int) := ⟨_, rfl⟩
      have hw : IntKind.i64.wrap ((q : Int) + (n : Int)) = t := by rw [hq] at hbt; rw [IntKind.wrap_i64]; omega
      rw [hq, hbl, ← ht]
      have HQ := Lib.hid hq
      have HT := Lib.hid ht
      obtain ⟨room, hrm⟩ : ∃ r, S.room = r := ⟨_, rfl⟩
      have HRM := Lib.hid hrm
      have HDN := Lib.hid hd
      rw [hrm] at c1 ⊢
      by_cases hsp : room < t
      · rw [if_pos hsp]
        clear h hr hbl hnm hbt hq ht hrm
        go_enter Tryz.func26, Tryz.ntmps26
        go_wp2_with (fail)
        refine (name_any x w hx).mono ?_
        rintro e w1 ⟨rfl, hb1⟩
        rw [HNM.out]
        have c0' : w1.cell? ⟨d, 0, none⟩ = some (.map (some g)) := (hb1.cell (p := ⟨d, 0, none⟩) HK.out.lt.1).trans c0
        have c1' : w1.cell? ⟨d, 1, none⟩ = some (.int .i64 room) := (hb1.cell (p := ⟨d, 1, none⟩) HK.out.lt.1).trans c1
        have HK1 := Lib.hid (HK.out.below hb1)
        have HR1 := Lib.hid (HR.out.turn (Turn.of_below hb1 _) (Sub.refl _ _))
        have HB1 := Lib.hid hb1
        have hd1 := HK1.out.lt.1
        have c1d : w1.drew.cell? ⟨d, 1, none⟩ = some (.int .i64 room) := c1'
        clear hb1 c0 c1 c2 c3
        go_upto_region 5 with (fail)
        go_region_held3 (fun w' => w'.cell? ⟨d, 1, none⟩ = some (.int .i64 room)) (first | with_reducible exact c1d | with_reducible exact c1e | fail) (first | (go_at_call 58; refine (but_any d g S x w1.drew HK1.out.drew (Nat.le_of_lt hl)).mono ?_; rintro e w2 ⟨rfl, hb2⟩; rw [HQ.out]; have c1e : w2.cell? ⟨d, 1, none⟩ = some (.int .i64 room) := (hb2.cell (p := ⟨d, 1, none⟩) hd1).trans c1d; have HB2 := Lib.hid hb2) | fail)
        go_wp2
        go_ret
        exact ⟨rfl, HK1.out.drew.below HB2.out, (Turn.of_below HB1.out _).fd ((Turn.of_below (Below.refl _ w1).drew _).fd (Turn.of_below HB2.out _))⟩
      · rw [if_neg hsp]
        clear h hr hbl hnm hbt hq ht hrm
        go_enter Tryz.func26, Tryz.ntmps26
        go_wp2_with (fail)
        refine (name_any x w hx).mono ?_
        rintro e w1 ⟨rfl, hb1⟩
        rw [HNM.out]
        have c0' : w1.cell? ⟨d, 0, none⟩ = some (.map (some g)) := (hb1.cell (p := ⟨d, 0, none⟩) HK.out.lt.1).trans c0
        have c1' : w1.cell? ⟨d, 1, none⟩ = some (.int .i64 room) := (hb1.cell (p := ⟨d, 1, none⟩) HK.out.lt.1).trans c1
        have HK1 := Lib.hid (HK.out.below hb1)
        have HR1 := Lib.hid (HR.out.turn (Turn.of_below hb1 _) (Sub.refl _ _))
        have HB1 := Lib.hid hb1
        have hd1 := HK1.out.lt.1
        have c1d : w1.drew.cell? ⟨d, 1, none⟩ = some (.int .i64 room) := c1'
        clear hb1 c0 c1 c2 c3
        go_upto_region 5 with (fail)
        go_region_held3 (fun w' => w'.cell? ⟨d, 1, none⟩ = some (.int .i64 room)) (first | with_reducible exact c1d | with_reducible exact c1e | fail) (first | (go_at_call 58; refine (but_any d g S x w1.drew HK1.out.drew (Nat.le_of_lt hl)).mono ?_; rintro e w2 ⟨rfl, hb2⟩; rw [HQ.out]; have c1e : w2.cell? ⟨d, 1, none⟩ = some (.int .i64 room) := (hb2.cell (p := ⟨d, 1, none⟩) hd1).trans c1d; have HB2 := Lib.hid hb2) | fail)
        have hb12 : Below w1.heap.size w1 w2 := ((Below.refl _ w1).drew).trans HB2.out
        have HK2 := Lib.hid (HK1.out.below hb12)
        have HR2 := Lib.hid (HR1.out.turn (Turn.of_below hb12 _) (Sub.refl _ _))
        have HT2 : Hid (Turn w w2 (FD d g)) := Lib.hid ((Turn.of_below HB1.out _).fd (Turn.of_below hb12 _))
        have hlt2 := HK2.out.lt
        have m0 : w2.drew.cell? ⟨d, 0, none⟩ = some (.map (some g)) := HK2.out.cells.1
        have HX := Lib.hid (nameB_le HNM.out)
        clear hb2 hb12 c1e HB2 c0' c1' c1d HR1 HK1
        go_upto_region 7 with (fail)
        go_region_held3 (fun w' => w'.cell? ⟨d, 0, none⟩ = some (.map (some g))) (first | with_reducible exact m0 | with_reducible exact m1 | with_reducible exact m2 | fail) (first | (go_at_call 59; refine (clone_any A n c b w2.drew (FD d g) (HR2.out.turn (Turn.of_below (Below.refl _ w2).drew _) (Sub.refl _ _)) (by omega)).mono ?_; rintro e w3 ⟨A3, n3, c3, rfl, hl3, hc3, hm3, ho3, hb3⟩; have hk3 := HK2.out.drew.below hb3; have m1 : w3.cell? ⟨d, 0, none⟩ = some (.map (some g)) := hk3.cells.1; obtain ⟨w4, hrun, hmap4, hg4⟩ := hk3.map.store (.inr rfl) hk3.good hl (q := ⟨x, b, false⟩) (v := .agg #[.slice A3 n3 c3, .bool false]) hx ⟨A3, n3, c3, rfl, hl3, hc3, hm3, Clo.rd ho3 (fun i hi => by rcases hi with rfl | rfl; exact hlt2.1; exact hlt2.2)⟩; dsimp only at hrun; have hk4 := hk3.map_ hmap4 hg4 (hk3.good.put (by show x.length ≤ 1000; omega) (by show b.length ≤ 100000; have := HBL.out; omega)); have m2 : w4.cell? ⟨d, 0, none⟩ = some (.map (some g)) := hk4.cells.1; have HK4 := Lib.hid hk4; have HT4 : Hid (Turn w w4 (FD d g)) := Lib.hid (HT2.out.fd ((Turn.of_below (Below.refl _ w2).drew _).fd ((Turn.of_below hb3 _).fd (turn_g hg4)))); clear hk3 hk4 hmap4 hg4 hb3 ho3) | fail)
        go_wp2_with (fail)
        have HK5 : Hid (Dk w4 d g ⟨putF S.fs ⟨x, b, false⟩, room, S.left, false⟩) := by
          have h := HK4.out
          rw [HRM.out, HDN.out] at h
          exact h
        refine (spend_any d g _ w4 HK5.out).mono ?_
        rintro e w5 ⟨rfl, hk5, ht5⟩
        go_wp2
        go_ret
        exact ⟨rfl, hk5, HT4.out.fd ht5⟩
end Go.Proofs.YtijkdibccgdomaaGreatDoor.Dsk

/-
  WHAT IS PROVED: words for a file in a variable beside a disk. No condition.
-/
namespace Go.Proofs.YtijkdibccgdomaaGreatDoor.Dsk
set_option maxRecDepth 100000
open Go.RowKit Go.Lib

/-- a file's cells -/
abbrev fc (A : Option Addr) (n c : Nat) (s : Bool) : Array Value := #[.slice A n c, .bool s]
section
variable {a w w' : World} {d g n : Nat} {S : Ds} {F : Nat → Prop}
theorem Turn.set_far (h : Turn a w F) {p : Addr} (hp : a.heap.size ≤ p.block) (u : Value) : Turn a (w.setCell p u) F :=
  ⟨h.os, h.tape, h.output, by simpa [World.setCell] using h.size, fun i hi hn => (Below.heap_setCell w p u i (by omega)).trans (h.block i hi hn)⟩
theorem Turn.alloc (h : Turn a w F) (o : Obj) : Turn a (w.alloc o) F :=
  ⟨h.os, h.tape, h.output, Nat.le_trans h.size (by simp), fun i hi hn => (Below.heap_alloc w o i (Nat.lt_of_lt_of_le hi h.size)).trans (h.block i hi hn)⟩
theorem Turn.drew (h : Turn a w F) : Turn a w.drew F := ⟨h.os, h.tape, h.output, h.size, h.block⟩
/-- bytes lie in no block of a file's cells -/
theorem Rd.far {A : Option Addr} {b : List UInt8} (h : Rd w F 1 A n (bs b)) {x : Nat} {t : TypeId} {A' : Option Addr} {n' c' : Nat} {s : Bool} (hx : Blk w x t (fc A' n' c' s)) (i : Nat) (u : Value) : Rd (w.setCell ⟨x, i, none⟩ u) F 1 A n (bs b) := by
  refine ⟨h.1, fun hn => ?_⟩
  obtain ⟨ad, e, hlt, hf, hc⟩ := h.2 hn
  have hne : x ≠ ad.block := by
    intro e
    have hb : 0 < b.length := by have := h.1; rw [bs_len] at this; omega
    have h0 := hc 0 _ (show (bs b)[0]? = some (.int .u8 ((b[0].toNat : Nat) : Int)) by unfold bs; rw [List.getElem?_map, List.getElem?_eq_getElem hb]; rfl)
    have h1 : ad.add 0 = ad := by unfold Addr.add; simp
    rw [h1] at h0
    obtain ⟨bk, off, m⟩ := ad
    dsimp only at e
    subst e
    unfold Blk at hx
    simp [World.cell?, hx] at h0
    obtain ⟨_, h0⟩ := h0
    match off with
    | 0 => simp at h0
    | 1 => simp at h0
    | k + 2 => simp at h0
  refine ⟨ad, e, by simpa [World.setCell] using hlt, hf, fun j u' hu => ?_⟩
  rw [World.cell?_setCell_far _ _ _ _ (by rw [block_of_add]; exact hne)]
  exact hc j u' hu
theorem Dk.box (h : Dk w d g S) {x : Nat} {t : TypeId} {A' : Option Addr} {n' c' : Nat} {s : Bool} (hx : Blk w x t (fc A' n' c' s)) (hd : x ≠ d) (i : Nat) (u : Value) : Dk (w.setCell ⟨x, i, none⟩ u) d g S := by
  have hg : x ≠ g := hx.map_ne h.map
  refine ⟨h.blk.far (fun e => hd e.symm) u, ?_, h.good, h.left⟩
  obtain ⟨D, h1, h2⟩ := h.map
  refine ⟨D, own_turn_map h1 (Below.heap_setCell w _ u g (fun e => hg e.symm)), fun f hf => ?_, h2.has_, h2.size⟩
  obtain ⟨v, e1, A, n, c, e2, e3, e4, e5, e6⟩ := h2.at_ f hf
  exact ⟨v, e1, A, n, c, e2, e3, e4, e5, e6.far hx i u⟩
theorem fc_new (w : World) (A : Option Addr) (n c : Nat) (s : Bool) : Blk (w.alloc (.cells (fc A n c s) 93)) w.heap.size 93 (fc A n c s) := Blk.new w _ _
end
end Go.Proofs.YtijkdibccgdomaaGreatDoor.Dsk

/-
  WHAT IS PROVED: contract of Read. Conditions: the name's length.
-/
namespace Go.Proofs.YtijkdibccgdomaaGreatDoor.Dsk
set_option maxRecDepth 100000
open Go.RowKit Go.Lib

set_option maxRecDepth 100000 in
set_option maxHeartbeats 4000000 in
theorem read_any (d g : Nat) (S : Ds) (x : List UInt8) (w : World) (h : Dk w d g S) (hx : x.length ≤ 1000) :
    Calls Tryz.prog 54 #[.pointer (some ⟨d, 0, none⟩), .string (str x)] w fun e w' => ∃ A n c, e = .returned (.tuple #[.slice A n c, .int .i64 (readE S x)]) ∧ (readB S x).length = n ∧ n ≤ c ∧ c ≤ 9223372036854775807 ∧ w'.ownsRow w.heap.size 5 1 (.slice A n c) n (bs (readB S x)) ∧ Below w.heap.size w w' := by
  obtain ⟨c0, c1, c2, c3⟩ := h.cells
  obtain ⟨v, hrun, A, n, c, rfl, hl, hc, hm, hr⟩ := h.map.look_ok hx
  have hlen : n ≤ 100000 := by
    cases hh : hasF S.fs x with
    | true => have := (h.good.small _ (getF_mem hh)).2; omega
    | false => rw [getF_none hh] at hl; have : n = 0 := hl.symm; omega
  have HK := Lib.hid h
  obtain ⟨s, hs⟩ : ∃ s, (getF S.fs x).safe = s := ⟨_, rfl⟩
  rw [hs] at hrun
  have HB1 : Hid (Below w.heap.size w (w.alloc (.cells #[.slice A n c, .bool s] 93))) := (Below.refl _ w).alloc (Nat.le_refl _) _
  have c3' : (w.alloc (.cells #[.slice A n c, .bool s] 93)).cell? ⟨d, 3, none⟩ = some (.bool S.down) := (HB1.out.cell (p := ⟨d, 3, none⟩) HK.out.lt.1).trans c3
  have b0 : (w.alloc (.cells #[.slice A n c, .bool s] 93)).cell? ⟨w.heap.size, 0, none⟩ = some (.slice A n c) := (fc_new w A n c s).cell 0
  have HR := Lib.hid hr
  have HL := Lib.hid hl
  unfold readB readE
  clear h hr hl hs c1 c2 c3
  cases hd : S.down with
  | true =>
    rw [if_pos rfl, if_neg (by omega)]
    rw [hd] at c3'
    go_enter Tryz.func54, Tryz.ntmps54
    go_wp2
    go_ret2
    exact ⟨none, 0, 0, by simp, rfl, Nat.le_refl _, by omega, World.ownsRow_nil _ _ _ _, HB1.out⟩
  | false =>
    rw [if_neg (by simp)]
    rw [hd] at c3'
    cases hh : hasF S.fs x with
    | false =>
      rw [if_pos rfl, if_neg (by omega)]
      rw [hh] at hrun
      clear hh
      go_enter Tryz.func54, Tryz.ntmps54
      go_wp2
      go_ret2
      exact ⟨none, 0, 0, by simp, rfl, Nat.le_refl _, by omega, World.ownsRow_nil _ _ _ _, HB1.out⟩
    | true =>
      rw [if_neg (by simp), if_pos rfl]
      rw [hh] at hrun
      clear hh
      go_enter Tryz.func54, Tryz.ntmps54
      go_wp2_with (fail)
      refine (clone_any A n c _ _ (FD d g) (HR.out.turn (Turn.of_below HB1.out _) (Sub.refl _ _)) (by omega)).mono ?_
      rintro e w2 ⟨A2, n2, c2, rfl, hl2, hc2, hm2, ho2, hb2⟩
      have hB := HB1.out.trans (hb2.mono (by simp))
      go_wp2
      go_ret2
      exact ⟨A2, n2, c2, rfl, hl2, hc2, hm2, own_base ho2 (by simp), hB⟩
end Go.Proofs.YtijkdibccgdomaaGreatDoor.Dsk

/-
  WHAT IS PROVED: contract of Sync. Conditions: the files' number, the name's length.
-/
namespace Go.Proofs.YtijkdibccgdomaaGreatDoor.Dsk
set_option maxRecDepth 100000
open Go.RowKit Go.Lib

set_option maxRecDepth 100000 in
set_option maxHeartbeats 4000000 in
theorem sync_any (d g : Nat) (S : Ds) (x : List UInt8) (w : World) (h : Dk w d g S) (hl : S.fs.length < 1000000) (hx : x.length ≤ 1000) :
    Calls Tryz.prog 51 #[.pointer (some ⟨d, 0, none⟩), .string (str x)] w fun e w' => e = .returned (.int .i64 (syncD S x).1) ∧ Did w d g (syncD S x).2 w' := by
  obtain ⟨c0, c1, c2, c3⟩ := h.cells
  obtain ⟨v, hrun, A, n, c, rfl, hle, hc, hm, hr⟩ := h.map.look_ok hx
  have HK := Lib.hid h
  obtain ⟨s, hs⟩ : ∃ s, (getF S.fs x).safe = s := ⟨_, rfl⟩
  rw [hs] at hrun
  have hB1 : Below w.heap.size w (w.alloc (.cells #[.slice A n c, .bool s] 93)) := (Below.refl _ w).alloc (Nat.le_refl _) _
  have hbx := fc_new w A n c s
  obtain ⟨w1, hw1⟩ : ∃ x, w.alloc (.cells #[.slice A n c, .bool s] 93) = x := ⟨_, rfl⟩
  have hs1 : w1.heap.size = w.heap.size + 1 := by rw [← hw1]; simp
  have HW1 := Lib.hid hw1
  change Blk (w.alloc (.cells #[.slice A n c, .bool s] 93)) _ _ _ at hbx
  rw [hw1] at hB1 hbx
  have HB1 := Lib.hid hB1
  have HBX := Lib.hid hbx
  have HK1 := Lib.hid (h.below hB1)
  have HRW := Lib.hid hr
  have HLE := Lib.hid hle
  have hlt := h.lt
  have k3 := HK1.out.cells.2.2.2
  unfold syncD
  clear h hr hle hs hB1 hbx c1 c2 c3 hw1
  cases hd : S.down with
  | true =>
    rw [if_pos rfl]
    rw [hd] at k3
    go_enter Tryz.func51, Tryz.ntmps51
    go_upto_region 2 with (fail)
    rw [HW1.out]
    go_wp2
    go_ret
    exact ⟨rfl, HK1.out, Turn.of_below HB1.out _⟩
  | false =>
    rw [if_neg (by simp)]
    rw [hd] at k3
    cases hh : hasF S.fs x with
    | false =>
      rw [if_pos rfl]
      rw [hh] at hrun
      clear hh
      go_enter Tryz.func51, Tryz.ntmps51
      go_upto_region 2 with (fail)
      rw [HW1.out]
      go_wp2
      go_ret
      exact ⟨rfl, HK1.out, Turn.of_below HB1.out _⟩
    | true =>
      rw [if_neg (by simp)]
      rw [hh] at hrun
      have HH := Lib.hid hh
      have HD := Lib.hid hd
      have hsp := spend_fs S
      obtain ⟨r, S', hsd⟩ : ∃ r S', spendD S = (r, S') := ⟨_, _, rfl⟩
      rw [hsd] at hsp ⊢
      dsimp only at hsp ⊢
      have HSD := Lib.hid hsd
      have HSP := Lib.hid hsp.1
      clear hh hd hsp hsd
      by_cases hr0 : r = 0
      · rw [if_pos hr0]
        subst hr0
        go_enter Tryz.func51, Tryz.ntmps51
        go_upto_region 2 with (fail)
        rw [HW1.out]
        go_wp2_with (fail)
        refine (spend_any d g S w1 HK1.out).mono ?_
        rw [HSD.out]
        rintro e w2 ⟨rfl, hk2, ht2⟩
        dsimp only at hk2 ⊢
        have hbx2 : Blk w2 w.heap.size 93 (fc A n c s) := HBX.out.turn ht2 (fun f => by rcases f with f | f <;> omega)
        have b1 := hbx2.cell 1
        have f1 := hbx2.frozen 1
        have hk3 := hk2.box hbx2 (by omega) 1 (.bool true)
        have hbx3 : Blk (w2.setCell ⟨w.heap.size, 1, none⟩ (.bool true)) w.heap.size 93 (fc A n c true) := hbx2.set_ 1 (.bool true)
        have ht3 : Turn w (w2.setCell ⟨w.heap.size, 1, none⟩ (.bool true)) (FD d g) := ((Turn.of_below HB1.out _).fd ht2).set_far (Nat.le_refl _) _
        have HK3 := Lib.hid hk3
        have HBX3 := Lib.hid hbx3
        have HT3 := Lib.hid ht3
        clear hk2 ht2 hbx2 hk3 hbx3 ht3
        go_upto_region 9 with (fail)
        obtain ⟨w3, hw3⟩ : ∃ x, w2.setCell ⟨w.heap.size, 1, none⟩ (.bool true) = x := ⟨_, rfl⟩
        rw [hw3] at HK3 HBX3 HT3 ⊢
        have hk3d := HK3.out.drew
        have d0 : w3.drew.cell? ⟨d, 0, none⟩ = some (.map (some g)) := hk3d.cells.1
        have e0 : w3.drew.cell? ⟨w.heap.size, 0, none⟩ = some (.slice A n c) := HBX3.out.cell 0
        have e1 : w3.drew.cell? ⟨w.heap.size, 1, none⟩ = some (.bool true) := HBX3.out.cell 1
        obtain ⟨w4, hup, hmap4, hg4⟩ := hk3d.map.store (.inr rfl) hk3d.good (by rw [HSP.out]; exact hl) (q := { getF S.fs x with safe := true }) (v := .agg #[.slice A n c, .bool true]) (by show (getF S.fs x).name.length ≤ 1000; rw [getF_name]; exact hx) ⟨A, n, c, rfl, HLE.out, hc, hm, HRW.out.turn HT3.out.drew (Sub.refl _ _)⟩
        dsimp only at hup
        rw [getF_name] at hup
        have hsm := HK1.out.good.small _ (getF_mem HH.out)
        have hk4 := hk3d.map_ hmap4 hg4 (hk3d.good.put (f := { getF S.fs x with safe := true }) hsm.1 hsm.2)
        have d0' : w4.cell? ⟨d, 0, none⟩ = some (.map (some g)) := hk4.cells.1
        have hb4 : Blk w4 w.heap.size 93 (fc A n c true) := (HBX3.out.drew).grown hg4 (fun e => by injection e with e; omega)
        have e0' : w4.cell? ⟨w.heap.size, 0, none⟩ = some (.slice A n c) := hb4.cell 0
        have e1' : w4.cell? ⟨w.heap.size, 1, none⟩ = some (.bool true) := hb4.cell 1
        have HK4 := Lib.hid hk4
        have HT4 := Lib.hid (HT3.out.drew.fd (turn_g hg4))
        have S0 : w3.drew.cell? ⟨d, 0, none⟩ = some (.map (some g)) ∧ w3.drew.cell? ⟨w.heap.size, 0, none⟩ = some (.slice A n c) ∧ w3.drew.cell? ⟨w.heap.size, 1, none⟩ = some (.bool true) := ⟨d0, e0, e1⟩
        have S1 : w4.cell? ⟨d, 0, none⟩ = some (.map (some g)) ∧ w4.cell? ⟨w.heap.size, 0, none⟩ = some (.slice A n c) ∧ w4.cell? ⟨w.heap.size, 1, none⟩ = some (.bool true) := ⟨d0', e0', e1'⟩
        have HS0 := Lib.hid S0
        have HS1 := Lib.hid S1
        clear hk3d hmap4 hg4 hsm hk4 hb4 d0 e0 e1 d0' e0' e1' S0 S1 hw3
        go_region_held3 (fun w' => w'.cell? ⟨d, 0, none⟩ = some (.map (some g)) ∧ w'.cell? ⟨w.heap.size, 0, none⟩ = some (.slice A n c) ∧ w'.cell? ⟨w.heap.size, 1, none⟩ = some (.bool true)) (first | with_reducible exact HS0.out | with_reducible exact HS1.out | fail) (fail)
        go_wp2
        go_ret
        refine ⟨rfl, ?_, HT4.out⟩
        have := HK4.out
        rw [HSP.out] at this
        exact this
      · rw [if_neg hr0]
        have hb0 : (r == 0) = false := by simpa using hr0
        go_enter Tryz.func51, Tryz.ntmps51
        go_upto_region 2 with (fail)
        rw [HW1.out]
        go_wp2_with (fail)
        refine (spend_any d g S w1 HK1.out).mono ?_
        rw [HSD.out]
        rintro e w2 ⟨rfl, hk2, ht2⟩
        dsimp only at hk2 ⊢
        go_wp2
        go_ret
        exact ⟨rfl, hk2, (Turn.of_below HB1.out _).fd ht2⟩
end Go.Proofs.YtijkdibccgdomaaGreatDoor.Dsk

/-
  WHAT IS PROVED: contract of Rename. Conditions: the files' number, the names' lengths.
-/
namespace Go.Proofs.YtijkdibccgdomaaGreatDoor.Dsk
set_option maxRecDepth 100000
open Go.RowKit Go.Lib

set_option maxRecDepth 100000 in
set_option maxHeartbeats 4000000 in
theorem rename_any (d g : Nat) (S : Ds) (x y : List UInt8) (w : World) (h : Dk w d g S) (hl : S.fs.length < 1000000) (hx : x.length ≤ 1000) (hy : y.length ≤ 1000) :
    Calls Tryz.prog 53 #[.pointer (some ⟨d, 0, none⟩), .string (str x), .string (str y)] w fun e w' => e = .returned (.int .i64 (renameD S x y).1) ∧ Did w d g (renameD S x y).2 w' := by
  obtain ⟨c0, c1, c2, c3⟩ := h.cells
  obtain ⟨v, hrun, A, n, c, rfl, hle, hc, hm, hr⟩ := h.map.look_ok hx
  have HK := Lib.hid h
  obtain ⟨s, hs⟩ : ∃ s, (getF S.fs x).safe = s := ⟨_, rfl⟩
  rw [hs] at hrun
  have HSF := Lib.hid hs
  have hB1 : Below w.heap.size w (w.alloc (.cells #[.slice A n c, .bool s] 93)) := (Below.refl _ w).alloc (Nat.le_refl _) _
  have hbx := fc_new w A n c s
  obtain ⟨w1, hw1⟩ : ∃ x, w.alloc (.cells #[.slice A n c, .bool s] 93) = x := ⟨_, rfl⟩
  have hs1 : w1.heap.size = w.heap.size + 1 := by rw [← hw1]; simp
  have HW1 := Lib.hid hw1
  change Blk (w.alloc (.cells #[.slice A n c, .bool s] 93)) _ _ _ at hbx
  rw [hw1] at hB1 hbx
  have HB1 := Lib.hid hB1
  have HBX := Lib.hid hbx
  have HK1 := Lib.hid (h.below hB1)
  have HRW := Lib.hid hr
  have HLE := Lib.hid hle
  have hlt := h.lt
  have k3 := HK1.out.cells.2.2.2
  unfold renameD
  clear h hr hle hs hB1 hbx c1 c2 c3 hw1
  cases hd : S.down with
  | true =>
    rw [if_pos rfl]
    rw [hd] at k3
    go_enter Tryz.func53, Tryz.ntmps53
    go_upto_region 2 with (fail)
    rw [HW1.out]
    go_wp2
    go_ret
    exact ⟨rfl, HK1.out, Turn.of_below HB1.out _⟩
  | false =>
    rw [if_neg (by simp)]
    rw [hd] at k3
    cases hh : hasF S.fs x with
    | false =>
      rw [if_pos (.inl rfl)]
      rw [hh] at hrun
      clear hh
      go_enter Tryz.func53, Tryz.ntmps53
      go_upto_region 2 with (fail)
      rw [HW1.out]
      go_wp2
      go_ret
      exact ⟨rfl, HK1.out, Turn.of_below HB1.out _⟩
    | true =>
      rw [hh] at hrun
      have HH := Lib.hid hh
      cases hnm : nameB y with
      | false =>
        rw [if_pos (.inr rfl)]
        have HNM := Lib.hid hnm
        clear hh hnm
        go_enter Tryz.func53, Tryz.ntmps53
        go_upto_region 2 with (fail)
        rw [HW1.out]
        go_wp2_with (go_at_call 57; refine (name_any y w1 hy).mono ?_; rintro e w2 ⟨rfl, hb2⟩; rw [HNM.out])
        go_ret
        exact ⟨rfl, HK1.out.below hb2, (Turn.of_below HB1.out _).fd (Turn.of_below hb2 _)⟩
      | true =>
        rw [if_neg (by simp)]
        have HNM := Lib.hid hnm
        clear hnm
        have HD := Lib.hid hd
        have hsp := spend_fs S
        obtain ⟨r, S', hsd⟩ : ∃ r S', spendD S = (r, S') := ⟨_, _, rfl⟩
        rw [hsd] at hsp ⊢
        dsimp only at hsp ⊢
        have HSD := Lib.hid hsd
        have HSP := Lib.hid hsp.1
        clear hh hd hsp hsd
        by_cases hr0 : r = 0
        · rw [if_pos hr0]
          subst hr0
          go_enter Tryz.func53, Tryz.ntmps53
          go_upto_region 2 with (fail)
          rw [HW1.out]
          go_wp2_with (go_at_call 57; refine (name_any y w1 hy).mono ?_; rintro e w1' ⟨rfl, hb1'⟩; rw [HNM.out])
          have HK1' := Lib.hid (HK1.out.below hb1')
          have HBX' := Lib.hid (HBX.out.below hb1' HBX.out.lt)
          have HB1' := Lib.hid (HB1.out.trans (hb1'.mono HB1.out.size))
          have hs1' := hb1'.size
          refine (spend_any d g S w1' HK1'.out).mono ?_
          rw [HSD.out]
          rintro e w2 ⟨rfl, hk2, ht2⟩
          dsimp only at hk2 ⊢
          have hbx2 : Blk w2 w.heap.size 93 (fc A n c s) := HBX'.out.turn ht2 (fun f => by rcases f with f | f <;> omega)
          have m0 := hk2.cells.1
          have ht02 : Turn w w2 (FD d g) := (Turn.of_below HB1'.out _).fd ht2
          obtain ⟨w3, hdel, hmap3, hg3⟩ := hk2.map.del (.inr rfl) hk2.good hx 0
          have hk3 := hk2.map_ hmap3 hg3 (hk2.good.del x)
          have hbx3 : Blk w3 w.heap.size 93 (fc A n c s) := hbx2.grown hg3 (fun e => by injection e with e; omega)
          have ht3 : Turn w w3 (FD d g) := ht02.fd (turn_g hg3)
          have HK3 := Lib.hid hk3
          have HBX3 := Lib.hid hbx3
          have HT3 := Lib.hid ht3
          clear hk2 ht2 hbx2 hk3 hbx3 ht3 ht02 hmap3 hg3
          go_upto_region 9 with (fail)
          have hk3d := HK3.out.drew
          have hsm := HK1.out.good.small _ (getF_mem HH.out)
          have hdl : (delF S'.fs x).length < 1000000 := by rw [HSP.out]; exact Nat.lt_of_le_of_lt (List.length_filter_le _ _) hl
          obtain ⟨w4, hup, hmap4, hg4⟩ := hk3d.map.store (.inr rfl) hk3d.good hdl (q := { getF S.fs x with name := y }) (v := .agg #[.slice A n c, .bool s]) hy ⟨A, n, c, by rw [HSF.out], HLE.out, hc, hm, HRW.out.turn HT3.out.drew (Sub.refl _ _)⟩
          dsimp only at hup
          have hk4 := hk3d.map_ hmap4 hg4 (hk3d.good.put (f := { getF S.fs x with name := y }) hy hsm.2)
          have hb4 : Blk w4 w.heap.size 93 (fc A n c s) := (HBX3.out.drew).grown hg4 (fun e => by injection e with e; omega)
          have HK4 := Lib.hid hk4
          have HT4 := Lib.hid (HT3.out.drew.fd (turn_g hg4))
          have S0 : w3.drew.cell? ⟨d, 0, none⟩ = some (.map (some g)) ∧ w3.drew.cell? ⟨w.heap.size, 0, none⟩ = some (.slice A n c) ∧ w3.drew.cell? ⟨w.heap.size, 1, none⟩ = some (.bool s) := ⟨hk3d.cells.1, HBX3.out.cell 0, HBX3.out.cell 1⟩
          have S1 : w4.cell? ⟨d, 0, none⟩ = some (.map (some g)) ∧ w4.cell? ⟨w.heap.size, 0, none⟩ = some (.slice A n c) ∧ w4.cell? ⟨w.heap.size, 1, none⟩ = some (.bool s) := ⟨hk4.cells.1, hb4.cell 0, hb4.cell 1⟩
          have HS0 := Lib.hid S0
          have HS1 := Lib.hid S1
          clear hk3d hmap4 hg4 hsm hk4 hb4 S0 S1 hdl
          go_region_held3 (fun w' => w'.cell? ⟨d, 0, none⟩ = some (.map (some g)) ∧ w'.cell? ⟨w.heap.size, 0, none⟩ = some (.slice A n c) ∧ w'.cell? ⟨w.heap.size, 1, none⟩ = some (.bool s)) (first | with_reducible exact HS0.out | with_reducible exact HS1.out | fail) (fail)
          go_wp2
          go_ret
          refine ⟨rfl, ?_, HT4.out⟩
          have := HK4.out
          rw [HSP.out] at this
          exact this
        · rw [if_neg hr0]
          have hb0 : (r == 0) = false := by simpa using hr0
          go_enter Tryz.func53, Tryz.ntmps53
          go_upto_region 2 with (fail)
          rw [HW1.out]
          go_wp2_with (go_at_call 57; refine (name_any y w1 hy).mono ?_; rintro e w1' ⟨rfl, hb1'⟩; rw [HNM.out])
          have HK1' := Lib.hid (HK1.out.below hb1')
          have HBX' := Lib.hid (HBX.out.below hb1' HBX.out.lt)
          have HB1' := Lib.hid (HB1.out.trans (hb1'.mono HB1.out.size))
          have hs1' := hb1'.size
          refine (spend_any d g S w1' HK1'.out).mono ?_
          rw [HSD.out]
          rintro e w2 ⟨rfl, hk2, ht2⟩
          dsimp only at hk2 ⊢
          go_wp2
          go_ret
          exact ⟨rfl, hk2, (Turn.of_below HB1'.out _).fd ht2⟩
end Go.Proofs.YtijkdibccgdomaaGreatDoor.Dsk
