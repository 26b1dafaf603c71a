/-
  WHAT IS PROVED: contract of Write. Conditions: the files' number, the name's length, the bytes are there.
-/
import Derived.Test.YtdoahbegcfhegaaName
import Derived.Test.YtdoahbegcfhegaaClone
import Derived.Test.YtdoahbegcfhegaaBut
import Derived.Deep.RegionHeld3
import Derived.Deep.CutRange
namespace Go.Proofs.Ytdoahbegcfhegaa
open Go.RowKit Go.Lib

theorem but_le {l : List Fl} (h : Good l) (hl : l.length ≤ 1000000) (x : List UInt8) : butF l x ≤ 100000000000 := by
  have h1 := done_le l x (fun _ => false)
  rw [done_end (fun _ => rfl)] at h1
  have h2 := sumF_le (fun f hf => (h.small f hf).2)
  have h3 : l.length * 100000 ≤ 1000000 * 100000 := Nat.mul_le_mul_right _ hl
  omega
theorem nameB_le {x : List UInt8} (h : nameB x = true) : x.length ≤ 16 := by
  unfold nameB at h
  simp at h
  exact h.1.2
set_option maxRecDepth 100000 in
set_option maxHeartbeats 4000000 in
theorem write_any (d g : Nat) (S : Ds) (x : List UInt8) (A : Option Addr) (n c : Nat) (b : List UInt8) (w : World) (h : Dk w d g S) (hl : S.fs.length < 1000000) (hx : x.length ≤ 1000) (hr : Rd w (FD d g) 1 A n (bs b)) (hn : n ≤ 100000) :
    Calls Try.prog 9 #[.pointer (some ⟨d, 0, none⟩), .string (str x), .slice A n c] w fun e w' => e = .returned (.int .i64 (writeD S x b).1) ∧ Did w d g (writeD S x b).2 w' := by
  have hbl : b.length = n := by have := hr.1; rw [bs_len] at this; omega
  unfold writeD
  obtain ⟨c0, c1, c2, c3⟩ := h.cells
  have HK := Lib.hid h
  cases hd : S.down with
  | true =>
    rw [if_pos rfl]
    rw [hd] at c3
    clear h hr hbl
    go_enter Try.func9, Try.ntmps9
    go_wp2
    go_ret
    exact ⟨rfl, Did.refl HK.out⟩
  | false =>
    rw [if_neg (by simp)]
    rw [hd] at c3
    have HR := Lib.hid hr
    have HBL := Lib.hid hbl
    cases hnm : nameB x with
    | false =>
      rw [if_pos rfl]
      have HNM := Lib.hid hnm
      clear h hr hbl hnm
      go_enter Try.func9, Try.ntmps9
      go_wp2_with (fail)
      refine (name_any x w hx).mono ?_
      rintro e w1 ⟨rfl, hb1⟩
      rw [HNM.out]
      go_wp2
      go_ret
      exact ⟨rfl, HK.out.below hb1, Turn.of_below hb1 _⟩
    | true =>
      rw [if_neg (by simp)]
      have HNM := Lib.hid hnm
      have hbt := but_le h.good (Nat.le_of_lt hl) x
      obtain ⟨q, hq⟩ : ∃ q, butF S.fs x = q := ⟨_, rfl⟩
      obtain ⟨t, ht⟩ : ∃ t : Int, t = (q : Int) + (n : Int) := ⟨_, rfl⟩
      have hw : IntKind.i64.wrap ((q : Int) + (n : Int)) = t := by rw [hq] at hbt; rw [IntKind.wrap_i64]; omega
      rw [hq, hbl, ← ht]
      have HQ := Lib.hid hq
      have HT := Lib.hid ht
      obtain ⟨room, hrm⟩ : ∃ r, S.room = r := ⟨_, rfl⟩
      have HRM := Lib.hid hrm
      have HDN := Lib.hid hd
      rw [hrm] at c1 ⊢
      by_cases hsp : room < t
      · rw [if_pos hsp]
        clear h hr hbl hnm hbt hq ht hrm
        go_enter Try.func9, Try.ntmps9
        go_wp2_with (fail)
        refine (name_any x w hx).mono ?_
        rintro e w1 ⟨rfl, hb1⟩
        rw [HNM.out]
        have c0' : w1.cell? ⟨d, 0, none⟩ = some (.map (some g)) := (hb1.cell (p := ⟨d, 0, none⟩) HK.out.lt.1).trans c0
        have c1' : w1.cell? ⟨d, 1, none⟩ = some (.int .i64 room) := (hb1.cell (p := ⟨d, 1, none⟩) HK.out.lt.1).trans c1
        have HK1 := Lib.hid (HK.out.below hb1)
        have HR1 := Lib.hid (HR.out.turn (Turn.of_below hb1 _) (Sub.refl _ _))
        have HB1 := Lib.hid hb1
        have hd1 := HK1.out.lt.1
        have c1d : w1.drew.cell? ⟨d, 1, none⟩ = some (.int .i64 room) := c1'
        clear hb1 c0 c1 c2 c3
        go_upto_region 5 with (fail)
        go_region_held3 (fun w' => w'.cell? ⟨d, 1, none⟩ = some (.int .i64 room)) (first | with_reducible exact c1d | with_reducible exact c1e | fail) (first | (go_at_call 20; refine (but_any d g S x w1.drew HK1.out.drew (Nat.le_of_lt hl)).mono ?_; rintro e w2 ⟨rfl, hb2⟩; rw [HQ.out]; have c1e : w2.cell? ⟨d, 1, none⟩ = some (.int .i64 room) := (hb2.cell (p := ⟨d, 1, none⟩) hd1).trans c1d; have HB2 := Lib.hid hb2) | fail)
        go_wp2
        go_ret
        exact ⟨rfl, HK1.out.drew.below HB2.out, (Turn.of_below HB1.out _).fd ((Turn.of_below (Below.refl _ w1).drew _).fd (Turn.of_below HB2.out _))⟩
      · rw [if_neg hsp]
        clear h hr hbl hnm hbt hq ht hrm
        go_enter Try.func9, Try.ntmps9
        go_wp2_with (fail)
        refine (name_any x w hx).mono ?_
        rintro e w1 ⟨rfl, hb1⟩
        rw [HNM.out]
        have c0' : w1.cell? ⟨d, 0, none⟩ = some (.map (some g)) := (hb1.cell (p := ⟨d, 0, none⟩) HK.out.lt.1).trans c0
        have c1' : w1.cell? ⟨d, 1, none⟩ = some (.int .i64 room) := (hb1.cell (p := ⟨d, 1, none⟩) HK.out.lt.1).trans c1
        have HK1 := Lib.hid (HK.out.below hb1)
        have HR1 := Lib.hid (HR.out.turn (Turn.of_below hb1 _) (Sub.refl _ _))
        have HB1 := Lib.hid hb1
        have hd1 := HK1.out.lt.1
        have c1d : w1.drew.cell? ⟨d, 1, none⟩ = some (.int .i64 room) := c1'
        clear hb1 c0 c1 c2 c3
        go_upto_region 5 with (fail)
        go_region_held3 (fun w' => w'.cell? ⟨d, 1, none⟩ = some (.int .i64 room)) (first | with_reducible exact c1d | with_reducible exact c1e | fail) (first | (go_at_call 20; refine (but_any d g S x w1.drew HK1.out.drew (Nat.le_of_lt hl)).mono ?_; rintro e w2 ⟨rfl, hb2⟩; rw [HQ.out]; have c1e : w2.cell? ⟨d, 1, none⟩ = some (.int .i64 room) := (hb2.cell (p := ⟨d, 1, none⟩) hd1).trans c1d; have HB2 := Lib.hid hb2) | fail)
        have hb12 : Below w1.heap.size w1 w2 := ((Below.refl _ w1).drew).trans HB2.out
        have HK2 := Lib.hid (HK1.out.below hb12)
        have HR2 := Lib.hid (HR1.out.turn (Turn.of_below hb12 _) (Sub.refl _ _))
        have HT2 : Hid (Turn w w2 (FD d g)) := Lib.hid ((Turn.of_below HB1.out _).fd (Turn.of_below hb12 _))
        have hlt2 := HK2.out.lt
        have m0 : w2.drew.cell? ⟨d, 0, none⟩ = some (.map (some g)) := HK2.out.cells.1
        have HX := Lib.hid (nameB_le HNM.out)
        clear hb2 hb12 c1e HB2 c0' c1' c1d HR1 HK1
        go_upto_region 7 with (fail)
        go_region_held3 (fun w' => w'.cell? ⟨d, 0, none⟩ = some (.map (some g))) (first | with_reducible exact m0 | with_reducible exact m1 | with_reducible exact m2 | fail) (first | (go_at_call 21; refine (clone_any A n c b w2.drew (FD d g) (HR2.out.turn (Turn.of_below (Below.refl _ w2).drew _) (Sub.refl _ _)) (by omega)).mono ?_; rintro e w3 ⟨A3, n3, c3, rfl, hl3, hc3, hm3, ho3, hb3⟩; have hk3 := HK2.out.drew.below hb3; have m1 : w3.cell? ⟨d, 0, none⟩ = some (.map (some g)) := hk3.cells.1; obtain ⟨w4, hrun, hmap4, hg4⟩ := hk3.map.store (.inr rfl) hk3.good hl (q := ⟨x, b, false⟩) (v := .agg #[.slice A3 n3 c3, .bool false]) hx ⟨A3, n3, c3, rfl, hl3, hc3, hm3, Clo.rd ho3 (fun i hi => by rcases hi with rfl | rfl; exact hlt2.1; exact hlt2.2)⟩; dsimp only at hrun; have hk4 := hk3.map_ hmap4 hg4 (hk3.good.put (by show x.length ≤ 1000; omega) (by show b.length ≤ 100000; have := HBL.out; omega)); have m2 : w4.cell? ⟨d, 0, none⟩ = some (.map (some g)) := hk4.cells.1; have HK4 := Lib.hid hk4; have HT4 : Hid (Turn w w4 (FD d g)) := Lib.hid (HT2.out.fd ((Turn.of_below (Below.refl _ w2).drew _).fd ((Turn.of_below hb3 _).fd (turn_g hg4)))); clear hk3 hk4 hmap4 hg4 hb3 ho3) | fail)
        go_wp2_with (fail)
        have HK5 : Hid (Dk w4 d g ⟨putF S.fs ⟨x, b, false⟩, room, S.left, false⟩) := by
          have h := HK4.out
          rw [HRM.out, HDN.out] at h
          exact h
        refine (spend_any d g _ w4 HK5.out).mono ?_
        rintro e w5 ⟨rfl, hk5, ht5⟩
        go_wp2
        go_ret
        exact ⟨rfl, hk5, HT4.out.fd ht5⟩
end Go.Proofs.Ytdoahbegcfhegaa
