/-
  WHAT IS PROVED: contract of Rename. Conditions: the files' number, the names' lengths.
-/
import Derived.Test.YtdoahbegcfhegaaBox
namespace Go.Proofs.Ytdoahbegcfhegaa
open Go.RowKit Go.Lib

set_option maxRecDepth 100000 in
set_option maxHeartbeats 4000000 in
theorem rename_any (d g : Nat) (S : Ds) (x y : List UInt8) (w : World) (h : Dk w d g S) (hl : S.fs.length < 1000000) (hx : x.length ≤ 1000) (hy : y.length ≤ 1000) :
    Calls Try.prog 12 #[.pointer (some ⟨d, 0, none⟩), .string (str x), .string (str y)] w fun e w' => e = .returned (.int .i64 (renameD S x y).1) ∧ Did w d g (renameD S x y).2 w' := by
  obtain ⟨c0, c1, c2, c3⟩ := h.cells
  obtain ⟨v, hrun, A, n, c, rfl, hle, hc, hm, hr⟩ := h.map.look_ok hx
  have HK := Lib.hid h
  obtain ⟨s, hs⟩ : ∃ s, (getF S.fs x).safe = s := ⟨_, rfl⟩
  rw [hs] at hrun
  have HSF := Lib.hid hs
  have hB1 : Below w.heap.size w (w.alloc (.cells #[.slice A n c, .bool s] 53)) := (Below.refl _ w).alloc (Nat.le_refl _) _
  have hbx := fc_new w A n c s
  obtain ⟨w1, hw1⟩ : ∃ x, w.alloc (.cells #[.slice A n c, .bool s] 53) = x := ⟨_, rfl⟩
  have hs1 : w1.heap.size = w.heap.size + 1 := by rw [← hw1]; simp
  have HW1 := Lib.hid hw1
  change Blk (w.alloc (.cells #[.slice A n c, .bool s] 53)) _ _ _ at hbx
  rw [hw1] at hB1 hbx
  have HB1 := Lib.hid hB1
  have HBX := Lib.hid hbx
  have HK1 := Lib.hid (h.below hB1)
  have HRW := Lib.hid hr
  have HLE := Lib.hid hle
  have hlt := h.lt
  have k3 := HK1.out.cells.2.2.2
  unfold renameD
  clear h hr hle hs hB1 hbx c1 c2 c3 hw1
  cases hd : S.down with
  | true =>
    rw [if_pos rfl]
    rw [hd] at k3
    go_enter Try.func12, Try.ntmps12
    go_upto_region 2 with (fail)
    rw [HW1.out]
    go_wp2
    go_ret
    exact ⟨rfl, HK1.out, Turn.of_below HB1.out _⟩
  | false =>
    rw [if_neg (by simp)]
    rw [hd] at k3
    cases hh : hasF S.fs x with
    | false =>
      rw [if_pos (.inl rfl)]
      rw [hh] at hrun
      clear hh
      go_enter Try.func12, Try.ntmps12
      go_upto_region 2 with (fail)
      rw [HW1.out]
      go_wp2
      go_ret
      exact ⟨rfl, HK1.out, Turn.of_below HB1.out _⟩
    | true =>
      rw [hh] at hrun
      have HH := Lib.hid hh
      cases hnm : nameB y with
      | false =>
        rw [if_pos (.inr rfl)]
        have HNM := Lib.hid hnm
        clear hh hnm
        go_enter Try.func12, Try.ntmps12
        go_upto_region 2 with (fail)
        rw [HW1.out]
        go_wp2_with (go_at_call 19; refine (name_any y w1 hy).mono ?_; rintro e w2 ⟨rfl, hb2⟩; rw [HNM.out])
        go_ret
        exact ⟨rfl, HK1.out.below hb2, (Turn.of_below HB1.out _).fd (Turn.of_below hb2 _)⟩
      | true =>
        rw [if_neg (by simp)]
        have HNM := Lib.hid hnm
        clear hnm
        have HD := Lib.hid hd
        have hsp := spend_fs S
        obtain ⟨r, S', hsd⟩ : ∃ r S', spendD S = (r, S') := ⟨_, _, rfl⟩
        rw [hsd] at hsp ⊢
        dsimp only at hsp ⊢
        have HSD := Lib.hid hsd
        have HSP := Lib.hid hsp.1
        clear hh hd hsp hsd
        by_cases hr0 : r = 0
        · rw [if_pos hr0]
          subst hr0
          go_enter Try.func12, Try.ntmps12
          go_upto_region 2 with (fail)
          rw [HW1.out]
          go_wp2_with (go_at_call 19; refine (name_any y w1 hy).mono ?_; rintro e w1' ⟨rfl, hb1'⟩; rw [HNM.out])
          have HK1' := Lib.hid (HK1.out.below hb1')
          have HBX' := Lib.hid (HBX.out.below hb1' HBX.out.lt)
          have HB1' := Lib.hid (HB1.out.trans (hb1'.mono HB1.out.size))
          have hs1' := hb1'.size
          refine (spend_any d g S w1' HK1'.out).mono ?_
          rw [HSD.out]
          rintro e w2 ⟨rfl, hk2, ht2⟩
          dsimp only at hk2 ⊢
          have hbx2 : Blk w2 w.heap.size 53 (fc A n c s) := HBX'.out.turn ht2 (fun f => by rcases f with f | f <;> omega)
          have m0 := hk2.cells.1
          have ht02 : Turn w w2 (FD d g) := (Turn.of_below HB1'.out _).fd ht2
          obtain ⟨w3, hdel, hmap3, hg3⟩ := hk2.map.del (.inr rfl) hk2.good hx 0
          have hk3 := hk2.map_ hmap3 hg3 (hk2.good.del x)
          have hbx3 : Blk w3 w.heap.size 53 (fc A n c s) := hbx2.grown hg3 (fun e => by injection e with e; omega)
          have ht3 : Turn w w3 (FD d g) := ht02.fd (turn_g hg3)
          have HK3 := Lib.hid hk3
          have HBX3 := Lib.hid hbx3
          have HT3 := Lib.hid ht3
          clear hk2 ht2 hbx2 hk3 hbx3 ht3 ht02 hmap3 hg3
          go_upto_region 9 with (fail)
          have hk3d := HK3.out.drew
          have hsm := HK1.out.good.small _ (getF_mem HH.out)
          have hdl : (delF S'.fs x).length < 1000000 := by rw [HSP.out]; exact Nat.lt_of_le_of_lt (List.length_filter_le _ _) hl
          obtain ⟨w4, hup, hmap4, hg4⟩ := hk3d.map.store (.inr rfl) hk3d.good hdl (q := { getF S.fs x with name := y }) (v := .agg #[.slice A n c, .bool s]) hy ⟨A, n, c, by rw [HSF.out], HLE.out, hc, hm, HRW.out.turn HT3.out.drew (Sub.refl _ _)⟩
          dsimp only at hup
          have hk4 := hk3d.map_ hmap4 hg4 (hk3d.good.put (f := { getF S.fs x with name := y }) hy hsm.2)
          have hb4 : Blk w4 w.heap.size 53 (fc A n c s) := (HBX3.out.drew).grown hg4 (fun e => by injection e with e; omega)
          have HK4 := Lib.hid hk4
          have HT4 := Lib.hid (HT3.out.drew.fd (turn_g hg4))
          have S0 : w3.drew.cell? ⟨d, 0, none⟩ = some (.map (some g)) ∧ w3.drew.cell? ⟨w.heap.size, 0, none⟩ = some (.slice A n c) ∧ w3.drew.cell? ⟨w.heap.size, 1, none⟩ = some (.bool s) := ⟨hk3d.cells.1, HBX3.out.cell 0, HBX3.out.cell 1⟩
          have S1 : w4.cell? ⟨d, 0, none⟩ = some (.map (some g)) ∧ w4.cell? ⟨w.heap.size, 0, none⟩ = some (.slice A n c) ∧ w4.cell? ⟨w.heap.size, 1, none⟩ = some (.bool s) := ⟨hk4.cells.1, hb4.cell 0, hb4.cell 1⟩
          have HS0 := Lib.hid S0
          have HS1 := Lib.hid S1
          clear hk3d hmap4 hg4 hsm hk4 hb4 S0 S1 hdl
          go_region_held3 (fun w' => w'.cell? ⟨d, 0, none⟩ = some (.map (some g)) ∧ w'.cell? ⟨w.heap.size, 0, none⟩ = some (.slice A n c) ∧ w'.cell? ⟨w.heap.size, 1, none⟩ = some (.bool s)) (first | with_reducible exact HS0.out | with_reducible exact HS1.out | fail) (fail)
          go_wp2
          go_ret
          refine ⟨rfl, ?_, HT4.out⟩
          have := HK4.out
          rw [HSP.out] at this
          exact this
        · rw [if_neg hr0]
          have hb0 : (r == 0) = false := by simpa using hr0
          go_enter Try.func12, Try.ntmps12
          go_upto_region 2 with (fail)
          rw [HW1.out]
          go_wp2_with (go_at_call 19; refine (name_any y w1 hy).mono ?_; rintro e w1' ⟨rfl, hb1'⟩; rw [HNM.out])
          have HK1' := Lib.hid (HK1.out.below hb1')
          have HBX' := Lib.hid (HBX.out.below hb1' HBX.out.lt)
          have HB1' := Lib.hid (HB1.out.trans (hb1'.mono HB1.out.size))
          have hs1' := hb1'.size
          refine (spend_any d g S w1' HK1'.out).mono ?_
          rw [HSD.out]
          rintro e w2 ⟨rfl, hk2, ht2⟩
          dsimp only at hk2 ⊢
          go_wp2
          go_ret
          exact ⟨rfl, hk2, (Turn.of_below HB1'.out _).fd ht2⟩
end Go.Proofs.Ytdoahbegcfhegaa
