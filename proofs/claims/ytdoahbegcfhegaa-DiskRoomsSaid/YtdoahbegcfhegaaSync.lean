/-
  WHAT IS PROVED: contract of Sync. Conditions: the files' number, the name's length.
-/
import Derived.Test.YtdoahbegcfhegaaBox
namespace Go.Proofs.Ytdoahbegcfhegaa
open Go.RowKit Go.Lib

set_option maxRecDepth 100000 in
set_option maxHeartbeats 4000000 in
theorem sync_any (d g : Nat) (S : Ds) (x : List UInt8) (w : World) (h : Dk w d g S) (hl : S.fs.length < 1000000) (hx : x.length ≤ 1000) :
    Calls Try.prog 10 #[.pointer (some ⟨d, 0, none⟩), .string (str x)] w fun e w' => e = .returned (.int .i64 (syncD S x).1) ∧ Did w d g (syncD S x).2 w' := by
  obtain ⟨c0, c1, c2, c3⟩ := h.cells
  obtain ⟨v, hrun, A, n, c, rfl, hle, hc, hm, hr⟩ := h.map.look_ok hx
  have HK := Lib.hid h
  obtain ⟨s, hs⟩ : ∃ s, (getF S.fs x).safe = s := ⟨_, rfl⟩
  rw [hs] at hrun
  have hB1 : Below w.heap.size w (w.alloc (.cells #[.slice A n c, .bool s] 53)) := (Below.refl _ w).alloc (Nat.le_refl _) _
  have hbx := fc_new w A n c s
  obtain ⟨w1, hw1⟩ : ∃ x, w.alloc (.cells #[.slice A n c, .bool s] 53) = x := ⟨_, rfl⟩
  have hs1 : w1.heap.size = w.heap.size + 1 := by rw [← hw1]; simp
  have HW1 := Lib.hid hw1
  change Blk (w.alloc (.cells #[.slice A n c, .bool s] 53)) _ _ _ at hbx
  rw [hw1] at hB1 hbx
  have HB1 := Lib.hid hB1
  have HBX := Lib.hid hbx
  have HK1 := Lib.hid (h.below hB1)
  have HRW := Lib.hid hr
  have HLE := Lib.hid hle
  have hlt := h.lt
  have k3 := HK1.out.cells.2.2.2
  unfold syncD
  clear h hr hle hs hB1 hbx c1 c2 c3 hw1
  cases hd : S.down with
  | true =>
    rw [if_pos rfl]
    rw [hd] at k3
    go_enter Try.func10, Try.ntmps10
    go_upto_region 2 with (fail)
    rw [HW1.out]
    go_wp2
    go_ret
    exact ⟨rfl, HK1.out, Turn.of_below HB1.out _⟩
  | false =>
    rw [if_neg (by simp)]
    rw [hd] at k3
    cases hh : hasF S.fs x with
    | false =>
      rw [if_pos rfl]
      rw [hh] at hrun
      clear hh
      go_enter Try.func10, Try.ntmps10
      go_upto_region 2 with (fail)
      rw [HW1.out]
      go_wp2
      go_ret
      exact ⟨rfl, HK1.out, Turn.of_below HB1.out _⟩
    | true =>
      rw [if_neg (by simp)]
      rw [hh] at hrun
      have HH := Lib.hid hh
      have HD := Lib.hid hd
      have hsp := spend_fs S
      obtain ⟨r, S', hsd⟩ : ∃ r S', spendD S = (r, S') := ⟨_, _, rfl⟩
      rw [hsd] at hsp ⊢
      dsimp only at hsp ⊢
      have HSD := Lib.hid hsd
      have HSP := Lib.hid hsp.1
      clear hh hd hsp hsd
      by_cases hr0 : r = 0
      · rw [if_pos hr0]
        subst hr0
        go_enter Try.func10, Try.ntmps10
        go_upto_region 2 with (fail)
        rw [HW1.out]
        go_wp2_with (fail)
        refine (spend_any d g S w1 HK1.out).mono ?_
        rw [HSD.out]
        rintro e w2 ⟨rfl, hk2, ht2⟩
        dsimp only at hk2 ⊢
        have hbx2 : Blk w2 w.heap.size 53 (fc A n c s) := HBX.out.turn ht2 (fun f => by rcases f with f | f <;> omega)
        have b1 := hbx2.cell 1
        have f1 := hbx2.frozen 1
        have hk3 := hk2.box hbx2 (by omega) 1 (.bool true)
        have hbx3 : Blk (w2.setCell ⟨w.heap.size, 1, none⟩ (.bool true)) w.heap.size 53 (fc A n c true) := hbx2.set_ 1 (.bool true)
        have ht3 : Turn w (w2.setCell ⟨w.heap.size, 1, none⟩ (.bool true)) (FD d g) := ((Turn.of_below HB1.out _).fd ht2).set_far (Nat.le_refl _) _
        have HK3 := Lib.hid hk3
        have HBX3 := Lib.hid hbx3
        have HT3 := Lib.hid ht3
        clear hk2 ht2 hbx2 hk3 hbx3 ht3
        go_upto_region 9 with (fail)
        obtain ⟨w3, hw3⟩ : ∃ x, w2.setCell ⟨w.heap.size, 1, none⟩ (.bool true) = x := ⟨_, rfl⟩
        rw [hw3] at HK3 HBX3 HT3 ⊢
        have hk3d := HK3.out.drew
        have d0 : w3.drew.cell? ⟨d, 0, none⟩ = some (.map (some g)) := hk3d.cells.1
        have e0 : w3.drew.cell? ⟨w.heap.size, 0, none⟩ = some (.slice A n c) := HBX3.out.cell 0
        have e1 : w3.drew.cell? ⟨w.heap.size, 1, none⟩ = some (.bool true) := HBX3.out.cell 1
        obtain ⟨w4, hup, hmap4, hg4⟩ := hk3d.map.store (.inr rfl) hk3d.good (by rw [HSP.out]; exact hl) (q := { getF S.fs x with safe := true }) (v := .agg #[.slice A n c, .bool true]) (by show (getF S.fs x).name.length ≤ 1000; rw [getF_name]; exact hx) ⟨A, n, c, rfl, HLE.out, hc, hm, HRW.out.turn HT3.out.drew (Sub.refl _ _)⟩
        dsimp only at hup
        rw [getF_name] at hup
        have hsm := HK1.out.good.small _ (getF_mem HH.out)
        have hk4 := hk3d.map_ hmap4 hg4 (hk3d.good.put (f := { getF S.fs x with safe := true }) hsm.1 hsm.2)
        have d0' : w4.cell? ⟨d, 0, none⟩ = some (.map (some g)) := hk4.cells.1
        have hb4 : Blk w4 w.heap.size 53 (fc A n c true) := (HBX3.out.drew).grown hg4 (fun e => by injection e with e; omega)
        have e0' : w4.cell? ⟨w.heap.size, 0, none⟩ = some (.slice A n c) := hb4.cell 0
        have e1' : w4.cell? ⟨w.heap.size, 1, none⟩ = some (.bool true) := hb4.cell 1
        have HK4 := Lib.hid hk4
        have HT4 := Lib.hid (HT3.out.drew.fd (turn_g hg4))
        have S0 : w3.drew.cell? ⟨d, 0, none⟩ = some (.map (some g)) ∧ w3.drew.cell? ⟨w.heap.size, 0, none⟩ = some (.slice A n c) ∧ w3.drew.cell? ⟨w.heap.size, 1, none⟩ = some (.bool true) := ⟨d0, e0, e1⟩
        have S1 : w4.cell? ⟨d, 0, none⟩ = some (.map (some g)) ∧ w4.cell? ⟨w.heap.size, 0, none⟩ = some (.slice A n c) ∧ w4.cell? ⟨w.heap.size, 1, none⟩ = some (.bool true) := ⟨d0', e0', e1'⟩
        have HS0 := Lib.hid S0
        have HS1 := Lib.hid S1
        clear hk3d hmap4 hg4 hsm hk4 hb4 d0 e0 e1 d0' e0' e1' S0 S1 hw3
        go_region_held3 (fun w' => w'.cell? ⟨d, 0, none⟩ = some (.map (some g)) ∧ w'.cell? ⟨w.heap.size, 0, none⟩ = some (.slice A n c) ∧ w'.cell? ⟨w.heap.size, 1, none⟩ = some (.bool true)) (first | with_reducible exact HS0.out | with_reducible exact HS1.out | fail) (fail)
        go_wp2
        go_ret
        refine ⟨rfl, ?_, HT4.out⟩
        have := HK4.out
        rw [HSP.out] at this
        exact this
      · rw [if_neg hr0]
        have hb0 : (r == 0) = false := by simpa using hr0
        go_enter Try.func10, Try.ntmps10
        go_upto_region 2 with (fail)
        rw [HW1.out]
        go_wp2_with (fail)
        refine (spend_any d g S w1 HK1.out).mono ?_
        rw [HSD.out]
        rintro e w2 ⟨rfl, hk2, ht2⟩
        dsimp only at hk2 ⊢
        go_wp2
        go_ret
        exact ⟨rfl, hk2, (Turn.of_below HB1.out _).fd ht2⟩
end Go.Proofs.Ytdoahbegcfhegaa
