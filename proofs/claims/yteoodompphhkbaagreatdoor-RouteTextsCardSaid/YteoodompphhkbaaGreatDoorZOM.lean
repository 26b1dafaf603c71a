/-
  WHAT IS PROVED: the contract of a key's way where the slot is a master's own; a first node as the law makes it, with all slots. Conditions: the library's variables hold what is laid there.
-/
import Derived.Test.YteoodompphhkbaaGreatDoorZOL
namespace Go.Proofs.YteoodompphhkbaaGreatDoor.Nod
set_option maxRecDepth 100000
open Go.RowKit Go.Lib Go.Maps
open Go.Proofs.YteoodompphhkbaaGreatDoor.Ros (Turn Sub Rd Blk no zints)
open Go.Proofs.YteoodompphhkbaaGreatDoor.K (str dg digL Sv stv StAt mkS)

theorem slot_foo : Slt.crc 0 (Slt.tagL [102, 111, 111]) % 64 = 22 := by decide +kernel
set_option maxHeartbeats 2000000 in
theorem routehere_any (C g d : Nat) (F : Nat → Prop) (n : Nd) (w : World) (h : NdAt w C g F d n) (l : List UInt8) (hl : l.length ≤ 4611686018427387904) (k : Nat) (hk : Slt.crc 0 (Slt.tagL l) % 64 = k) (hk2 : k < 64) (h1 : n.tab.o k = n.id) (h2 : n.ma = 0) :
    Calls Tryz.prog 8 #[.pointer (some ⟨g, 0, none⟩), .string (Slt.str l)] w fun o w' => o = .returned (.agg #[.int .i64 1, .int .i64 (k : Int), .int .i64 0]) ∧ Below w.heap.size w w' := by
  obtain ⟨w1, hw1⟩ : ∃ w1, w.alloc (.cells #[.int .i64 0, .int .i64 0, .int .i64 0] 23) = w1 := ⟨_, rfl⟩
  have hb1 : Below w.heap.size w w1 := by rw [← hw1]; exact (Below.refl _ w).alloc (Nat.le_refl _) _
  have HB1 := Lib.hid hb1
  have HW1 : Hid (Blk w1 w.heap.size 23 #[.int .i64 0, .int .i64 0, .int .i64 0]) := Lib.hid (by rw [← hw1]; exact Blk.new w _ _)
  have HN1 := Lib.hid (h.below hb1)
  have H1 := Lib.hid h1
  have H2 := Lib.hid h2
  have HK := Lib.hid hk
  have HK2 := Lib.hid hk2
  clear h hb1 h1 h2 hk hk2
  go_enter Tryz.func8, Tryz.ntmps8
  go_upto_region 1 with (fail)
  clear hw1
  go_wp2_with (fail)
  refine (slotof_any l _ hl).mono ?_
  rintro o w2 ⟨rfl, hb2⟩
  rw [HK.out]
  have HW2 := Lib.hid (HW1.out.below hb2 HW1.out.lt)
  have HN2 := Lib.hid (HN1.out.below hb2)
  have HB2 := Lib.hid (HB1.out.trans (hb2.mono HB1.out.size))
  clear hb2
  go_wp2_with (fail)
  refine (wayhere_any C g d F n _ HN2.out k HK2.out H1.out H2.out).mono ?_
  rintro o w3 ⟨rfl, hb3⟩
  have HW3 := Lib.hid (HW2.out.below hb3 HW2.out.lt)
  have HB3 := Lib.hid (HB2.out.trans (hb3.mono HB2.out.size))
  clear hb3
  go_wp2_with (first | (refine row_store rfl HW3.out rfl way_info rfl (by simp [Value.oneCell']) rfl ?_))
  exact bodyPost_ret (results_cell_row rfl _ _ w.heap.size 23 #[.int .i64 1, .int .i64 (k : Int), .int .i64 0] (0, 0) _ rfl (blk_row HW3.out _) Tryz.underlying23 rfl way_info) rfl ⟨rfl, K.C.below_row HB3.out (Nat.le_refl _) _⟩

theorem op_info : (Tryz.prog.info? 38).map (·.size) = some 16 := by kernel_rfl
/-- what befalls the first node -/
def opA : Array Value := #[.int .i64 3, .int .i64 0, .int .i64 0, .int .i64 0, .int .i64 0, .int .i64 0, .int .i64 0, .int .u64 0, .int .i64 0, .int .i64 0, .int .i64 0, .int .u64 0, .slice none 0 0, .int .i64 3, .int .i64 0, .int .u64 18446744073709551615]
set_option maxHeartbeats 4000000 in
theorem made1_any (b : Nat) (w : World) (hE : K.Env w) (hb : Blk w b 38 opA) :
    Calls Tryz.prog 7 #[.int .i64 1, .slice (some ⟨b, 0, none⟩) 1 1] w fun o w' => ∃ g d F, o = .returned (.pointer (some ⟨g, 0, none⟩)) ∧ NdAt w' w.heap.size g F d N1 ∧ Below w.heap.size w w' := by
  have HB0 := Lib.hid hb
  have HE0 := Lib.hid (EnvC.first hE)
  clear hb hE
  go_enter Tryz.func7, Tryz.ntmps7
  go_wp2_with (fail)
  refine (K.Dsk.new_ok 60000 _ (by decide) (by decide)).mono ?_
  rintro o w1 ⟨d, e, rfl, hd, h1, h2, hb1⟩
  have HD1 : Hid (K.Dsk.Dk w1 d e K.Dsk.no D0) := Lib.hid hd
  have HL1 := Lib.hid h1
  have HL2 := Lib.hid h2
  have HB1 := Lib.hid hb1
  have HE1 := Lib.hid (HE0.out.later hb1 (Nat.le_refl _))
  clear hd h1 h2 hb1
  go_wp2_with (fail)
  refine (start_any w.heap.size d e K.Dsk.no 1 20 0 D0 _ HD1.out HE1.out HB1.out.size ⟨HL1.out, HL2.out⟩ (by decide)).mono ?_
  rintro o w2 ⟨he2, ht2, hcase⟩
  rw [start1] at hcase
  rcases hcase with ⟨hn, _⟩ | ⟨n, g, F, hn, _, rfl, hN, hF, hD⟩
  · cases hn
  have hn' : Nd.zero 1 20 0 = n := by injection hn
  subst hn'
  have hfd : ∀ i, K.Dsk.FD d e i → w.heap.size ≤ i := fun i hi => by rcases hi with rfl | rfl; exact HL1.out; exact HL2.out
  have hb2 : Below w.heap.size w w2 := HB1.out.trans (ht2.below hfd HB1.out.size)
  have HS2 : Hid (Sys w2 w.heap.size g F d e (Nd.zero 1 20 0) D1) := Lib.hid ⟨hN, Dk_less hD (fun i hi => .inr hi), he2, HL1.out, HL2.out⟩
  have HB2 := Lib.hid hb2
  have HOP : Hid (Blk w2 b 38 #[.int .i64 3, .int .i64 0, .int .i64 0, .int .i64 0, .int .i64 0, .int .i64 0, .int .i64 0, .int .u64 0, .int .i64 0, .int .i64 0, .int .i64 0, .int .u64 0, .slice none 0 0, .int .i64 3, .int .i64 0, .int .u64 18446744073709551615]) := Lib.hid (HB0.out.below hb2 HB0.out.lt)
  have HFF : Hid (∀ i, F i ∨ K.Dsk.FD d e i → w.heap.size ≤ i) := Lib.hid (fun i hi => by
    rcases hi with hi | hi
    · exact hN.lo i hi
    · exact hfd i hi)
  clear he2 ht2 hn hN hF hD hfd hb2 HD1 HE1
  go_wp2
  refine wp_loop_rounds 2 ?_
  rw [rounds_succ]
  have hbA : Below w2.heap.size w2 (w2.alloc (.cells #[.int .i64 3, .int .i64 0, .int .i64 0, .int .i64 0, .int .i64 0, .int .i64 0, .int .i64 0, .int .u64 0, .int .i64 0, .int .i64 0, .int .i64 0, .int .u64 0, .slice none 0 0, .int .i64 3, .int .i64 0, .int .u64 18446744073709551615] 38)) := (Below.refl _ w2).alloc (Nat.le_refl _) _
  have HDO : Hid (Calls Tryz.prog 15 #[.pointer (some ⟨g, 0, none⟩), .agg #[.int .i64 3, .int .i64 0, .int .u64 18446744073709551615], .int .i64 0] (w2.alloc (.cells #[.int .i64 3, .int .i64 0, .int .i64 0, .int .i64 0, .int .i64 0, .int .i64 0, .int .i64 0, .int .u64 0, .int .i64 0, .int .i64 0, .int .i64 0, .int .u64 0, .slice none 0 0, .int .i64 3, .int .i64 0, .int .u64 18446744073709551615] 38)) (CallP (w2.alloc (.cells #[.int .i64 3, .int .i64 0, .int .i64 0, .int .i64 0, .int .i64 0, .int .i64 0, .int .i64 0, .int .u64 0, .int .i64 0, .int .i64 0, .int .i64 0, .int .u64 0, .slice none 0 0, .int .i64 3, .int .i64 0, .int .u64 18446744073709551615] 38)) w.heap.size g F d e (doW (Nd.zero 1 20 0) D1 ⟨3, 0, allS⟩ 0))) := Lib.hid (do_any w.heap.size g d e F (Nd.zero 1 20 0) D1 ⟨3, 0, allS⟩ 0 _ (HS2.out.below hbA) len1 (fun _ _ w' t U h => obey3_any w.heap.size t g d U _ 0 allS w' h (by decide)))
  have HBA := Lib.hid hbA
  clear hbA
  go_wp2_with (first | (refine row_load rfl HOP.out Tryz.underlying38 rfl op_info rfl ?_))
  refine HDO.out.mono ?_
  rintro o w3 ⟨v, F', rfl, ha, hs, kt, hsub⟩
  have HS3 := Lib.hid hs
  have KT3 := Lib.hid kt
  clear ha hs kt hsub HDO
  go_wp2
  rw [rounds_succ]
  go_wp2
  go_ret
  exact ⟨g, d, F', rfl, HS3.out.nd, HB2.out.trans ((HBA.out.mono HB2.out.size).trans (KT3.out.below HFF.out (Nat.le_trans HB2.out.size HBA.out.size)))⟩
end Go.Proofs.YteoodompphhkbaaGreatDoor.Nod
