/-
  WHAT IS PROVED: the contracts of a way's text, of a key's slot, and of the way of a slot that is a master's own. Conditions: the numbers are not below 0; the library's variables hold what is laid there; the object is a node.
-/
import Derived.Test.YteoodompphhkbaaGreatDoorZOJ
import Derived.Test.YteoodompphhkbaaGreatDoorZSlt
namespace Go.Proofs.YteoodompphhkbaaGreatDoor.Nod
set_option maxRecDepth 100000
open Go.RowKit Go.Lib Go.Maps
open Go.Proofs.YteoodompphhkbaaGreatDoor.Ros (Turn Sub Rd Blk no zints)
open Go.Proofs.YteoodompphhkbaaGreatDoor.K (str dg digL Sv stv StAt mkS)

/-- a way's text -/
def txW (k s t : Int) : List UInt8 :=
  if k = 1 then txN [72, 69, 82, 69] [s] else if k = 2 then txN [77, 79, 86, 69, 68] [s, t] else if k = 3 then txN [68, 79, 87, 78] [s] else []
theorem rd_new1 (w : World) (z : Int) (o : Obj) : Rd ((w.alloc o).alloc (.cells #[.int .i64 z] 3)) no 1 (some ⟨w.heap.size + 1, 0, none⟩) 1 (zints [z]) := by
  have h := Ros.Rd.new (w.alloc o) no (fun _ f => f.elim) 1 1 #[.int .i64 z] 3 rfl
  have e : (w.alloc o).heap.size = w.heap.size + 1 := by simp
  rw [e] at h
  exact h
theorem rd_new2 (w : World) (y z : Int) (o : Obj) : Rd ((w.alloc o).alloc (.cells #[.int .i64 y, .int .i64 z] 3)) no 1 (some ⟨w.heap.size + 1, 0, none⟩) 2 (zints [y, z]) := by
  have h := Ros.Rd.new (w.alloc o) no (fun _ f => f.elim) 1 2 #[.int .i64 y, .int .i64 z] 3 rfl
  have e : (w.alloc o).heap.size = w.heap.size + 1 := by simp
  rw [e] at h
  exact h
set_option maxHeartbeats 2000000 in
theorem text_any (k s t : Int) (w : World) (hE : K.Env w) (hs : 0 ≤ s ∧ s ≤ 9223372036854775807) (ht : 0 ≤ t ∧ t ≤ 9223372036854775807) :
    Calls Tryz.prog 6 #[.agg #[.int .i64 k, .int .i64 s, .int .i64 t]] w (SaysS (txW k s t) w) := by
  have hbA : Below w.heap.size w (w.alloc (.cells #[.int .i64 k, .int .i64 s, .int .i64 t] 23)) := (Below.refl _ w).alloc (Nat.le_refl _) _
  have HB1 := Lib.hid hbA
  have HB2 : Hid (∀ o : Obj, Below w.heap.size w ((w.alloc (.cells #[.int .i64 k, .int .i64 s, .int .i64 t] 23)).alloc o)) := Lib.hid fun o => hbA.alloc hbA.size o
  have HE := Lib.hid hE
  have HS := Lib.hid hs
  have HT := Lib.hid ht
  have one : ∀ wd : List UInt8, wd.length ≤ 100 → Calls Tryz.prog 9 #[.string (str wd), .slice (some ⟨w.heap.size + 1, 0, none⟩) 1 1] ((w.alloc (.cells #[.int .i64 k, .int .i64 s, .int .i64 t] 23)).alloc (.cells #[.int .i64 s] 3)) (SaysS (txN wd [s]) ((w.alloc (.cells #[.int .i64 k, .int .i64 s, .int .i64 t] 23)).alloc (.cells #[.int .i64 s] 3))) := fun wd hw =>
    textof_any wd [s] _ 1 _ (hE.below (HB2.out _)) hw (by simp) (fun z hz => by simp at hz; rw [hz]; exact hs) (rd_new1 w s _)
  have two : Calls Tryz.prog 9 #[.string (str [77, 79, 86, 69, 68]), .slice (some ⟨w.heap.size + 1, 0, none⟩) 2 2] ((w.alloc (.cells #[.int .i64 k, .int .i64 s, .int .i64 t] 23)).alloc (.cells #[.int .i64 s, .int .i64 t] 3)) (SaysS (txN [77, 79, 86, 69, 68] [s, t]) ((w.alloc (.cells #[.int .i64 k, .int .i64 s, .int .i64 t] 23)).alloc (.cells #[.int .i64 s, .int .i64 t] 3))) :=
    textof_any [77, 79, 86, 69, 68] [s, t] _ 2 _ (hE.below (HB2.out _)) (by simp) (by simp) (fun z hz => by simp at hz; rcases hz with rfl | rfl; exact hs; exact ht) (rd_new2 w s t _)
  have ONE := Lib.hid one
  have TWO := Lib.hid two
  clear hbA hE hs ht one two
  by_cases h1 : k = 1
  · subst h1
    have HX : Hid (txW 1 s t = txN [72, 69, 82, 69] [s]) := Lib.hid (if_pos rfl)
    rw [HX.out]
    go_enter Tryz.func6, Tryz.ntmps6
    go_wp2_with (fail)
    refine (ONE.out [72, 69, 82, 69] (by simp)).mono ?_
    rintro o w2 ⟨rfl, hb⟩
    have HB := Lib.hid ((HB2.out _).trans (hb.mono (HB2.out _).size))
    clear hb
    go_wp2
    go_ret
    exact ⟨rfl, HB.out⟩
  · have q1 : (k == 1) = false := by simpa using h1
    by_cases h2 : k = 2
    · subst h2
      have HX : Hid (txW 2 s t = txN [77, 79, 86, 69, 68] [s, t]) := Lib.hid (by unfold txW; rw [if_neg (by decide), if_pos rfl])
      rw [HX.out]
      clear h1 q1
      go_enter Tryz.func6, Tryz.ntmps6
      go_wp2_with (fail)
      refine TWO.out.mono ?_
      rintro o w2 ⟨rfl, hb⟩
      have HB := Lib.hid ((HB2.out _).trans (hb.mono (HB2.out _).size))
      clear hb
      go_wp2
      go_ret
      exact ⟨rfl, HB.out⟩
    · have q2 : (k == 2) = false := by simpa using h2
      by_cases h3 : k = 3
      · subst h3
        have HX : Hid (txW 3 s t = txN [68, 79, 87, 78] [s]) := Lib.hid (by unfold txW; rw [if_neg (by decide), if_neg (by decide), if_pos rfl])
        rw [HX.out]
        clear h1 q1 h2 q2
        go_enter Tryz.func6, Tryz.ntmps6
        go_wp2_with (fail)
        refine (ONE.out [68, 79, 87, 78] (by simp)).mono ?_
        rintro o w2 ⟨rfl, hb⟩
        have HB := Lib.hid ((HB2.out _).trans (hb.mono (HB2.out _).size))
        clear hb
        go_wp2
        go_ret
        exact ⟨rfl, HB.out⟩
      · have q3 : (k == 3) = false := by simpa using h3
        have HX : Hid (txW k s t = []) := Lib.hid (by unfold txW; rw [if_neg h1, if_neg h2, if_neg h3])
        rw [HX.out]
        clear h1 h2 h3
        go_enter Tryz.func6, Tryz.ntmps6
        go_wp2
        go_ret
        exact ⟨rfl, HB1.out⟩

theorem slotof_any (l : List UInt8) (w : World) (hl : l.length ≤ 4611686018427387904) :
    Calls Tryz.prog 17 #[.string (Slt.str l)] w fun o w' => o = .returned (.int .i64 ((Slt.crc 0 (Slt.tagL l) % 64 : Nat) : Int)) ∧ Below w.heap.size w w' := by
  go_enter Tryz.func17, Tryz.ntmps17
  go_wp2_with (fail)
  refine (Slt.new_any _).mono ?_
  rintro o w1 ⟨rfl, hh, hb⟩
  have HH := Lib.hid hh
  have HB := Lib.hid hb
  clear hh hb
  go_wp2_with (fail)
  refine (Slt.slot_any w.heap.size l _ hl HH.out).mono ?_
  rintro o w2 ⟨rfl, _, hg⟩
  have HB2 := Lib.hid (HB.out.grown hg HB.out.size (fun k hk => by injection hk with hk; omega))
  clear hg
  go_wp2
  go_ret
  exact ⟨rfl, HB2.out⟩

theorem way_info : (Tryz.prog.info? 23).map (·.size) = some 3 := by kernel_rfl
theorem st_own {w : World} {b : Nat} {s : Sv} (h : StAt w b s) {k : Nat} (hk : k < 64) : w.cell? ⟨b, 6 + k, none⟩ = some (.int .i64 (s.t.o k)) := by
  refine h.range k _ ?_
  unfold K.tbL
  rw [List.getElem?_append_left (by rw [K.C.row_len]; exact hk)]
  exact K.C.row_at _ hk
set_option maxHeartbeats 2000000 in
theorem wayhere_any (C g d : Nat) (F : Nat → Prop) (n : Nd) (w : World) (h : NdAt w C g F d n) (k : Nat) (hk : k < 64) (h1 : n.tab.o k = n.id) (h2 : n.ma = 0) :
    Calls Tryz.prog 16 #[.pointer (some ⟨g, 0, none⟩), .int .i64 (k : Int)] w fun o w' => o = .returned (.agg #[.int .i64 1, .int .i64 (k : Int), .int .i64 0]) ∧ Below w.heap.size w w' := by
  obtain ⟨w1, hw1⟩ : ∃ w1, w.alloc (.cells #[.int .i64 0, .int .i64 0, .int .i64 0] 23) = w1 := ⟨_, rfl⟩
  have hb1 : Below w.heap.size w w1 := by rw [← hw1]; exact (Below.refl _ w).alloc (Nat.le_refl _) _
  have HB1 := Lib.hid hb1
  have HW1 : Hid (Blk w1 w.heap.size 23 #[.int .i64 0, .int .i64 0, .int .i64 0]) := Lib.hid (by rw [← hw1]; exact Blk.new w _ _)
  have HN1 := Lib.hid (h.below hb1)
  have H1 := Lib.hid h1
  have H2 := Lib.hid h2
  clear h hb1 h1 h2
  go_enter Tryz.func16, Tryz.ntmps16
  go_upto_region 1 with (fail)
  clear hw1
  go_wp2_with (fail)
  refine (state_any C g d F n _ HN1.out).mono ?_
  rintro o w2 ⟨hb2, A, m, c, rfl, _, _, _⟩
  obtain ⟨s, HSS⟩ : ∃ s, Hid (mkS n.dt A m c = s) := ⟨_, Lib.hid rfl⟩
  rw [HSS.out]
  have hbA := hb2.alloc hb2.size (.cells (stv s) 73)
  have HST : Hid (StAt (w2.alloc (.cells (stv s) 73)) w2.heap.size s) := Lib.hid (StAt.new w2 _)
  have HW3 := Lib.hid (HW1.out.below hbA HW1.out.lt)
  have HB3 := Lib.hid (HB1.out.trans (hbA.mono HB1.out.size))
  have q0 := HST.out.box.1
  have q1 := HST.out.box.2.1
  have qk := st_own HST.out hk
  have e0 : s.i = n.id := by rw [← HSS.out]; rfl
  have e1 : s.m = 0 := by rw [← HSS.out]; exact H2.out
  have e2 : s.t.o k = n.id := by rw [← HSS.out]; exact H1.out
  rw [e0] at q0
  rw [e1] at q1
  rw [e2] at qk
  have t1 : (0 : Int) ≤ (k : Int) := by omega
  have t2 : (k : Int) < 64 := by omega
  clear hb2 hbA e0 e1 e2 HN1
  go_wp2_with (first | ((with_reducible refine K.st_alloc ?_ ?_); (rfl)) | ((with_reducible refine K.st_store_new (u := s) ?_ ?_ ?_ ?_); (rfl); (rfl); (rfl)) | (refine row_store rfl HW3.out rfl way_info rfl (by simp [Value.oneCell']) rfl ?_))
  exact bodyPost_ret (results_cell_row rfl _ _ w.heap.size 23 #[.int .i64 1, .int .i64 (k : Int), .int .i64 0] (0, 0) _ rfl (blk_row HW3.out _) Tryz.underlying23 rfl way_info) rfl ⟨rfl, K.C.below_row HB3.out (Nat.le_refl _) _⟩
end Go.Proofs.YteoodompphhkbaaGreatDoor.Nod
