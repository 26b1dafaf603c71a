/-
  WHAT IS PROVED: the document's example holds. No condition.
-/
import Derived.Test.YtblmfjndemfkjaaLike
import Derived.Lib.SlBytesConst
namespace Go.Proofs.Ytblmfjndemfkjaa
open Go.RowKit Go.Lib
set_option maxRecDepth 100000

theorem good_lit (w : World) (f t : Int) (x : UInt8) (ty : TypeId) (m : Nat × Nat) : Good (w.alloc (.cells (bs [x]).toArray ty m)) no ⟨f, t, some ⟨w.heap.size, 0, none⟩, 1, 1, [x]⟩ :=
  ⟨⟨by rw [bs_len]; rfl, fun _ => ⟨_, rfl, by simp, fun f => f, fun j u hu => by
    rw [Go.WideShapes.add_plain, Nat.zero_add, cell_of_row _ w.heap.size j (bs [x]).toArray ty m (heap_alloc_new w _)]
    simpa using hu⟩⟩, Nat.le_refl _, (by show (1 : Nat) ≤ 9223372036854775807; omega), (by show (1 : Nat) ≤ 1000000; omega)⟩
theorem pl_form {m : Ms} {f t : Int} {d : List UInt8} (h : m.pl = (f, t, d)) : ∃ A n c, m = ⟨f, t, A, n, c, d⟩ := by
  obtain ⟨a, b, A, n, c, e⟩ := m
  unfold Ms.pl at h
  simp only [Prod.mk.injEq] at h
  obtain ⟨rfl, rfl, rfl⟩ := h
  exact ⟨A, n, c, rfl⟩
set_option maxHeartbeats 4000000 in
theorem anchor_any (w : World) : Calls Try.prog 6 #[] w (Says true w) := by
  have hcb := fun (w : World) (C : Array Value) (n c : Nat) => Lib.run_convert_bytes_const (P := Try.prog) w 27 5 C n c Try.underlying27 Try.underlying5
  go_enter Try.func6, Try.ntmps6
  go_wp2_with (fail)
  refine (new_any w).mono ?_
  rintro e w1 ⟨n, rfl, hn1, hb1⟩
  have HB1 := Lib.hid hb1
  have HN1 := Lib.hid hn1
  clear hn1 hb1
  go_wp2_with (fail)
  refine (put_yes w.heap.size n no [] 0 _ (HN1.out.alloc (.cells (bs [97]).toArray 5 (1, 2))) ⟨1, 2, some ⟨w1.heap.size, 0, none⟩, 1, 1, [97]⟩ no (good_lit w1 1 2 97 _ _) (by simp)).mono ?_
  rintro e w2 ⟨m1, hp1, rfl, hn2, ht2⟩
  have HB2 : Hid (Below w.heap.size w w2) := Lib.hid ((HB1.out.alloc HB1.out.size (.cells (bs [97]).toArray 5 (1, 2))).trans (ht2.low (by have := HB1.out.size; simp; omega)))
  have HN2 := Lib.hid hn2
  have HP1 := Lib.hid hp1
  clear hn2 ht2 hp1 HN1 HB1
  go_wp2_with (fail)
  refine (put_yes w.heap.size n no _ 0 _ (HN2.out.alloc (.cells (bs [98]).toArray 5 (1, 2))) ⟨2, 1, some ⟨w2.heap.size, 0, none⟩, 1, 1, [98]⟩ no (good_lit w2 2 1 98 _ _) (by simp)).mono ?_
  rintro e w3 ⟨m2, hp2, rfl, hn3, ht3⟩
  have HB3 : Hid (Below w.heap.size w w3) := Lib.hid ((HB2.out.alloc HB2.out.size (.cells (bs [98]).toArray 5 (1, 2))).trans (ht3.low (by have := HB2.out.size; simp; omega)))
  have HN3 : Hid (Nt w3 w.heap.size n no [m1, m2] 0) := Lib.hid hn3
  have HP2 := Lib.hid hp2
  clear hn3 ht3 hp2 HN2 HB2
  go_wp2_with (fail)
  refine (double_yes w.heap.size n no [m1, m2] 0 _ HN3.out 0 m1 rfl (by simp)).mono ?_
  rintro e w4 ⟨m3, hp3, rfl, hn4, ht4⟩
  have HB4 : Hid (Below w.heap.size w w4) := Lib.hid (HB3.out.trans (ht4.low HB3.out.size))
  have HN4 : Hid (Nt w4 w.heap.size n no [m1, m2, m3] 0) := Lib.hid hn4
  have HP3 := Lib.hid hp3
  clear hn4 ht4 hp3 HN3 HB3
  go_wp2_with (fail)
  refine (take_yes w.heap.size n no [m1, m2, m3] 0 _ HN4.out 0 m1 rfl).mono ?_
  rintro e w5 ⟨rfl, hn5, ht5, hg5⟩
  have hp3 := HP3.out
  rw [HP1.out] at hp3
  obtain ⟨A1, n1, c1, rfl⟩ := pl_form HP1.out
  have HB5 : Hid (Below w.heap.size w w5) := Lib.hid (HB4.out.trans (ht5.low HB4.out.size))
  obtain ⟨w6, hw6⟩ : ∃ x, w5.alloc (.cells #[.int .i64 1, .int .i64 2, .slice A1 n1 c1] 29) = x := ⟨_, rfl⟩
  have hb6 : Below w5.heap.size w5 w6 := by rw [← hw6]; exact (Below.refl _ _).alloc (Nat.le_refl _) _
  have HX6 : Hid (Bx w6 w5.heap.size ⟨1, 2, A1, n1, c1, [97]⟩) := Lib.hid (by rw [← hw6]; exact Bx.new w5 ⟨1, 2, A1, n1, c1, [97]⟩)
  have HB6 : Hid (Below w.heap.size w w6) := Lib.hid (HB5.out.trans (hb6.mono HB5.out.size))
  have HN6 : Hid (Nt w6 w.heap.size n no [m2, m3] 0) := Lib.hid (Nt.below hn5 hb6)
  have HG6 := Lib.hid (hg5.below hb6)
  have HP3' := Lib.hid hp3
  clear hn5 ht5 hg5 hb6 hp3 HN4 HB4 HB5
  go_wp2_with (fail)
  refine (list_any w.heap.size n no [m2, m3] 0 _ HN6.out).mono ?_
  rintro e w7 ⟨hb7, Av, cv, xs, rfl, ho7, hpx, hod, hcv, hcvm⟩
  obtain ⟨x0, x1, rfl⟩ : ∃ x0 x1, xs = [x0, x1] := by
    have h1 := congrArg List.length hpx
    simp at h1
    match xs, h1 with
    | [a, b], _ => exact ⟨a, b, rfl⟩
  simp only [List.map_cons, List.map_nil, List.cons.injEq, and_true] at hpx
  have hx0 := hpx.1.trans HP2.out
  have hx1 := hpx.2.trans HP3'.out
  have hd0 := hod x0 (by simp)
  have hd1 := hod x1 (by simp)
  obtain ⟨A0, n0, c0, rfl⟩ := pl_form hx0
  obtain ⟨A2, n2, c2, rfl⟩ := pl_form hx1
  obtain ⟨g, rfl⟩ : ∃ g, Av = some ⟨g, 0, none⟩ := by
    rcases ho7.2 with ⟨h0, h1⟩ | ⟨g, cap, cur, e1, _⟩
    · cases h1
    · injection e1 with e1 e2 e3
      exact ⟨g, e1⟩
  have hr7 : Rd w7 no 3 (some ⟨g, 0, none⟩) 2 (flatM [⟨2, 1, A0, n0, c0, [98]⟩, ⟨1, 2, A2, n2, c2, [97]⟩]) := Rd.of_own ho7 rfl (fun _ _ f => f)
  obtain ⟨ad, he, _, _, hc⟩ := hr7.2 (by omega)
  injection he with he
  subst he
  have d2 := hc 2 _ rfl
  have e2 := hc 5 _ rfl
  simp [Addr.add] at d2 e2
  have q1 := bytes_back (c := c1) (HG6.out.below hb7).rd.reads
  have q2 := bytes_back (c := c0) (hd0.good (F := no) (fun _ f => f.elim)).rd.reads
  have q3 := bytes_back (c := c2) (hd1.good (F := no) (fun _ f => f.elim)).rd.reads
  obtain ⟨b0, b1, b2⟩ := (HX6.out.later hb7).cells
  dsimp only at q1 q2 q3 b0 b1 b2
  have s1 : (str [97]).toList = [97] := str_toList _
  have s2 : (str [98]).toList = [98] := str_toList _
  have HB7 := Lib.hid (HB6.out.trans (hb7.mono HB6.out.size))
  clear hb7 ho7 hpx hod hx0 hx1 hd0 hd1 hr7 hw6 hc hcv
  go_wp2
  go_ret
  exact ⟨rfl, HB7.out⟩
end Go.Proofs.Ytblmfjndemfkjaa
