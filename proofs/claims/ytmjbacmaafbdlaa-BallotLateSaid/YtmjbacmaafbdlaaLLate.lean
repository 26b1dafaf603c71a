/-
  WHAT IS PROVED: the law BallotLate answers true: a vote of another epoch, or behind the time, doesn't count; behind the time one may stand again. No condition beyond those of the given row.
-/
import Derived.Test.YtmjbacmaafbdlaaAnchor
namespace Go.Proofs.Ytmjbacmaafbdlaa
open Go.RowKit Go.Lib Go.Maps

theorem late_no (T a ep o l : Int) (W : World) (h : T < 2 ∨ 1073741824 < T) :
    Calls Try.prog 5 #[.int .i64 T, .int .i64 a, .int .i64 ep, .int .i64 o, .int .i64 l] W (Says true W) := by
  have HT := Lib.hid h
  clear h
  go_enter Try.func5, Try.ntmps5
  go_wp2_with (fail)
  refine (anchor_any _).mono ?_
  rintro e w0 ⟨rfl, hb0⟩
  have HB0 := Lib.hid hb0
  clear hb0
  go_wp2_with (fail)
  refine (bnew_no T _ HT.out).mono ?_
  rintro e w1 ⟨rfl, rfl⟩
  go_wp2
  go_ret
  exact ⟨rfl, HB0.out⟩
theorem late_out0 (T a ep o l : Int) (W : World) (h1 : 2 ≤ T) (h2 : T ≤ 1073741824)  (c0 : a < 0) :
    Calls Try.prog 5 #[.int .i64 T, .int .i64 a, .int .i64 ep, .int .i64 o, .int .i64 l] W (Says true W) := by
  have HT := Lib.hid h1
  have HU := Lib.hid h2
  clear h1 h2
  go_enter Try.func5, Try.ntmps5
  go_wp2_with (fail)
  refine (anchor_any _).mono ?_
  rintro e w0 ⟨rfl, hb0⟩
  have HB0 := Lib.hid hb0
  clear hb0
  go_wp2_with (fail)
  refine (bnew_yes T _ HT.out HU.out).mono ?_
  rintro e w1 ⟨g, F, rfl, k1, hb1⟩
  have HB1 := Lib.hid (HB0.out.trans (hb1.mono HB0.out.size))
  clear k1 hb1
  go_wp2
  go_ret
  exact ⟨rfl, HB1.out⟩
theorem late_out1 (T a ep o l : Int) (W : World) (h1 : 2 ≤ T) (h2 : T ≤ 1073741824) (n0 : 0 ≤ a) (c1 : 549755813888 < a) :
    Calls Try.prog 5 #[.int .i64 T, .int .i64 a, .int .i64 ep, .int .i64 o, .int .i64 l] W (Says true W) := by
  have HT := Lib.hid h1
  have HU := Lib.hid h2
  clear h1 h2
  go_enter Try.func5, Try.ntmps5
  go_wp2_with (fail)
  refine (anchor_any _).mono ?_
  rintro e w0 ⟨rfl, hb0⟩
  have HB0 := Lib.hid hb0
  clear hb0
  go_wp2_with (fail)
  refine (bnew_yes T _ HT.out HU.out).mono ?_
  rintro e w1 ⟨g, F, rfl, k1, hb1⟩
  have HB1 := Lib.hid (HB0.out.trans (hb1.mono HB0.out.size))
  clear k1 hb1
  go_wp2
  go_ret
  exact ⟨rfl, HB1.out⟩
theorem late_out2 (T a ep o l : Int) (W : World) (h1 : 2 ≤ T) (h2 : T ≤ 1073741824) (n0 : 0 ≤ a) (n1 : a ≤ 549755813888) (c2 : ep < 1) :
    Calls Try.prog 5 #[.int .i64 T, .int .i64 a, .int .i64 ep, .int .i64 o, .int .i64 l] W (Says true W) := by
  have HT := Lib.hid h1
  have HU := Lib.hid h2
  clear h1 h2
  go_enter Try.func5, Try.ntmps5
  go_wp2_with (fail)
  refine (anchor_any _).mono ?_
  rintro e w0 ⟨rfl, hb0⟩
  have HB0 := Lib.hid hb0
  clear hb0
  go_wp2_with (fail)
  refine (bnew_yes T _ HT.out HU.out).mono ?_
  rintro e w1 ⟨g, F, rfl, k1, hb1⟩
  have HB1 := Lib.hid (HB0.out.trans (hb1.mono HB0.out.size))
  clear k1 hb1
  go_wp2
  go_ret
  exact ⟨rfl, HB1.out⟩
theorem late_out3 (T a ep o l : Int) (W : World) (h1 : 2 ≤ T) (h2 : T ≤ 1073741824) (n0 : 0 ≤ a) (n1 : a ≤ 549755813888) (n2 : 1 ≤ ep) (c3 : 281474976710656 < ep) :
    Calls Try.prog 5 #[.int .i64 T, .int .i64 a, .int .i64 ep, .int .i64 o, .int .i64 l] W (Says true W) := by
  have HT := Lib.hid h1
  have HU := Lib.hid h2
  clear h1 h2
  go_enter Try.func5, Try.ntmps5
  go_wp2_with (fail)
  refine (anchor_any _).mono ?_
  rintro e w0 ⟨rfl, hb0⟩
  have HB0 := Lib.hid hb0
  clear hb0
  go_wp2_with (fail)
  refine (bnew_yes T _ HT.out HU.out).mono ?_
  rintro e w1 ⟨g, F, rfl, k1, hb1⟩
  have HB1 := Lib.hid (HB0.out.trans (hb1.mono HB0.out.size))
  clear k1 hb1
  go_wp2
  go_ret
  exact ⟨rfl, HB1.out⟩
theorem late_out4 (T a ep o l : Int) (W : World) (h1 : 2 ≤ T) (h2 : T ≤ 1073741824) (n0 : 0 ≤ a) (n1 : a ≤ 549755813888) (n2 : 1 ≤ ep) (n3 : ep ≤ 281474976710656) (c4 : o = ep) :
    Calls Try.prog 5 #[.int .i64 T, .int .i64 a, .int .i64 ep, .int .i64 o, .int .i64 l] W (Says true W) := by
  subst c4
  have HT := Lib.hid h1
  have HU := Lib.hid h2
  clear h1 h2
  go_enter Try.func5, Try.ntmps5
  go_wp2_with (fail)
  refine (anchor_any _).mono ?_
  rintro e w0 ⟨rfl, hb0⟩
  have HB0 := Lib.hid hb0
  clear hb0
  go_wp2_with (fail)
  refine (bnew_yes T _ HT.out HU.out).mono ?_
  rintro e w1 ⟨g, F, rfl, k1, hb1⟩
  have HB1 := Lib.hid (HB0.out.trans (hb1.mono HB0.out.size))
  clear k1 hb1
  go_wp2
  go_ret
  exact ⟨rfl, HB1.out⟩
theorem late_out5 (T a ep o l : Int) (W : World) (h1 : 2 ≤ T) (h2 : T ≤ 1073741824) (n0 : 0 ≤ a) (n1 : a ≤ 549755813888) (n2 : 1 ≤ ep) (n3 : ep ≤ 281474976710656) (te : (o == ep) = false) (c5 : l < 1) :
    Calls Try.prog 5 #[.int .i64 T, .int .i64 a, .int .i64 ep, .int .i64 o, .int .i64 l] W (Says true W) := by
  have HT := Lib.hid h1
  have HU := Lib.hid h2
  clear h1 h2
  go_enter Try.func5, Try.ntmps5
  go_wp2_with (fail)
  refine (anchor_any _).mono ?_
  rintro e w0 ⟨rfl, hb0⟩
  have HB0 := Lib.hid hb0
  clear hb0
  go_wp2_with (fail)
  refine (bnew_yes T _ HT.out HU.out).mono ?_
  rintro e w1 ⟨g, F, rfl, k1, hb1⟩
  have HB1 := Lib.hid (HB0.out.trans (hb1.mono HB0.out.size))
  clear k1 hb1
  go_wp2
  go_ret
  exact ⟨rfl, HB1.out⟩
theorem late_out6 (T a ep o l : Int) (W : World) (h1 : 2 ≤ T) (h2 : T ≤ 1073741824) (n0 : 0 ≤ a) (n1 : a ≤ 549755813888) (n2 : 1 ≤ ep) (n3 : ep ≤ 281474976710656) (n5 : 1 ≤ l) (te : (o == ep) = false) (c6 : 549755813888 < l) :
    Calls Try.prog 5 #[.int .i64 T, .int .i64 a, .int .i64 ep, .int .i64 o, .int .i64 l] W (Says true W) := by
  have HT := Lib.hid h1
  have HU := Lib.hid h2
  clear h1 h2
  go_enter Try.func5, Try.ntmps5
  go_wp2_with (fail)
  refine (anchor_any _).mono ?_
  rintro e w0 ⟨rfl, hb0⟩
  have HB0 := Lib.hid hb0
  clear hb0
  go_wp2_with (fail)
  refine (bnew_yes T _ HT.out HU.out).mono ?_
  rintro e w1 ⟨g, F, rfl, k1, hb1⟩
  have HB1 := Lib.hid (HB0.out.trans (hb1.mono HB0.out.size))
  clear k1 hb1
  go_wp2
  go_ret
  exact ⟨rfl, HB1.out⟩
def L1 (a ep : Int) : Bst := ⟨true, ep, a, [7], [], []⟩
def L2 (a ep : Int) : Bst := ⟨false, ep, a, [7], [7], []⟩
def L3 (a ep : Int) : Bst := ⟨true, ep, a, [], [], []⟩
theorem one7 : rightB [7] = true := by decide
theorem late1 {T a ep : Int} (n : isEpochB ep = true) (t : isTimeB a = true) : standE T Bst.zero ep [7] a = 0 ∧ standS T Bst.zero ep [7] a = L1 a ep := by
  have hf : fineB ep [7] a = true := fineB_iff.2 ⟨one7, n, t⟩
  unfold standE standS
  rw [hf]
  exact ⟨rfl, rfl⟩
theorem late2 {T a ep : Int} (n : isEpochB ep = true) (t : isTimeB (a + 2 * T) = true) : standE T (L1 a ep) ep [7] (a + 2 * T) = 21 ∧ standS T (L1 a ep) ep [7] (a + 2 * T) = L1 a ep := by
  have hf : fineB ep [7] (a + 2 * T) = true := fineB_iff.2 ⟨one7, n, t⟩
  have hs : stB T (L1 a ep) (a + 2 * T) = true := decide_eq_true (Int.le_refl _)
  unfold standE standS
  rw [hf, hs]
  exact ⟨rfl, rfl⟩
theorem late3 {T a ep o : Int} (ho : o ≠ ep) : ackB T (L1 a ep) 7 o a = false ∧ ackS T (L1 a ep) 7 o a = L1 a ep := by
  have h : ackO T (L1 a ep) 7 o a = false := by
    unfold ackO
    rw [show decide ((L1 a ep).ep = o) = false from decide_eq_false (fun e => ho e.symm)]
    simp
  unfold ackB ackS
  rw [h]
  exact ⟨rfl, rfl⟩
theorem late4 {T a ep l : Int} (hl : 1 ≤ l) : ackB T (L1 a ep) 7 ep (a + 2 * T + l) = false ∧ ackS T (L1 a ep) 7 ep (a + 2 * T + l) = L1 a ep := by
  have hs : stB T (L1 a ep) (a + 2 * T + l) = false := decide_eq_false (by show ¬ a + 2 * T + l ≤ a + 2 * T; omega)
  unfold ackB ackS ackO
  rw [hs]
  exact ⟨rfl, rfl⟩
theorem late5 {T a ep : Int} : ackB T (L1 a ep) 8 ep a = false ∧ ackS T (L1 a ep) 8 ep a = L1 a ep := by
  have h : ackO T (L1 a ep) 8 ep a = false := by
    unfold ackO
    rw [show okG (L1 a ep).vs (L1 a ep).ys 8 = false from by show okG [7] [] 8 = false; decide]
    simp
  unfold ackB ackS
  rw [h]
  exact ⟨rfl, rfl⟩
theorem late6 {T a ep : Int} : ackB T (L1 a ep) 7 ep (a + 2 * T) = true ∧ ackS T (L1 a ep) 7 ep (a + 2 * T) = L2 a ep := by
  have hs : stB T (L1 a ep) (a + 2 * T) = true := decide_eq_true (Int.le_refl _)
  have h : ackO T (L1 a ep) 7 ep (a + 2 * T) = true := by
    unfold ackO
    rw [hs, show okG (L1 a ep).vs (L1 a ep).ys 7 = true from by show okG [7] [] 7 = true; decide, show decide ((L1 a ep).ep = ep) = true from decide_eq_true rfl]
    rfl
  unfold ackB ackS
  rw [h]
  exact ⟨rfl, rfl⟩
theorem late7 {T a ep : Int} (n : isEpochB ep = true) (t : isTimeB a = true) : standE T (L2 a ep) ep [] a = 0 ∧ standS T (L2 a ep) ep [] a = L3 a ep := by
  have hf : fineB ep [] a = true := fineB_iff.2 ⟨by decide, n, t⟩
  unfold standE standS
  rw [hf]
  exact ⟨rfl, rfl⟩
theorem late8 {T a ep : Int} (n : isEpochB ep = true) (t : isTimeB (a + 2 * T + 1) = true) : standE T (L3 a ep) ep [] (a + 2 * T + 1) = 0 ∧ standS T (L3 a ep) ep [] (a + 2 * T + 1) = L3 (a + 2 * T + 1) ep := by
  have hf : fineB ep [] (a + 2 * T + 1) = true := fineB_iff.2 ⟨by decide, n, t⟩
  have hs : stB T (L3 a ep) (a + 2 * T + 1) = false := decide_eq_false (by show ¬ a + 2 * T + 1 ≤ a + 2 * T; omega)
  unfold standE standS
  rw [hf, hs]
  exact ⟨rfl, rfl⟩
theorem late9 {T a ep now : Int} : ackB T (L3 a ep) 7 ep now = false := by
  unfold ackB ackO
  rw [show okG (L3 a ep).vs (L3 a ep).ys 7 = false from by show okG [] [] 7 = false; decide]
  simp
theorem rd_one (w : World) (x : Int) : Reads (w.alloc (.cells #[.int .i64 x] 3)) (w.alloc (.cells #[.int .i64 x] 3)).heap.size (some ⟨w.heap.size, 0, none⟩) 1 (zints [x]) := by
  have hblk := Blk.new w 3 #[.int .i64 x]
  exact ⟨rfl, fun _ => ⟨_, rfl, hblk.lt, Nat.ne_of_lt hblk.lt, fun j u hu => by
      have ha : (⟨w.heap.size, 0, none⟩ : Addr).add j = ⟨w.heap.size, j, none⟩ := by unfold Addr.add; split <;> simp_all
      rw [ha, hblk.cell]
      simpa [zints] using hu⟩⟩
theorem in7 : Mp.inInt 7 := by unfold Mp.inInt; omega
theorem in8 : Mp.inInt 8 := by unfold Mp.inInt; omega
set_option maxHeartbeats 4000000 in
theorem late_in (T a ep o l : Int) (W : World) (h1 : 2 ≤ T) (h2 : T ≤ 1073741824) (n0 : 0 ≤ a) (n1 : a ≤ 549755813888) (n2 : 1 ≤ ep) (n3 : ep ≤ 281474976710656) (n4 : o ≠ ep) (n5 : 1 ≤ l) (n6 : l ≤ 549755813888) :
    Calls Try.prog 5 #[.int .i64 T, .int .i64 a, .int .i64 ep, .int .i64 o, .int .i64 l] W (Says true W) := by
  have HT := Lib.hid h1
  have HU := Lib.hid h2
  have HN4 := Lib.hid n4
  have HN5 := Lib.hid n5
  have te : (o == ep) = false := by simpa using n4
  have E1 := Lib.hid (ep_yes ⟨n2, n3⟩)
  have T1 := Lib.hid (tim_yes (x := a) ⟨n0, by omega⟩)
  have T2 := Lib.hid (tim_yes (x := a + 2 * T) ⟨by omega, by omega⟩)
  have T3 := Lib.hid (tim_yes (x := a + 2 * T + 1) ⟨by omega, by omega⟩)
  clear n4
  go_enter Try.func5, Try.ntmps5
  go_wp2_with (fail)
  refine (anchor_any _).mono ?_
  rintro e w0 ⟨rfl, hb0⟩
  have HB0 := Lib.hid hb0
  clear hb0
  go_wp2_with (fail)
  refine (bnew_yes T _ HT.out HU.out).mono ?_
  rintro e w1 ⟨g, F, rfl, k1, hb1⟩
  have K1 := Lib.hid ((k1.low HB0.out.size).alloc (.cells #[.int .i64 7] 3))
  have HB1 := Lib.hid (((HB0.out.trans (hb1.mono HB0.out.size))).alloc (HB0.out.trans (hb1.mono HB0.out.size)).size (.cells #[.int .i64 7] 3))
  have hr := rd_one w1 7
  clear k1 hb1
  go_wp2_with (fail)
  refine (stand_any W.heap.size g F T _ _ K1.out ep _ 1 1 [7] a (Nat.le_refl _) (by omega) hr).mono ?_
  rintro e w2 ⟨rfl, F2, k2, t2, _⟩
  rw [(late1 E1.out T1.out).1]
  rw [(late1 E1.out T1.out).2] at k2
  have K2 := Lib.hid (k2.alloc (.cells #[.int .i64 7] 3))
  have HB2 := Lib.hid ((K1.out.go HB1.out t2).alloc (K1.out.go HB1.out t2).size (.cells #[.int .i64 7] 3))
  have hr2 := rd_one w2 7
  clear k2 t2 hr
  go_wp2_with (fail)
  refine (stand_any W.heap.size g F2 T _ _ K2.out ep _ 1 1 [7] (a + 2 * T) (Nat.le_refl _) (by omega) hr2).mono ?_
  rintro e w3 ⟨rfl, F3, k3, t3, _⟩
  rw [(late2 E1.out T2.out).1]
  rw [(late2 E1.out T2.out).2] at k3
  have K3 := Lib.hid k3
  have HB3 := Lib.hid (K2.out.go HB2.out t3)
  clear k3 t3 hr2
  go_wp2_with (fail)
  refine (ack_any W.heap.size g F3 T _ _ K3.out 7 o a in7).mono ?_
  rintro e w4 ⟨rfl, F4, k4, t4, _⟩
  rw [(late3 HN4.out).1]
  rw [(late3 HN4.out).2] at k4
  have K4 := Lib.hid k4
  have HB4 := Lib.hid (K3.out.go HB3.out t4)
  clear k4 t4
  go_wp2_with (fail)
  refine (ack_any W.heap.size g F4 T _ _ K4.out 7 ep (a + 2 * T + l) in7).mono ?_
  rintro e w5 ⟨rfl, F5, k5, t5, _⟩
  rw [(late4 HN5.out).1]
  rw [(late4 HN5.out).2] at k5
  have K5 := Lib.hid k5
  have HB5 := Lib.hid (K4.out.go HB4.out t5)
  clear k5 t5
  go_wp2_with (fail)
  refine (ack_any W.heap.size g F5 T _ _ K5.out 8 ep a in8).mono ?_
  rintro e w6 ⟨rfl, F6, k6, t6, _⟩
  rw [(late5).1]
  rw [(late5).2] at k6
  have K6 := Lib.hid k6
  have HB6 := Lib.hid (K5.out.go HB5.out t6)
  clear k6 t6
  go_wp2_with (fail)
  refine (ack_any W.heap.size g F6 T _ _ K6.out 7 ep (a + 2 * T) in7).mono ?_
  rintro e w7 ⟨rfl, F7, k7, t7, _⟩
  rw [(late6).1]
  rw [(late6).2] at k7
  have K7 := Lib.hid k7
  have HB7 := Lib.hid (K6.out.go HB6.out t7)
  clear k7 t7
  go_wp2_with (fail)
  refine (stand_any W.heap.size g F7 T _ _ K7.out ep none 0 0 [] a (Nat.le_refl _) (by omega) Reads.none_).mono ?_
  rintro e w8 ⟨rfl, F8, k8, t8, _⟩
  rw [(late7 E1.out T1.out).1]
  rw [(late7 E1.out T1.out).2] at k8
  have K8 := Lib.hid k8
  have HB8 := Lib.hid (K7.out.go HB7.out t8)
  clear k8 t8
  go_wp2_with (fail)
  refine (stand_any W.heap.size g F8 T _ _ K8.out ep none 0 0 [] (a + 2 * T + 1) (Nat.le_refl _) (by omega) Reads.none_).mono ?_
  rintro e w9 ⟨rfl, F9, k9, t9, _⟩
  rw [(late8 E1.out T3.out).1]
  rw [(late8 E1.out T3.out).2] at k9
  have K9 := Lib.hid k9
  have HB9 := Lib.hid (K8.out.go HB8.out t9)
  clear k9 t9
  go_wp2_with (fail)
  refine (ack_any W.heap.size g F9 T _ _ K9.out 7 ep (a + 2 * T + 1) in7).mono ?_
  rintro e w10 ⟨rfl, F10, k10, t10, _⟩
  have HB10 := Lib.hid (K9.out.go HB9.out t10)
  rw [late9]
  clear k10 t10
  go_wp2
  go_ret
  exact ⟨rfl, HB10.out⟩
theorem late_any (T a ep o l : Int) (W : World) :
    Calls Try.prog 5 #[.int .i64 T, .int .i64 a, .int .i64 ep, .int .i64 o, .int .i64 l] W (Says true W) := by
  by_cases h1 : 2 ≤ T
  · by_cases h2 : T ≤ 1073741824
    · by_cases n0 : 0 ≤ a
      · by_cases n1 : a ≤ 549755813888
        · by_cases n2 : 1 ≤ ep
          · by_cases n3 : ep ≤ 281474976710656
            · by_cases n4 : o = ep
              · exact late_out4 T a ep o l W h1 h2 n0 n1 n2 n3 n4
              · by_cases n5 : 1 ≤ l
                · by_cases n6 : l ≤ 549755813888
                  · exact late_in T a ep o l W h1 h2 n0 n1 n2 n3 n4 n5 n6
                  · exact late_out6 T a ep o l W h1 h2 n0 n1 n2 n3 n5 (by simpa using n4) (by omega)
                · exact late_out5 T a ep o l W h1 h2 n0 n1 n2 n3 (by simpa using n4) (by omega)
            · exact late_out3 T a ep o l W h1 h2 n0 n1 n2 (by omega)
          · exact late_out2 T a ep o l W h1 h2 n0 n1 (by omega)
        · exact late_out1 T a ep o l W h1 h2 n0 (by omega)
      · exact late_out0 T a ep o l W h1 h2 (by omega)
    · exact late_no T a ep o l W (.inr (by omega))
  · exact late_no T a ep o l W (.inl (by omega))
end Go.Proofs.Ytmjbacmaafbdlaa
