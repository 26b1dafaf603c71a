/-
  WHAT IS PROVED: the law ConfUnlike answers true: two right states have the same text just if they are the same. Conditions: the library's variables hold what is laid there; the known ones lie in memory.
-/
import Derived.Test.YtngammeppiadgaaGreatDoorArgs
namespace Go.Proofs.YtngammeppiadgaaGreatDoor
open Go.RowKit C

def txO (d : Dt) : List UInt8 × Int := if okD d = true then (txD d, 0) else ([], 10)
theorem text_d (d : Dt) (A : Option Addr) (n cap : Nat) (w : World) (hE : Env w) (hk : KnAt w A n d.l) (hN : n ≤ 9223372036854775807) : Calls Tryz.prog 11 #[.agg (stv (mkS d A n cap))] w (TextPost (txO d).1 (txO d).2 w) := by
  unfold txO
  by_cases h : okD d = true
  · rw [if_pos h]
    exact text_yes (mkS d A n cap) d.l w hE hk (by rw [okD_eq d A n cap hk.1]; exact h)
  · rw [if_neg h]
    exact text_no (mkS d A n cap) d.l w hk hN (by rw [okD_eq d A n cap hk.1]; simpa using h)
theorem txO_two (d : Dt) : (okD d = true ∧ txO d = (txD d, 0)) ∨ (okD d = false ∧ txO d = ([], 10)) := by
  unfold txO
  by_cases h : okD d = true
  · exact .inl ⟨h, if_pos h⟩
  · exact .inr ⟨by simpa using h, if_neg h⟩
theorem unlike_same {a b : Dt} {A B : Option Addr} {n m c e : Nat} (ha : okD a = true) (hb : okD b = true) (hn : a.l.length = n) (hm : b.l.length = m) : (txD a = txD b ∧ sameSt (mkS a A n c) a.l (mkS b B m e) b.l = true) ∨ (txD a ≠ txD b ∧ sameSt (mkS a A n c) a.l (mkS b B m e) b.l = false) := by
  by_cases h : txD a = txD b
  · exact .inl ⟨h, (sameSt_iff hn hm).2 (tx_inj ha hb h)⟩
  · refine .inr ⟨h, ?_⟩
    rw [← Bool.not_eq_true]
    intro hs
    exact h (txD_congr ((sameSt_iff hn hm).1 hs))

set_option maxRecDepth 100000 in
set_option maxHeartbeats 1000000 in
theorem unlike_any (a b : Dt) (A B : Option Addr) (n m c e : Nat) (W : World) (hE : Env W) (ha : KnAt W A n a.l) (hb : KnAt W B m b.l) (hn : n ≤ 9223372036854775807) (hm : m ≤ 9223372036854775807) :
    Calls Tryz.prog 6 #[.agg (stv (mkS a A n c)), .agg (stv (mkS b B m e))] W (Says true W) := by
  obtain ⟨h1, h2, h3, _⟩ := two_sts (w := W) (s := mkS a A n c) (u := mkS b B m e) (Below.refl _ _)
  have HS := Lib.hid h1
  have HT := Lib.hid h2
  have HB := Lib.hid h3
  have HA := Lib.hid (ha.below h3)
  have HD := Lib.hid (hb.below h3)
  have HE := Lib.hid (hE.below h3)
  have hla := ha.1
  have hlb := hb.1
  clear h1 h2 h3 ha hb hE
  go_enter Tryz.func6, Tryz.ntmps6
  go_wp2_with (fail)
  refine (anchor_any _ HE.out).mono ?_
  rintro e1 w1 ⟨rfl, hb1⟩
  have K1 := Lib.hid (HS.out.later hb1)
  have K2 := Lib.hid (HT.out.later hb1)
  have KB := Lib.hid (HB.out.trans (hb1.mono HB.out.size))
  have KA := Lib.hid (HA.out.below hb1)
  have KD := Lib.hid (HD.out.below hb1)
  have KE := Lib.hid (HE.out.below hb1)
  clear hb1 HS HT HB HA HD HE
  have a5 := K1.out.box.2.2.2.2.2
  have b5 := K2.out.box.2.2.2.2.2
  have a5' : w1.cell? ⟨W.heap.size, 5, none⟩ = some (.slice A n c) := a5
  have b5' : w1.cell? ⟨W.heap.size + 1, 5, none⟩ = some (.slice B m e) := b5
  clear a5 b5
  by_cases hn4 : n ≤ 40
  · have hq1 : decide ((n : Int) > 40) = false := by simp; omega
    have hq1' : decide (40 < (n : Int)) = false := by simp; omega
    by_cases hm4 : m ≤ 40
    · have hq2' : decide (40 < (m : Int)) = false := by simp; omega
      clear hq1
      go_wp2_with (first | ((with_reducible refine st_load (b := W.heap.size) (s := mkS a A n c) ?_ ?_ ?_ ?_); (rfl); (with_reducible exact K1.out); (rfl)))
      refine (text_d a A n c _ KE.out KA.out (by omega)).mono ?_
      rintro e1 w2 ⟨rfl, hb2⟩
      have L1 := Lib.hid (K1.out.later hb2)
      have L2 := Lib.hid (K2.out.later hb2)
      have LB := Lib.hid (KB.out.trans (hb2.mono KB.out.size))
      have LA := Lib.hid (KA.out.below hb2)
      have LD := Lib.hid (KD.out.below hb2)
      have LE := Lib.hid (KE.out.below hb2)
      clear hb2 a5' b5' K1 K2 KB KA KD KE
      go_wp2_with (first | ((with_reducible refine st_load (b := W.heap.size + 1) (s := mkS b B m e) ?_ ?_ ?_ ?_); (rfl); (with_reducible exact L2.out); (rfl)))
      refine (text_d b B m e _ LE.out LD.out (by omega)).mono ?_
      rintro e1 w3 ⟨rfl, hb3⟩
      have M1 := Lib.hid (L1.out.later hb3)
      have M2 := Lib.hid (L2.out.later hb3)
      have MB := Lib.hid (LB.out.trans (hb3.mono LB.out.size))
      have MA := Lib.hid (LA.out.below hb3)
      have MD := Lib.hid (LD.out.below hb3)
      clear hb3 L1 L2 LB LA LD LE
      rcases txO_two a with ⟨oa, ea⟩ | ⟨oa, ea⟩
      · rcases txO_two b with ⟨ob, eb⟩ | ⟨ob, eb⟩
        · rw [ea, eb]
          rcases unlike_same (A := A) (B := B) (c := c) (e := e) oa ob hla hlb with ⟨ht, hs⟩ | ⟨ht, hs⟩
          · have HSS := Lib.hid hs
            have hq : ((str (txD a)).toList == (str (txD b)).toList) = true := by rw [str_toList, str_toList, ht]; simp
            clear ea eb oa ob ht hs
            go_wp2_with (first | ((with_reducible refine st_load (b := W.heap.size) (s := mkS a A n c) ?_ ?_ ?_ ?_); (rfl); (with_reducible exact M1.out); (rfl)) | ((with_reducible refine st_load (b := W.heap.size + 1) (s := mkS b B m e) ?_ ?_ ?_ ?_); (rfl); (with_reducible exact M2.out); (rfl)))
            refine (samestate_any (mkS a A n c) (mkS b B m e) a.l b.l _ MA.out MD.out (by show n ≤ _; omega)).mono ?_
            rw [HSS.out]
            rintro e1 w4 ⟨rfl, hb4⟩
            go_wp2
            go_ret
            exact ⟨rfl, MB.out.trans (hb4.mono MB.out.size)⟩
          · have HSS := Lib.hid hs
            have hq : ((str (txD a)).toList == (str (txD b)).toList) = false := by rw [str_toList, str_toList]; simpa using ht
            clear ea eb oa ob ht hs
            go_wp2_with (first | ((with_reducible refine st_load (b := W.heap.size) (s := mkS a A n c) ?_ ?_ ?_ ?_); (rfl); (with_reducible exact M1.out); (rfl)) | ((with_reducible refine st_load (b := W.heap.size + 1) (s := mkS b B m e) ?_ ?_ ?_ ?_); (rfl); (with_reducible exact M2.out); (rfl)))
            refine (samestate_any (mkS a A n c) (mkS b B m e) a.l b.l _ MA.out MD.out (by show n ≤ _; omega)).mono ?_
            rw [HSS.out]
            rintro e1 w4 ⟨rfl, hb4⟩
            go_wp2
            go_ret
            exact ⟨rfl, MB.out.trans (hb4.mono MB.out.size)⟩
        · rw [ea, eb]
          clear ea eb oa ob
          go_wp2
          go_ret
          exact ⟨rfl, MB.out⟩
      · rw [ea]
        clear ea oa
        generalize txO b = tb2 at *
        go_wp2
        go_ret
        exact ⟨rfl, MB.out⟩
    · have hq2' : decide (40 < (m : Int)) = true := by simp; omega
      clear hq1
      go_wp2
      go_ret
      exact ⟨rfl, KB.out⟩
  · have hq1' : decide (40 < (n : Int)) = true := by simp; omega
    go_wp2
    go_ret
    exact ⟨rfl, KB.out⟩
end Go.Proofs.YtngammeppiadgaaGreatDoor
