/-
  WHAT IS PROVED: the contract of the document's reader of a line, at a line of slots. Conditions: a line has at most 100000 bytes; the State lies in a variable, its known ones in a row of its own.
-/
import Derived.Test.YtmjbacmaafbdlaaGreatDoorRLineA
import Derived.Test.YtmjbacmaafbdlaaGreatDoorSRefParse
import Derived.OrdersHeld
namespace Go.Proofs.YtmjbacmaafbdlaaGreatDoor.R
set_option maxRecDepth 100000
open Go.RowKit Go.Lib C

theorem stv_setO (s : Sv) {k : Nat} (hk : k < 64) (x : Int) : (stv s).setIfInBounds (6 + k) (.int .i64 x) = stv { s with t := setO s.t k x } := by
  have h := congrArg Array.toList (tb_setO s.t hk x)
  have h2 : (tbL s.t).set k (.int .i64 x) = tbL (setO s.t k x) := by simpa [tb, tbL] using h
  unfold stv
  rw [List.setIfInBounds_toArray, show 6 + k = (stL s).length + k from rfl, List.set_append_right _ _ (by omega), Nat.add_sub_cancel_left, h2]
  rfl
theorem stv_setE (s : Sv) {k : Nat} (hk : k < 64) (x : Int) : (stv s).setIfInBounds (70 + k) (.int .i64 x) = stv { s with t := setE s.t k x } := by
  have h := congrArg Array.toList (tb_setE s.t hk x)
  have h2 : (tbL s.t).set (64 + k) (.int .i64 x) = tbL (setE s.t k x) := by simpa [tb, tbL] using h
  unfold stv
  rw [List.setIfInBounds_toArray, show 70 + k = (stL s).length + (64 + k) by show 70 + k = 6 + (64 + k); omega, List.set_append_right _ _ (by omega), Nat.add_sub_cancel_left, h2]
  rfl
theorem _root_.Go.Proofs.YtmjbacmaafbdlaaGreatDoor.RAt.setO {w : World} {b : Nat} {s : Sv} (h : RAt w b s) {k : Nat} (hk : k < 64) (x : Int) : RAt (w.setCell ⟨b, 6 + k, none⟩ (.int .i64 x)) b { s with t := C.setO s.t k x } := by unfold RAt; rw [← stv_setO s hk]; exact Blk.set_ h (6 + k) _
theorem _root_.Go.Proofs.YtmjbacmaafbdlaaGreatDoor.RAt.setE {w : World} {b : Nat} {s : Sv} (h : RAt w b s) {k : Nat} (hk : k < 64) (x : Int) : RAt (w.setCell ⟨b, 70 + k, none⟩ (.int .i64 x)) b { s with t := C.setE s.t k x } := by unfold RAt; rw [← stv_setE s hk]; exact Blk.set_ h (70 + k) _
/-- the table, once the first k slots are written -/
def tS (t : Tab) (o p : Int) (S k : Nat) : Tab := ⟨fun i => if i < k ∧ S.testBit i = true then o else t.o i, fun i => if i < k ∧ S.testBit i = true then p else t.e i⟩
theorem tS_zero (d : Dt) (o p : Int) (S : Nat) (a : Option Addr) (n c : Nat) : (mkS d a n c).like (mkS { d with t := tS d.t o p S 0 } a n c) :=
  ⟨rfl, rfl, rfl, rfl, rfl, rfl, rfl, rfl, fun i _ => by simp [tS, mkS]⟩
theorem tS_no (d : Dt) (o p : Int) {S k : Nat} (h : S.testBit k = false) (a : Option Addr) (n c : Nat) : (mkS { d with t := tS d.t o p S k } a n c).like (mkS { d with t := tS d.t o p S (k + 1) } a n c) :=
  ⟨rfl, rfl, rfl, rfl, rfl, rfl, rfl, rfl, fun i _ => by
    have : (i < k ∧ S.testBit i = true) ↔ (i < k + 1 ∧ S.testBit i = true) := ⟨fun ⟨g1, g2⟩ => ⟨by omega, g2⟩, fun ⟨g1, g2⟩ => ⟨by
      rcases Nat.lt_or_ge i k with h1 | h1
      · exact h1
      · have : i = k := by omega
        subst this
        exact absurd g2 (by rw [h]; decide), g2⟩⟩
    simp only [tS, mkS, this, and_self]⟩
theorem tS_yes (d : Dt) (o p : Int) {S k : Nat} (h : S.testBit k = true) (a : Option Addr) (n c : Nat) : Sv.like { mkS { d with t := tS d.t o p S k } a n c with t := C.setE (C.setO (tS d.t o p S k) k o) k p } (mkS { d with t := tS d.t o p S (k + 1) } a n c) :=
  ⟨rfl, rfl, rfl, rfl, rfl, rfl, rfl, rfl, fun i _ => by
    by_cases hi : i = k
    · subst hi
      simp [tS, mkS, C.setE, C.setO, h]
    · have : (i < k ∧ S.testBit i = true) ↔ (i < k + 1 ∧ S.testBit i = true) := ⟨fun ⟨g1, g2⟩ => ⟨by omega, g2⟩, fun ⟨g1, g2⟩ => ⟨by omega, g2⟩⟩
      simp only [tS, mkS, C.setE, C.setO, this, hi, if_false, and_self]⟩
theorem tS_full (t : Tab) (o p : Int) (S : Nat) : tS t o p S 64 = ⟨fun i => if i < 64 ∧ S.testBit i = true then o else t.o i, fun i => if i < 64 ∧ S.testBit i = true then p else t.e i⟩ := rfl

set_option maxHeartbeats 2000000 in
theorem line_slots (d : Dt) (a : Option Addr) (n cap b base : Nat) (l : List UInt8) (hl : l.length ≤ 100000) (w : World) (hS : RAt w b (mkS d a n cap)) (hb : b < base) (hn : n ≤ 100000)
    (hown : w.ownsRow base 60 3 (.slice a n cap) n (flatK d.l)) (hok : (pairsF l nodeN true 0 []).2.2 = false) :
    Calls Tryz.prog 13 #[.pointer (some ⟨b, 0, none⟩), .string (str l), .bool false] w (LineP (lineF d l false) b base w) := by
  have HNEW : Below w.heap.size w (w.alloc (.cells #[.string ⟨#[115, 101, 108, 102]⟩, .string ⟨#[109, 97, 115, 116, 101, 114]⟩, .string ⟨#[99, 117, 114, 114, 101, 110, 116]⟩, .string ⟨#[118, 111, 116, 101]⟩, .string ⟨#[99, 111, 110, 102, 105, 103]⟩] 9)) := (Below.refl _ w).alloc (Nat.le_refl _) _
  have HB0 := Lib.hid HNEW
  have hblt := hS.lt
  have JR := Lib.hid (reads_new w 9 (strV selfN) #[.string ⟨#[115, 101, 108, 102]⟩, .string ⟨#[109, 97, 115, 116, 101, 114]⟩, .string ⟨#[99, 117, 114, 114, 101, 110, 116]⟩, .string ⟨#[118, 111, 116, 101]⟩, .string ⟨#[99, 111, 110, 102, 105, 103]⟩] b w.heap.size 5 rfl rfl rfl (by omega))
  have K0 := Lib.hid (hS.later HNEW)
  have O0 := Lib.hid (own_below hown HNEW)
  clear HNEW hown hS
  have HLP := Lib.hid (pairs_len l slotsN true 0 [])
  have HLE := Lib.hid (pairs_le l slotsN true 0 [] (by omega))
  have hz : (str l).size ≤ 100000 := hl
  have hz2 : ((str l).size : Int) ≤ 100000 := by omega
  have hzs : (str l).size = l.length := str_size l
  have C1 := Lib.hid (pairs_at l hl selfN 5 rfl (some ⟨w.heap.size, 0, none⟩) 5 b _ (by decide) (by decide) JR.out)
  obtain ⟨o, HO⟩ : ∃ o, Hid (lineF d l false = o) := ⟨_, Lib.hid rfl⟩
  rw [HO.out]
  obtain ⟨p2, HP2⟩ : ∃ p, Hid (pairsF l nodeN true 0 [] = p) := ⟨_, Lib.hid rfl⟩
  rw [HP2.out] at hok
  obtain ⟨zs2, en2, ok2⟩ := p2
  simp only at hok
  subst hok
  have HF : Hid (lineF d l false = match pairsF l slotsN true 0 [] with
      | ([o, p], e, true) => if (l.drop e).take 3 = [32, 58, 32] ∧ (S.refParse (l.drop (e + 3))).isSome = true then some { d with t := tS d.t o p (S.refSet (l.drop (e + 3))) 64 } else none
      | _ => none) := by
    show _ = _
    unfold lineF
    rw [if_neg (by decide), HP2.out]
    split
    · rename_i h; injection h with _ h; injection h with _ h; cases h
    · rfl
  obtain ⟨p3, HP3⟩ : ∃ p, Hid (pairsF l slotsN true 0 [] = p) := ⟨_, Lib.hid rfl⟩
  rw [HP3.out] at HF HLP HLE
  go_enter Tryz.func13, Tryz.ntmps13
  go_wp2_with (fail)
  with_reducible refine C1.out.mono ?_
  rintro e w1 ⟨hb1, hcase⟩
  have K1 := Lib.hid (K0.out.later hb1)
  have O1 := Lib.hid (own_below O0.out hb1)
  have HB1 := Lib.hid (HB0.out.trans (hb1.mono HB0.out.size))
  have hbl1 := K1.out.lt
  have hsw := HB1.out.size
  clear hb1 K0 O0 C1 JR HB0
  have HNEW : Below w1.heap.size w1 (w1.alloc (.cells #[.string ⟨#[110, 111, 100, 101]⟩, .string ⟨#[109, 97, 115, 116, 101, 114]⟩, .string ⟨#[99, 111, 110, 102, 105, 103]⟩] 9)) := (Below.refl _ w1).alloc (Nat.le_refl _) _
  have JR := Lib.hid (reads_new w1 9 (strV nodeN) #[.string ⟨#[110, 111, 100, 101]⟩, .string ⟨#[109, 97, 115, 116, 101, 114]⟩, .string ⟨#[99, 111, 110, 102, 105, 103]⟩] b w1.heap.size 3 rfl rfl rfl (by omega))
  have L0 := Lib.hid (K1.out.later HNEW)
  have P0 := Lib.hid (own_below O1.out HNEW)
  have HBA := Lib.hid (HB1.out.trans (HNEW.mono HB1.out.size))
  have C2 := Lib.hid (pairs_at l hl nodeN 3 rfl (some ⟨w1.heap.size, 0, none⟩) 3 b _ (by decide) (by decide) JR.out)
  rw [HP2.out] at C2
  clear HNEW
  obtain ⟨A0, c0, k0, e0, rfl⟩ : ∃ (v : Value) (k : Int) (q : Bool) (u : Unit), e = .returned (.tuple #[v, .int .i64 k, .bool q]) := by
    rcases hcase with ⟨A1, c1, _, rfl, _⟩ | ⟨_, rfl⟩
    · exact ⟨_, _, _, (), rfl⟩
    · exact ⟨_, _, _, (), rfl⟩
  clear hcase K1 O1 HB1
  go_wp2_with (fail)
  with_reducible refine C2.out.mono ?_
  rintro e w2 ⟨hb2, ⟨A1, c1, hx, _⟩ | ⟨-, rfl⟩⟩
  · cases hx
  have K2 := Lib.hid (L0.out.later hb2)
  have O2 := Lib.hid (own_below P0.out hb2)
  have HB2 := Lib.hid (HBA.out.trans (hb2.mono HBA.out.size))
  have hbl2 := K2.out.lt
  have hsw2 := HB2.out.size
  clear hb2 L0 P0 HBA C2 JR
  have HNEW : Below w2.heap.size w2 (w2.alloc (.cells #[.string ⟨#[115, 108, 111, 116, 115]⟩, .string ⟨#[101, 112, 111, 99, 104]⟩] 9)) := (Below.refl _ w2).alloc (Nat.le_refl _) _
  have JR := Lib.hid (reads_new w2 9 (strV slotsN) #[.string ⟨#[115, 108, 111, 116, 115]⟩, .string ⟨#[101, 112, 111, 99, 104]⟩] b w2.heap.size 2 rfl rfl rfl (by omega))
  have L2 := Lib.hid (K2.out.later HNEW)
  have P2 := Lib.hid (own_below O2.out HNEW)
  have HBB := Lib.hid (HB2.out.trans (HNEW.mono HB2.out.size))
  have C3 := Lib.hid (pairs_at l hl slotsN 2 rfl (some ⟨w2.heap.size, 0, none⟩) 2 b _ (by decide) (by decide) JR.out)
  rw [HP3.out] at C3
  clear HNEW
  have hbb2 := L2.out.lt
  go_wp2_with (fail)
  with_reducible refine C3.out.mono ?_
  rintro e w3 ⟨hb3, hcase⟩
  have K3 := Lib.hid (L2.out.later hb3)
  have O3 := Lib.hid (own_below P2.out hb3)
  have HB3 := Lib.hid ((HBB.out.trans (hb3.mono HBB.out.size)).mono (show b ≤ w.heap.size by omega))
  clear L2 P2 HBB C3 JR K2 O2 HB2
  obtain ⟨zs, en, ok⟩ := p3
  rcases hcase with ⟨A1, c1, hok, rfl, hzc, hzm, hrd⟩ | ⟨hok, rfl⟩
  rotate_left 1
  · simp only at hok
    subst hok
    have HR : Hid (o = none) := Lib.hid (by rw [← HO.out, HF.out]; split; (rename_i h; injection h with _ h; injection h with _ h; cases h); rfl)
    clear HLP HLE HF hb3
    go_wp2
    go_ret
    exact ⟨HB3.out, d, a, n, cap, by rw [HR.out]; rfl, fun x hx => (by rw [HR.out] at hx; cases hx), by omega, K3.out, O3.out⟩
  simp only at hok
  subst hok
  have hlen : zs.length = 2 := HLP.out rfl
  obtain ⟨z0, z1, rfl⟩ : ∃ z0 z1, zs = [z0, z1] := match zs, hlen with
    | [p, q], _ => ⟨p, q, rfl⟩
  have hrd0 := hrd b (.inr hbb2)
  clear hrd hb3
  obtain ⟨ad, rfl, hltad, hne, _⟩ := hrd0.2 (Nat.succ_pos _)
  obtain ⟨n0, n1⟩ := cells2 (show Reads w3 b (some ad) 2 (zints [(z0 : Int), z1]) from hrd0)
  have N0 := Lib.hid n0
  have N1 := Lib.hid n1
  have hne' : ad.block ≠ b := hne
  clear hrd0 n0 n1 hne
  have hen : en ≤ l.length := HLE.out
  have hen2 : (en : Int) ≤ 100000 := by omega
  simp only [List.length_cons, List.length_nil, Nat.zero_add, Nat.reduceAdd] at hzc ⊢
  have HF2 : Hid (o = if (l.drop en).take 3 = [32, 58, 32] ∧ (S.refParse (l.drop (en + 3))).isSome = true then some { d with t := tS d.t z0 z1 (S.refSet (l.drop (en + 3))) 64 } else none) := Lib.hid (HO.out.symm.trans HF.out)
  clear HLP HLE HF
  by_cases h3 : en + 3 ≤ l.length
  rotate_left 1
  · have HR : Hid (o = none) := Lib.hid (by
      rw [HF2.out, if_neg]
      rintro ⟨h, _⟩
      have := congrArg List.length h
      simp at this
      omega)
    have q1 : ((str l).size : Int) < (en : Int) + 3 := by omega
    clear h3 hzs hen
    go_wp2
    go_ret
    exact ⟨HB3.out, d, a, n, cap, by rw [HR.out]; rfl, fun x hx => (by rw [HR.out] at hx; cases hx), by omega, K3.out, O3.out⟩
  obtain ⟨m, HM⟩ : ∃ m : Nat, Hid (m = en + 3) := ⟨_, Lib.hid rfl⟩
  have hme : (en : Int) + 3 = (m : Int) := by have := HM.out; omega
  have q1 : ¬ ((str l).size : Int) < (m : Int) := by have := HM.out; omega
  have q2 : m ≤ (str l).size := by have := HM.out; omega
  have q5 : en ≤ m := by have := HM.out; omega
  have q6 : (m : Int) ≤ 100000 := by omega
  have hx2 := str_ext2 l en m
  rw [show m - en = 3 by have := HM.out; omega] at hx2
  have hx3 := str_ext l m
  rw [← hzs] at hx3
  rw [← HM.out] at HF2
  have HZS := Lib.hid hzs
  clear hzs
  by_cases h4 : (l.drop en).take 3 = [32, 58, 32]
  rotate_left 1
  · have HR : Hid (o = none) := Lib.hid (by rw [HF2.out, if_neg (fun h => h4 h.1)])
    have q3 : ((str ((l.drop en).take 3)).toList == [32, 58, 32]) = false := by rw [str_toList]; simpa using h4
    clear h4
    go_wp2
    go_ret
    exact ⟨HB3.out, d, a, n, cap, by rw [HR.out]; rfl, fun x hx => (by rw [HR.out] at hx; cases hx), by omega, K3.out, O3.out⟩
  have q3 : ((str ((l.drop en).take 3)).toList == [32, 58, 32]) = true := by rw [str_toList, h4]; rfl
  have HF3 : Hid (o = if (S.refParse (l.drop m)).isSome = true then some { d with t := tS d.t z0 z1 (S.refSet (l.drop m)) 64 } else none) := Lib.hid (by
    rw [HF2.out]
    by_cases h : (S.refParse (l.drop m)).isSome = true
    · rw [if_pos ⟨h4, h⟩, if_pos h]
    · rw [if_neg (fun g => h g.2), if_neg h])
  clear h4 HF2
  go_wp2_with (fail)
  refine (S.refparse_any (l.drop m) (by rw [List.length_drop]; omega) _).mono ?_
  rintro e w4 ⟨rfl, hb4⟩
  have K4 := Lib.hid (K3.out.later hb4)
  have O4 := Lib.hid (own_below O3.out hb4)
  have HB4 := Lib.hid (HB3.out.trans (hb4.mono (Nat.le_of_lt K3.out.lt)))
  have M0 := Lib.hid ((hb4.cell (show ad.block < w3.heap.size from hltad)).trans N0.out)
  have M1 := Lib.hid ((hb4.cell (p := ⟨ad.block, ad.off + 1, none⟩) (show ad.block < w3.heap.size from hltad)).trans N1.out)
  have hbw4 := K4.out.lt
  have had4 : ad.block < w4.heap.size := Nat.lt_of_lt_of_le hltad hb4.size
  clear hb4 K3 O3 HB3 N0 N1 hltad hx2 hx3 q1 q3 hme q6 hen2 h3 hzc hzm hlen
  have HIS : Hid ((S.refParse (l.drop m)).isSome = false → ∀ k, (S.refSet (l.drop m)).testBit k = false) := Lib.hid fun h k => by
    rw [S.refSet_none (by simpa using h)]; simp
  generalize S.refSet (l.drop m) = SN at *
  generalize (S.refParse (l.drop m)).isSome = IS at *
  obtain ⟨C, HCF⟩ : ∃ C, Hid (S.fl SN = C) := ⟨_, Lib.hid rfl⟩
  have HSI : Hid ((Tryz.prog.info? 64).map (·.size) = some C.size) := Lib.hid (by rw [← HCF.out]; exact S.fl_info2 SN)
  have HOO : Hid ((S.fl 0).size = C.size) := Lib.hid (by rw [← HCF.out, S.fl_size, S.fl_size])
  have HCC : Hid (C.all (·.oneCell') = true) := Lib.hid (by rw [← HCF.out]; exact S.fl_cells SN)
  rw [HCF.out]
  have hfbb : b < w4.heap.size := by omega
  have hfad : ad.block < w4.heap.size := by omega
  go_wp2_with (refine wpList_store_row rfl 64 (.tmp 10) (.tmp 120) rfl w4.heap.size C rfl rfl 64 (S.fl 0) (S.blk_new rfl (by kernel_rfl)) HSI.out HOO.out HCC.out ?_)
  go_loopw [12] (fun i wr => ∃ k : Nat, k ≤ 64 ∧ i = .int .i64 (k : Int) ∧ Hid (RAt wr b (mkS { d with t := tS d.t z0 z1 SN k } a n cap)) ∧ Hid (Blk wr w4.heap.size 64 C) ∧ Hid (Below b w wr) ∧ Hid (wr.ownsRow base 60 3 (.slice a n cap) n (flatK d.l)) ∧ Hid (wr.cell? ad = some (.int .i64 z0) ∧ wr.cell? ⟨ad.block, ad.off + 1, none⟩ = some (.int .i64 z1))) (fun i _ => 64 - (RowKit.intOf i).toNat)
  case atStart =>
    exact ⟨0, Nat.zero_le _, rfl, Lib.hid (RAt.like_ (K4.out.later (below_row ((Below.refl _ w4).alloc (Nat.le_refl _) _) (Nat.le_refl _) _)) (tS_zero d z0 z1 SN a n cap)), Lib.hid (setRow_heap _ _ _ _ _ _ (S.blk_new (D := S.fl 0) rfl (by kernel_rfl))), Lib.hid (HB4.out.trans ((below_row ((Below.refl _ w4).alloc (Nat.le_refl _) _) (Nat.le_refl _) _).mono (Nat.le_of_lt hbw4))), Lib.hid (own_below O4.out (below_row ((Below.refl _ w4).alloc (Nat.le_refl _) _) (Nat.le_refl _) _)), Lib.hid ⟨((below_row ((Below.refl _ w4).alloc (Nat.le_refl _) _) (Nat.le_refl _) _).cell had4).trans M0.out, ((below_row ((Below.refl _ w4).alloc (Nat.le_refl _) _) (Nat.le_refl _) _).cell (p := ⟨ad.block, ad.off + 1, none⟩) had4).trans M1.out⟩⟩
  case round =>
    obtain ⟨k, hk, rfl, RK, RF, RB, RO, RC⟩ := hrel
    by_cases hk64 : k < 64
    · have hk1 : 0 ≤ (k : Int) := by omega
      have hk2 : (k : Int) < 64 := by omega
      have cf : wr.cell? ⟨w4.heap.size, k, none⟩ = some (.bool (SN.testBit k)) := (RF.out.cell k).trans (by rw [← HCF.out]; exact S.fl_at SN hk64)
      cases hbt : SN.testBit k with
      | false =>
        have RN := Lib.hid (RAt.like_ RK.out (tS_no d z0 z1 hbt a n cap))
        rw [hbt] at cf
        clear hbt
        cases IS with
        | false =>
          go_wp2
          go_roundw
          case rel => exact ⟨k + 1, by omega, by go_num, RN, RF, RB, RO, RC⟩
          case measure => simp [RowKit.intOf]; omega
        | true =>
          go_wp2
          go_roundw
          case rel => exact ⟨k + 1, by omega, by go_num, RN, RF, RB, RO, RC⟩
          case measure => simp [RowKit.intOf]; omega
      | true =>
        cases IS with
        | false => exact absurd (HIS.out rfl k) (by rw [hbt]; decide)
        | true =>
          have X0 : RAt wr.drew b _ := RK.out.drew
          have X1 := X0.setO hk64 z0
          have X1d : RAt (wr.drew.setCell ⟨b, 6 + k, none⟩ (.int .i64 z0)).drew b _ := X1.drew
          have RN := Lib.hid (RAt.like_ (X1d.setE hk64 z1) (tS_yes d z0 z1 hbt a n cap))
          have RFN : Hid (Blk ((wr.drew.setCell ⟨b, 6 + k, none⟩ (.int .i64 z0)).drew.setCell ⟨b, 70 + k, none⟩ (.int .i64 z1)) w4.heap.size 64 C) := Lib.hid (((RF.out.drew.far (p := ⟨b, 6 + k, none⟩) (by show w4.heap.size ≠ b; omega) _).drew).far (p := ⟨b, 70 + k, none⟩) (by show w4.heap.size ≠ b; omega) _)
          have RBN := Lib.hid (below_set ((below_set RB.out.drew (p := ⟨b, 6 + k, none⟩) (Nat.le_refl _) (.int .i64 z0)).drew) (p := ⟨b, 70 + k, none⟩) (Nat.le_refl _) (.int .i64 z1))
          have RON := Lib.hid (own_set_far (show (wr.drew.setCell ⟨b, 6 + k, none⟩ (.int .i64 z0)).drew.ownsRow _ _ _ _ _ _ from own_set_far (show wr.drew.ownsRow _ _ _ _ _ _ from RO.out) (p := ⟨b, 6 + k, none⟩) hb (.int .i64 z0)) (p := ⟨b, 70 + k, none⟩) hb (.int .i64 z1))
          have d0 : wr.drew.cell? ad = some (.int .i64 z0) ∧ wr.drew.cell? ⟨ad.block, ad.off + 1, none⟩ = some (.int .i64 z1) := RC.out
          have d1 : (wr.drew.setCell ⟨b, 6 + k, none⟩ (.int .i64 z0)).cell? ad = some (.int .i64 z0) ∧ (wr.drew.setCell ⟨b, 6 + k, none⟩ (.int .i64 z0)).cell? ⟨ad.block, ad.off + 1, none⟩ = some (.int .i64 z1) := ⟨(cell_far wr.drew (p := ⟨b, 6 + k, none⟩) hne' _).trans d0.1, (cell_far wr.drew (q := ⟨ad.block, ad.off + 1, none⟩) (p := ⟨b, 6 + k, none⟩) hne' _).trans d0.2⟩
          have d1d : (wr.drew.setCell ⟨b, 6 + k, none⟩ (.int .i64 z0)).drew.cell? ad = some (.int .i64 z0) ∧ (wr.drew.setCell ⟨b, 6 + k, none⟩ (.int .i64 z0)).drew.cell? ⟨ad.block, ad.off + 1, none⟩ = some (.int .i64 z1) := d1
          have d2 : ((wr.drew.setCell ⟨b, 6 + k, none⟩ (.int .i64 z0)).drew.setCell ⟨b, 70 + k, none⟩ (.int .i64 z1)).cell? ad = some (.int .i64 z0) ∧ ((wr.drew.setCell ⟨b, 6 + k, none⟩ (.int .i64 z0)).drew.setCell ⟨b, 70 + k, none⟩ (.int .i64 z1)).cell? ⟨ad.block, ad.off + 1, none⟩ = some (.int .i64 z1) := ⟨(cell_far _ (p := ⟨b, 70 + k, none⟩) hne' _).trans d1d.1, (cell_far _ (q := ⟨ad.block, ad.off + 1, none⟩) (p := ⟨b, 70 + k, none⟩) hne' _).trans d1d.2⟩
          have RCN := Lib.hid d2
          have c6 := X0.o hk64
          have c70 := X1d.e hk64
          have f6 : wr.drew.frozen? ⟨b, 6 + k, none⟩ = false := X0.fz _
          have f70 : (wr.drew.setCell ⟨b, 6 + k, none⟩ (.int .i64 z0)).drew.frozen? ⟨b, 70 + k, none⟩ = false := X1d.fz _
          have c70n : (wr.setCell ⟨b, 6 + k, none⟩ (.int .i64 z0)).drew.drew.cell? ⟨b, 70 + k, none⟩ = _ := c70
          have f70n : (wr.setCell ⟨b, 6 + k, none⟩ (.int .i64 z0)).drew.drew.frozen? ⟨b, 70 + k, none⟩ = false := f70
          rw [hbt] at cf
          clear hbt X0 X1 X1d
          go_wp2
          refine wp_region_held_drew (S := fun w' => w'.cell? ad = some (.int .i64 z0) ∧ w'.cell? ⟨ad.block, ad.off + 1, none⟩ = some (.int .i64 z1)) (by kernel_rfl) d0 (fun hHeld => ?_)
          refine wpAnyH_take (i := 0) (oi := ⟨some 132, _, _, _, _, _⟩) (v := .pointer (some ⟨b, 0, none⟩)) rfl (by kernel_rfl) (by kernel_rfl) (by kernel_rfl) (fun _ _ _ h => h) (Or.inl ⟨by rfl, ?_⟩) (by assumption) ?_
          · (intro w' hSw; obtain ⟨s0, s1⟩ := hSw; go_simp)
          try simp only [Act.put, List.setIfInBounds_toArray, List.set_cons_zero, List.set_cons_succ]
          refine wpAnyH_take (i := 1) (oi := ⟨some 133, _, _, _, _, _⟩) (v := .int .i64 (k : Int)) rfl (by kernel_rfl) (by kernel_rfl) (by kernel_rfl) (fun _ _ _ h => h) (Or.inl ⟨by rfl, ?_⟩) (by assumption) ?_
          · (intro w' hSw; obtain ⟨s0, s1⟩ := hSw; go_simp)
          try simp only [Act.put, List.setIfInBounds_toArray, List.set_cons_zero, List.set_cons_succ]
          refine wpAnyH_take (i := 2) (oi := ⟨some 134, _, _, _, _, _⟩) (v := .slice (some ad) 2 c1) rfl (by kernel_rfl) (by kernel_rfl) (by kernel_rfl) (fun _ _ _ h => h) (Or.inl ⟨by rfl, ?_⟩) (by assumption) ?_
          · (intro w' hSw; obtain ⟨s0, s1⟩ := hSw; go_simp)
          try simp only [Act.put, List.setIfInBounds_toArray, List.set_cons_zero, List.set_cons_succ]
          refine wpAnyH_take (i := 3) (oi := ⟨some 135, _, _, _, _, _⟩) (v := .pointer (some ad)) rfl (by kernel_rfl) (by kernel_rfl) (by kernel_rfl) (fun _ _ _ h => h) (Or.inl ⟨by rfl, ?_⟩) (by assumption) ?_
          · (intro w' hSw; obtain ⟨s0, s1⟩ := hSw; go_simp)
          try simp only [Act.put, List.setIfInBounds_toArray, List.set_cons_zero, List.set_cons_succ]
          refine wpAnyH_take (i := 4) (oi := ⟨some 136, _, _, _, _, _⟩) (v := .int .i64 z0) rfl (by kernel_rfl) (by kernel_rfl) (by kernel_rfl) (fun _ _ _ h => h) (Or.inl ⟨by rfl, ?_⟩) (by assumption) ?_
          · (intro w' hSw; obtain ⟨s0, s1⟩ := hSw; go_simp)
          try simp only [Act.put, List.setIfInBounds_toArray, List.set_cons_zero, List.set_cons_succ]
          refine wpAnyH_take (i := 5) (oi := ⟨some 137, _, _, _, _, _⟩) (v := .pointer (some ⟨b, 0, none⟩)) rfl (by kernel_rfl) (by kernel_rfl) (by kernel_rfl) (fun _ _ _ h => h) (Or.inl ⟨by rfl, ?_⟩) (by assumption) ?_
          · (intro w' hSw; obtain ⟨s0, s1⟩ := hSw; go_simp)
          try simp only [Act.put, List.setIfInBounds_toArray, List.set_cons_zero, List.set_cons_succ]
          refine wpAnyH_take (i := 6) (oi := ⟨some 138, _, _, _, _, _⟩) (v := .pointer (some ⟨b, 6, none⟩)) rfl (by kernel_rfl) (by kernel_rfl) (by kernel_rfl) (fun _ _ _ h => h) (Or.inl ⟨by rfl, ?_⟩) (by assumption) ?_
          · (intro w' hSw; obtain ⟨s0, s1⟩ := hSw; go_simp)
          try simp only [Act.put, List.setIfInBounds_toArray, List.set_cons_zero, List.set_cons_succ]
          refine wpAnyH_take (i := 7) (oi := ⟨some 139, _, _, _, _, _⟩) (v := .pointer (some ⟨b, 6 + k, none⟩)) rfl (by kernel_rfl) (by kernel_rfl) (by kernel_rfl) (fun _ _ _ h => h) (Or.inl ⟨by rfl, ?_⟩) (by assumption) ?_
          · (intro w' hSw; obtain ⟨s0, s1⟩ := hSw; go_simp)
          try simp only [Act.put, List.setIfInBounds_toArray, List.set_cons_zero, List.set_cons_succ]
          refine wpAnyH_ready (rs := [8]) (by kernel_rfl) (by simp) ?_
          refine AllReadyH.cons rfl (fun K hK => ?_) AllReadyH.nil
          go_simp
          refine hK.out _ _ d1 (fun hHeld => ?_)
          clear hK K
          try simp only [Act.put, List.setIfInBounds_toArray, List.set_cons_zero, List.set_cons_succ]
          refine wpAnyH_done (by kernel_rfl) ?_ _
          clear hHeld
          go_wp2
          refine wp_region_held_drew (S := fun w' => w'.cell? ad = some (.int .i64 z0) ∧ w'.cell? ⟨ad.block, ad.off + 1, none⟩ = some (.int .i64 z1)) (by kernel_rfl) d1d (fun hHeld => ?_)
          refine wpAnyH_take (i := 0) (oi := ⟨some 140, _, _, _, _, _⟩) (v := .pointer (some ⟨b, 0, none⟩)) rfl (by kernel_rfl) (by kernel_rfl) (by kernel_rfl) (fun _ _ _ h => h) (Or.inl ⟨by rfl, ?_⟩) (by assumption) ?_
          · (intro w' hSw; obtain ⟨s0, s1⟩ := hSw; go_simp)
          try simp only [Act.put, List.setIfInBounds_toArray, List.set_cons_zero, List.set_cons_succ]
          refine wpAnyH_take (i := 1) (oi := ⟨some 141, _, _, _, _, _⟩) (v := .int .i64 (k : Int)) rfl (by kernel_rfl) (by kernel_rfl) (by kernel_rfl) (fun _ _ _ h => h) (Or.inl ⟨by rfl, ?_⟩) (by assumption) ?_
          · (intro w' hSw; obtain ⟨s0, s1⟩ := hSw; go_simp)
          try simp only [Act.put, List.setIfInBounds_toArray, List.set_cons_zero, List.set_cons_succ]
          refine wpAnyH_take (i := 2) (oi := ⟨some 142, _, _, _, _, _⟩) (v := .slice (some ad) 2 c1) rfl (by kernel_rfl) (by kernel_rfl) (by kernel_rfl) (fun _ _ _ h => h) (Or.inl ⟨by rfl, ?_⟩) (by assumption) ?_
          · (intro w' hSw; obtain ⟨s0, s1⟩ := hSw; go_simp)
          try simp only [Act.put, List.setIfInBounds_toArray, List.set_cons_zero, List.set_cons_succ]
          refine wpAnyH_take (i := 3) (oi := ⟨some 143, _, _, _, _, _⟩) (v := .pointer (some ⟨ad.block, ad.off + 1, none⟩)) rfl (by kernel_rfl) (by kernel_rfl) (by kernel_rfl) (fun _ _ _ h => h) (Or.inl ⟨by rfl, ?_⟩) (by assumption) ?_
          · (intro w' hSw; obtain ⟨s0, s1⟩ := hSw; go_simp)
          try simp only [Act.put, List.setIfInBounds_toArray, List.set_cons_zero, List.set_cons_succ]
          refine wpAnyH_take (i := 4) (oi := ⟨some 144, _, _, _, _, _⟩) (v := .int .i64 z1) rfl (by kernel_rfl) (by kernel_rfl) (by kernel_rfl) (fun _ _ _ h => h) (Or.inl ⟨by rfl, ?_⟩) (by assumption) ?_
          · (intro w' hSw; obtain ⟨s0, s1⟩ := hSw; go_simp)
          try simp only [Act.put, List.setIfInBounds_toArray, List.set_cons_zero, List.set_cons_succ]
          refine wpAnyH_take (i := 5) (oi := ⟨some 145, _, _, _, _, _⟩) (v := .pointer (some ⟨b, 0, none⟩)) rfl (by kernel_rfl) (by kernel_rfl) (by kernel_rfl) (fun _ _ _ h => h) (Or.inl ⟨by rfl, ?_⟩) (by assumption) ?_
          · (intro w' hSw; obtain ⟨s0, s1⟩ := hSw; go_simp)
          try simp only [Act.put, List.setIfInBounds_toArray, List.set_cons_zero, List.set_cons_succ]
          refine wpAnyH_take (i := 6) (oi := ⟨some 146, _, _, _, _, _⟩) (v := .pointer (some ⟨b, 70, none⟩)) rfl (by kernel_rfl) (by kernel_rfl) (by kernel_rfl) (fun _ _ _ h => h) (Or.inl ⟨by rfl, ?_⟩) (by assumption) ?_
          · (intro w' hSw; obtain ⟨s0, s1⟩ := hSw; go_simp)
          try simp only [Act.put, List.setIfInBounds_toArray, List.set_cons_zero, List.set_cons_succ]
          refine wpAnyH_take (i := 7) (oi := ⟨some 147, _, _, _, _, _⟩) (v := .pointer (some ⟨b, 70 + k, none⟩)) rfl (by kernel_rfl) (by kernel_rfl) (by kernel_rfl) (fun _ _ _ h => h) (Or.inl ⟨by rfl, ?_⟩) (by assumption) ?_
          · (intro w' hSw; obtain ⟨s0, s1⟩ := hSw; go_simp)
          try simp only [Act.put, List.setIfInBounds_toArray, List.set_cons_zero, List.set_cons_succ]
          refine wpAnyH_ready (rs := [8]) (by kernel_rfl) (by simp) ?_
          refine AllReadyH.cons rfl (fun K hK => ?_) AllReadyH.nil
          go_simp
          refine hK.out _ _ d2 (fun hHeld => ?_)
          clear hK K
          try simp only [Act.put, List.setIfInBounds_toArray, List.set_cons_zero, List.set_cons_succ]
          refine wpAnyH_done (by kernel_rfl) ?_ _
          clear hHeld
          go_wp2
          go_roundw
          case rel => exact ⟨k + 1, by omega, by go_num, RN, RFN, RBN, RON, RCN⟩
          case measure => simp [RowKit.intOf]; omega
    · obtain rfl : k = 64 := by omega
      cases IS with
      | true =>
        have HR : Hid (o = some { d with t := tS d.t z0 z1 SN 64 }) := Lib.hid (by rw [HF3.out]; exact if_pos rfl)
        go_wp2
        go_ret
        exact ⟨RB.out, { d with t := tS d.t z0 z1 SN 64 }, a, n, cap, by rw [HR.out]; rfl, fun x hx => (by rw [HR.out] at hx; injection hx with hx; exact hx.symm), by omega, RK.out, RO.out⟩
      | false =>
        have HR : Hid (o = none) := Lib.hid (by rw [HF3.out]; exact if_neg (by decide))
        go_wp2
        go_ret
        exact ⟨RB.out, { d with t := tS d.t z0 z1 SN 64 }, a, n, cap, by rw [HR.out]; rfl, fun x hx => (by rw [HR.out] at hx; cases hx), by omega, RK.out, RO.out⟩
end Go.Proofs.YtmjbacmaafbdlaaGreatDoor.R
