/-
  WHAT IS PROVED: the contract of the document's Text of a right state. Conditions: the known ones lie in memory.
-/
import Derived.Test.YtmjbacmaafbdlaaGreatDoorRTextM
import Derived.Test.YtmjbacmaafbdlaaGreatDoorRQuiet
import Derived.Test.YtmjbacmaafbdlaaGreatDoorLen
import Derived.Test.YtmjbacmaafbdlaaGreatDoorRRight
namespace Go.Proofs.YtmjbacmaafbdlaaGreatDoor.R
set_option maxRecDepth 100000
open Go.RowKit Go.Lib C

theorem rdz_any (z : Int) (h0 : 0 ≤ z) (h1 : z ≤ 281474976710656) (w : World) : Calls Tryz.prog 21 #[.int .i64 z] w fun e w' => e = .returned (.string (str (dg z))) ∧ Below w.heap.size w w' := by
  have h := rdig_any z.toNat (by omega) w
  rw [dg_eq]
  rw [show ((z.toNat : Nat) : Int) = z by omega] at h
  exact h

/-- the first line of a text -/
def selfT (a b c d e : List UInt8) : List UInt8 := [115, 101, 108, 102, 32] ++ a ++ [32, 109, 97, 115, 116, 101, 114, 32] ++ b ++ [32, 99, 117, 114, 114, 101, 110, 116, 32] ++ c ++ [32, 118, 111, 116, 101, 32] ++ d ++ [32, 99, 111, 110, 102, 105, 103, 32] ++ e ++ [10]
def nodeT (a b c : List UInt8) : List UInt8 := [110, 111, 100, 101, 32] ++ a ++ [32, 109, 97, 115, 116, 101, 114, 32] ++ b ++ [32, 99, 111, 110, 102, 105, 103, 32] ++ c ++ [10]
def slotT (a b c : List UInt8) : List UInt8 := [115, 108, 111, 116, 115, 32] ++ a ++ [32, 101, 112, 111, 99, 104, 32] ++ b ++ [32, 58, 32] ++ c ++ [10]

theorem selfT_str (a b c d e : List UInt8) : str [115, 101, 108, 102, 32] ++ str a ++ str [32, 109, 97, 115, 116, 101, 114, 32] ++ str b ++ str [32, 99, 117, 114, 114, 101, 110, 116, 32] ++ str c ++ str [32, 118, 111, 116, 101, 32] ++ str d ++ str [32, 99, 111, 110, 102, 105, 103, 32] ++ str e ++ str [10] = str (selfT a b c d e) := by
  simp only [S.str_app]; rfl
theorem nodeT_str (o a b c : List UInt8) : str o ++ (str [110, 111, 100, 101, 32] ++ str a ++ str [32, 109, 97, 115, 116, 101, 114, 32] ++ str b ++ str [32, 99, 111, 110, 102, 105, 103, 32] ++ str c ++ str [10]) = str (o ++ nodeT a b c) := by
  simp only [S.str_app]; rfl
theorem slotT_str (o a b c : List UInt8) : str o ++ (str [115, 108, 111, 116, 115, 32] ++ str a ++ str [32, 101, 112, 111, 99, 104, 32] ++ str b ++ str [32, 58, 32] ++ str c ++ str [10]) = str (o ++ slotT a b c) := by
  simp only [S.str_app]; rfl
theorem node_T (k : Kn) : nodeB k ++ [10] = nodeT (dg k.i) (dg k.m) (dg k.c) := by simp [nodeB, nodePs, pre, nodeT]
theorem slot_T (t : Tab) (o e : Int) : slotsB t o e ++ [10] = slotT (dg o) (dg e) (S.txt (setOE t o e)) := by simp [slotsB, slotsPs, pre, slotT]
theorem nodT_at {l : List Kn} {k : Nat} {r : Kn} (h : l[k]? = some r) : nodT (l.drop k) = nodeT (dg r.i) (dg r.m) (dg r.c) ++ nodT (l.drop (k + 1)) := by
  have hl := (List.getElem?_eq_some_iff.1 h).1
  have hr : l[k] = r := (List.getElem?_eq_some_iff.1 h).2
  rw [List.drop_eq_getElem_cons hl, hr, nodT_cons, ← node_T]
  simp
theorem epT_at (t : Tab) (o e : Int) (r : List Int) : epT t o (e :: r) = slotT (dg o) (dg e) (S.txt (setOE t o e)) ++ epT t o r := by
  rw [epT_cons, ← slot_T]; simp
theorem numO_some (b : Int) : numO (some b) = b := rfl
/-- how many rounds are to come -/
def msr (L : List Int) (who mo : Value) : Nat := match mo with
  | .bool true => (abv L (RowKit.intOf who)).length + 1
  | _ => 0
section
variable {ops : Array Oper} {rest : List Oper} {Q : Act → Prop} {a : Act} {w : World} {dst : Option Tmp} {ty : TypeId} {pos : String} {after : Array Edge} {g : Option (Nat × Bool)} {x : Operand} {b s : Nat}
theorem quiet_fl (hx : a.eval x = .pointer (some ⟨b, 0, none⟩)) (hT : Blk w b 64 (S.fl s)) (hw : Region.wanted ⟨dst, .load 64 x, ty, pos, after, g⟩ (yielded ops a.tmps) = true)
    (h : wpQuiet Tryz.prog ops (fun w' => ∃ p : Later w, w' = p.now) Q rest (a.put dst (.agg (S.fl s)))) : wpQuiet Tryz.prog ops (fun w' => ∃ p : Later w, w' = p.now) Q (⟨dst, .load 64 x, ty, pos, after, g⟩ :: rest) a := by
  unfold wpQuiet
  rw [if_pos hw]
  refine ⟨.agg (S.fl s), fun w' hw' => ?_, h⟩
  obtain ⟨p, rfl⟩ := hw'
  unfold Oper.quietAt execOp
  have hsz : (Tryz.prog.info? 64).map (·.size) = some (S.fl s).size := by rw [S.fl_size]; exact S.arr_size
  simp only [hx, Instr.loadAt, Instr.sureAddr, Sem.run_bind, Sem.run_pure, Result.andThen_ok, run_loadVar_row p.now b 64 64 (S.fl s) (0, 0) _ (Blk.below hT p.below hT.lt) Tryz.underlying64 rfl hsz]
  exact ⟨rfl, rfl⟩
end

set_option maxHeartbeats 8000000 in
theorem rtext_any (d : Dt) (a : Option Addr) (n cap : Nat) (w : World) (hk : KnAt w a n d.l) (hok : okD d = true) : Calls Tryz.prog 9 #[.agg (stv (mkS d a n cap))] w (SaysS (txD d) w) := by
  obtain ⟨g1, g2, g3, g4, g5, g6, g7, g8, _⟩ := ok_parts hok
  have HTX := Lib.hid (tx_parts d)
  have HLEN := Lib.hid (txD_len hok)
  have HS := Lib.hid (RAt.new w (mkS d a n cap))
  have HB0 : Hid (Below w.heap.size w (w.alloc (.cells (stv (mkS d a n cap)) 36))) := Lib.hid ((Below.refl _ w).alloc (Nat.le_refl _) _)
  have HK := Lib.hid (hk.up HB0.out)
  obtain ⟨TX, HTT⟩ : ∃ x, Hid (txD d = x) := ⟨_, Lib.hid rfl⟩
  rw [HTT.out] at HTX HLEN ⊢
  obtain ⟨di, dm, dc, dv, df, dl, dt⟩ := d
  have G1 : 1 ≤ di ∧ di ≤ 4294967296 := g1
  have G2 : 0 ≤ dm ∧ dm ≤ 4294967296 := g2
  have G3 : 0 ≤ dc ∧ dc ≤ 281474976710656 := g3
  have G4 : 0 ≤ dv ∧ dv ≤ 281474976710656 := g4
  have G5 : 0 ≤ df ∧ df ≤ 281474976710656 := g5
  have G6 : n ≤ 15 := by have := hk.1; have : dl.length ≤ 15 := g6; have : dl.length = n := hk.1; omega
  have G7 : Hid (rkB di dl = true) := Lib.hid g7
  have G8 : Hid (okB dt = true) := Lib.hid g8
  have hn : dl.length = n := hk.1
  clear g1 g2 g3 g4 g5 g6 g7 g8 hk hok HTT
  have D1 : Hid (∀ W, Calls Tryz.prog 21 #[.int .i64 di] W fun e w' => e = .returned (.string (str (dg di))) ∧ Below W.heap.size W w') := Lib.hid fun W => rdz_any di (by omega) (by omega) W
  have D2 : Hid (∀ W, Calls Tryz.prog 21 #[.int .i64 dm] W fun e w' => e = .returned (.string (str (dg dm))) ∧ Below W.heap.size W w') := Lib.hid fun W => rdz_any dm (by omega) (by omega) W
  have D3 : Hid (∀ W, Calls Tryz.prog 21 #[.int .i64 dc] W fun e w' => e = .returned (.string (str (dg dc))) ∧ Below W.heap.size W w') := Lib.hid fun W => rdz_any dc (by omega) (by omega) W
  have D4 : Hid (∀ W, Calls Tryz.prog 21 #[.int .i64 dv] W fun e w' => e = .returned (.string (str (dg dv))) ∧ Below W.heap.size W w') := Lib.hid fun W => rdz_any dv (by omega) (by omega) W
  have D5 : Hid (∀ W, Calls Tryz.prog 21 #[.int .i64 df] W fun e w' => e = .returned (.string (str (dg df))) ∧ Below W.heap.size W w') := Lib.hid fun W => rdz_any df (by omega) (by omega) W
  have s1 : (str (dg di)).size ≤ 15 := dg_ep (by omega)
  have s2 : (str (dg dm)).size ≤ 15 := dg_ep (by omega)
  have s3 : (str (dg dc)).size ≤ 15 := dg_ep (by omega)
  have s4 : (str (dg dv)).size ≤ 15 := dg_ep (by omega)
  have s5 : (str (dg df)).size ≤ 15 := dg_ep (by omega)
  have HSELF : Hid (selfB ⟨di, dm, dc, dv, df, dl, dt⟩ ++ [10] = selfT (dg di) (dg dm) (dg dc) (dg dv) (dg df)) := Lib.hid (by simp [selfB, selfPs, pre, selfT])
  obtain ⟨e1, E1⟩ : ∃ x, Hid (dg di = x) := ⟨_, Lib.hid rfl⟩
  obtain ⟨e2, E2⟩ : ∃ x, Hid (dg dm = x) := ⟨_, Lib.hid rfl⟩
  obtain ⟨e3, E3⟩ : ∃ x, Hid (dg dc = x) := ⟨_, Lib.hid rfl⟩
  obtain ⟨e4, E4⟩ : ∃ x, Hid (dg dv = x) := ⟨_, Lib.hid rfl⟩
  obtain ⟨e5, E5⟩ : ∃ x, Hid (dg df = x) := ⟨_, Lib.hid rfl⟩
  rw [E1.out] at D1 s1 HSELF
  rw [E2.out] at D2 s2 HSELF
  rw [E3.out] at D3 s3 HSELF
  rw [E4.out] at D4 s4 HSELF
  rw [E5.out] at D5 s5 HSELF
  clear E1 E2 E3 E4 E5
  obtain ⟨w1, hw1⟩ : ∃ w1, w.alloc (.cells (stv (mkS ⟨di, dm, dc, dv, df, dl, dt⟩ a n cap)) 36) = w1 := ⟨_, rfl⟩
  rw [hw1] at HS HB0 HK
  obtain ⟨c0, c1, c2, c3, c4, c5⟩ := HS.out.box
  simp only [mkS] at c0 c1 c2 c3 c4 c5
  go_enter Tryz.func9, Tryz.ntmps9
  go_upto_region 1 with (fail)
  clear hw1
  have p0 : ∀ p : Later w1, p.now.cell? ⟨w.heap.size, 0, none⟩ = some (.int .i64 di) := fun p => p.cell c0
  have p1 : ∀ p : Later w1, p.now.cell? ⟨w.heap.size, 1, none⟩ = some (.int .i64 dm) := fun p => p.cell c1
  have p2 : ∀ p : Later w1, p.now.cell? ⟨w.heap.size, 2, none⟩ = some (.int .i64 dc) := fun p => p.cell c2
  have p3 : ∀ p : Later w1, p.now.cell? ⟨w.heap.size, 3, none⟩ = some (.int .i64 dv) := fun p => p.cell c3
  have p4 : ∀ p : Later w1, p.now.cell? ⟨w.heap.size, 4, none⟩ = some (.int .i64 df) := fun p => p.cell c4
  refine wp_region_later (by kernel_rfl) (by kernel_rfl) ?_
  repeat (go_big_quiet_step (first | (go_at_call 21; with_reducible exact Later.calls (D1.out _)) | (go_at_call 21; with_reducible exact Later.calls (D2.out _)) | (go_at_call 21; with_reducible exact Later.calls (D3.out _)) | (go_at_call 21; with_reducible exact Later.calls (D4.out _)) | (go_at_call 21; with_reducible exact Later.calls (D5.out _))))
  refine wpQuiet_nil ?_
  intro _ hw'
  obtain ⟨pq, hw''⟩ := hw'
  subst hw''
  have HB1 := Lib.hid (HB0.out.trans (pq.below.mono HB0.out.size))
  have HS1 := Lib.hid (HS.out.later pq.below)
  have HK1 := Lib.hid (HK.out.up pq.below)
  have HT0 : Hid (TX = selfT e1 e2 e3 e4 e5 ++ (nodT (dl.drop 0) ++ ownT dt (ownersL dt))) := Lib.hid (by rw [HTX.out, ← HSELF.out]; simp)
  obtain ⟨w2, hw2⟩ : ∃ w2, pq.now = w2 := ⟨_, rfl⟩
  rw [hw2] at HB1 HS1 HK1 ⊢
  clear hw2 c0 c1 c2 c3 c4 c5 p0 p1 p2 p3 p4 HB0 HS HK D1 D2 D3 D4 D5 s1 s2 s3 s4 s5 HTX HSELF
  go_wp2
  go_loopw [3, 4] (fun sv i wr => ∃ (k : Nat) (out : List UInt8), k ≤ n ∧ i = .int .i64 (k : Int) ∧ sv = .string (str out) ∧ Hid (TX = out ++ (nodT (dl.drop k) ++ ownT dt (ownersL dt))) ∧ Hid (Below w2.heap.size w2 wr)) (fun _ i _ => n - (RowKit.intOf i).toNat)
  case atStart => exact ⟨0, selfT e1 e2 e3 e4 e5, Nat.zero_le _, rfl, congrArg Value.string (selfT_str e1 e2 e3 e4 e5), HT0, Lib.hid (Below.refl _ _)⟩
  case round =>
    obtain ⟨k, out, hkn, rfl, rfl, HT, hb⟩ := hrel
    have k5 : wr.cell? ⟨w.heap.size, 5, none⟩ = some (.slice a n cap) := (HS1.out.later hb.out).box.2.2.2.2.2
    have so : (str out).size ≤ 4029 := by
      have h1 := HLEN.out
      rw [HT.out, List.length_append] at h1
      show out.length ≤ 4029
      omega
    by_cases hlt : k < n
    · obtain ⟨ad, r, hA, hr, hltb, d0, d1, d2⟩ := (HK1.out.up hb.out).at_ hlt
      subst hA
      have hk1 : 0 ≤ (k : Int) := by omega
      obtain ⟨q1, q2, q3, _⟩ := kn_parts G7.out (List.mem_of_getElem? hr)
      have HNT := Lib.hid (nodT_at hr)
      obtain ⟨ri, rm, rc⟩ := r
      simp only at d0 d1 d2 q1 q2 q3
      have hkr := KRx.new wr ⟨ri, rm, rc⟩
      have hE : Below wr.heap.size wr (wr.alloc (.cells #[.int .i64 ri, .int .i64 rm, .int .i64 rc] 60)) := (Below.refl _ _).alloc (Nat.le_refl _) _
      obtain ⟨g0, g1, g2⟩ := hkr.box
      simp only at g0 g1 g2
      have HBB := Lib.hid (hb.out.trans (hE.mono hb.out.size))
      have p0 : ∀ p : Later (wr.alloc (.cells #[.int .i64 ri, .int .i64 rm, .int .i64 rc] 60)), p.now.cell? ⟨wr.heap.size, 0, none⟩ = some (.int .i64 ri) := fun p => p.cell g0
      have p1 : ∀ p : Later (wr.alloc (.cells #[.int .i64 ri, .int .i64 rm, .int .i64 rc] 60)), p.now.cell? ⟨wr.heap.size, 1, none⟩ = some (.int .i64 rm) := fun p => p.cell g1
      have p2 : ∀ p : Later (wr.alloc (.cells #[.int .i64 ri, .int .i64 rm, .int .i64 rc] 60)), p.now.cell? ⟨wr.heap.size, 2, none⟩ = some (.int .i64 rc) := fun p => p.cell g2
      have E1 : Hid (∀ W, Calls Tryz.prog 21 #[.int .i64 ri] W fun e w' => e = .returned (.string (str (dg ri))) ∧ Below W.heap.size W w') := Lib.hid fun W => rdz_any ri (by omega) (by omega) W
      have E2 : Hid (∀ W, Calls Tryz.prog 21 #[.int .i64 rm] W fun e w' => e = .returned (.string (str (dg rm))) ∧ Below W.heap.size W w') := Lib.hid fun W => rdz_any rm (by omega) (by omega) W
      have E3 : Hid (∀ W, Calls Tryz.prog 21 #[.int .i64 rc] W fun e w' => e = .returned (.string (str (dg rc))) ∧ Below W.heap.size W w') := Lib.hid fun W => rdz_any rc (by omega) (by omega) W
      have s1 : (str (dg ri)).size ≤ 15 := dg_ep (by omega)
      have s2 : (str (dg rm)).size ≤ 15 := dg_ep (by omega)
      have s3 : (str (dg rc)).size ≤ 15 := dg_ep (by omega)
      have HN : Hid (TX = (out ++ nodeT (dg ri) (dg rm) (dg rc)) ++ (nodT (dl.drop (k + 1)) ++ ownT dt (ownersL dt))) := Lib.hid (by rw [HT.out, HNT.out]; simp)
      generalize dg ri = f1 at *
      generalize dg rm = f2 at *
      generalize dg rc = f3 at *
      clear hkr hE hr q1 q2 q3
      go_wp2
      refine wp_region_later (by kernel_rfl) (by kernel_rfl) ?_
      repeat (go_big_quiet_step (first | (go_at_call 21; with_reducible exact Later.calls (E1.out _)) | (go_at_call 21; with_reducible exact Later.calls (E2.out _)) | (go_at_call 21; with_reducible exact Later.calls (E3.out _))))
      refine wpQuiet_nil ?_
      intro _ hw'
      obtain ⟨pq, hw''⟩ := hw'
      subst hw''
      have hb3 := Lib.hid (HBB.out.trans (pq.below.mono HBB.out.size))
      obtain ⟨w3, e3⟩ : ∃ w3, pq.now = w3 := ⟨_, rfl⟩
      rw [e3] at hb3 ⊢
      clear e3 p0 p1 p2 g0 g1 g2 d0 d1 d2 k5
      go_wp2
      go_roundw
      case rel => exact ⟨k + 1, out ++ nodeT f1 f2 f3, by omega, by go_num, congrArg Value.string (nodeT_str out f1 f2 f3), HN, hb3⟩
      case measure => simp [RowKit.intOf]; omega
    · obtain rfl : k = n := by omega
      have HT2 : Hid (TX = out ++ ownT dt (ownersL dt)) := Lib.hid (by
        have e : nodT (dl.drop k) = [] := by rw [List.drop_eq_nil_of_le (by omega)]; rfl
        rw [HT.out, e]; rfl)
      have HS2 := Lib.hid (HS1.out.later hb.out)
      have HB2 := Lib.hid (HB1.out.trans (hb.out.mono HB1.out.size))
      clear HT HK1 HS1 HB1 hb
      obtain ⟨w3, rfl⟩ : ∃ x, x = wr := ⟨_, rfl⟩
      go_wp2_with (first | ((with_reducible refine rt_owners (b := w.heap.size) (s := mkS ⟨di, dm, dc, dv, df, dl, dt⟩ a k cap) ?_ ?_ ?_ ?_); (rfl); (with_reducible exact HS2.out); (rfl)) | ((with_reducible refine rt_epochs (b := w.heap.size) (s := mkS ⟨di, dm, dc, dv, df, dl, dt⟩ a k cap) ?_ ?_ ?_ ?_); (rfl); (with_reducible exact HS2.out); (rfl)))
      refine (least_any dt.o dt.o (-1) 0 w3).mono ?_
      rw [least_own G8.out (by omega), abv_all (fun x hx => by have := own_parts hx; omega)]
      rintro e w4 ⟨rfl, hb4⟩
      have HS3 := Lib.hid (HS2.out.later hb4)
      have HB3 := Lib.hid (HB2.out.trans (hb4.mono HB2.out.size))
      clear hb4 HS2 HB2 k5 so
      go_wp2
      go_loopw [3, 6, 7] (fun sv wv mv wr => ∃ (out : List UInt8) (L : List Int), sv = .string (str out) ∧ wv = .int .i64 (numO L.head?) ∧ mv = .bool L.head?.isSome ∧ Hid (∃ x, 0 ≤ x ∧ abv (ownersL dt) x = L) ∧ Hid (TX = out ++ ownT dt L) ∧ Hid (Below w4.heap.size w4 wr)) (fun _ wv mv _ => msr (ownersL dt) wv mv)
      case atStart => exact ⟨out, ownersL dt, rfl, rfl, rfl, Lib.hid ⟨0, by omega, abv_all (fun x hx => by have := own_parts hx; omega)⟩, HT2, Lib.hid (Below.refl _ _)⟩
      case round =>
        obtain ⟨out, L, rfl, rfl, rfl, HL, HT, hb⟩ := hrel
        cases L with
        | nil =>
          have HE : Hid (TX = out) := Lib.hid (by rw [HT.out]; show out ++ [] = out; simp)
          simp only [List.head?_nil, Option.isSome_none]
          go_wp2
          go_ret
          exact ⟨by rw [HE.out]; rfl, HB3.out.trans (hb.out.mono HB3.out.size)⟩
        | cons x r =>
          obtain ⟨y, hy, hL⟩ := HL.out
          have hxo : x ∈ ownersL dt := (abv_mem.1 (by rw [hL]; exact List.mem_cons_self ..)).1
          have hx := own_parts hxo
          have HNX := Lib.hid (abv_next (owners_lt dt) hL)
          have HXO := Lib.hid hxo
          have HT3 : Hid (TX = out ++ (epT dt x (epsL dt x) ++ ownT dt r)) := Lib.hid (by rw [HT.out, ownT_cons])
          have HSW := Lib.hid (HS3.out.later hb.out)
          have hle := least_eps (t := dt) (o := x) (a := -1) hx.1
          rw [abv_all (fun z hz => by have := ep_parts G8.out hxo hz; omega)] at hle
          have HLE := Lib.hid hle
          clear HL hL hy hxo hle HT
          simp only [List.head?_cons, Option.isSome_some, numO_some]
          go_wp2_with (first | ((with_reducible refine rt_owners (b := w.heap.size) (s := mkS ⟨di, dm, dc, dv, df, dl, dt⟩ a k cap) ?_ ?_ ?_ ?_); (rfl); (with_reducible exact HSW.out); (rfl)) | ((with_reducible refine rt_epochs (b := w.heap.size) (s := mkS ⟨di, dm, dc, dv, df, dl, dt⟩ a k cap) ?_ ?_ ?_ ?_); (rfl); (with_reducible exact HSW.out); (rfl)))
          refine (least_any dt.e dt.o x (-1) _).mono ?_
          rw [HLE.out]
          rintro e w5 ⟨rfl, hb5⟩
          have HS5 := Lib.hid (HSW.out.later hb5)
          have HB5 := Lib.hid (hb.out.trans (hb5.mono hb.out.size))
          clear hb5 hb HSW HLE
          go_wp2
          go_loopw [3, 8, 9] (fun sv ev kv wr => ∃ (out : List UInt8) (E : List Int), sv = .string (str out) ∧ ev = .int .i64 (numO E.head?) ∧ kv = .bool E.head?.isSome ∧ Hid (∃ z, abv (epsL dt x) z = E) ∧ Hid (TX = out ++ (epT dt x E ++ ownT dt r)) ∧ Hid (Below w5.heap.size w5 wr)) (fun _ ev kv _ => msr (epsL dt x) ev kv)
          case atStart => exact ⟨out, epsL dt x, rfl, rfl, rfl, Lib.hid ⟨-1, abv_all (fun z hz => by have := ep_parts G8.out HXO.out hz; omega)⟩, HT3, Lib.hid (Below.refl _ _)⟩
          case round =>
            obtain ⟨out, E, rfl, rfl, rfl, HL, HT, hb⟩ := hrel
            have HS6 := Lib.hid (HS5.out.later hb.out)
            have HB6 := Lib.hid (HB5.out.trans (hb.out.mono HB5.out.size))
            cases E with
            | nil =>
              have HE : Hid (TX = out ++ ownT dt r) := Lib.hid (by rw [HT.out]; rfl)
              have hlo := least_own (t := dt) G8.out (a := x) (by omega)
              rw [HNX.out] at hlo
              have HLO := Lib.hid hlo
              clear hlo HT HL
              simp only [List.head?_nil, Option.isSome_none]
              go_wp2_with (first | ((with_reducible refine rt_owners (b := w.heap.size) (s := mkS ⟨di, dm, dc, dv, df, dl, dt⟩ a k cap) ?_ ?_ ?_ ?_); (rfl); (with_reducible exact HS6.out); (rfl)) | ((with_reducible refine rt_epochs (b := w.heap.size) (s := mkS ⟨di, dm, dc, dv, df, dl, dt⟩ a k cap) ?_ ?_ ?_ ?_); (rfl); (with_reducible exact HS6.out); (rfl)))
              refine (least_any dt.o dt.o (-1) x _).mono ?_
              rw [HLO.out]
              rintro e w6 ⟨rfl, hb6⟩
              have HB7 := Lib.hid (HB6.out.trans (hb6.mono HB6.out.size))
              have HN : Hid (∃ y, 0 ≤ y ∧ abv (ownersL dt) y = r) := Lib.hid ⟨x, by omega, HNX.out⟩
              have HMS : Hid (msr (ownersL dt) (.int .i64 (numO r.head?)) (.bool r.head?.isSome) < msr (ownersL dt) (.int .i64 x) (.bool true)) := Lib.hid (by
                show _ < (abv (ownersL dt) x).length + 1
                rw [HNX.out]
                cases hr : r with
                | nil => exact Nat.succ_pos _
                | cons z q =>
                  show (abv (ownersL dt) z).length + 1 < q.length + 1 + 1
                  have := abv_next (owners_lt dt) (a := x) (x := z) (r := q) (by rw [HNX.out, hr])
                  rw [this]; omega)
              clear hb6 hb
              go_wp2
              go_roundw
              case rel => exact ⟨out, r, rfl, rfl, rfl, HN, HE, HB7⟩
              case measure => exact HMS.out
            | cons ev q =>
              obtain ⟨z, hE⟩ := HL.out
              have heo : ev ∈ epsL dt x := (abv_mem.1 (by rw [hE]; exact List.mem_cons_self ..)).1
              have hep := ep_parts G8.out HXO.out heo
              have HNE := Lib.hid (abv_next (eps_lt dt x) hE)
              have HT4 := Lib.hid (epT_at dt x ev q)
              have HSET : Hid (setOE dt x ev < 18446744073709551616) := Lib.hid (pick_lt _)
              have so : (str out).size ≤ 4029 := by
                have h1 := HLEN.out
                rw [HT.out, List.length_append] at h1
                show out.length ≤ 4029
                omega
              have HE : Hid (TX = out ++ slotT (dg x) (dg ev) (S.txt (setOE dt x ev)) ++ (epT dt x q ++ ownT dt r)) := Lib.hid (by rw [HT.out, HT4.out]; simp)
              have HBIT : Hid (∀ i, i < 64 → (setOE dt x ev).testBit i = ((dt.o i == x) && (dt.e i == ev))) := Lib.hid fun i hi => pick_bit _ hi
              have hle := least_eps (t := dt) (o := x) (a := ev) hx.1
              rw [HNE.out] at hle
              have HLE := Lib.hid hle
              have HSZ := Lib.hid (stx_len (setOE dt x ev))
              have HRT := Lib.hid (fun W => S.reftext_any (setOE dt x ev) HSET.out W)
              obtain ⟨sn, HSN⟩ : ∃ s, Hid (setOE dt x ev = s) := ⟨_, Lib.hid rfl⟩
              rw [HSN.out] at HE HBIT HSZ HRT
              have HSNL : Hid (sn < 18446744073709551616) := Lib.hid (by rw [← HSN.out]; exact HSET.out)
              clear hE heo hle HT HL HT4 HSET HSN
              simp only [List.head?_cons, Option.isSome_some, numO_some]
              have HF0 : Hid (Blk (wr.alloc (.cells (S.fl 0) 64)) wr.heap.size 64 (S.fl (sn % 2 ^ 0))) := Lib.hid (by rw [Nat.pow_zero, Nat.mod_one]; exact Blk.new wr _ _)
              have HB7 := Lib.hid (HB6.out.alloc HB6.out.size (.cells (S.fl 0) 64))
              have HS7 := Lib.hid (HS6.out.alloc (.cells (S.fl 0) 64))
              obtain ⟨fb, hfb⟩ : ∃ b, wr.heap.size = b := ⟨_, rfl⟩
              have hfs : w.heap.size < fb := by rw [← hfb]; exact HS6.out.lt
              have hf5 : w4.heap.size ≤ fb := by rw [← hfb]; exact HB6.out.size
              have hf6 : w5.heap.size ≤ fb := by rw [← hfb]; exact hb.out.size
              go_wp2
              go_loopw [11] (fun i wr => ∃ j : Nat, j ≤ 64 ∧ i = .int .i64 (j : Int) ∧ Hid (Blk wr fb 64 (S.fl (sn % 2 ^ j))) ∧ Hid (Below w5.heap.size w5 wr)) (fun i _ => 64 - (RowKit.intOf i).toNat)
              case atStart => exact ⟨0, Nat.zero_le _, rfl, Lib.hid (by rw [Nat.pow_zero, Nat.mod_one]; exact S.blk_new hfb.symm (by kernel_rfl)), Lib.hid (hb.out.alloc hb.out.size _)⟩
              case round =>
                obtain ⟨j, hj, rfl, HF, hb2⟩ := hrel
                by_cases hj64 : j < 64
                · have HSQ := HS5.out.later hb2.out
                  have co := HSQ.o hj64
                  have ce := HSQ.e hj64
                  simp only [mkS] at co ce
                  have hk1 : 0 ≤ (j : Int) := by omega
                  have hk2 : (j : Int) < 64 := by omega
                  have cf := (HF.out.cell j).trans (S.fl_at _ hj64)
                  have cz := HF.out.frozen j
                  obtain ⟨oj, HO⟩ : ∃ z, Hid (dt.o j = z) := ⟨_, Lib.hid rfl⟩
                  obtain ⟨ej, HJ⟩ : ∃ z, Hid (dt.e j = z) := ⟨_, Lib.hid rfl⟩
                  rw [HO.out] at co
                  rw [HJ.out] at ce
                  obtain ⟨bt, HBT⟩ : ∃ b, Hid (sn.testBit j = b) := ⟨_, Lib.hid rfl⟩
                  have HBX : Hid (bt = ((oj == x) && (ej == ev))) := Lib.hid (by rw [← HBT.out, HBIT.out j hj64, HO.out, HJ.out])
                  have HN : Hid (Blk (wr.setCell ⟨fb, j, none⟩ (.bool bt)) fb 64 (S.fl (sn % 2 ^ (j + 1)))) := Lib.hid (by
                    have h := HF.out.set_ j (.bool bt)
                    rw [← HBT.out, S.fl_step hj64, HBT.out] at h
                    exact h)
                  have HNB : Hid (Below w5.heap.size w5 (wr.setCell ⟨fb, j, none⟩ (.bool bt))) := Lib.hid (below_set hb2.out (p := ⟨fb, j, none⟩) hf6 _)
                  generalize (sn % 2 ^ j).testBit j = old at cf
                  clear HSQ
                  by_cases h1 : oj = x
                  · have q1 : (oj == x) = true := by simpa using h1
                    by_cases h2 : ej = ev
                    · have q2 : (ej == ev) = true := by simpa using h2
                      obtain rfl : bt = true := by rw [HBX.out, q1, q2]; rfl
                      clear h1 h2
                      go_wp2
                      go_roundw
                      case rel => exact ⟨j + 1, by omega, by go_num, HN, HNB⟩
                      case measure => simp [RowKit.intOf]; omega
                    · have q2 : (ej == ev) = false := by simpa using h2
                      obtain rfl : bt = false := by rw [HBX.out, q1, q2]; rfl
                      clear h1 h2
                      go_wp2
                      go_roundw
                      case rel => exact ⟨j + 1, by omega, by go_num, HN, HNB⟩
                      case measure => simp [RowKit.intOf]; omega
                  · have q1 : (oj == x) = false := by simpa using h1
                    obtain rfl : bt = false := by rw [HBX.out, q1]; rfl
                    clear h1
                    go_wp2
                    go_roundw
                    case rel => exact ⟨j + 1, by omega, by go_num, HN, HNB⟩
                    case measure => simp [RowKit.intOf]; omega
                · obtain rfl : j = 64 := by omega
                  have HFF : Hid (Blk wr fb 64 (S.fl sn)) := Lib.hid (by have h := HF.out; rw [Nat.mod_eq_of_lt (by have := HSNL.out; omega)] at h; exact h)
                  have X1 : Hid (∀ W, Calls Tryz.prog 21 #[.int .i64 x] W fun e w' => e = .returned (.string (str (dg x))) ∧ Below W.heap.size W w') := Lib.hid fun W => rdz_any x (by omega) (by omega) W
                  have X2 : Hid (∀ W, Calls Tryz.prog 21 #[.int .i64 ev] W fun e w' => e = .returned (.string (str (dg ev))) ∧ Below W.heap.size W w') := Lib.hid fun W => rdz_any ev (by omega) (by omega) W
                  have s1 : (str (dg x)).size ≤ 15 := dg_ep (by omega)
                  have s2 : (str (dg ev)).size ≤ 15 := dg_ep (by omega)
                  have s3 : (str (S.txt sn)).size ≤ 384 := HSZ.out
                  generalize dg x = f1 at *
                  generalize dg ev = f2 at *
                  generalize S.txt sn = f3 at *
                  go_wp2
                  refine wp_region_later (by kernel_rfl) (by kernel_rfl) ?_
                  repeat (first | ((with_reducible refine quiet_fl (b := fb) (s := sn) ?_ ?_ ?_ ?_); (rfl); (with_reducible exact HFF.out); (rfl); (simp only [Act.put, List.setIfInBounds_toArray, List.set_cons_zero, List.set_cons_succ])) | go_big_quiet_step (first | (go_at_call 21; with_reducible exact Later.calls (X1.out _)) | (go_at_call 21; with_reducible exact Later.calls (X2.out _)) | (go_at_call 23; with_reducible exact Later.calls (HRT.out _))))
                  refine wpQuiet_nil ?_
                  intro _ hw'
                  obtain ⟨pq, hw''⟩ := hw'
                  subst hw''
                  have hb3 := Lib.hid (hb2.out.trans (pq.below.mono hb2.out.size))
                  obtain ⟨w7, e7⟩ : ∃ w7, pq.now = w7 := ⟨_, rfl⟩
                  rw [e7] at hb3 ⊢
                  have HS8 := Lib.hid (HS5.out.later hb3.out)
                  clear e7 HFF X1 X2 s1 s2 s3 hb2 HF
                  go_wp2_with (first | ((with_reducible refine rt_owners (b := w.heap.size) (s := mkS ⟨di, dm, dc, dv, df, dl, dt⟩ a k cap) ?_ ?_ ?_ ?_); (rfl); (with_reducible exact HS8.out); (rfl)) | ((with_reducible refine rt_epochs (b := w.heap.size) (s := mkS ⟨di, dm, dc, dv, df, dl, dt⟩ a k cap) ?_ ?_ ?_ ?_); (rfl); (with_reducible exact HS8.out); (rfl)))
                  refine (least_any dt.e dt.o x ev _).mono ?_
                  rw [HLE.out]
                  rintro e w8 ⟨rfl, hb8⟩
                  have HB9 := Lib.hid (hb3.out.trans (hb8.mono hb3.out.size))
                  have HNN : Hid (∃ z, abv (epsL dt x) z = q) := Lib.hid ⟨ev, HNE.out⟩
                  have HMS : Hid (msr (epsL dt x) (.int .i64 (numO q.head?)) (.bool q.head?.isSome) < msr (epsL dt x) (.int .i64 ev) (.bool true)) := Lib.hid (by
                    show _ < (abv (epsL dt x) ev).length + 1
                    rw [HNE.out]
                    cases hr : q with
                    | nil => exact Nat.succ_pos _
                    | cons z t =>
                      show (abv (epsL dt x) z).length + 1 < t.length + 1 + 1
                      have := abv_next (eps_lt dt x) (a := ev) (x := z) (r := t) (by rw [HNE.out, hr])
                      rw [this]; omega)
                  clear hb8
                  go_wp2
                  go_roundw
                  case rel => exact ⟨out ++ slotT f1 f2 f3, q, congrArg Value.string (slotT_str out f1 f2 f3), rfl, rfl, HNN, HE, HB9⟩
                  case measure => exact HMS.out
end Go.Proofs.YtmjbacmaafbdlaaGreatDoor.R
