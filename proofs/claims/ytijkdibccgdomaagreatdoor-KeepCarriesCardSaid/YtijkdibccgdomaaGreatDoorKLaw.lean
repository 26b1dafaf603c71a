/-
  WHAT IS PROVED: the law's own function small; the law's anchor. Conditions: the library's variables hold what is laid there.
-/
import Derived.Test.YtijkdibccgdomaaGreatDoorKArgs
namespace Go.Proofs.YtijkdibccgdomaaGreatDoor.Dsk
set_option maxRecDepth 100000
open Go.RowKit Go.Lib C

/-! ### small -/
def fewR (L : List Ar) : Bool := L.all fun r => decide (r.n ≤ 40)
def smallB (L : List Ar) (most : Int) : Bool := fewR L && decide ((L.length : Int) ≤ most)
theorem few_no {L : List Ar} {k : Nat} {r : Ar} (h : L[k]? = some r) (hr : ¬ r.n ≤ 40) : fewR L = false := by
  cases hh : fewR L with
  | false => rfl
  | true => have := List.all_eq_true.1 hh r (List.mem_of_getElem? h); simp at this; exact absurd this hr
theorem few_yes {L : List Ar} (h : ∀ (k : Nat) (r : Ar), L[k]? = some r → r.n ≤ 40) : fewR L = true := List.all_eq_true.2 fun r hr => by
  obtain ⟨j, hj, rfl⟩ := List.getElem_of_mem hr
  simpa using h j _ (List.getElem?_eq_getElem hj)

set_option maxHeartbeats 2000000 in
theorem small_any (A : Option Addr) (n c : Nat) (L : List Ar) (most : Int) (w : World) (h : StsAt w A n L) (hnc : n ≤ c) (hc : c ≤ 9223372036854775807) :
    Calls Tryz.prog 20 #[.slice A n c, .int .i64 most] w (Says (smallB L most) w) := by
  have HS := Lib.hid h
  have hl := h.1
  obtain ⟨R, HR⟩ : ∃ r, Hid (smallB L most = r) := ⟨_, Lib.hid rfl⟩
  have HX : Hid (R = (fewR L && decide ((n : Int) ≤ most))) := Lib.hid (by rw [← HR.out, ← hl]; rfl)
  rw [HR.out]
  clear h HR
  go_enter Tryz.func20, Tryz.ntmps20
  go_wp2
  go_loopw [9] (fun i wr => ∃ k : Nat, k ≤ n ∧ i = .int .i64 (k : Int) ∧ Hid (Below w.heap.size w wr) ∧ Hid (∀ j r, j < k → L[j]? = some r → r.n ≤ 40)) (fun i _ => n - (RowKit.intOf i).toNat)
  case atStart => exact ⟨0, Nat.zero_le _, rfl, Lib.hid (Below.refl _ _), Lib.hid fun j r hj => absurd hj (by omega)⟩
  case round =>
    obtain ⟨k, hkn, rfl, hb, hall⟩ := hrel
    by_cases hlt : k < n
    · obtain ⟨ad, r, hA, hr, hltb, hlies, hkn, hrn⟩ := (HS.out.below hb.out).at_ hlt
      subst hA
      have hk1 : 0 ≤ (k : Int) := by omega
      have HLI := Lib.hid hlies
      have HRR := Lib.hid hr
      have J := Lib.hid (StAt.new wr r.s)
      have JB := Lib.hid (hb.out.alloc hb.out.size (.cells (stv r.s) 29))
      obtain ⟨rd, ra, rn, rc⟩ := r
      have j5 : (wr.alloc (.cells (stv (Ar.s ⟨rd, ra, rn, rc⟩)) 29)).cell? ⟨wr.heap.size, 5, none⟩ = some (.slice ra rn rc) := J.out.box.2.2.2.2.2
      obtain ⟨sv, HSV⟩ : ∃ s, Hid (Ar.s ⟨rd, ra, rn, rc⟩ = s) := ⟨_, Lib.hid rfl⟩
      rw [HSV.out] at HLI J JB j5
      clear hlies hkn hr
      by_cases h40 : rn ≤ 40
      · have q0 : decide (40 < (rn : Int)) = false := by simp; omega
        have HN : Hid (∀ j r, j < k + 1 → L[j]? = some r → r.n ≤ 40) := Lib.hid fun j r hj hr => by
          rcases Nat.lt_or_ge j k with h1 | h1
          · exact hall.out j r h1 hr
          · obtain rfl : k = j := by omega
            rw [HRR.out] at hr
            injection hr with hr
            subst hr
            exact h40
        go_wp2_with (first | ((with_reducible refine st_load_at (p := ad.add (k * 134)) (s := sv) ?_ ?_ ?_ ?_); (rfl); (with_reducible exact HLI.out); (rfl)) | refine st_alloc rfl ?_ | ((with_reducible refine st_store_new (u := sv) ?_ ?_ ?_ ?_); (rfl); (rfl); (rfl)))
        go_roundw
        case rel => exact ⟨k + 1, by omega, by go_num, JB, HN⟩
        case measure => simp [RowKit.intOf]; omega
      · have q0 : decide (40 < (rn : Int)) = true := by simp; omega
        have HN : Hid (R = false) := Lib.hid (by rw [HX.out, few_no HRR.out h40]; rfl)
        go_wp2_with (first | ((with_reducible refine st_load_at (p := ad.add (k * 134)) (s := sv) ?_ ?_ ?_ ?_); (rfl); (with_reducible exact HLI.out); (rfl)) | refine st_alloc rfl ?_ | ((with_reducible refine st_store_new (u := sv) ?_ ?_ ?_ ?_); (rfl); (rfl); (rfl)))
        go_ret
        exact ⟨by rw [HN.out]; rfl, JB.out⟩
    · obtain rfl : k = n := by omega
      have HN : Hid (R = decide ((k : Int) ≤ most)) := Lib.hid (by rw [HX.out, few_yes (fun j r hr => hall.out j r (by have := (List.getElem?_eq_some_iff.1 hr).1; omega) hr)]; rfl)
      go_wp2
      go_ret
      exact ⟨by rw [HN.out]; rfl, hb.out⟩

/-! ### the anchor -/
def anD : Dt := ⟨3, 0, 2, 0, 0, [], Tab.zero⟩
theorem an_owners : ownersL Tab.zero = [] := by
  cases h : ownersL Tab.zero with
  | nil => rfl
  | cons x l =>
    have hx : x ∈ ownersL Tab.zero := by rw [h]; exact List.mem_cons_self ..
    obtain ⟨i, _, h1, _⟩ := owners_mem.1 hx
    have h2 : idB 0 = true := h1
    exact absurd h2 (by decide)
theorem an_ok : okD anD = true := by
  have h1 : okB Tab.zero = true := by decide +kernel
  unfold okD okS rtB ownB
  show (_ && (okB Tab.zero && (ownersL Tab.zero).all _)) = true
  rw [h1, an_owners]
  decide +kernel
theorem self_len2 (d : Dt) (g1 : d.i ≤ 4294967296) (g2 : d.m ≤ 4294967296) (g3 : d.c ≤ 281474976710656) (g4 : d.v ≤ 281474976710656) (g5 : d.f ≤ 281474976710656) : (selfB d).length ≤ 101 := by
  have a1 := dg_id g1
  have a2 := dg_id g2
  have a3 := dg_ep g3
  have a4 := dg_ep g4
  have a5 := dg_ep g5
  simp [selfB, selfPs, pre]
  omega
theorem an_len : (txD anD).length ≤ 1000 := by
  have e1 : prs anD.t = [] := by
    show prs Tab.zero = []
    unfold prs
    rw [an_owners]; rfl
  rw [txD_unl]
  unfold bodies
  rw [e1]
  have h := self_len2 anD (by show (3 : Int) ≤ _; omega) (by show (0 : Int) ≤ _; omega) (by show (2 : Int) ≤ _; omega) (by show (0 : Int) ≤ _; omega) (by show (0 : Int) ≤ _; omega)
  show (unl (selfB anD :: [])).length ≤ 1000
  rw [unl_cons, List.length_append]
  have e3 : (10 :: unl ([] : List (List UInt8))).length = 1 := rfl
  rw [e3]
  omega
theorem an_built : Tryz.prog.built 29 [(0, .int .i64 3), (2, .agg #[.int .i64 2, .int .i64 0, .int .i64 0])] = some (stv (mkS anD none 0 0)) := by
  kernel_rfl
theorem an_build {ops : Array Oper} {rest : List Oper} {Q : Exit → Act → World → Prop} {a : Act} {w : World} {dst : Option Tmp} {ty : TypeId} {pos : String} {after : Array Edge} {g : Option (Nat × Bool)} {p : Tmp}
    (hp : a.eval (.tmp p) = .agg #[.int .i64 2, .int .i64 0, .int .i64 0]) (hw : Region.wanted ⟨dst, .build 29 #[(0, .const (.int .i64 3)), (2, .tmp p)], ty, pos, after, g⟩ (yielded ops a.tmps) = true)
    (h : wpList Tryz.prog ops Q rest (a.put dst (.agg (stv (mkS anD none 0 0)))) w) : wpList Tryz.prog ops Q (⟨dst, .build 29 #[(0, .const (.int .i64 3)), (2, .tmp p)], ty, pos, after, g⟩ :: rest) a w :=
  at_want hw fun _ hK => by
    have hk := hK _ _ h
    have e : ((#[(0, Operand.const (.int .i64 3)), (2, .tmp p)] : Array (Nat × Operand)).map fun (i, x) => (i, a.eval x)).toList = [(0, .int .i64 3), (2, .agg #[.int .i64 2, .int .i64 0, .int .i64 0])] := by
      simp only [List.map_toArray, List.map_cons, List.map_nil, hp]
      rfl
    refine wp_build 29 #[(0, .const (.int .i64 3)), (2, .tmp p)] rfl ?_ ?_
    · rw [e, an_built]; rfl
    · rw [e, an_built]; exact hk
abbrev N0 (r : Int) : Ds := ⟨[], r, -1, false⟩
abbrev N1 (r : Int) (t : List UInt8) : Ds := ⟨[⟨nSt, t, true⟩], r, -1, false⟩
theorem n1_kept (r : Int) {t : List UInt8} (ht : t.length ≤ 100000) : Kept (N1 r t).fs (some t) :=
  ⟨⟨by simp, fun f hf => by rw [List.mem_singleton.1 hf]; exact ⟨by show (5 : Nat) ≤ 1000; omega, ht⟩⟩, fun f hf => by rw [List.mem_singleton.1 hf]; exact .inr rfl, by show hasF [⟨nSt, t, true⟩] nSt = true; exact hasF_iff.2 ⟨_, List.mem_singleton.2 rfl, rfl⟩, fun t' e => by injection e with e; subst e; show getF [⟨nSt, t, true⟩] nSt = _; unfold getF; rw [if_pos rfl]⟩

set_option maxHeartbeats 4000000 in
theorem anchor14_any (w : World) (hE : Env w) : Calls Tryz.prog 19 #[] w (Says true w) := by
  have hln := an_len
  have E0 := Lib.hid (load_none (S := N0 1000) inv_nil rfl)
  have E1 : Hid (saveD (N0 1000) anD = (0, N1 1000 (txD anD))) := Lib.hid (by
    unfold saveD
    rw [if_pos an_ok, save_all (S := N0 1000) inv_nil rfl (by decide) (by omega) (by show ¬ (1000 : Int) < ((butF [] nNx : Nat) : Int) + _; rw [show butF [] nNx = 0 from rfl]; omega)])
  obtain ⟨d', h1, h2⟩ := load_kept (S := N1 1000 (txD anD)) (d := anD) (n1_kept 1000 (by omega)) rfl an_ok
  have E2 := Lib.hid h1
  have HLK := Lib.hid h2
  have E3 : Hid ((getF (N1 1000 (txD anD)).fs nSt).safe = true) := Lib.hid (by rw [(n1_kept 1000 (show (txD anD).length ≤ 100000 by omega)).txt _ rfl])
  have HE := Lib.hid hE
  clear hE h1 h2 hln
  generalize txD anD = T at *
  go_enter Tryz.func19, Tryz.ntmps19
  go_wp2_with (fail)
  refine (new_ok 1000 w (by omega) (by omega)).mono ?_
  rintro e w1 ⟨d, g, rfl, hk1, hd, hg, hb1⟩
  have HB1 := Lib.hid hb1
  have HK1 : Hid (Dk w1 d g (N0 1000)) := Lib.hid hk1
  have hs1 := hb1.size
  clear hk1 hb1
  go_wp2_with (fail)
  refine (load_any d g (N0 1000) w1 (HE.out.below HB1.out) HK1.out).mono ?_
  rw [E0.out]
  rintro e w2 ⟨hb2, ⟨x, _, _, _, hx, _⟩ | ⟨_, _, rfl⟩⟩
  · cases hx
  have X1 := Lib.hid ((StAt.new w2 Sv.zero).alloc (.cells (stv (mkS anD none 0 0)) 29))
  have X2 : Hid (StAt ((w2.alloc (.cells (stv Sv.zero) 29)).alloc (.cells (stv (mkS anD none 0 0)) 29)) (w2.heap.size + 1) (mkS anD none 0 0)) := Lib.hid (by
    have h := StAt.new (w2.alloc (.cells (stv Sv.zero) 29)) (mkS anD none 0 0)
    have e : (w2.alloc (.cells (stv Sv.zero) 29)).heap.size = w2.heap.size + 1 := by simp
    rw [e] at h
    exact h)
  have XB : Below w1.heap.size w1 ((w2.alloc (.cells (stv Sv.zero) 29)).alloc (.cells (stv (mkS anD none 0 0)) 29)) := (hb2.alloc hb2.size _).alloc (Nat.le_trans hb2.size (by simp)) _
  have XD := Lib.hid (HK1.out.below XB)
  have XE := Lib.hid (HE.out.below (HB1.out.trans (XB.mono HB1.out.size)))
  have XT : Hid (Turn w1 ((w2.alloc (.cells (stv Sv.zero) 29)).alloc (.cells (stv (mkS anD none 0 0)) 29)) (FD d g)) := Lib.hid (Turn.of_below XB _)
  have hdl := HK1.out.lt
  have hsz2 := hb2.size
  clear hb2 XB
  go_wp2_with (first | refine st_alloc rfl ?_ | ((with_reducible refine st_store_new (u := Sv.zero) ?_ ?_ ?_ ?_); (rfl); (rfl); (rfl)) | ((with_reducible refine st_store_new (u := mkS anD none 0 0) ?_ ?_ ?_ ?_); (rfl); (rfl); (rfl)) | ((with_reducible refine an_build ?_ ?_ ?_); (rfl); (rfl)) | ((with_reducible refine st_load (b := w2.heap.size + 1) (s := mkS anD none 0 0) ?_ ?_ ?_ ?_); (rfl); (with_reducible exact X2.out); (rfl)))
  refine (save_any d g (N0 1000) anD none 0 0 _ XE.out XD.out (by decide) (KnAt.nil_ _ _) (by omega)).mono ?_
  rw [E1.out]
  rintro e w3 ⟨rfl, hk3, ht3⟩
  have HK3 : Hid (Dk w3 d g (N1 1000 T)) := Lib.hid hk3
  have HT3 := Lib.hid (XT.out.fd ht3)
  have Y2 : Hid (StAt w3 (w2.heap.size + 1) (mkS anD none 0 0)) := Lib.hid (blk_turn X2.out ht3 (by omega) (by omega))
  have YE := Lib.hid (HE.out.below (HB1.out.trans (HT3.out.low hd hg hs1)))
  clear hk3 ht3 X1 X2 XD XE XT
  go_wp2_with (fail)
  refine (load_any d g (N1 1000 T) w3 YE.out HK3.out).mono ?_
  rw [E2.out]
  rintro e w4 ⟨hb4, ⟨x, a, n, cap, hx, rfl, hka, hna, _⟩ | ⟨hx, _, _⟩⟩
  rotate_left 1
  · cases hx
  injection hx with _ hx
  injection hx with hx
  subst hx
  have Z1 := Lib.hid (StAt.new w4 (mkS d' a n cap))
  have Z2 := Lib.hid ((StAt.later Y2.out hb4).alloc (.cells (stv (mkS d' a n cap)) 29))
  have hb5 : Below w4.heap.size w4 (w4.alloc (.cells (stv (mkS d' a n cap)) 29)) := (Below.refl _ _).alloc (Nat.le_refl _) _
  have ZK := Lib.hid (hka.below hb5)
  have ZD := Lib.hid (HK3.out.below (hb4.trans (hb5.mono hb4.size)))
  have ZT := Lib.hid (HT3.out.fd (Turn.of_below (hb4.trans (hb5.mono hb4.size)) _))
  have HSS : Hid (sameSt (mkS anD none 0 0) [] (mkS d' a n cap) d'.l = true) := Lib.hid ((sameSt_iff (a := anD) (b := d') rfl hka.1).2 (like_sym HLK.out))
  clear hb4 hb5 hka Y2
  go_wp2_with (first | refine st_alloc rfl ?_ | ((with_reducible refine st_store_new (u := mkS d' a n cap) ?_ ?_ ?_ ?_); (rfl); (rfl); (rfl)) | ((with_reducible refine st_load (b := w2.heap.size + 1) (s := mkS anD none 0 0) ?_ ?_ ?_ ?_); (rfl); (with_reducible exact Z2.out); (rfl)) | ((with_reducible refine st_load (b := w4.heap.size) (s := mkS d' a n cap) ?_ ?_ ?_ ?_); (rfl); (with_reducible exact Z1.out); (rfl)))
  refine (samestate_any (mkS anD none 0 0) (mkS d' a n cap) [] d'.l _ (KnAt.nil_ _ _) ZK.out (by show (0 : Nat) ≤ _; omega)).mono ?_
  rw [HSS.out]
  rintro e w5 ⟨rfl, hb5⟩
  have AD := Lib.hid (ZD.out.below hb5)
  have AT := Lib.hid (ZT.out.fd (Turn.of_below hb5 _))
  clear hb5
  go_wp2_with (fail)
  refine (safe_any d g _ nSt _ AD.out (by decide)).mono ?_
  rw [E3.out]
  rintro e w' ⟨rfl, rfl⟩
  go_wp2
  go_ret
  exact ⟨rfl, HB1.out.trans (AT.out.low hd hg hs1)⟩
end Go.Proofs.YtijkdibccgdomaaGreatDoor.Dsk
