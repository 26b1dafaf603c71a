/-
  WHAT IS PROVED: the contract of the law's example. Condition: none.
-/
import Derived.Test.YtmjbacmaafbdlaaGreatDoorSamest
namespace Go.Proofs.YtmjbacmaafbdlaaGreatDoor
open Go.RowKit C

def onesT (k : Nat) : Tab := ⟨fun i => if i < k then 1 else 0, fun i => if i < k then 1 else 0⟩
def exD : Dt := ⟨1, 0, 1, 0, 1, [⟨2, 0, 0⟩], onesT 64⟩
theorem ones_succ {k : Nat} : same (setE (setO (onesT k) k 1) k 1) (onesT (k + 1)) := fun i _ => by
  unfold onesT setE setO
  by_cases h : i = k
  · subst h; simp
  · have h1 : (i < k + 1) ↔ (i < k) := by omega
    simp [h, h1]
/-- the example is handed back -/
def ExPost (w : World) (e : Ending) (w' : World) : Prop := Below w.heap.size w w' ∧ ∃ a, e = .returned (.agg (stv (mkS exD a 1 1))) ∧ KnAt w' a 1 exD.l
theorem ex_built (a : Option Addr) : Tryz.prog.built 30 [(0, .int .i64 1), (2, .agg #[.int .i64 1, .int .i64 0, .int .i64 1]), (3, .slice a 1 1), (4, .agg (tb (onesT 64)))] = some (stv (mkS exD a 1 1)) := by
  kernel_rfl

set_option maxRecDepth 100000 in
theorem ex_build {ops : Array Oper} {rest : List Oper} {Q : Exit → Act → World → Prop} {a : Act} {w : World} {dst : Option Tmp} {ty : TypeId} {pos : String} {after : Array Edge} {g : Option (Nat × Bool)} {ad : Option Addr} {p q r : Tmp}
    (hp : a.eval (.tmp p) = .agg #[.int .i64 1, .int .i64 0, .int .i64 1]) (hq : a.eval (.tmp q) = .slice ad 1 1) (hr : a.eval (.tmp r) = .agg (tb (onesT 64))) (hw : Region.wanted ⟨dst, .build 30 #[(0, .const (.int .i64 1)), (2, .tmp p), (3, .tmp q), (4, .tmp r)], ty, pos, after, g⟩ (yielded ops a.tmps) = true)
    (h : wpList Tryz.prog ops Q rest (a.put dst (.agg (stv (mkS exD ad 1 1)))) w) : wpList Tryz.prog ops Q (⟨dst, .build 30 #[(0, .const (.int .i64 1)), (2, .tmp p), (3, .tmp q), (4, .tmp r)], ty, pos, after, g⟩ :: rest) a w :=
  at_want hw fun _ hK => by
    have hk := hK _ _ h
    have e : ((#[(0, Operand.const (.int .i64 1)), (2, .tmp p), (3, .tmp q), (4, .tmp r)] : Array (Nat × Operand)).map fun (i, x) => (i, a.eval x)).toList = [(0, .int .i64 1), (2, .agg #[.int .i64 1, .int .i64 0, .int .i64 1]), (3, .slice ad 1 1), (4, .agg (tb (onesT 64)))] := by
      simp only [List.map_toArray, List.map_cons, List.map_nil, hp, hq, hr]
      rfl
    refine wp_build 30 #[(0, .const (.int .i64 1)), (2, .tmp p), (3, .tmp q), (4, .tmp r)] rfl ?_ ?_
    · rw [e, ex_built]; rfl
    · rw [e, ex_built]; exact hk

set_option maxRecDepth 100000 in
set_option maxHeartbeats 600000 in
theorem example_any (w : World) : Calls Tryz.prog 10 #[] w (ExPost w) := by
  have HS : Hid (StAt ((w.alloc (.cells (stv Sv.zero) 30)).alloc (.cells (tb Tab.zero) 28)) w.heap.size Sv.zero) := Lib.hid ((StAt.new w Sv.zero).alloc _)
  have HT : Hid (TabAt ((w.alloc (.cells (stv Sv.zero) 30)).alloc (.cells (tb Tab.zero) 28)) (w.heap.size + 1) (onesT 0)) := Lib.hid (by
    have h := TabAt.new (w.alloc (.cells (stv Sv.zero) 30)) Tab.zero
    have h2 : TabAt ((w.alloc (.cells (stv Sv.zero) 30)).alloc (.cells (tb Tab.zero) 28)) (w.heap.size + 1) Tab.zero := by simpa using h
    exact h2.like fun i _ => by simp [Tab.zero, onesT])
  have HB : Hid (Below w.heap.size w ((w.alloc (.cells (stv Sv.zero) 30)).alloc (.cells (tb Tab.zero) 28))) := Lib.hid (((Below.refl _ w).alloc (Nat.le_refl _) _).alloc (by simp) _)
  go_enter Tryz.func10, Tryz.ntmps10
  go_wp2_with (first | refine st_alloc rfl ?_ | refine at_alloc rfl ?_)
  go_loopw [3] (fun i wr => ∃ k : Nat, k ≤ 64 ∧ i = .int .i64 k ∧ Hid (StAt wr w.heap.size Sv.zero) ∧ Hid (TabAt wr (w.heap.size + 1) (onesT k)) ∧ Hid (Below w.heap.size w wr)) (fun i _ => 64 - (intOf i).toNat)
  case atStart => exact ⟨0, by omega, rfl, HS, HT, HB⟩
  case round =>
    obtain ⟨k, hk, rfl, hs, ht, hb⟩ := hrel
    by_cases hlt : k < 64
    · have hk0 : (0 : Int) ≤ k := by omega
      have hk1 : (k : Int) < 64 := by omega
      have c0 := ht.out.o hlt
      have c1 := ht.out.e hlt
      have fz := ht.out.fz
      have hs2 := Lib.hid ((hs.out.far (p := ⟨w.heap.size + 1, k, none⟩) (by show w.heap.size ≠ w.heap.size + 1; omega) (.int .i64 1)).far (p := ⟨w.heap.size + 1, 64 + k, none⟩) (by show w.heap.size ≠ w.heap.size + 1; omega) (.int .i64 1))
      have ht2 := Lib.hid (((ht.out.setO hlt 1).setE hlt 1).like ones_succ)
      have hb2 := Lib.hid (below_set (below_set hb.out (p := ⟨w.heap.size + 1, k, none⟩) (Nat.le_succ _) (.int .i64 1)) (p := ⟨w.heap.size + 1, 64 + k, none⟩) (Nat.le_succ _) (.int .i64 1))
      go_wp2
      go_roundw
      case rel => exact ⟨k + 1, by omega, by go_num, hs2, ht2, hb2⟩
      case measure => simp [intOf]; omega
    · obtain rfl : k = 64 := by omega
      have K1 := Lib.hid (hs.out.alloc (.cells #[.int .i64 2, .int .i64 0, .int .i64 0] 52))
      have K2 := Lib.hid (ht.out.alloc (.cells #[.int .i64 2, .int .i64 0, .int .i64 0] 52))
      have K3 := Lib.hid (hb.out.alloc hb.out.size (.cells #[.int .i64 2, .int .i64 0, .int .i64 0] 52))
      have hsz : w.heap.size < wr.heap.size := hs.out.lt
      have KK := Lib.hid (KnAt.one wr ⟨2, 0, 0⟩ 52)
      go_wp2_with (first | ((with_reducible refine at_load (b := w.heap.size + 1) (t := onesT 64) ?_ ?_ ?_ ?_); (rfl); (with_reducible exact K2.out); (rfl)) | ((with_reducible refine ex_build (ad := some ⟨wr.heap.size, 0, none⟩) ?_ ?_ ?_ ?_ ?_); (rfl); (rfl); (rfl); (rfl)) | ((with_reducible refine st_store (b := w.heap.size) (s := Sv.zero) (u := mkS exD (some ⟨wr.heap.size, 0, none⟩) 1 1) ?_ ?_ ?_ ?_ ?_); (rfl); (rfl); (with_reducible exact K1.out); (rfl)))
      exact bodyPost_ret (results_st1 rfl _ _ w.heap.size _ rfl (K1.out.store _)) rfl ⟨below_row K3.out (Nat.le_refl _) _, _, rfl, kn_row_far KK.out (fun ad e => by injection e with e; subst e; show wr.heap.size ≠ w.heap.size; omega)⟩
end Go.Proofs.YtmjbacmaafbdlaaGreatDoor

/-
  WHAT IS PROVED: the document's example, which each law asks first, holds. Condition: the library's variables hold what is laid there.
-/
namespace Go.Proofs.YtmjbacmaafbdlaaGreatDoor
open Go.RowKit C

def exT : List UInt8 := [115, 101, 108, 102, 32, 49, 32, 109, 97, 115, 116, 101, 114, 32, 48, 32, 99, 117, 114, 114, 101, 110, 116, 32, 49, 32, 118, 111, 116, 101, 32, 48, 32, 99, 111, 110, 102, 105, 103, 32, 49, 10, 110, 111, 100, 101, 32, 50, 32, 109, 97, 115, 116, 101, 114, 32, 48, 32, 99, 111, 110, 102, 105, 103, 32, 48, 10, 115, 108, 111, 116, 115, 32, 49, 32, 101, 112, 111, 99, 104, 32, 49, 32, 58, 32, 48, 45, 54, 51, 10]
theorem ones_o {i : Nat} (h : i < 64) : (onesT 64).o i = 1 := by show (if i < 64 then (1 : Int) else 0) = 1; rw [if_pos h]
theorem ones_e {i : Nat} (h : i < 64) : (onesT 64).e i = 1 := by show (if i < 64 then (1 : Int) else 0) = 1; rw [if_pos h]
theorem one_list {l : List Int} {x : Int} (hl : l.Pairwise (· < ·)) (h : ∀ y, y ∈ l ↔ y = x) : l = [x] := by
  cases l with
  | nil => exact absurd ((h x).2 rfl) (by simp)
  | cons a r =>
    have ha := (h a).1 (List.mem_cons_self ..)
    subst ha
    cases r with
    | nil => rfl
    | cons b r =>
      have hb := (h b).1 (List.mem_cons_of_mem _ (List.mem_cons_self ..))
      subst hb
      have := (List.pairwise_cons.1 hl).1 _ (List.mem_cons_self ..)
      omega
theorem ex_owners : ownersL (onesT 64) = [1] := one_list (owners_lt _) fun y => by
  rw [owners_mem]
  constructor
  · rintro ⟨i, hi, _, h⟩; rw [ones_o hi] at h; exact h.symm
  · rintro rfl; exact ⟨0, by omega, by decide, by decide⟩
theorem ex_eps : epsL (onesT 64) 1 = [1] := one_list (eps_lt _ _) fun y => by
  rw [mem_eps]
  constructor
  · rintro ⟨i, hi, _, h⟩; rw [ones_e hi] at h; exact h.symm
  · rintro rfl; exact ⟨0, by omega, by decide, by decide⟩
theorem ex_set : setOE (onesT 64) 1 1 = 18446744073709551615 := pick_eq (by decide) fun i hi => by
  rw [ones_o hi, ones_e hi, S.all_bit]; simp [hi]
theorem dg0 : dg 0 = [48] := by rw [dg_eq]; rw [digL_small (by decide)]; rfl
theorem dg1 : dg 1 = [49] := by rw [dg_eq]; rw [digL_small (by decide)]; rfl
theorem dg2 : dg 2 = [50] := by rw [dg_eq]; rw [digL_small (by decide)]; rfl
theorem ex_stx : S.txt 18446744073709551615 = [48, 45, 54, 51] := by decide +kernel
theorem ex_tx : txD exD = exT := by
  rw [txD_unl]
  have e1 : prs exD.t = [(1, 1)] := by
    show prs (onesT 64) = _
    unfold prs
    rw [ex_owners, List.flatMap_cons, List.flatMap_nil, ex_eps]; rfl
  unfold bodies
  rw [e1]
  show unl (pre [_, _, _, _, _] [] :: [pre [_, _, _] [], pre [_, _] (32 :: 58 :: 32 :: S.txt (setOE (onesT 64) 1 1))]) = exT
  rw [ex_set, ex_stx]
  simp only [pre, dg0, dg1, dg2, exD]
  decide
theorem ex_ok : okD exD = true := by
  have h1 : okB (onesT 64) = true := by decide +kernel
  unfold okD okS rtB ownB
  show (_ && (okB (onesT 64) && (ownersL (onesT 64)).all _)) = true
  rw [h1, ex_owners]
  decide +kernel

theorem yields_stg {ops : Array Oper} {S : World → Prop} {a : Act} {dst : Option Tmp} {ty : TypeId} {pos : String} {after : Array Edge} {g : Option (Nat × Bool)} {x : Operand} {b : Nat} {s : Sv} (hw : Region.wanted ⟨dst, .load 30 x, ty, pos, after, g⟩ (yielded ops a.tmps) = true) (hx : a.eval x = .pointer (some ⟨b, 0, none⟩)) (hS : ∀ w, S w → StAt w b s) :
    YieldsIf Tryz.prog ops S ⟨dst, .load 30 x, ty, pos, after, g⟩ (.agg (stv s)) a :=
  .inl ⟨hw, fun w hw => by
    unfold execOp
    simp only [hx, Instr.loadAt, Instr.sureAddr, Sem.run_bind, Sem.run_pure, Result.andThen_ok, run_loadVar_row w b 30 30 (stv s) (0, 0) _ (hS w hw) Tryz.underlying30 rfl (st_size s)]⟩
set_option maxRecDepth 100000 in
set_option maxHeartbeats 800000 in
theorem anchor_any (w : World) (hE : Env w) : Calls Tryz.prog 4 #[] w (Says true w) := by
  obtain ⟨d', hp, hlk⟩ := parse_tx ex_ok
  rw [ex_tx] at hp
  have HP := Lib.hid hp
  have HLK := Lib.hid hlk
  have HTX := Lib.hid ex_tx
  have HOK := Lib.hid ex_ok
  have HE := Lib.hid hE
  clear hp hlk hE
  go_enter Tryz.func4, Tryz.ntmps4
  go_wp2_with (fail)
  refine (example_any _).mono ?_
  rintro e w1 ⟨hb1, a, rfl, hk1⟩
  have HB1 := Lib.hid hb1
  have HK1 := Lib.hid hk1
  clear hb1 hk1
  go_wp2_with (fail)
  refine (text_yes (mkS exD a 1 1) exD.l _ (HE.out.below HB1.out) HK1.out (by rw [okD_eq exD a 1 1 rfl]; exact HOK.out)).mono ?_
  rintro e w2 ⟨rfl, hb2⟩
  rw [txD_eq, HTX.out]
  have HB2 := Lib.hid (HB1.out.trans (hb2.mono HB1.out.size))
  clear hb2
  go_wp2_with (fail)
  refine (cparse_any exT (by decide) _ (HE.out.below HB2.out)).mono ?_
  rintro e w3 ⟨hb3, hcase⟩
  have HB3 := Lib.hid (HB2.out.trans (hb3.mono HB2.out.size))
  rw [HP.out] at hcase
  clear hb3
  rcases hcase with ⟨d, a3, n3, c3, hd, rfl, hk3, hn3⟩ | ⟨hd, _⟩
  · injection hd with hd
    subst hd
    have HK3 := Lib.hid hk3
    have J1 := Lib.hid (StAt.new w3 (mkS d' a3 n3 c3))
    have JB := Lib.hid (HB3.out.alloc HB3.out.size (.cells (stv (mkS d' a3 n3 c3)) 30))
    have JK := Lib.hid (HK3.out.below ((Below.refl _ w3).alloc (Nat.le_refl _) (.cells (stv (mkS d' a3 n3 c3)) 30)))
    clear hk3
    have hdl := HK3.out.1
    go_wp2_with (first | refine st_alloc rfl ?_ | refine st_store_new rfl rfl rfl ?_)
    refine wp_region_held_drew (S := fun w' => StAt w' w3.heap.size (mkS d' a3 n3 c3) ∧ KnAt w' a3 n3 d'.l ∧ Below w.heap.size w w') (by kernel_rfl) ⟨J1.out.drew, JK.out, JB.out.drew⟩ (fun hHeld => ?_)
    refine wpAnyH_take (i := 0) (oi := ⟨some 14, _, _, _, _, _⟩) (v := .int .i64 0) rfl (by kernel_rfl) (by kernel_rfl) (by kernel_rfl) (fun _ _ _ h => h) (Or.inl ⟨by rfl, ?_⟩) (by assumption) ?_
    · (intro w' _; skip; go_simp)
    try simp only [Act.put, List.setIfInBounds_toArray, List.set_cons_zero, List.set_cons_succ]
    refine wpAnyH_take (i := 1) (oi := ⟨some 15, _, _, _, _, _⟩) (v := .bool true) rfl (by kernel_rfl) (by kernel_rfl) (by kernel_rfl) (fun _ _ _ h => h) (Or.inl ⟨by rfl, ?_⟩) (by assumption) ?_
    · (intro w' _; skip; go_simp)
    try simp only [Act.put, List.setIfInBounds_toArray, List.set_cons_zero, List.set_cons_succ]
    refine wpAnyH_take (i := 2) (oi := ⟨some 16, _, _, _, _, _⟩) (v := .bool true) rfl (by kernel_rfl) (by kernel_rfl) (by kernel_rfl) (fun _ _ _ h => h) (Or.inl ⟨by rfl, ?_⟩) (by assumption) ?_
    · (intro w' _; skip; go_simp)
    try simp only [Act.put, List.setIfInBounds_toArray, List.set_cons_zero, List.set_cons_succ]
    refine wpAnyH_take (i := 3) (oi := ⟨some 17, _, _, _, _, _⟩) (v := .string (str exT)) rfl (by kernel_rfl) (by kernel_rfl) (by kernel_rfl) (fun _ _ _ h => h) (Or.inl ⟨by rfl, ?_⟩) (by assumption) ?_
    · (intro w' _; skip; go_simp)
    try simp only [Act.put, List.setIfInBounds_toArray, List.set_cons_zero, List.set_cons_succ]
    refine wpAnyH_take (i := 4) (oi := ⟨some 18, _, _, _, _, _⟩) (v := .bool true) rfl (by kernel_rfl) (by kernel_rfl) (by kernel_rfl) (fun _ _ _ h => h) (Or.inl ⟨by rfl, ?_⟩) (by assumption) ?_
    · (intro w' _; go_simp; exact str_toList _)
    try simp only [Act.put, List.setIfInBounds_toArray, List.set_cons_zero, List.set_cons_succ]
    refine wpAnyH_take (i := 5) (oi := ⟨some 19, _, _, _, _, _⟩) (v := .bool true) rfl (by kernel_rfl) (by kernel_rfl) (by kernel_rfl) (fun _ _ _ h => h) (Or.inl ⟨by rfl, ?_⟩) (by assumption) ?_
    · (intro w' _; skip; go_simp)
    try simp only [Act.put, List.setIfInBounds_toArray, List.set_cons_zero, List.set_cons_succ]
    refine wpAnyH_take (i := 6) (oi := ⟨some 20, _, _, _, _, _⟩) (v := .bool true) rfl (by kernel_rfl) (by kernel_rfl) (by kernel_rfl) (fun _ _ _ h => h) (Or.inl ⟨by rfl, ?_⟩) (by assumption) ?_
    · (intro w' _; skip; go_simp)
    try simp only [Act.put, List.setIfInBounds_toArray, List.set_cons_zero, List.set_cons_succ]
    refine wpAnyH_take (i := 7) (oi := ⟨some 21, _, _, _, _, _⟩) (v := .int .i64 0) rfl (by kernel_rfl) (by kernel_rfl) (by kernel_rfl) (fun _ _ _ h => h) (Or.inl ⟨by rfl, ?_⟩) (by assumption) ?_
    · (intro w' _; skip; go_simp)
    try simp only [Act.put, List.setIfInBounds_toArray, List.set_cons_zero, List.set_cons_succ]
    refine wpAnyH_take (i := 8) (oi := ⟨some 22, _, _, _, _, _⟩) (v := .bool true) rfl (by kernel_rfl) (by kernel_rfl) (by kernel_rfl) (fun _ _ _ h => h) (Or.inl ⟨by rfl, ?_⟩) (by assumption) ?_
    · (intro w' _; skip; go_simp)
    try simp only [Act.put, List.setIfInBounds_toArray, List.set_cons_zero, List.set_cons_succ]
    refine wpAnyH_take (i := 9) (oi := ⟨some 23, _, _, _, _, _⟩) (v := .bool true) rfl (by kernel_rfl) (by kernel_rfl) (by kernel_rfl) (fun _ _ _ h => h) (Or.inl ⟨by rfl, ?_⟩) (by assumption) ?_
    · (intro w' _; skip; go_simp)
    try simp only [Act.put, List.setIfInBounds_toArray, List.set_cons_zero, List.set_cons_succ]
    refine wpAnyH_take (i := 10) (oi := ⟨some 24, _, _, _, _, _⟩) (v := .bool true) rfl (by kernel_rfl) (by kernel_rfl) (by kernel_rfl) (fun _ _ _ h => h) (Or.inl ⟨by rfl, ?_⟩) (by assumption) ?_
    · (intro w' _; skip; go_simp)
    try simp only [Act.put, List.setIfInBounds_toArray, List.set_cons_zero, List.set_cons_succ]
    refine wpAnyH_take (i := 11) (oi := ⟨some 25, _, _, _, _, _⟩) (v := .agg (stv (mkS d' a3 n3 c3))) rfl (by kernel_rfl) (by kernel_rfl) (by kernel_rfl) (fun _ _ _ h => h) (yields_stg rfl rfl fun _ h => h.1) (by assumption) ?_
    try simp only [Act.put, List.setIfInBounds_toArray, List.set_cons_zero, List.set_cons_succ]
    refine wpAnyH_ready (rs := [12]) (by kernel_rfl) (by simp) ?_
    refine AllReadyH.cons rfl (fun K hK => ?_) AllReadyH.nil
    go_simp
    refine (example_any _).mono ?_
    rintro e w4 ⟨hb4, a4, rfl, hk4⟩
    obtain ⟨hS, hKn, hB⟩ := hHeld
    have hS4 := hS.later hb4
    have hKn4 := hKn.below hb4
    have hB4 := hB.trans (hb4.mono hB.size)
    refine hK.out _ _ ⟨hS4, hKn4, hB4⟩ (fun hHeld => ?_)
    clear hK K hS hKn hB hb4
    try simp only [Act.put, List.setIfInBounds_toArray, List.set_cons_zero, List.set_cons_succ]
    have HLE : sameSt (mkS d' a3 n3 c3) d'.l (mkS exD a4 1 1) exD.l = true := (sameSt_iff hdl rfl).2 HLK.out
    refine wpAnyH_ready (rs := [13]) (by kernel_rfl) (by simp) ?_
    refine AllReadyH.cons rfl (fun K hK => ?_) AllReadyH.nil
    go_simp
    refine (samestate_any (mkS d' a3 n3 c3) (mkS exD a4 1 1) d'.l exD.l _ hKn4 hk4 (by show n3 ≤ _; omega)).mono ?_
    rw [HLE]
    rintro e w5 ⟨rfl, hb5⟩
    refine hK.out _ _ ⟨hS4.later hb5, hKn4.below hb5, hB4.trans (hb5.mono hB4.size)⟩ (fun hHeld => ?_)
    clear hK K
    try simp only [Act.put, List.setIfInBounds_toArray, List.set_cons_zero, List.set_cons_succ]
    refine wpAnyH_take (i := 14) (oi := ⟨some 28, _, _, _, _, _⟩) (v := .bool true) rfl (by kernel_rfl) (by kernel_rfl) (by kernel_rfl) (fun _ _ _ h => h) (Or.inl ⟨by rfl, ?_⟩) (by assumption) ?_
    · (intro w' _; skip; go_simp)
    try simp only [Act.put, List.setIfInBounds_toArray, List.set_cons_zero, List.set_cons_succ]
    refine wpAnyH_take (i := 15) (oi := ⟨some 0, _, _, _, _, _⟩) (v := .bool true) rfl (by kernel_rfl) (by kernel_rfl) (by kernel_rfl) (fun _ _ _ h => h) (Or.inl ⟨by rfl, ?_⟩) (by assumption) ?_
    · (intro w' _; skip; go_simp)
    try simp only [Act.put, List.setIfInBounds_toArray, List.set_cons_zero]
    refine wpAnyH_done (by kernel_rfl) ?_ _
    have HF := Lib.hid hHeld.2.2
    clear hHeld
    go_wp2
    go_ret
    exact ⟨rfl, HF.out⟩
  · cases hd
end Go.Proofs.YtmjbacmaafbdlaaGreatDoor
