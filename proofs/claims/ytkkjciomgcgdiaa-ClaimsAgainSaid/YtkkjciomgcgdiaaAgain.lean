/-
  WHAT IS PROVED: the law ClaimsAgain answers true for all arguments, which read behind the call as before it (a claim that is made again takes nothing; behind it its id has all of its slots, but those that another has with an epoch as great). No condition beyond those of the given row.
-/
import Derived.Test.YtkkjciomgcgdiaaAnchor
import Derived.Test.YtkkjciomgcgdiaaDrop
import Derived.Test.YtkkjciomgcgdiaaQuiet
import Derived.Test.YtkkjciomgcgdiaaArgs
namespace Go.Proofs.Ytkkjciomgcgdiaa
open Go.RowKit Go.Lib

theorem again_slot {t : Tab} {id ep : Int} {s i : Nat} (hb : s.testBit i = true) :
    ((claimP t id ep s.testBit).o i = id ∧ ep ≤ (claimP t id ep s.testBit).e i) ∨
    (t.o i ≠ id ∧ t.o i ≠ 0 ∧ ep ≤ t.e i ∧ (claimP t id ep s.testBit).o i = t.o i ∧ (claimP t id ep s.testBit).e i = t.e i) := by
  have eo : (claimP t id ep s.testBit).o i = if s.testBit i = true then newO t id ep i else t.o i := rfl
  have ee : (claimP t id ep s.testBit).e i = if s.testBit i = true then newE t id ep i else t.e i := rfl
  rw [eo, ee, if_pos hb, if_pos hb]
  rcases new_cases t id ep i with ⟨_, _, _, h4, h5⟩ | ⟨_, _, h4, h5⟩ | ⟨_, h2, h3, h6, h4, h5⟩
  · exact .inl ⟨h4, by rw [h5]; omega⟩
  · exact .inl ⟨h4, by rw [h5]; omega⟩
  · exact .inr ⟨h2, h3, h6, h4, h5⟩
theorem again_not {t : Tab} {id ep : Int} {s i : Nat} (hb : s.testBit i = true) : tookB (claimP t id ep s.testBit) id ep i = false := by
  rcases again_slot (t := t) (id := id) (ep := ep) hb with ⟨h1, _⟩ | ⟨_, h2, h3, h4, h5⟩
  · exact took_no.2 (.inl h1)
  · exact took_no.2 (.inr ⟨by rw [h4]; exact h2, by rw [h5]; exact h3⟩)
theorem again_taken (t : Tab) (id ep : Int) (s : Nat) : takenP (claimP t id ep s.testBit) id ep s.testBit = 0 :=
  ext64 (pick_lt _) (by decide) fun i hi => by
    have e : (takenP (claimP t id ep s.testBit) id ep s.testBit).testBit i = (s.testBit i && tookB (claimP t id ep s.testBit) id ep i) := pick_bit _ hi
    rw [e, Nat.zero_testBit]
    cases hb : s.testBit i
    · rfl
    · rw [again_not hb]; rfl
theorem again_same (t : Tab) (id ep : Int) (s : Nat) : same (claimP (claimP t id ep s.testBit) id ep s.testBit) (claimP t id ep s.testBit) := fun i _ => by
  have eo : (claimP (claimP t id ep s.testBit) id ep s.testBit).o i = if s.testBit i = true then newO (claimP t id ep s.testBit) id ep i else (claimP t id ep s.testBit).o i := rfl
  have ee : (claimP (claimP t id ep s.testBit) id ep s.testBit).e i = if s.testBit i = true then newE (claimP t id ep s.testBit) id ep i else (claimP t id ep s.testBit).e i := rfl
  rw [eo, ee]
  cases hb : s.testBit i
  · exact ⟨rfl, rfl⟩
  · rw [if_pos rfl, if_pos rfl]
    have hn := again_not (t := t) (id := id) (ep := ep) hb
    rcases new_cases (claimP t id ep s.testBit) id ep i with ⟨h1, _, _, _, _⟩ | ⟨_, h2, h4, h5⟩ | ⟨_, _, _, _, h4, h5⟩
    · rw [hn] at h1; cases h1
    · rw [h4, h5, h2]
      refine ⟨rfl, ?_⟩
      rcases again_slot (t := t) (id := id) (ep := ep) hb with ⟨_, h6⟩ | ⟨h6, _, _, h7, _⟩
      · omega
      · rw [h7] at h2; exact absurd h2 h6
    · exact ⟨h4, h5⟩
theorem again_left {t : Tab} {id ep : Int} {s i : Nat} (h : i ∈ slotsTo (less s (ofN (claimP t id ep s.testBit) id)) 64) :
    i < 64 ∧ t.o i ≠ 0 ∧ ep ≤ t.e i ∧ (claimP t id ep s.testBit).o i = t.o i ∧ (claimP t id ep s.testBit).e i = t.e i := by
  have h1 := slotsTo_mem.1 h
  have h2 := h1.2
  rw [less_bit h1.1, ofN_bit _ _ h1.1] at h2
  simp only [Bool.and_eq_true, Bool.not_eq_true', beq_eq_false_iff_ne] at h2
  rcases again_slot (t := t) (id := id) (ep := ep) h2.1 with ⟨h3, _⟩ | ⟨_, h4, h5, h6, h7⟩
  · exact absurd h3 h2.2
  · exact ⟨h1.1, h4, h5, h6, h7⟩
/-- one cell is read, whatever the order -/
theorem yields_int {ops : Array Oper} {S : World → Prop} {a : Act} {dst : Option Tmp} {ty : TypeId} {pos : String} {after : Array Edge} {x : Operand} {p : Addr} {v : Value} (hx : a.eval x = .pointer (some p)) (hS : ∀ w, S w → w.cell? p = some v) :
    YieldsIf Try.prog ops S ⟨dst, .load 3 x, ty, pos, after, none⟩ v a :=
  .inl ⟨rfl, fun w hw => by
    have h := hS w hw
    unfold execOp
    simp only [hx, Instr.loadAt, Instr.sureAddr, Sem.run_bind, Sem.run_pure, Result.andThen_ok, loadVar, Try.isAgg3, Bool.false_eq_true, if_false, run_load, h]⟩
theorem yields_set {ops : Array Oper} {S : World → Prop} {a : Act} {dst : Option Tmp} {ty : TypeId} {pos : String} {after : Array Edge} {x : Operand} {p : Addr} {v : Value} (hx : a.eval x = .pointer (some p)) (hS : ∀ w, S w → w.cell? p = some v) :
    YieldsIf Try.prog ops S ⟨dst, .load 26 x, ty, pos, after, none⟩ v a :=
  .inl ⟨rfl, fun w hw => by
    have h := hS w hw
    unfold execOp
    simp only [hx, Instr.loadAt, Instr.sureAddr, Sem.run_bind, Sem.run_pure, Result.andThen_ok, loadVar, Try.isAgg26, Bool.false_eq_true, if_false, run_load, h]⟩

set_option maxRecDepth 100000 in
set_option maxHeartbeats 2000000 in
theorem again_early (t : Tab) (c : Cl) (h : goodB t c.id c.ep = false) (W : World) :
    Calls Try.prog 8 #[.agg (tb t), vCl c] W (Says true W) := by
  obtain ⟨b1, B1⟩ : ∃ b, Hid (okB t = b) := ⟨_, Lib.hid rfl⟩
  obtain ⟨b2, B2⟩ : ∃ b, Hid (betB 1 4294967296 c.id = b) := ⟨_, Lib.hid rfl⟩
  obtain ⟨b3, B3⟩ : ∃ b, Hid (betB 0 281474976710656 c.ep = b) := ⟨_, Lib.hid rfl⟩
  have HG : Hid ((b1 && (b2 && b3)) = false) := Lib.hid (by rw [← B1.out, ← B2.out, ← B3.out]; exact h)
  have RB : Hid (∀ W, Calls Try.prog 15 #[.agg (tb t)] W (Says b1 W)) := fun W => by have h := lawright_any t W; rwa [B1.out] at h
  clear h
  go_enter Try.func8, Try.ntmps8
  go_wp2_with (fail)
  refine (anchor_any _).mono ?_
  rintro e w1 ⟨rfl, hb1⟩
  have K1 := Lib.hid (((TabAt.new W t).alloc (.cells #[.int .i64 c.id, .int .i64 c.ep, .int .u64 (c.s : Int)] 28)).later hb1)
  have c1 : Bx ((W.alloc (.cells (tb t) 24)).alloc (.cells #[.int .i64 c.id, .int .i64 c.ep, .int .u64 (c.s : Int)] 28)) (W.heap.size + 1) c := by
    have := Bx.new (W.alloc (.cells (tb t) 24)) c
    simpa using this
  have C1 := Lib.hid (c1.later hb1)
  have HB1 := Lib.hid ((((Below.refl W.heap.size W).alloc (Nat.le_refl _) (.cells (tb t) 24)).alloc (by simp) (.cells #[.int .i64 c.id, .int .i64 c.ep, .int .u64 (c.s : Int)] 28)).trans (hb1.mono (by simp; omega)))
  clear hb1 c1
  go_wp2_with (refine at_load rfl K1.out rfl ?_)
  refine (RB.out _).mono ?_
  rintro e w2 ⟨rfl, hb2⟩
  have HB2 := Lib.hid (HB1.out.trans (hb2.mono HB1.out.size))
  obtain ⟨a0, a1, a2⟩ := (C1.out.later hb2).box
  clear hb2
  cases b1
  · go_wp2
    go_ret
    exact ⟨rfl, HB2.out⟩
  · go_wp2_with (fail)
    refine (lawid_any _ _).mono ?_
    rintro e w3 ⟨rfl, rfl⟩
    rw [B2.out]
    cases b2
    · go_wp2
      go_ret
      exact ⟨rfl, HB2.out⟩
    · go_wp2_with (fail)
      refine (lawepoch_any _ _).mono ?_
      rintro e w3 ⟨rfl, rfl⟩
      rw [B3.out]
      cases b3
      · go_wp2
        go_ret
        exact ⟨rfl, HB2.out⟩
      · exact absurd HG.out (by decide)

set_option maxRecDepth 100000 in
set_option maxHeartbeats 8000000 in
theorem again_main (t : Tab) (c : Cl) (hc : c.fits) (h : goodB t c.id c.ep = true) (W : World) :
    Calls Try.prog 8 #[.agg (tb t), vCl c] W (Says true W) := by
  have B1 : Hid (okB t = true) := Lib.hid (good_iff.1 h).1
  have B2 : Hid (betB 1 4294967296 c.id = true) := Lib.hid (bet_iff.2 (good_iff.1 h).2.1)
  have B3 : Hid (betB 0 281474976710656 c.ep = true) := Lib.hid (bet_iff.2 (good_iff.1 h).2.2)
  have RB : Hid (∀ W, Calls Try.prog 15 #[.agg (tb t)] W (Says true W)) := fun W => by have h := lawright_any t W; rwa [B1.out] at h
  have d1 := claim_yes t c.id c.ep c.s hc h
  have d2 : ∀ w, Calls Try.prog 13 #[.agg (tb (claimP t c.id c.ep c.s.testBit)), .int .i64 c.id, .int .i64 c.ep, .int .u64 (c.s : Int)] w (Gives (claimP t c.id c.ep c.s.testBit) 0 0 w) := fun w =>
    (claim_yes (claimP t c.id c.ep c.s.testBit) c.id c.ep c.s hc (claim_good h) w).mono fun _ _ hg => ⟨by rw [hg.1, again_taken, tb_congr (again_same t c.id c.ep c.s)], hg.2⟩
  have s1 := same_tab (claimP t c.id c.ep c.s.testBit) (claimP t c.id c.ep c.s.testBit)
  rw [same_iff.2 (fun _ _ => ⟨rfl, rfl⟩)] at s1
  have o1 := of_any (claimP t c.id c.ep c.s.testBit) c.id
  have e1 := less_int hc (ofN_lt (claimP t c.id c.ep c.s.testBit) c.id)
  have hl : ∀ i, i ∈ slotsTo (less c.s (ofN (claimP t c.id c.ep c.s.testBit) c.id)) 64 → i < 64 ∧ t.o i ≠ 0 ∧ c.ep ≤ t.e i ∧ (claimP t c.id c.ep c.s.testBit).o i = t.o i ∧ (claimP t c.id c.ep c.s.testBit).e i = t.e i := fun i hi => again_left hi
  have hd : less c.s (ofN (claimP t c.id c.ep c.s.testBit) c.id) < 18446744073709551616 := less_lt _ _
  generalize less c.s (ofN (claimP t c.id c.ep c.s.testBit) c.id) = d at *
  generalize ofN (claimP t c.id c.ep c.s.testBit) c.id = x at *
  generalize takenP t c.id c.ep c.s.testBit = n1 at *
  generalize claimP t c.id c.ep c.s.testBit = N at *
  have D1 := Lib.hid d1
  have D2 := Lib.hid d2
  have S1 := Lib.hid s1
  have O1 := Lib.hid o1
  have E1 := Lib.hid e1
  have HL := Lib.hid hl
  have HD := Lib.hid hd
  clear d1 d2 s1 o1 e1 hl hd h hc
  go_enter Try.func8, Try.ntmps8
  go_wp2_with (fail)
  refine (anchor_any _).mono ?_
  rintro e w1 ⟨rfl, hb1⟩
  have K1 := Lib.hid (((TabAt.new W t).alloc (.cells #[.int .i64 c.id, .int .i64 c.ep, .int .u64 (c.s : Int)] 28)).later hb1)
  have c1 : Bx ((W.alloc (.cells (tb t) 24)).alloc (.cells #[.int .i64 c.id, .int .i64 c.ep, .int .u64 (c.s : Int)] 28)) (W.heap.size + 1) c := by
    have := Bx.new (W.alloc (.cells (tb t) 24)) c
    simpa using this
  have C1 := Lib.hid (c1.later hb1)
  have HB1 := Lib.hid ((((Below.refl W.heap.size W).alloc (Nat.le_refl _) (.cells (tb t) 24)).alloc (by simp) (.cells #[.int .i64 c.id, .int .i64 c.ep, .int .u64 (c.s : Int)] 28)).trans (hb1.mono (by simp; omega)))
  clear hb1 c1
  go_wp2_with (refine at_load rfl K1.out rfl ?_)
  refine (RB.out _).mono ?_
  rintro e w2 ⟨rfl, hb2⟩
  have K2 := Lib.hid (K1.out.later hb2)
  have C2 := Lib.hid (C1.out.later hb2)
  have HB2 := Lib.hid (HB1.out.trans (hb2.mono HB1.out.size))
  obtain ⟨a0, a1, a2⟩ := C2.out.box
  clear hb2
  go_wp2_with (fail)
  refine (lawid_any _ _).mono ?_
  rintro e w3 ⟨rfl, rfl⟩
  rw [B2.out]
  go_wp2_with (fail)
  refine (lawepoch_any _ _).mono ?_
  rintro e w3 ⟨rfl, rfl⟩
  rw [B3.out]
  go_wp2_with (refine at_load rfl K2.out rfl ?_)
  refine (D1.out _).mono ?_
  rintro e w3 ⟨rfl, hb3⟩
  have K3 := Lib.hid ((K2.out.later hb3).alloc (.cells (tb N) 24))
  have C3 := Lib.hid ((C2.out.later hb3).alloc (.cells (tb N) 24))
  have L3 := Lib.hid (TabAt.new w3 N)
  have HB3 := Lib.hid (below_new (HB2.out.trans (hb3.mono HB2.out.size)) (Nat.le_trans HB2.out.size hb3.size) (.cells (tb N) 24))
  clear hb3 a0 a1 a2
  obtain ⟨a0, a1, a2⟩ := C3.out.box
  go_wp2_with (first | refine at_alloc rfl ?_ | refine at_store_new rfl rfl rfl ?_ | (refine at_load (t := N) rfl ?_ rfl ?_; with_reducible exact L3.out))
  refine (D2.out _).mono ?_
  rintro e w4 ⟨rfl, hb4⟩
  have K4 := Lib.hid ((K3.out.later hb4).alloc (.cells (tb N) 24))
  have C4 := Lib.hid ((C3.out.later hb4).alloc (.cells (tb N) 24))
  have L4 := Lib.hid ((L3.out.later hb4).alloc (.cells (tb N) 24))
  have M4 := Lib.hid (TabAt.new w4 N)
  have HB4 := Lib.hid (below_new (HB3.out.trans (hb4.mono HB3.out.size)) (Nat.le_trans HB3.out.size hb4.size) (.cells (tb N) 24))
  clear hb4 a0 a1 a2
  have s1 := S1.out
  go_wp2_with (first | refine at_alloc rfl ?_ | refine at_store_new rfl rfl rfl ?_ | (refine at_load (t := N) rfl ?_ rfl ?_; with_reducible first | exact L4.out | exact M4.out))
  clear s1
  generalize w4.alloc (.cells (tb N) 24) = w5 at *
  have HSQ : ∀ w', Below w5.heap.size w5 w' → TabAt w' w3.heap.size N ∧ w'.cell? ⟨W.heap.size + 1, 0, none⟩ = some (.int .i64 c.id) ∧ w'.cell? ⟨W.heap.size + 1, 2, none⟩ = some (.int .u64 (c.s : Int)) := fun w' hb =>
    ⟨L4.out.later hb, (C4.out.later hb).box.1, (C4.out.later hb).box.2.2⟩
  refine wp_region_held_drew (S := fun w' => Below w5.heap.size w5 w') (by kernel_rfl) (below_drewN (Below.refl _ _) 1) (fun hHeld => ?_)
  refine wpAnyH_take (i := 0) (oi := ⟨some 69, .fieldAddr 28 (.tmp 3) 2, 0, "law.go:199", #[], none⟩) (v := .pointer (some ⟨W.heap.size + 1, 2, none⟩)) rfl (by kernel_rfl) (by kernel_rfl) (by kernel_rfl) (fun _ _ _ h => h) (Or.inl ⟨rfl, fun w' _ => by go_simp⟩) (by assumption) ?_
  try simp only [Act.put, List.setIfInBounds_toArray, List.set_cons_zero, List.set_cons_succ]
  refine wpAnyH_take (i := 1) (oi := ⟨some 70, .load 26 (.tmp 69), 26, "law.go:199", _, none⟩) (v := .int .u64 (c.s : Int)) rfl (by kernel_rfl) (by kernel_rfl) (by kernel_rfl) (fun _ _ _ h => h) (yields_set rfl fun w' hw => (HSQ w' hw).2.2) (by assumption) ?_
  try simp only [Act.put, List.setIfInBounds_toArray, List.set_cons_zero, List.set_cons_succ]
  refine wpAnyH_take (i := 2) (oi := ⟨some 71, .load 24 (.tmp 5), 24, "law.go:199", _, none⟩) (v := .agg (tb N)) rfl (by kernel_rfl) (by kernel_rfl) (by kernel_rfl) (fun _ _ _ h => h) (yields_load rfl fun w' hw => (HSQ w' hw).1) (by assumption) ?_
  try simp only [Act.put, List.setIfInBounds_toArray, List.set_cons_zero, List.set_cons_succ]
  refine wpAnyH_take (i := 3) (oi := ⟨some 72, .fieldAddr 28 (.tmp 3) 0, 0, "law.go:199", _, none⟩) (v := .pointer (some ⟨W.heap.size + 1, 0, none⟩)) rfl (by kernel_rfl) (by kernel_rfl) (by kernel_rfl) (fun _ _ _ h => h) (Or.inl ⟨rfl, fun w' _ => by go_simp⟩) (by assumption) ?_
  try simp only [Act.put, List.setIfInBounds_toArray, List.set_cons_zero, List.set_cons_succ]
  refine wpAnyH_take (i := 4) (oi := ⟨some 73, .load 3 (.tmp 72), 3, "law.go:199", _, none⟩) (v := .int .i64 c.id) rfl (by kernel_rfl) (by kernel_rfl) (by kernel_rfl) (fun _ _ _ h => h) (yields_int rfl fun w' hw => (HSQ w' hw).2.1) (by assumption) ?_
  try simp only [Act.put, List.setIfInBounds_toArray, List.set_cons_zero, List.set_cons_succ]
  refine wpAnyH_take (i := 9) (oi := ⟨some 78, .move (.const (.int .i64 0)), 3, "law.go:199", _, none⟩) (v := .int .i64 0) rfl (by kernel_rfl) (by kernel_rfl) (by kernel_rfl) (fun _ _ _ h => h) (yields_move rfl) (by assumption) ?_
  try simp only [Act.put, List.setIfInBounds_toArray, List.set_cons_zero, List.set_cons_succ]
  refine wpAnyH_ready (rs := [5]) (by kernel_rfl) (by simp) ?_
  refine AllReadyH.cons (o := ⟨some 74, .call { callee := .value (.func 20), args := #[.tmp 71, .tmp 73], argTypes := #[24, 3] }, 26, "law.go:199", _, none⟩) rfl (fun K hK => ?_) AllReadyH.nil
  go_simp
  refine (O1.out _).mono ?_
  rintro e w6 ⟨rfl, hb6⟩
  refine hK.out _ _ (hHeld.trans (hb6.mono hHeld.size)) (fun hHeld' => ?_)
  clear hK K hb6 hHeld
  have hHeld := hHeld'
  clear hHeld'
  try simp only [Act.put, List.setIfInBounds_toArray, List.set_cons_zero, List.set_cons_succ]
  refine wpAnyH_take (i := 6) (oi := ⟨some 75, .binOp .andNot 26 (.tmp 70) (.tmp 74) 26, 26, "law.go:199", _, none⟩) (v := .int .u64 (d : Int)) rfl (by kernel_rfl) (by kernel_rfl) (by kernel_rfl) (fun _ _ _ h => h) (Or.inl ⟨rfl, fun w' _ => by have h := E1.out; go_simp⟩) (by assumption) ?_
  try simp only [Act.put, List.setIfInBounds_toArray, List.set_cons_zero, List.set_cons_succ]
  refine wpAnyH_ready (rs := [7]) (by kernel_rfl) (by simp) ?_
  refine AllReadyH.cons (o := ⟨some 76, .call { callee := .value (.func 22), args := #[.tmp 75], argTypes := #[26] }, 39, "law.go:199", _, none⟩) rfl (fun K hK => ?_) AllReadyH.nil
  go_simp
  refine (list_any d HD.out _).mono ?_
  rintro e w7 ⟨hb7, A, cc, rfl, hnc, hcm, hr⟩
  have HR7 := Lib.hid (hr w7.heap.size (.inl (Nat.le_refl _)))
  refine hK.out _ _ (hHeld.trans (hb7.mono hHeld.size)) (fun hHeld' => ?_)
  clear hK K hb7 hr hHeld
  have hHeld := hHeld'
  clear hHeld'
  have HLT : Hid (∀ i, i ∈ slotsTo d 64 → i < 64 ∧ t.o i ≠ 0 ∧ c.ep ≤ t.e i ∧ N.o i = t.o i ∧ N.e i = t.e i) := HL
  have HLE := Lib.hid (slotsTo_le d 64)
  generalize slotsTo d 64 = L at *
  try simp only [Act.put, List.setIfInBounds_toArray, List.set_cons_zero, List.set_cons_succ]
  refine wpAnyH_take (i := 8) (oi := ⟨some 77, .call { callee := .builtin .len, args := #[.tmp 76], argTypes := #[39] }, 3, "law.go:199", _, none⟩) (v := .int .i64 (L.length : Int)) rfl (by kernel_rfl) (by kernel_rfl) (by kernel_rfl) (fun _ _ _ h => h) (Or.inl ⟨rfl, fun w' _ => by go_simp⟩) (by assumption) ?_
  try simp only [Act.put, List.setIfInBounds_toArray, List.set_cons_zero, List.set_cons_succ]
  refine wpAnyH_done (by kernel_rfl) ?_ _
  have K7 := Lib.hid (K4.out.later hHeld)
  have C7 := Lib.hid (C4.out.later hHeld)
  have L7 := Lib.hid (L4.out.later hHeld)
  have HB7 := Lib.hid (HB4.out.trans (hHeld.mono HB4.out.size))
  clear hHeld HSQ
  go_wp2
  go_loopw [78] (fun i wr => ∃ k : Nat, k ≤ L.length ∧ i = .int .i64 k ∧ Hid (Below w7.heap.size w7 wr)) (fun i _ => L.length - (intOf i).toNat)
  case atStart => exact ⟨0, by omega, rfl, Lib.hid (Below.refl _ _)⟩
  case round =>
    obtain ⟨k, hk, rfl, hb⟩ := hrel
    by_cases hlt : k < L.length
    · obtain ⟨ad, u, rfl, hu, hcell⟩ := (HR7.out.below hb.out).at_ hlt
      obtain ⟨m, hm⟩ : ∃ m, L[k]? = some m := ⟨L[k], List.getElem?_eq_getElem hlt⟩
      rw [ints_at hm] at hu
      injection hu with hu
      subst hu
      obtain ⟨hm64, g1, g2, g3, g4⟩ := HLT.out m (List.mem_of_getElem? hm)
      have hm0 : (0 : Int) ≤ m := by omega
      have hm1 : (m : Int) < 64 := by omega
      have n0 := (L7.out.later hb.out).o hm64
      have n1' := (L7.out.later hb.out).e hm64
      have t0 := (K7.out.later hb.out).o hm64
      have c1 := (C7.out.later hb.out).box.2.1
      rw [g3] at n0
      rw [g4] at n1'
      have q1 : (t.o m == 0) = false := by simpa using g1
      have q2 : decide (t.e m < c.ep) = false := by simp; omega
      have HBD := hb
      generalize t.o m = o at *
      generalize t.e m = e at *
      clear g1 g2 g3 g4 hm
      go_wp2
      go_quiet (fail)
      go_wp2
      go_roundw
      case rel => exact ⟨k + 1, by omega, by go_num, Lib.hid (below_drewN HBD.out nq)⟩
      case measure => simp [intOf]; omega
    · obtain rfl : k = L.length := by omega
      have HB9 := Lib.hid (HB7.out.trans (hb.out.mono HB7.out.size))
      go_wp2
      go_ret
      exact ⟨rfl, HB9.out⟩
theorem againlaw_any (t : Tab) (c : Cl) (hc : c.fits) (W : World) : Calls Try.prog 8 #[.agg (tb t), vCl c] W (Says true W) := by
  cases h : goodB t c.id c.ep
  · exact again_early t c h W
  · exact again_main t c hc h W
end Go.Proofs.Ytkkjciomgcgdiaa
