/-
  WHAT IS PROVED: the law's like answers true of a roster and the document's own of the same members, bans and cursor; '==' of members. Conditions: the sizes.
-/
import Derived.Test.YtfchhlibjhblmaaRef7
import Derived.Shelf.SlicesE.Kit
import Derived.Laws.StructEq
namespace Go.Proofs.Ytfchhlibjhblmaa
open Go.RowKit Go.Lib Go.Maps

theorem same_mem (x r : Mb) (w : World) : (Op.equalIn 10000 34 (vM x) (vM r)).run Try.prog w = .ok (decide (x = r)) w := by
  have u3 := Try.underlying3
  have a3 := Try.isAgg3
  have z3 := Try.sizeOf3
  have hS : Try.prog.underlying 34 = some (.struct (Try.prog.fieldsOf 34)) := by kernel_rfl
  have hp : Try.prog.stoodInHeld 34 = false := by kernel_rfl
  rw [show (10000 : Nat) = 9999 + 1 from rfl, run_equalIn_agg w 9999 34 _ _ hS hp]
  simp only [Program.fieldsOf, Try.underlying34]
  obtain ⟨i, o, u, a, b⟩ := x
  obtain ⟨i', o', u', a', b'⟩ := r
  go_simp
  by_cases h1 : i = i' <;> by_cases h2 : o = o' <;> by_cases h3 : u = u' <;> by_cases h4 : a = a' <;> by_cases h5 : b = b' <;> simp [h1, h2, h3, h4, h5]
theorem guard_mem (op : BinOp) (a b : Operand) (x r : Mb) (w : World) : (eqGuard op 34 a b (vM x) (vM r)).run Try.prog w = .ok () w := run_eqGuard_agg w op 34 a b _ _ (by kernel_rfl)
theorem same_rmem (x r : Mb) (w : World) : (Op.equalIn 10000 41 (vM x) (vM r)).run Try.prog w = .ok (decide (x = r)) w := by
  have u3 := Try.underlying3
  have a3 := Try.isAgg3
  have z3 := Try.sizeOf3
  have hS : Try.prog.underlying 41 = some (.struct (Try.prog.fieldsOf 41)) := by kernel_rfl
  have hp : Try.prog.stoodInHeld 41 = false := by kernel_rfl
  rw [show (10000 : Nat) = 9999 + 1 from rfl, run_equalIn_agg w 9999 41 _ _ hS hp]
  simp only [Program.fieldsOf, Try.underlying41]
  obtain ⟨i, o, u, a, b⟩ := x
  obtain ⟨i', o', u', a', b'⟩ := r
  go_simp
  by_cases h1 : i = i' <;> by_cases h2 : o = o' <;> by_cases h3 : u = u' <;> by_cases h4 : a = a' <;> by_cases h5 : b = b' <;> simp [h1, h2, h3, h4, h5]
theorem guard_rmem (op : BinOp) (a b : Operand) (x r : Mb) (w : World) : (eqGuard op 41 a b (vM x) (vM r)).run Try.prog w = .ok () w := run_eqGuard_agg w op 41 a b _ _ (by kernel_rfl)

/-- a world in which all that lay in w lies as it did -/
structure Later (w : World) where
  now : World
  below : Below w.heap.size w now
def Later.start (w : World) : Later w := ⟨w, Below.refl _ w⟩
instance (w : World) : Inhabited (Later w) := ⟨Later.start w⟩
theorem Later.cell {w : World} (p : Later w) {a : Addr} {v : Value} (h : w.cell? a = some v) : p.now.cell? a = some v := (p.below.cell (lt_of_cell h)).trans h
theorem wp_region_later {P : Program} {id : Nat} {Q : Exit → Act → World → Prop} {a : Act} {w : World} {l : List Oper} (hm : P.follows .mixedOrders = true) (hB : Region.lexB .any l.toArray = true)
    (h : wpQuiet P l.toArray (fun w' => ∃ p : Later w, w' = p.now) (fun a' => ∀ w', (∃ p : Later w, w' = p.now) → Q .normal a' w') l a) : (Code.region id l.toArray true).wp P Q a w :=
  wp_region_quiet (C := fun w' => ∃ p : Later w, w' = p.now) hm hB ⟨⟨w.drew, ⟨rfl, rfl, rfl, Nat.le_refl _, fun _ _ => rfl⟩⟩, rfl⟩ (by simpa using h)
/-- a callee's contract, met in such a world -/
theorem Later.calls {P : Program} {f : FuncId} {args : Array Value} {w : World} {p : Later w} {v : Value}
    (h : Calls P f args p.now fun e w' => e = .returned v ∧ Below p.now.heap.size p.now w') : Calls P f args p.now fun e w'' => e = .returned v ∧ ∃ p : Later w, w'' = p.now :=
  h.mono fun _ w' ⟨he, hb⟩ => ⟨he, ⟨w', p.below.trans (hb.mono p.below.size)⟩, rfl⟩

theorem fnd_sign (L : List Mb) (x : Int) : decide (0 ≤ fnd L x) = hasL L x := by
  cases h : hasL L x
  · rw [fnd_not h]; rfl
  · rw [fnd_has h]; simp
set_option maxHeartbeats 4000000 in
theorem like_any (C g : Nat) (F : Nat → Prop) (R : Ro) (A B : Option Addr) (n c m d : Nat) (ask now : Int) (w : World) (K : Rs w C g F R) (h : Dc w F R A n c B m d) (hm : m ≤ 1000000) (hask : inInt ask) :
    Calls Try.prog 22 #[.pointer (some ⟨g, 0, none⟩), vD R A n c B m d, .int .i64 ask, .int .i64 now] w (Says true w) := by
  have hn15 : n ≤ 15 := by have := h.l.lenM; have := K.good.len; omega
  have HN := Lib.hid h.l.lenM
  have HU := Lib.hid K.good.up
  have HA := Lib.hid hask
  have HBX : Hid (Below w.heap.size w (w.alloc (.cells #[.int .i64 R.s, .slice A n c, .slice B m d, .int .i64 (R.c : Int)] 32))) := Lib.hid ((Below.refl _ _).alloc (Nat.le_refl _) _)
  have HV := Lib.hid (Vx.new w R A n c B m d rfl)
  have HK := Lib.hid (K.below HBX.out)
  have HD := Lib.hid (h.below HBX.out)
  have hlc := h.lc
  have hlm := h.lm
  clear K h hask
  go_enter Try.func22, Try.ntmps22
  go_wp2_with (fail)
  refine (list_any C g F R _ HK.out).mono ?_
  rintro e w4 ⟨hb4, v4, rfl, ho4⟩
  rw [HN.out] at ho4
  obtain ⟨A4, c4, rfl, hc4, hcm4⟩ := own_form ho4
  have HL4 : Hid (Rd w4 no 5 A4 n (flatM R.L)) := Lib.hid (Rd.of_own ho4 rfl (fun _ _ f => f))
  have HV4 := Lib.hid (HV.out.later hb4)
  have HK4 := Lib.hid (HK.out.below hb4)
  have HD4 := Lib.hid (HD.out.below hb4)
  have HB4 := Lib.hid (HBX.out.trans (hb4.mono HBX.out.size))
  clear hb4 ho4
  have q0 : ∀ p : Later w4, p.now.cell? ⟨w.heap.size, 0, none⟩ = some (.int .i64 R.s) := fun p => p.cell HV4.out.cells.1
  have q1 : ∀ p : Later w4, p.now.cell? ⟨w.heap.size, 1, none⟩ = some (.slice A n c) := fun p => p.cell HV4.out.cells.2.1
  have q2 : ∀ p : Later w4, p.now.cell? ⟨w.heap.size, 2, none⟩ = some (.slice B m d) := fun p => p.cell HV4.out.cells.2.2.1
  have q3 : ∀ p : Later w4, p.now.cell? ⟨w.heap.size, 3, none⟩ = some (.int .i64 (R.c : Int)) := fun p => p.cell HV4.out.cells.2.2.2
  obtain ⟨u, HUU⟩ : ∃ u, Hid (banB R.B ask now = u) := ⟨_, Lib.hid rfl⟩
  have HS : Hid (∀ p : Later w4, Calls Try.prog 26 #[.pointer (some ⟨g, 0, none⟩)] p.now fun e w' => e = .returned (.int .i64 R.s) ∧ Below p.now.heap.size p.now w') :=
    Lib.hid (fun p => (self_any C g F R _ (HK4.out.below p.below)).mono fun _ _ h => ⟨h.1, by rw [← h.2]; exact Below.refl _ _⟩)
  have HBN : Hid (∀ p : Later w4, Calls Try.prog 24 #[.pointer (some ⟨g, 0, none⟩), .int .i64 ask, .int .i64 now] p.now fun e w' => e = .returned (.bool u) ∧ Below p.now.heap.size p.now w') :=
    Lib.hid (fun p => (banned_any C g F R _ (HK4.out.below p.below) ask now HA.out).mono fun _ _ h => ⟨by rw [← HUU.out]; exact h.1, by rw [← h.2]; exact Below.refl _ _⟩)
  have HRB : Hid (∀ p : Later w4, Calls Try.prog 30 #[vD R A n c B m d, .int .i64 ask, .int .i64 now] p.now fun e w' => e = .returned (.bool u) ∧ Below p.now.heap.size p.now w') :=
    Lib.hid (fun p => (rbanned_any R A B n c m d F ask now _ hm (HD4.out.below p.below)).mono fun _ _ h => ⟨by rw [← HUU.out]; exact h.1, h.2⟩)
  have tu : (u != u) = false := by simp
  go_wp2
  refine wp_region_later (by kernel_rfl) (by kernel_rfl) ?_
  repeat (go_big_quiet_step (first | (go_at_call 26; with_reducible exact Later.calls (HS.out _)) | (go_at_call 24; with_reducible exact Later.calls (HBN.out _)) | (go_at_call 30; with_reducible exact Later.calls (HRB.out _))))
  refine wpQuiet_nil ?_
  intro _ hw'
  obtain ⟨pq, hw''⟩ := hw'
  subst hw''
  have hb5 := pq.below
  obtain ⟨w5, hw5⟩ : ∃ w5, pq.now = w5 := ⟨_, rfl⟩
  rw [hw5] at hb5 ⊢
  clear hw5
  have HV5 := Lib.hid (HV4.out.later hb5)
  have HK5 := Lib.hid (HK4.out.below hb5)
  have HD5 := Lib.hid (HD4.out.below hb5)
  have HL5 := Lib.hid (HL4.out.below hb5)
  have HB5 := Lib.hid (HB4.out.trans (hb5.mono HB4.out.size))
  clear hb5 q0 q1 q2 q3
  go_wp2
  go_loopw [44] (fun i wr => ∃ k : Nat, k ≤ n ∧ i = .int .i64 k ∧ Below w5.heap.size w5 wr) (fun i _ => n - (RowKit.intOf i).toNat)
  case atStart => exact ⟨0, by omega, rfl, Below.refl _ _⟩
  case round =>
    obtain ⟨w6, rfl⟩ : ∃ w6, w6 = wr := ⟨_, rfl⟩
    obtain ⟨k, hk, rfl, hb⟩ := hrel
    have HB6 := Lib.hid hb
    have HK6 := Lib.hid (HK5.out.below hb)
    clear hb
    by_cases hlt : k < n
    · obtain ⟨ad, p, rfl, hp, hbl, _, d0, d1, d2, d3, d4⟩ := (HL5.out.below HB6.out).atM hlt
      have HP := Lib.hid hp
      have HG : Hid (getL R.L p.id = p) := Lib.hid (get_of HU.out (List.mem_of_getElem? hp))
      have HH : Hid (hasL R.L p.id = true) := Lib.hid (hasL_iff.2 ⟨p, List.mem_of_getElem? hp, rfl⟩)
      have HBA : Hid (Below w6.heap.size w6 (w6.alloc (.cells #[.int .i64 p.id, .int .i64 p.ma, .int .i64 p.co, .int .i64 p.of_, .int .i64 p.fa] 34))) := Lib.hid ((Below.refl _ _).alloc (Nat.le_refl _) _)
      have HXA := Lib.hid (Bx.new w6 p rfl)
      have e0 := HXA.out.cells.1
      have HKA := Lib.hid (HK6.out.below HBA.out)
      clear hp
      go_wp2_with (fail)
      refine (get_any C g F R _ HKA.out p.id).mono ?_
      rintro e w7 ⟨rfl, hb7⟩
      rw [HG.out, HH.out]
      have HX7 := Lib.hid (HXA.out.later hb7)
      have HB7 : Hid (Below w5.heap.size w5 w7) := Lib.hid ((HB6.out.trans (HBA.out.mono HB6.out.size)).trans (hb7.mono (Nat.le_trans HB6.out.size HBA.out.size)))
      clear hb7 e0
      have HBC : Hid (Below w7.heap.size w7 (w7.alloc (.cells #[.int .i64 p.id, .int .i64 p.ma, .int .i64 p.co, .int .i64 p.of_, .int .i64 p.fa] 34))) := Lib.hid ((Below.refl _ _).alloc (Nat.le_refl _) _)
      have HB8 : Hid (Below w5.heap.size w5 (w7.alloc (.cells #[.int .i64 p.id, .int .i64 p.ma, .int .i64 p.co, .int .i64 p.of_, .int .i64 p.fa] 34))) := Lib.hid (HB7.out.trans (HBC.out.mono HB7.out.size))
      obtain ⟨r0, r1, r2, r3, r4⟩ := (HX7.out.later HBC.out).cells
      obtain ⟨s0, s1, s2, s3, s4⟩ := (Bx.new w7 p rfl).cells
      have v1 := ((HV5.out.later HB8.out).cells).2.1
      obtain ⟨ad2, p', rfl, hp', hbl2, _, c0, c1, c2, c3, c4'⟩ := (HD5.out.l.below HB8.out).atM hlt
      rw [HP.out] at hp'
      injection hp' with hp'
      subst hp'
      generalize HW8 : w7.alloc (.cells #[.int .i64 p.id, .int .i64 p.ma, .int .i64 p.co, .int .i64 p.of_, .int .i64 p.fa] 34) = W8 at HB8 HBC r0 r1 r2 r3 r4 s0 s1 s2 s3 s4 v1 c0 c1 c2 c3 c4' hbl2
      have R0 : ∀ q : Later W8, q.now.cell? ⟨w6.heap.size, 0, none⟩ = some (.int .i64 p.id) := fun q => q.cell r0
      have R1 : ∀ q : Later W8, q.now.cell? ⟨w6.heap.size, 1, none⟩ = some (.int .i64 p.ma) := fun q => q.cell r1
      have R2 : ∀ q : Later W8, q.now.cell? ⟨w6.heap.size, 2, none⟩ = some (.int .i64 p.co) := fun q => q.cell r2
      have R3 : ∀ q : Later W8, q.now.cell? ⟨w6.heap.size, 3, none⟩ = some (.int .i64 p.of_) := fun q => q.cell r3
      have R4 : ∀ q : Later W8, q.now.cell? ⟨w6.heap.size, 4, none⟩ = some (.int .i64 p.fa) := fun q => q.cell r4
      have S0 : ∀ q : Later W8, q.now.cell? ⟨w7.heap.size, 0, none⟩ = some (.int .i64 p.id) := fun q => q.cell s0
      have S1 : ∀ q : Later W8, q.now.cell? ⟨w7.heap.size, 1, none⟩ = some (.int .i64 p.ma) := fun q => q.cell s1
      have S2 : ∀ q : Later W8, q.now.cell? ⟨w7.heap.size, 2, none⟩ = some (.int .i64 p.co) := fun q => q.cell s2
      have S3 : ∀ q : Later W8, q.now.cell? ⟨w7.heap.size, 3, none⟩ = some (.int .i64 p.of_) := fun q => q.cell s3
      have S4 : ∀ q : Later W8, q.now.cell? ⟨w7.heap.size, 4, none⟩ = some (.int .i64 p.fa) := fun q => q.cell s4
      have V1 : ∀ q : Later W8, q.now.cell? ⟨w.heap.size, 1, none⟩ = some (.slice (some ad2) n c) := fun q => q.cell v1
      have C0 : ∀ q : Later W8, q.now.cell? (ad2.add (k * 5)) = some (.int .i64 p.id) := fun q => q.cell c0
      have C1 : ∀ q : Later W8, q.now.cell? ⟨(ad2.add (k * 5)).block, (ad2.add (k * 5)).off + 1, none⟩ = some (.int .i64 p.ma) := fun q => q.cell c1
      have C2 : ∀ q : Later W8, q.now.cell? ⟨(ad2.add (k * 5)).block, (ad2.add (k * 5)).off + 2, none⟩ = some (.int .i64 p.co) := fun q => q.cell c2
      have C3 : ∀ q : Later W8, q.now.cell? ⟨(ad2.add (k * 5)).block, (ad2.add (k * 5)).off + 3, none⟩ = some (.int .i64 p.of_) := fun q => q.cell c3
      have C4 : ∀ q : Later W8, q.now.cell? ⟨(ad2.add (k * 5)).block, (ad2.add (k * 5)).off + 4, none⟩ = some (.int .i64 p.fa) := fun q => q.cell c4'
      have E1 : ∀ w, (Op.equalIn 10000 34 (vM p) (vM p)).run Try.prog w = .ok true w := fun w => by rw [same_mem, decide_eq_true rfl]
      have E2 : ∀ w, (Op.equalIn 10000 41 (vM p) (vM p)).run Try.prog w = .ok true w := fun w => by rw [same_rmem, decide_eq_true rfl]
      have G1 : ∀ op a b w, (eqGuard op 34 a b (vM p) (vM p)).run Try.prog w = .ok () w := fun op a b w => guard_mem op a b p p w
      have G2 : ∀ op a b w, (eqGuard op 41 a b (vM p) (vM p)).run Try.prog w = .ok () w := fun op a b w => guard_rmem op a b p p w
      have l1 : (k : Int) < (n : Int) := by omega
      have l0 : (0 : Int) ≤ (k : Int) := by omega
      clear r0 r1 r2 r3 r4 s0 s1 s2 s3 s4 v1 c0 c1 c2 c3 c4' d0 d1 d2 d3 d4
      go_wp2
      skip
      refine wp_region_later (by kernel_rfl) (by kernel_rfl) ?_
      repeat (go_big_quiet_step (first | fail))
      refine wpQuiet_nil ?_
      intro _ hw'
      obtain ⟨pr, hw''⟩ := hw'
      subst hw''
      go_wp2
      go_roundw
      case rel => exact ⟨k + 1, by omega, by go_num, HB8.out.trans (pr.below.mono HB8.out.size)⟩
      case measure => simp [RowKit.intOf]; omega
    · obtain rfl : k = n := by omega
      obtain ⟨p, HP⟩ : ∃ p, Hid (getL R.L ask = p) := ⟨_, Lib.hid rfl⟩
      obtain ⟨q, HQ⟩ : ∃ q, Hid (hasL R.L ask = q) := ⟨_, Lib.hid rfl⟩
      go_wp2_with (fail)
      refine (get_any C g F R _ HK6.out ask).mono ?_
      rintro e w7 ⟨rfl, hb7⟩
      rw [HP.out, HQ.out]
      have HB7 : Hid (Below w5.heap.size w5 (w7.alloc (.cells #[.int .i64 p.id, .int .i64 p.ma, .int .i64 p.co, .int .i64 p.of_, .int .i64 p.fa] 34))) := Lib.hid ((HB6.out.trans (hb7.mono HB6.out.size)).alloc (HB6.out.trans (hb7.mono HB6.out.size)).size _)
      obtain ⟨a0, a1, a2, a3⟩ := (HV5.out.later HB7.out).cells
      obtain ⟨z, HZ⟩ : ∃ z, Hid (fnd R.L ask = z) := ⟨_, Lib.hid rfl⟩
      have hsg := fnd_sign R.L ask
      rw [HZ.out, HQ.out] at hsg
      have HD7 := Lib.hid (HD5.out.below HB7.out)
      clear hb7
      go_wp2_with (fail)
      refine (find_any R A B k c m d F ask _ (by omega) HD7.out HU.out).mono ?_
      rintro e w8 ⟨rfl, hb8⟩
      rw [HZ.out]
      have HB8 := Lib.hid (HB7.out.trans (hb8.mono HB7.out.size))
      clear hb8
      have tq : (q == q) = true := by simp
      go_wp2
      go_ret
      exact ⟨by simp, HB5.out.trans (HB8.out.mono HB5.out.size)⟩
end Go.Proofs.Ytfchhlibjhblmaa
