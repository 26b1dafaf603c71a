/-
  WHAT IS PROVED: the law RosterOrder answers true for all arguments: members that are added in whatever order stand by their ids. No condition beyond those of the given row.
-/
import Derived.Test.YtfchhlibjhblmaaForgets
namespace Go.Proofs.Ytfchhlibjhblmaa
open Go.RowKit Go.Lib Go.Maps

/-- a roster to which just those of a list were added -/
structure Of (R : Ro) (xs : List Int) : Prop where
  fresh : Fresh R
  has : ∀ y, hasL R.L y = true ↔ y ∈ xs ∧ isIdB y = true ∧ y ≠ 1
  form : ∀ p ∈ R.L, p = ⟨p.id, 0, 0, 0, -1⟩
  len : R.L.length ≤ xs.length
theorem Of.nil : Of ⟨1, [], [], 0⟩ [] := ⟨Fresh.nil, fun y => by simp [hasL], fun p hp => (by cases hp), Nat.le_refl _⟩
theorem Of.add {R : Ro} {xs : List Int} (h : Of R xs) (hg : Good R) (hl : xs.length < 15) (x : Int) : Of (addR R x 0) (xs ++ [x]) := by
  have hb : R.B = [] := List.eq_nil_of_length_eq_zero h.fresh.b
  have hban : banB R.B x 0 = false := by rw [hb]; rfl
  have h15 : R.L.length ≠ 15 := by have := h.len; omega
  rcases chk_cases R.s x 0 with ⟨hc, h1, _, h3⟩ | ⟨hc, h1⟩ | ⟨hc, h1, _, h3⟩
  · cases hq : hasL R.L x
    · have he := addE_ok hc hq hban h15
      refine ⟨h.fresh.add hg x 0, fun y => ?_, fun p hp => ?_, ?_⟩
      · rw [addR_ok he]
        show hasL (insL R.L _) y = true ↔ _
        rw [has_ins hg.up, Bool.or_eq_true, h.has y, decide_eq_true_eq, List.mem_append, List.mem_singleton]
        rw [h.fresh.s] at h3
        constructor
        · rintro (⟨a, b, c⟩ | e)
          · exact ⟨.inl a, b, c⟩
          · simp only at e; subst e; exact ⟨.inr rfl, h1, h3⟩
        · rintro ⟨a | e, b, c⟩
          · exact .inl ⟨a, b, c⟩
          · exact .inr e.symm
      · rw [addR_ok he] at hp
        rcases (mem_ins hg.up).1 hp with ⟨hp', _⟩ | e
        · exact h.form p hp'
        · rw [e]
      · rw [addR_ok he, List.length_append]
        show (insL R.L _).length ≤ _
        rw [len_ins hg.up]
        have := h.len
        split <;> simp <;> omega
    · have he := addE_known hc hq
      rw [addR_no (by rw [he]; decide)]
      have hx := (h.has x).1 hq
      refine ⟨h.fresh, fun y => ?_, h.form, by rw [List.length_append]; have := h.len; omega⟩
      rw [h.has y, List.mem_append, List.mem_singleton]
      constructor
      · rintro ⟨a, b⟩; exact ⟨.inl a, b⟩
      · rintro ⟨a | e, b⟩
        · exact ⟨a, b⟩
        · subst e; exact hx
  · rw [addR_no (by rw [addE_chk (by rw [hc]; decide), hc]; decide)]
    refine ⟨h.fresh, fun y => ?_, h.form, by rw [List.length_append]; have := h.len; omega⟩
    rw [h.has y, List.mem_append, List.mem_singleton]
    constructor
    · rintro ⟨a, b⟩; exact ⟨.inl a, b⟩
    · rintro ⟨a | e, b, c⟩
      · exact ⟨a, b, c⟩
      · subst e
        rcases h1 with h1 | h1
        · rw [h1] at b; cases b
        · exact absurd h1 (by decide)
  · rw [addR_no (by rw [addE_chk (by rw [hc]; decide), hc]; decide)]
    refine ⟨h.fresh, fun y => ?_, h.form, by rw [List.length_append]; have := h.len; omega⟩
    rw [h.has y, List.mem_append, List.mem_singleton]
    constructor
    · rintro ⟨a, b⟩; exact ⟨.inl a, b⟩
    · rintro ⟨a | e, b, c⟩
      · exact ⟨a, b, c⟩
      · subst e; rw [h.fresh.s] at h3; exact absurd h3 c
theorem up_ext : ∀ {L M : List Mb}, Up L → Up M → (∀ r, r ∈ L ↔ r ∈ M) → L = M
  | [], [], _, _, _ => rfl
  | [], q :: m, _, _, h => by have := (h q).2 (by simp); cases this
  | p :: l, [], _, _, h => by have := (h p).1 (by simp); cases this
  | p :: l, q :: m, hu, hv, h => by
    obtain ⟨h1, h2⟩ := List.pairwise_cons.1 hu
    obtain ⟨h3, h4⟩ := List.pairwise_cons.1 hv
    have e : p = q := by
      rcases List.mem_cons.1 ((h p).1 (by simp)) with e | hp
      · exact e
      · rcases List.mem_cons.1 ((h q).2 (by simp)) with e | hq
        · exact e.symm
        · have := h1 q hq; have := h3 p hp; omega
    subst e
    congr 1
    refine up_ext h2 h4 fun r => ⟨fun hr => ?_, fun hr => ?_⟩
    · rcases List.mem_cons.1 ((h r).1 (List.mem_cons_of_mem _ hr)) with e | h'
      · subst e; have := h1 r hr; omega
      · exact h'
    · rcases List.mem_cons.1 ((h r).2 (List.mem_cons_of_mem _ hr)) with e | h'
      · subst e; have := h3 r hr; omega
      · exact h'
theorem Of.same {R S : Ro} {xs ys : List Int} (h : Of R xs) (k : Of S ys) (hg : Good R) (hk : Good S) (hm : ∀ y, y ∈ xs ↔ y ∈ ys) : R.L = S.L := by
  have hh : ∀ y, hasL R.L y = true ↔ hasL S.L y = true := fun y => by rw [h.has y, k.has y, hm y]
  refine up_ext hg.up hk.up fun r => ⟨fun hr => ?_, fun hr => ?_⟩
  · obtain ⟨p, hp, e⟩ := hasL_iff.1 ((hh r.id).1 (hasL_iff.2 ⟨r, hr, rfl⟩))
    rw [h.form r hr, ← e, ← k.form p hp]; exact hp
  · obtain ⟨p, hp, e⟩ := hasL_iff.1 ((hh r.id).2 (hasL_iff.2 ⟨r, hr, rfl⟩))
    rw [k.form r hr, ← e, ← h.form p hp]; exact hp
set_option maxRecDepth 100000 in
set_option maxHeartbeats 4000000 in
theorem order_in (A : Option Addr) (n c : Nat) (l : List Int) (W : World) (hn : n ≤ 15) (hr : Reads W W.heap.size A n (zints l)) :
    Calls Try.prog 7 #[.slice A n c] W (Says true W) := by
  have d0 : (n : Int) ≤ 15 := by omega
  have HR := Lib.hid hr
  have HLN : Hid (l.length = n) := Lib.hid (by have := hr.1; rw [zints_len] at this; exact this)
  clear hr
  go_enter Try.func7, Try.ntmps7
  go_wp2_with (fail)
  refine (anchor_any _).mono ?_
  rintro e w0 ⟨rfl, hb0⟩
  have HB0 := Lib.hid hb0
  clear hb0
  go_wp2_with (fail)
  refine (new_yes 1 _ id1).mono ?_
  rintro e w1 ⟨g, F, rfl, k1, hb1⟩
  have K1 := Lib.hid (k1.low HB0.out.size)
  have HB1 := Lib.hid (HB0.out.trans (hb1.mono HB0.out.size))
  clear k1 hb1
  go_wp2_with (fail)
  refine (new_yes 1 _ id1).mono ?_
  rintro e w2 ⟨g', F', rfl, k2, hb2⟩
  have K2 := Lib.hid (K1.out.below hb2)
  have K2' := Lib.hid (k2.low HB1.out.size)
  have HDJ : Hid (∀ i, F i → ¬ F' i) := Lib.hid (fun i f f' => by have := K1.out.lt i f; have := k2.lo i f'; omega)
  have HB2 := Lib.hid (HB1.out.trans (hb2.mono HB1.out.size))
  clear k2 hb2
  go_wp2
  go_loopw [41] (fun i wr => ∃ (k : Nat) (F F' : Nat → Prop) (R R' : Ro), k ≤ n ∧ i = .int .i64 k ∧ Rs wr W.heap.size g F R ∧ Rs wr W.heap.size g' F' R' ∧ (∀ i, F i → ¬ F' i) ∧ Of R (l.take k) ∧ Of R' (l.reverse.take k) ∧ Below W.heap.size W wr) (fun i _ => n - (RowKit.intOf i).toNat)
  case atStart => exact ⟨0, F, F', _, _, by omega, rfl, K2.out, K2'.out, HDJ.out, Of.nil, Of.nil, HB2.out⟩
  case round =>
    clear K1 K2 K2' HDJ HB2 HB1
    obtain ⟨w3, rfl⟩ : ∃ w3, w3 = wr := ⟨_, rfl⟩
    obtain ⟨k, F, F', R, R', hk, rfl, hra, hrb, hdj, hof, hof', hbw⟩ := hrel
    have HK := Lib.hid hra
    have HK' := Lib.hid hrb
    have HDJ := Lib.hid hdj
    have HOF := Lib.hid hof
    have HOF' := Lib.hid hof'
    have HW := Lib.hid hbw
    clear hra hrb hdj hof hof' hbw
    by_cases hlt : k < n
    · obtain ⟨j, hj⟩ : ∃ j, j + 1 + k = n := ⟨n - 1 - k, by omega⟩
      have hjn : (n : Int) - 1 - (k : Int) = (j : Int) := by omega
      obtain ⟨ad, u, rfl, hu, hcx⟩ := (HR.out.old HW.out HW.out.size).at_ hlt
      obtain ⟨x, hx, rfl⟩ := zints_at hu
      obtain ⟨y, hy⟩ : ∃ y, l[j]? = some y := ⟨_, List.getElem?_eq_getElem (by rw [HLN.out]; omega)⟩
      have HX := Lib.hid hx
      have HY := Lib.hid hy
      have HT : Hid (l.take (k + 1) = l.take k ++ [x]) := Lib.hid (take_snoc_ hx)
      have HT' : Hid (l.reverse.take (k + 1) = l.reverse.take k ++ [y]) := Lib.hid (take_snoc_ (by rw [List.getElem?_reverse (by rw [HLN.out]; exact hlt), HLN.out, show n - 1 - k = j by omega]; exact hy))
      have HL15 : Hid ((l.take k).length < 15) := Lib.hid (by rw [List.length_take]; omega)
      have HL15' : Hid ((l.reverse.take k).length < 15) := Lib.hid (by rw [List.length_take]; omega)
      have HJ : Hid (j < n) := Lib.hid (by omega)
      clear hu hx hy hj
      go_wp2_with (fail)
      refine (add_any _ g F R _ HK.out x 0).mono ?_
      rintro e w5 ⟨rfl, F5, k5, t5, s5⟩
      have K5 := Lib.hid k5
      have HB5 := Lib.hid (HK.out.go HW.out t5)
      have K5' := Lib.hid (HK'.out.turn t5 (fun i f' f => HDJ.out i f f'))
      have HDJ5 : Hid (∀ i, F5 i → ¬ F' i) := Lib.hid (fun i f f' => HDJ.out i (s5 i (HK'.out.lt i f') f) f')
      obtain ⟨ad2, u2, h2, hu2, hcy⟩ := (HR.out.old HB5.out HB5.out.size).at_ HJ.out
      injection h2 with h2
      subst h2
      obtain ⟨y', hy', rfl⟩ := zints_at hu2
      rw [HY.out] at hy'
      injection hy' with hy'
      subst hy'
      have hj1 : (j : Int) < (n : Int) := by have := HJ.out; omega
      clear k5 t5 s5 hu2 hcx
      go_wp2_with (fail)
      refine (add_any _ g' F' R' _ K5'.out y 0).mono ?_
      rintro e w6 ⟨rfl, F6, k6, t6, s6⟩
      have K6' := Lib.hid k6
      have HB6 := Lib.hid (K5'.out.go HB5.out t6)
      have K6 := Lib.hid (K5.out.turn t6 HDJ5.out)
      have HDJ6 : Hid (∀ i, F5 i → ¬ F6 i) := Lib.hid (fun i f f' => HDJ5.out i f (s6 i (K5.out.lt i f) f'))
      clear k6 t6 s6 hcy
      go_wp2
      go_roundw
      case rel => exact ⟨k + 1, F5, F6, _, _, by omega, by go_num, K6.out, K6'.out, HDJ6.out, by rw [HT.out]; exact HOF.out.add HK.out.good HL15.out x, by rw [HT'.out]; exact HOF'.out.add HK'.out.good HL15'.out y, HB6.out⟩
      case measure => simp [RowKit.intOf]; omega
    · obtain rfl : k = n := by omega
      have hsame : R'.L = R.L := by
        refine (HOF.out.same HOF'.out HK.out.good HK'.out.good fun y => ?_).symm
        rw [List.take_of_length_le (by rw [HLN.out]; exact Nat.le_refl _), List.take_of_length_le (by rw [List.length_reverse, HLN.out]; exact Nat.le_refl _), List.mem_reverse]
      have HSM := Lib.hid hsame
      obtain ⟨a, ha⟩ : ∃ a, R.L.length = a := ⟨_, rfl⟩
      have HLA := Lib.hid ha
      have ha15 : a ≤ 15 := by rw [← ha]; exact HK.out.good.len
      have HUP := Lib.hid HK.out.good.up
      clear hsame ha
      go_wp2_with (fail)
      refine (list_any _ g F R _ HK.out).mono ?_
      rintro e w4 ⟨hb4, v4, rfl, ho4⟩
      rw [HLA.out] at ho4
      obtain ⟨A4, c4, rfl, hc4, hcm4⟩ := own_form ho4
      have K4' := Lib.hid (HK'.out.below hb4)
      have HB4 := Lib.hid (HW.out.trans (hb4.mono HW.out.size))
      have HL4 : Hid (Rd w4 no 5 A4 a (flatM R.L)) := Lib.hid (Rd.of_own ho4 rfl (fun _ _ f => f))
      clear hb4 ho4
      go_wp2_with (fail)
      refine (list_any _ g' F' R' _ K4'.out).mono ?_
      rintro e w7 ⟨hb7, v7, rfl, ho7⟩
      rw [HSM.out, HLA.out] at ho7
      obtain ⟨A7, c7, rfl, hc7, hcm7⟩ := own_form ho7
      have HB7 := Lib.hid (HB4.out.trans (hb7.mono HB4.out.size))
      have HL7 := Lib.hid (HL4.out.below hb7)
      have HN7 : Hid (Rd w7 no 5 A7 a (flatM R.L)) := Lib.hid (Rd.of_own ho7 rfl (fun _ _ f => f))
      clear hb7 ho7
      go_wp2
      go_loopw [72] (fun i wr => ∃ (j : Nat), j ≤ a ∧ i = .int .i64 j ∧ Below w7.heap.size w7 wr) (fun i _ => a - (RowKit.intOf i).toNat)
      case atStart => exact ⟨0, by omega, rfl, Below.refl _ _⟩
      case round =>
        obtain ⟨w9, rfl⟩ : ∃ w9, w9 = wr := ⟨_, rfl⟩
        obtain ⟨j, hj, rfl, hb9⟩ := hrel
        have HB9 := Lib.hid hb9
        clear hb9
        by_cases hjl : j < a
        · obtain ⟨ad, p, rfl, hp, hbl, _, d0, d1, d2, d3, d4⟩ := (HL7.out.below HB9.out).atM hjl
          obtain ⟨ad2, p2, rfl, hp2, hbl2, _, e0, e1, e2, e3, e4⟩ := (HN7.out.below HB9.out).atM hjl
          rw [hp] at hp2
          injection hp2 with hp2
          subst hp2
          obtain ⟨W8, HW8⟩ : ∃ W8, w9.alloc (.cells #[.int .i64 p.id, .int .i64 p.ma, .int .i64 p.co, .int .i64 p.of_, .int .i64 p.fa] 34) = W8 := ⟨_, rfl⟩
          have hA : Below w9.heap.size w9 W8 := by rw [← HW8]; exact (Below.refl _ _).alloc (Nat.le_refl _) _
          have HBF : Hid (Below w7.heap.size w7 W8) := Lib.hid (HB9.out.trans (hA.mono HB9.out.size))
          obtain ⟨r0, r1, r2, r3, r4⟩ := (Bx.new w9 p rfl).cells
          rw [HW8] at r0 r1 r2 r3 r4
          obtain ⟨ad3, p3, h3, hp3, _, _, q0, q1, q2, q3, q4⟩ := (HN7.out.below HBF.out).atM hjl
          injection h3 with h3
          subst h3
          rw [hp] at hp3
          injection hp3 with hp3
          subst hp3
          have R0 : ∀ q : Later W8, q.now.cell? ⟨w9.heap.size, 0, none⟩ = some (.int .i64 p.id) := fun q => q.cell r0
          have R1 : ∀ q : Later W8, q.now.cell? ⟨w9.heap.size, 1, none⟩ = some (.int .i64 p.ma) := fun q => q.cell r1
          have R2 : ∀ q : Later W8, q.now.cell? ⟨w9.heap.size, 2, none⟩ = some (.int .i64 p.co) := fun q => q.cell r2
          have R3 : ∀ q : Later W8, q.now.cell? ⟨w9.heap.size, 3, none⟩ = some (.int .i64 p.of_) := fun q => q.cell r3
          have R4 : ∀ q : Later W8, q.now.cell? ⟨w9.heap.size, 4, none⟩ = some (.int .i64 p.fa) := fun q => q.cell r4
          have C0 : ∀ q : Later W8, q.now.cell? (ad2.add (j * 5)) = some (.int .i64 p.id) := fun q => q.cell q0
          have C1 : ∀ q : Later W8, q.now.cell? ⟨(ad2.add (j * 5)).block, (ad2.add (j * 5)).off + 1, none⟩ = some (.int .i64 p.ma) := fun q => q.cell q1
          have C2 : ∀ q : Later W8, q.now.cell? ⟨(ad2.add (j * 5)).block, (ad2.add (j * 5)).off + 2, none⟩ = some (.int .i64 p.co) := fun q => q.cell q2
          have C3 : ∀ q : Later W8, q.now.cell? ⟨(ad2.add (j * 5)).block, (ad2.add (j * 5)).off + 3, none⟩ = some (.int .i64 p.of_) := fun q => q.cell q3
          have C4 : ∀ q : Later W8, q.now.cell? ⟨(ad2.add (j * 5)).block, (ad2.add (j * 5)).off + 4, none⟩ = some (.int .i64 p.fa) := fun q => q.cell q4
          have E1 : ∀ w, (Op.equalIn 10000 34 (vM p) (vM p)).run Try.prog w = .ok true w := fun w => by rw [same_mem, decide_eq_true rfl]
          have G1 : ∀ op a b w, (eqGuard op 34 a b (vM p) (vM p)).run Try.prog w = .ok () w := fun op a b w => guard_mem op a b p p w
          have l1 : (j : Int) < (a : Int) := by omega
          have l0 : (0 : Int) ≤ (j : Int) := by omega
          have HP := Lib.hid hp
          clear r0 r1 r2 r3 r4 q0 q1 q2 q3 q4 hA e0 e1 e2 e3 e4 hp
          by_cases hj0 : 0 < j
          · obtain ⟨h, hh⟩ : ∃ h, h + 1 = j := ⟨j - 1, by omega⟩
            obtain ⟨ad4, p4, h4, hp4, _, _, s0, _, _, _, _⟩ := (HL7.out.below HBF.out).atM (k := h) (by omega)
            injection h4 with h4
            subst h4
            have S0 : ∀ q : Later W8, q.now.cell? (ad.add (h * 5)) = some (.int .i64 p4.id) := fun q => q.cell s0
            have tl : decide (p.id ≤ p4.id) = false := by
              have := up_get HUP.out hp4 HP.out (by omega)
              simp; omega
            have tw : IntKind.i64.wrap ((j : Int) - 1) = (h : Int) := by rw [IntKind.wrap_i64]; omega
            have tp : decide ((0 : Int) < (j : Int)) = true := by simp; omega
            have tq : decide (0 < j) = true := by simp; omega
            have l2 : (h : Int) < (a : Int) := by omega
            have l3 : (0 : Int) ≤ (h : Int) := by omega
            clear s0 hp4 hh
            go_wp2
            refine wp_region_later (by kernel_rfl) (by kernel_rfl) ?_
            repeat (go_big_quiet_step (first | fail))
            refine wpQuiet_nil ?_
            intro _ hw'
            obtain ⟨pr, hw''⟩ := hw'
            subst hw''
            go_wp2
            go_roundw
            case rel => exact ⟨j + 1, by omega, by go_num, HBF.out.trans (pr.below.mono HBF.out.size)⟩
            case measure => simp [RowKit.intOf]; omega
          · have tp : decide ((0 : Int) < (j : Int)) = false := by simp; omega
            have tq : decide (0 < j) = false := by simp; omega
            go_wp2
            refine wp_region_later (by kernel_rfl) (by kernel_rfl) ?_
            repeat (go_big_quiet_step (first | fail))
            refine wpQuiet_nil ?_
            intro _ hw'
            obtain ⟨pr, hw''⟩ := hw'
            subst hw''
            go_wp2
            go_roundw
            case rel => exact ⟨j + 1, by omega, by go_num, HBF.out.trans (pr.below.mono HBF.out.size)⟩
            case measure => simp [RowKit.intOf]; omega
        · obtain rfl : j = a := by omega
          go_wp2
          go_ret
          exact ⟨rfl, HB7.out.trans (HB9.out.mono HB7.out.size)⟩
set_option maxRecDepth 100000 in
set_option maxHeartbeats 2000000 in
theorem order_out (A : Option Addr) (n c : Nat) (W : World) (h : 15 < n) :
    Calls Try.prog 7 #[.slice A n c] W (Says true W) := by
  go_enter Try.func7, Try.ntmps7
  go_wp2_with (fail)
  refine (anchor_any _).mono ?_
  rintro e w0 ⟨rfl, hb0⟩
  have HB0 := Lib.hid hb0
  clear hb0
  go_wp2_with (fail)
  refine (new_yes 1 _ id1).mono ?_
  rintro e w1 ⟨g, F, rfl, k1, hb1⟩
  have K1 := Lib.hid (k1.low HB0.out.size)
  have HB1 := Lib.hid (HB0.out.trans (hb1.mono HB0.out.size))
  clear k1 hb1
  go_wp2_with (fail)
  refine (new_yes 1 _ id1).mono ?_
  rintro e w2 ⟨g', F', rfl, k2, hb2⟩
  have K2 := Lib.hid (K1.out.below hb2)
  have K2' := Lib.hid (k2.low HB1.out.size)
  have HDJ : Hid (∀ i, F i → ¬ F' i) := Lib.hid (fun i f f' => by have := K1.out.lt i f; have := k2.lo i f'; omega)
  have HB2 := Lib.hid (HB1.out.trans (hb2.mono HB1.out.size))
  clear k2 hb2
  go_wp2
  go_ret
  exact ⟨rfl, HB2.out⟩
theorem order_any (A : Option Addr) (n c : Nat) (l : List Int) (W : World) (hr : ∀ g, W.heap.size ≤ g → Reads W g A n (zints l)) :
    Calls Try.prog 7 #[.slice A n c] W (Says true W) := by
  by_cases hn : n ≤ 15
  · exact order_in A n c l W hn (hr _ (Nat.le_refl _))
  · exact order_out A n c W (by omega)
end Go.Proofs.Ytfchhlibjhblmaa
