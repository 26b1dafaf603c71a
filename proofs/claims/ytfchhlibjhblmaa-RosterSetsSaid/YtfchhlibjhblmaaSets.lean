/-
  WHAT IS PROVED: the law RosterSets answers true for all arguments: what is set of one member is told of it, and of no other; what isn't right changes nothing. No condition beyond those of the given row.
-/
import Derived.Test.YtfchhlibjhblmaaForgets
namespace Go.Proofs.Ytfchhlibjhblmaa
open Go.RowKit Go.Lib Go.Maps

theorem ins_get {L : List Mb} (hu : Up L) {m : Mb} (h : hasL L m.id = true) {i : Nat} {p : Mb} (hp : L[i]? = some p) : (insL L m)[i]? = some (if p.id = m.id then m else p) := by
  rw [ins_old hu h]
  obtain ⟨r, hr, e⟩ := has_at hu h
  by_cases hi : i = posL L m.id
  · subst hi
    rw [hp] at hr
    injection hr with hr
    subst hr
    rw [List.getElem?_set_self (List.getElem?_eq_some_iff.1 hp).1, if_pos e]
  · rw [List.getElem?_set_ne (fun e => hi e.symm), hp, if_neg]
    intro e2
    rcases (by omega : i < posL L m.id ∨ posL L m.id < i) with h1 | h1
    · have := up_get hu hp hr h1; omega
    · have := up_get hu hr hp h1; omega
/-- what Set answers, and what is told then -/
theorem set_ways {R : Ro} (hg : Good R) (m : Mb) : (setE R m = 0 ∧ (setR R m).L.length = R.L.length ∧ hasL (setR R m).L m.id = true ∧ getL (setR R m).L m.id = m ∧ (∀ (i : Nat) (p : Mb), R.L[i]? = some p → (setR R m).L[i]? = some (if p.id = m.id then m else p))) ∨
    ((setE R m == 0) = false ∧ (setE R m != 0) = true ∧ setR R m = R) := by
  by_cases he : setE R m = 0
  · obtain ⟨h1, h2⟩ := setE_zero he
    refine .inl ⟨he, ?_⟩
    have hr : setR R m = ⟨R.s, insL R.L m, R.B, R.c⟩ := if_pos he
    rw [hr]
    refine ⟨?_, ?_, get_ins hg.up m, fun i p hp => ins_get hg.up h1 hp⟩
    · show (insL R.L m).length = _
      rw [len_ins hg.up, h1]; rfl
    · show hasL (insL R.L m) m.id = true
      rw [has_ins hg.up]; simp
  · exact .inr ⟨by simpa using he, by simpa using he, if_neg he⟩
set_option maxRecDepth 100000 in
set_option maxHeartbeats 4000000 in
theorem sets_in (A : Option Addr) (n c : Nat) (l : List Int) (m : Mb) (W : World) (hn : n ≤ 40) (hr0 : Reads W W.heap.size A n (zints l)) :
    Calls Try.prog 8 #[.slice A n c, vM m] W (Says true W) := by
  have d0 : (n : Int) ≤ 40 := by omega
  obtain ⟨W0, HW0⟩ : ∃ W0, W.alloc (.cells #[.int .i64 m.id, .int .i64 m.ma, .int .i64 m.co, .int .i64 m.of_, .int .i64 m.fa] 34) = W0 := ⟨_, rfl⟩
  obtain ⟨mx, hmx⟩ : ∃ mx, W.heap.size = mx := ⟨_, rfl⟩
  have HA0 : Hid (Below W.heap.size W W0) := Lib.hid (by rw [← HW0]; exact (Below.refl _ _).alloc (Nat.le_refl _) _)
  have HX0 : Hid (Bx W0 mx m) := Lib.hid (by rw [← HW0, ← hmx]; exact Bx.new W m rfl)
  have HR : Hid (Reads W0 W0.heap.size A n (zints l)) := Lib.hid (hr0.old HA0.out HA0.out.size)
  clear hr0
  go_enter Try.func8, Try.ntmps8
  go_wp2_with (fail)
  refine (anchor_any _).mono ?_
  rintro e w0 ⟨rfl, hb0⟩
  have HB0 := Lib.hid hb0
  clear hb0
  go_wp2_with (fail)
  refine (new_yes 1 _ id1).mono ?_
  rintro e w1 ⟨g, F, rfl, k1, hb1⟩
  have K1 := Lib.hid (k1.low HB0.out.size)
  have HB1 := Lib.hid (HB0.out.trans (hb1.mono HB0.out.size))
  clear k1 hb1
  go_wp2
  go_loopw [34] (fun i wr => ∃ (k : Nat) (F : Nat → Prop) (R : Ro), k ≤ n ∧ i = .int .i64 k ∧ Rs wr W0.heap.size g F R ∧ Fresh R ∧ Below W0.heap.size W0 wr) (fun i _ => n - (RowKit.intOf i).toNat)
  case atStart => exact ⟨0, F, _, by omega, rfl, K1.out, Fresh.nil, HB1.out⟩
  case round =>
    obtain ⟨w3, rfl⟩ : ∃ w3, w3 = wr := ⟨_, rfl⟩
    obtain ⟨k, F, R, hk, rfl, hwt, hfr, hbw⟩ := hrel
    have HK := Lib.hid hwt
    have HFR := Lib.hid hfr
    have HW := Lib.hid hbw
    clear hwt hbw hfr
    by_cases hlt : k < n
    · obtain ⟨ad, u, rfl, hu, hcx⟩ := (HR.out.old HW.out HW.out.size).at_ hlt
      obtain ⟨x, _, rfl⟩ := zints_at hu
      clear hu
      go_wp2_with (fail)
      refine (add_any _ g F R _ HK.out x 0).mono ?_
      rintro e w5 ⟨rfl, F5, k5, t5, _⟩
      have K5 := Lib.hid k5
      have HB5 := Lib.hid (HK.out.go HW.out t5)
      clear k5 t5
      go_wp2
      go_roundw
      case rel => exact ⟨k + 1, F5, _, by omega, by go_num, K5.out, HFR.out.add HK.out.good x 0, HB5.out⟩
      case measure => simp [RowKit.intOf]; omega
    · obtain rfl : k = n := by omega
      obtain ⟨a, ha⟩ : ∃ a, R.L.length = a := ⟨_, rfl⟩
      have HLA := Lib.hid ha
      have ha15 : a ≤ 15 := by rw [← ha]; exact HK.out.good.len
      obtain ⟨er, HE⟩ : ∃ er, Hid (setE R m = er) := ⟨_, Lib.hid rfl⟩
      obtain ⟨R5, HR5⟩ : ∃ y, Hid (setR R m = y) := ⟨_, Lib.hid rfl⟩
      have hways := set_ways HK.out.good m
      rw [HE.out, HR5.out, ha] at hways
      have HWS := Lib.hid hways
      clear hways ha
      go_wp2_with (fail)
      refine (list_any _ g F R _ HK.out).mono ?_
      rintro e w4 ⟨hb4, v4, rfl, ho4⟩
      rw [HLA.out] at ho4
      obtain ⟨A4, c4, rfl, hc4, hcm4⟩ := own_form ho4
      have K4 := Lib.hid (HK.out.below hb4)
      have HB4 := Lib.hid (HW.out.trans (hb4.mono HW.out.size))
      have HL4 : Hid (Rd w4 F 5 A4 a (flatM R.L)) := Lib.hid (rd_own ho4 HK.out.lt (Nat.le_refl _))
      obtain ⟨y0, y1, y2, y3, y4⟩ := (HX0.out.later HB4.out).cells
      clear hb4 ho4
      go_wp2_with (fail)
      refine (set_any _ g F R _ K4.out m).mono ?_
      rintro e w5 ⟨rfl, F5, k5, t5, s5⟩
      rw [HE.out]
      rw [HR5.out] at k5
      have K5 := Lib.hid k5
      have HB5 := Lib.hid (K4.out.go HB4.out t5)
      have HL5 := Lib.hid (HL4.out.turn t5 s5).no_
      clear k5 t5 s5 y0 y1 y2 y3 y4
      rcases HWS.out with ⟨rfl, h5, h6, h7, h8⟩ | ⟨t1, t2, h5⟩
      · have HLB : Hid (R5.L.length = a) := Lib.hid h5
        have HH5 := Lib.hid h6
        have HG5 := Lib.hid h7
        have HGT := Lib.hid h8
        clear h5 h6 h7 h8
        go_wp2_with (fail)
        refine (list_any _ g F5 R5 _ K5.out).mono ?_
        rintro e w7 ⟨hb7, v7, rfl, ho7⟩
        rw [HLB.out] at ho7
        obtain ⟨A7, c7, rfl, hc7, hcm7⟩ := own_form ho7
        have K7 := Lib.hid (K5.out.below hb7)
        have HB7 := Lib.hid (HB5.out.trans (hb7.mono HB5.out.size))
        have HL7 := Lib.hid (HL5.out.below hb7)
        have HN7 : Hid (Rd w7 no 5 A7 a (flatM R5.L)) := Lib.hid (Rd.of_own ho7 rfl (fun _ _ f => f))
        clear hb7 ho7
        go_wp2
        go_loopw [56] (fun i wr => ∃ (j : Nat), j ≤ a ∧ i = .int .i64 j ∧ Below w7.heap.size w7 wr) (fun i _ => a - (RowKit.intOf i).toNat)
        case atStart => exact ⟨0, by omega, rfl, Below.refl _ _⟩
        case round =>
          obtain ⟨w9, rfl⟩ : ∃ w9, w9 = wr := ⟨_, rfl⟩
          obtain ⟨j, hj, rfl, hb9⟩ := hrel
          have HB9 := Lib.hid hb9
          have HBW := Lib.hid (HB7.out.trans (hb9.mono HB7.out.size))
          have HX9 := Lib.hid (HX0.out.later HBW.out)
          clear hb9
          by_cases hjl : j < a
          · obtain ⟨ad, p, rfl, hp, _, _, d0, d1, d2, d3, d4⟩ := (HL7.out.below HB9.out).atM hjl
            have hgt := HGT.out j p hp
            by_cases hid : p.id = m.id
            · rw [if_pos hid] at hgt
              have tid : (p.id == m.id) = true := by simpa using hid
              clear hid
              obtain ⟨ad2, p2, rfl, hp2, _, _, e0, e1, e2, e3, e4⟩ := (HN7.out.below HB9.out).atM hjl
              rw [hgt] at hp2
              injection hp2 with hp2
              subst hp2
              obtain ⟨y0, y1, y2, y3, y4⟩ := HX9.out.cells
              have hA1 : Below w9.heap.size w9 (w9.alloc (.cells #[.int .i64 m.id, .int .i64 m.ma, .int .i64 m.co, .int .i64 m.of_, .int .i64 m.fa] 34)) := (Below.refl _ _).alloc (Nat.le_refl _) _
              have hA2 : Below (w9.alloc (.cells #[.int .i64 m.id, .int .i64 m.ma, .int .i64 m.co, .int .i64 m.of_, .int .i64 m.fa] 34)).heap.size (w9.alloc (.cells #[.int .i64 m.id, .int .i64 m.ma, .int .i64 m.co, .int .i64 m.of_, .int .i64 m.fa] 34)) ((w9.alloc (.cells #[.int .i64 m.id, .int .i64 m.ma, .int .i64 m.co, .int .i64 m.of_, .int .i64 m.fa] 34)).alloc (.cells #[.int .i64 p.id, .int .i64 p.ma, .int .i64 p.co, .int .i64 p.of_, .int .i64 p.fa] 34)) := (Below.refl _ _).alloc (Nat.le_refl _) _
              have hlt1 : ad.block < w9.heap.size := lt_of_cell d0 |> (fun h => by rwa [block_of_add] at h)
              have u0 := (hA1.cell (p := ad.add (j * 5)) (by rw [block_of_add]; exact hlt1)).trans d0
              have u1 := (hA1.cell (p := ⟨(ad.add (j * 5)).block, (ad.add (j * 5)).off + 1, none⟩) (by show (ad.add (j * 5)).block < _; rw [block_of_add]; exact hlt1)).trans d1
              have u2 := (hA1.cell (p := ⟨(ad.add (j * 5)).block, (ad.add (j * 5)).off + 2, none⟩) (by show (ad.add (j * 5)).block < _; rw [block_of_add]; exact hlt1)).trans d2
              have u3 := (hA1.cell (p := ⟨(ad.add (j * 5)).block, (ad.add (j * 5)).off + 3, none⟩) (by show (ad.add (j * 5)).block < _; rw [block_of_add]; exact hlt1)).trans d3
              have u4 := (hA1.cell (p := ⟨(ad.add (j * 5)).block, (ad.add (j * 5)).off + 4, none⟩) (by show (ad.add (j * 5)).block < _; rw [block_of_add]; exact hlt1)).trans d4
              obtain ⟨r0, r1, r2, r3, r4⟩ := ((Bx.new w9 m rfl).later hA2).cells
              obtain ⟨s0, s1, s2, s3, s4⟩ := (Bx.new (w9.alloc (.cells #[.int .i64 m.id, .int .i64 m.ma, .int .i64 m.co, .int .i64 m.of_, .int .i64 m.fa] 34)) p rfl).cells
              simp only [World.size_alloc] at s0 s1 s2 s3 s4
              obtain ⟨z0, z1, z2, z3, z4⟩ := ((HX9.out.later hA1).later hA2).cells
              have E1 : ∀ w, (Op.equalIn 10000 34 (vM m) (vM m)).run Try.prog w = .ok true w := fun w => by rw [same_mem, decide_eq_true rfl]
              have G1 : ∀ op a b w, (eqGuard op 34 a b (vM m) (vM m)).run Try.prog w = .ok () w := fun op a b w => guard_mem op a b m m w
              have hA3 : Below (w9.alloc (.cells #[.int .i64 m.id, .int .i64 m.ma, .int .i64 m.co, .int .i64 m.of_, .int .i64 m.fa] 34)).heap.size (w9.alloc (.cells #[.int .i64 m.id, .int .i64 m.ma, .int .i64 m.co, .int .i64 m.of_, .int .i64 m.fa] 34)) ((w9.alloc (.cells #[.int .i64 m.id, .int .i64 m.ma, .int .i64 m.co, .int .i64 m.of_, .int .i64 m.fa] 34)).alloc (.cells #[.int .i64 m.id, .int .i64 m.ma, .int .i64 m.co, .int .i64 m.of_, .int .i64 m.fa] 34)) := (Below.refl _ _).alloc (Nat.le_refl _) _
              obtain ⟨r0', r1', r2', r3', r4'⟩ := ((Bx.new w9 m rfl).later hA3).cells
              obtain ⟨s0', s1', s2', s3', s4'⟩ := (Bx.new (w9.alloc (.cells #[.int .i64 m.id, .int .i64 m.ma, .int .i64 m.co, .int .i64 m.of_, .int .i64 m.fa] 34)) m rfl).cells
              simp only [World.size_alloc] at s0' s1' s2' s3' s4'
              have f0 := (Bx.new (w9.alloc (.cells #[.int .i64 m.id, .int .i64 m.ma, .int .i64 m.co, .int .i64 m.of_, .int .i64 m.fa] 34)) p rfl).fz 0
              have f1 := (Bx.new (w9.alloc (.cells #[.int .i64 m.id, .int .i64 m.ma, .int .i64 m.co, .int .i64 m.of_, .int .i64 m.fa] 34)) p rfl).fz 1
              have f2 := (Bx.new (w9.alloc (.cells #[.int .i64 m.id, .int .i64 m.ma, .int .i64 m.co, .int .i64 m.of_, .int .i64 m.fa] 34)) p rfl).fz 2
              have f3 := (Bx.new (w9.alloc (.cells #[.int .i64 m.id, .int .i64 m.ma, .int .i64 m.co, .int .i64 m.of_, .int .i64 m.fa] 34)) p rfl).fz 3
              have f4 := (Bx.new (w9.alloc (.cells #[.int .i64 m.id, .int .i64 m.ma, .int .i64 m.co, .int .i64 m.of_, .int .i64 m.fa] 34)) p rfl).fz 4
              simp only [World.size_alloc] at f0 f1 f2 f3 f4
              have HBF : Hid (Below w7.heap.size w7 ((w9.alloc (.cells #[.int .i64 m.id, .int .i64 m.ma, .int .i64 m.co, .int .i64 m.of_, .int .i64 m.fa] 34)).alloc (.cells #[.int .i64 m.id, .int .i64 m.ma, .int .i64 m.co, .int .i64 m.of_, .int .i64 m.fa] 34))) := Lib.hid ((HB9.out.alloc HB9.out.size _).alloc (HB9.out.alloc HB9.out.size _).size _)
              clear hA1 hA2 hgt hp hA3
              go_wp2
              go_roundw
              case rel => exact ⟨j + 1, by omega, by go_num, HBF.out⟩
              case measure => simp [RowKit.intOf]; omega
            · rw [if_neg hid] at hgt
              have tid : (p.id == m.id) = false := by simpa using hid
              clear hid
              obtain ⟨ad2, p2, rfl, hp2, _, _, e0, e1, e2, e3, e4⟩ := (HN7.out.below HB9.out).atM hjl
              rw [hgt] at hp2
              injection hp2 with hp2
              subst hp2
              obtain ⟨y0, y1, y2, y3, y4⟩ := HX9.out.cells
              have hA1 : Below w9.heap.size w9 (w9.alloc (.cells #[.int .i64 p.id, .int .i64 p.ma, .int .i64 p.co, .int .i64 p.of_, .int .i64 p.fa] 34)) := (Below.refl _ _).alloc (Nat.le_refl _) _
              have hA2 : Below (w9.alloc (.cells #[.int .i64 p.id, .int .i64 p.ma, .int .i64 p.co, .int .i64 p.of_, .int .i64 p.fa] 34)).heap.size (w9.alloc (.cells #[.int .i64 p.id, .int .i64 p.ma, .int .i64 p.co, .int .i64 p.of_, .int .i64 p.fa] 34)) ((w9.alloc (.cells #[.int .i64 p.id, .int .i64 p.ma, .int .i64 p.co, .int .i64 p.of_, .int .i64 p.fa] 34)).alloc (.cells #[.int .i64 p.id, .int .i64 p.ma, .int .i64 p.co, .int .i64 p.of_, .int .i64 p.fa] 34)) := (Below.refl _ _).alloc (Nat.le_refl _) _
              have hlt1 : ad.block < w9.heap.size := lt_of_cell d0 |> (fun h => by rwa [block_of_add] at h)
              have u0 := (hA1.cell (p := ad.add (j * 5)) (by rw [block_of_add]; exact hlt1)).trans d0
              have u1 := (hA1.cell (p := ⟨(ad.add (j * 5)).block, (ad.add (j * 5)).off + 1, none⟩) (by show (ad.add (j * 5)).block < _; rw [block_of_add]; exact hlt1)).trans d1
              have u2 := (hA1.cell (p := ⟨(ad.add (j * 5)).block, (ad.add (j * 5)).off + 2, none⟩) (by show (ad.add (j * 5)).block < _; rw [block_of_add]; exact hlt1)).trans d2
              have u3 := (hA1.cell (p := ⟨(ad.add (j * 5)).block, (ad.add (j * 5)).off + 3, none⟩) (by show (ad.add (j * 5)).block < _; rw [block_of_add]; exact hlt1)).trans d3
              have u4 := (hA1.cell (p := ⟨(ad.add (j * 5)).block, (ad.add (j * 5)).off + 4, none⟩) (by show (ad.add (j * 5)).block < _; rw [block_of_add]; exact hlt1)).trans d4
              obtain ⟨r0, r1, r2, r3, r4⟩ := ((Bx.new w9 p rfl).later hA2).cells
              obtain ⟨s0, s1, s2, s3, s4⟩ := (Bx.new (w9.alloc (.cells #[.int .i64 p.id, .int .i64 p.ma, .int .i64 p.co, .int .i64 p.of_, .int .i64 p.fa] 34)) p rfl).cells
              simp only [World.size_alloc] at s0 s1 s2 s3 s4
              obtain ⟨z0, z1, z2, z3, z4⟩ := ((HX9.out.later hA1).later hA2).cells
              have E1 : ∀ w, (Op.equalIn 10000 34 (vM p) (vM p)).run Try.prog w = .ok true w := fun w => by rw [same_mem, decide_eq_true rfl]
              have G1 : ∀ op a b w, (eqGuard op 34 a b (vM p) (vM p)).run Try.prog w = .ok () w := fun op a b w => guard_mem op a b p p w
              have HBF : Hid (Below w7.heap.size w7 ((w9.alloc (.cells #[.int .i64 p.id, .int .i64 p.ma, .int .i64 p.co, .int .i64 p.of_, .int .i64 p.fa] 34)).alloc (.cells #[.int .i64 p.id, .int .i64 p.ma, .int .i64 p.co, .int .i64 p.of_, .int .i64 p.fa] 34))) := Lib.hid ((HB9.out.alloc HB9.out.size _).alloc (HB9.out.alloc HB9.out.size _).size _)
              clear hA1 hA2 hgt hp
              go_wp2
              go_roundw
              case rel => exact ⟨j + 1, by omega, by go_num, HBF.out⟩
              case measure => simp [RowKit.intOf]; omega
          · obtain rfl : j = a := by omega
            obtain ⟨p', HP'⟩ : ∃ p, Hid (getL R5.L m.id = p) := ⟨_, Lib.hid rfl⟩
            obtain ⟨u', HU'⟩ : ∃ u, Hid (hasL R5.L m.id = u) := ⟨_, Lib.hid rfl⟩
            have y0 := HX9.out.cells.1
            go_wp2_with (fail)
            refine (get_any _ g F5 _ _ (K7.out.below HB9.out) m.id).mono ?_
            rintro e w10 ⟨rfl, hb10⟩
            rw [HG5.out, HH5.out]
            have hA1 : Below w10.heap.size w10 (w10.alloc (.cells #[.int .i64 m.id, .int .i64 m.ma, .int .i64 m.co, .int .i64 m.of_, .int .i64 m.fa] 34)) := (Below.refl _ _).alloc (Nat.le_refl _) _
            obtain ⟨z0, z1, z2, z3, z4⟩ := ((HX9.out.later hb10).later hA1).cells
            obtain ⟨r0, r1, r2, r3, r4⟩ := (Bx.new w10 m rfl).cells
            have E1 : ∀ w, (Op.equalIn 10000 34 (vM m) (vM m)).run Try.prog w = .ok true w := fun w => by rw [same_mem, decide_eq_true rfl]
            have G1 : ∀ op a b w, (eqGuard op 34 a b (vM m) (vM m)).run Try.prog w = .ok () w := fun op a b w => guard_mem op a b m m w
            have HB10 := Lib.hid ((HBW.out.trans (hb10.mono HBW.out.size)).alloc (HBW.out.trans (hb10.mono HBW.out.size)).size (.cells #[.int .i64 m.id, .int .i64 m.ma, .int .i64 m.co, .int .i64 m.of_, .int .i64 m.fa] 34))
            clear hb10 hA1 y0
            go_wp2
            go_ret
            exact ⟨rfl, HA0.out.trans (HB10.out.mono HA0.out.size)⟩
      · have HLB : Hid (R5.L.length = a) := Lib.hid (by rw [h5]; exact HLA.out)
        have HGT : Hid (∀ (i : Nat) (p : Mb), R.L[i]? = some p → R5.L[i]? = some p) := Lib.hid (fun i p hp => by rw [h5]; exact hp)
        clear h5
        go_wp2_with (fail)
        refine (list_any _ g F5 R5 _ K5.out).mono ?_
        rintro e w7 ⟨hb7, v7, rfl, ho7⟩
        rw [HLB.out] at ho7
        obtain ⟨A7, c7, rfl, hc7, hcm7⟩ := own_form ho7
        have K7 := Lib.hid (K5.out.below hb7)
        have HB7 := Lib.hid (HB5.out.trans (hb7.mono HB5.out.size))
        have HL7 := Lib.hid (HL5.out.below hb7)
        have HN7 : Hid (Rd w7 no 5 A7 a (flatM R5.L)) := Lib.hid (Rd.of_own ho7 rfl (fun _ _ f => f))
        clear hb7 ho7
        go_wp2
        go_loopw [56] (fun i wr => ∃ (j : Nat), j ≤ a ∧ i = .int .i64 j ∧ Below w7.heap.size w7 wr) (fun i _ => a - (RowKit.intOf i).toNat)
        case atStart => exact ⟨0, by omega, rfl, Below.refl _ _⟩
        case round =>
          obtain ⟨w9, rfl⟩ : ∃ w9, w9 = wr := ⟨_, rfl⟩
          obtain ⟨j, hj, rfl, hb9⟩ := hrel
          have HB9 := Lib.hid hb9
          have HBW := Lib.hid (HB7.out.trans (hb9.mono HB7.out.size))
          have HX9 := Lib.hid (HX0.out.later HBW.out)
          clear hb9
          by_cases hjl : j < a
          · obtain ⟨ad, p, rfl, hp, _, _, d0, d1, d2, d3, d4⟩ := (HL7.out.below HB9.out).atM hjl
            have hgt := HGT.out j p hp
            obtain ⟨ad2, p2, rfl, hp2, _, _, e0, e1, e2, e3, e4⟩ := (HN7.out.below HB9.out).atM hjl
            rw [hgt] at hp2
            injection hp2 with hp2
            subst hp2
            obtain ⟨y0, y1, y2, y3, y4⟩ := HX9.out.cells
            have hA1 : Below w9.heap.size w9 (w9.alloc (.cells #[.int .i64 p.id, .int .i64 p.ma, .int .i64 p.co, .int .i64 p.of_, .int .i64 p.fa] 34)) := (Below.refl _ _).alloc (Nat.le_refl _) _
            have hA2 : Below (w9.alloc (.cells #[.int .i64 p.id, .int .i64 p.ma, .int .i64 p.co, .int .i64 p.of_, .int .i64 p.fa] 34)).heap.size (w9.alloc (.cells #[.int .i64 p.id, .int .i64 p.ma, .int .i64 p.co, .int .i64 p.of_, .int .i64 p.fa] 34)) ((w9.alloc (.cells #[.int .i64 p.id, .int .i64 p.ma, .int .i64 p.co, .int .i64 p.of_, .int .i64 p.fa] 34)).alloc (.cells #[.int .i64 p.id, .int .i64 p.ma, .int .i64 p.co, .int .i64 p.of_, .int .i64 p.fa] 34)) := (Below.refl _ _).alloc (Nat.le_refl _) _
            have hlt1 : ad.block < w9.heap.size := lt_of_cell d0 |> (fun h => by rwa [block_of_add] at h)
            have u0 := (hA1.cell (p := ad.add (j * 5)) (by rw [block_of_add]; exact hlt1)).trans d0
            have u1 := (hA1.cell (p := ⟨(ad.add (j * 5)).block, (ad.add (j * 5)).off + 1, none⟩) (by show (ad.add (j * 5)).block < _; rw [block_of_add]; exact hlt1)).trans d1
            have u2 := (hA1.cell (p := ⟨(ad.add (j * 5)).block, (ad.add (j * 5)).off + 2, none⟩) (by show (ad.add (j * 5)).block < _; rw [block_of_add]; exact hlt1)).trans d2
            have u3 := (hA1.cell (p := ⟨(ad.add (j * 5)).block, (ad.add (j * 5)).off + 3, none⟩) (by show (ad.add (j * 5)).block < _; rw [block_of_add]; exact hlt1)).trans d3
            have u4 := (hA1.cell (p := ⟨(ad.add (j * 5)).block, (ad.add (j * 5)).off + 4, none⟩) (by show (ad.add (j * 5)).block < _; rw [block_of_add]; exact hlt1)).trans d4
            obtain ⟨r0, r1, r2, r3, r4⟩ := ((Bx.new w9 p rfl).later hA2).cells
            obtain ⟨s0, s1, s2, s3, s4⟩ := (Bx.new (w9.alloc (.cells #[.int .i64 p.id, .int .i64 p.ma, .int .i64 p.co, .int .i64 p.of_, .int .i64 p.fa] 34)) p rfl).cells
            simp only [World.size_alloc] at s0 s1 s2 s3 s4
            obtain ⟨z0, z1, z2, z3, z4⟩ := ((HX9.out.later hA1).later hA2).cells
            have E1 : ∀ w, (Op.equalIn 10000 34 (vM p) (vM p)).run Try.prog w = .ok true w := fun w => by rw [same_mem, decide_eq_true rfl]
            have G1 : ∀ op a b w, (eqGuard op 34 a b (vM p) (vM p)).run Try.prog w = .ok () w := fun op a b w => guard_mem op a b p p w
            have HBF : Hid (Below w7.heap.size w7 ((w9.alloc (.cells #[.int .i64 p.id, .int .i64 p.ma, .int .i64 p.co, .int .i64 p.of_, .int .i64 p.fa] 34)).alloc (.cells #[.int .i64 p.id, .int .i64 p.ma, .int .i64 p.co, .int .i64 p.of_, .int .i64 p.fa] 34))) := Lib.hid ((HB9.out.alloc HB9.out.size _).alloc (HB9.out.alloc HB9.out.size _).size _)
            clear hA1 hA2 hgt hp
            go_wp2
            go_roundw
            case rel => exact ⟨j + 1, by omega, by go_num, HBF.out⟩
            case measure => simp [RowKit.intOf]; omega
          · obtain rfl : j = a := by omega
            obtain ⟨p', HP'⟩ : ∃ p, Hid (getL R5.L m.id = p) := ⟨_, Lib.hid rfl⟩
            obtain ⟨u', HU'⟩ : ∃ u, Hid (hasL R5.L m.id = u) := ⟨_, Lib.hid rfl⟩
            have y0 := HX9.out.cells.1
            go_wp2_with (fail)
            refine (get_any _ g F5 _ _ (K7.out.below HB9.out) m.id).mono ?_
            rintro e w10 ⟨rfl, hb10⟩
            rw [HP'.out, HU'.out]
            have HB10 := Lib.hid ((HBW.out.trans (hb10.mono HBW.out.size)).alloc (HBW.out.trans (hb10.mono HBW.out.size)).size (.cells #[.int .i64 p'.id, .int .i64 p'.ma, .int .i64 p'.co, .int .i64 p'.of_, .int .i64 p'.fa] 34))
            clear hb10 y0
            go_wp2
            go_ret
            exact ⟨rfl, HA0.out.trans (HB10.out.mono HA0.out.size)⟩
set_option maxRecDepth 100000 in
set_option maxHeartbeats 2000000 in
theorem sets_out (A : Option Addr) (n c : Nat) (m : Mb) (W : World) (h : 40 < n) :
    Calls Try.prog 8 #[.slice A n c, vM m] W (Says true W) := by
  obtain ⟨W0, HW0⟩ : ∃ W0, W.alloc (.cells #[.int .i64 m.id, .int .i64 m.ma, .int .i64 m.co, .int .i64 m.of_, .int .i64 m.fa] 34) = W0 := ⟨_, rfl⟩
  have HA0 : Hid (Below W.heap.size W W0) := Lib.hid (by rw [← HW0]; exact (Below.refl _ _).alloc (Nat.le_refl _) _)
  go_enter Try.func8, Try.ntmps8
  go_wp2_with (fail)
  refine (anchor_any _).mono ?_
  rintro e w0 ⟨rfl, hb0⟩
  have HB0 := Lib.hid hb0
  clear hb0
  go_wp2_with (fail)
  refine (new_yes 1 _ id1).mono ?_
  rintro e w1 ⟨g, F, rfl, k1, hb1⟩
  have K1 := Lib.hid (k1.low HB0.out.size)
  have HB1 := Lib.hid (HB0.out.trans (hb1.mono HB0.out.size))
  clear k1 hb1
  go_wp2
  go_ret
  exact ⟨rfl, HA0.out.trans (HB1.out.mono HA0.out.size)⟩
theorem sets_any (A : Option Addr) (n c : Nat) (l : List Int) (m : Mb) (W : World) (hr : ∀ g, W.heap.size ≤ g → Reads W g A n (zints l)) :
    Calls Try.prog 8 #[.slice A n c, vM m] W (Says true W) := by
  by_cases hn : n ≤ 40
  · exact sets_in A n c l m W hn (hr _ (Nat.le_refl _))
  · exact sets_out A n c m W (by omega)
end Go.Proofs.Ytfchhlibjhblmaa
