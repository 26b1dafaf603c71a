/-
  WHAT IS PROVED: the law EpochGrows answers true for all arguments, which read behind the call as before it (through any acts no epoch goes down, all stays right, and no epoch is voted in twice). No condition beyond those of the given row.
-/
import Derived.Test.YtckdibnadokipaaUp
namespace Go.Proofs.Ytckdibnadokipaa
open Go.RowKit Go.Lib Go.ChangeShapes Go.WideShapes Go.ChangeAt Go.WideElems

theorem below_step {w a : World} {h t : TypeId} {c d : Array Value} (hb : Below ((w.alloc (.cells c h)).alloc (.cells d t)).heap.size ((w.alloc (.cells c h)).alloc (.cells d t)) a) : Below w.heap.size w a :=
  (((Below.refl _ w).alloc (Nat.le_refl _) _).alloc (by simp) _).trans (hb.mono (by simp; omega))

set_option maxRecDepth 100000 in
set_option maxHeartbeats 8000000 in
theorem grows_in (r : Ep) (A : Option Addr) (n cap : Nat) (l : List Step) (W : World) (hr0 : okB r = true) (hn : n ≤ 100) (hr : StepsAt W A n l) :
    Calls Try.prog 8 #[vEp r, .slice A n cap] W (Says true W) := by
  obtain ⟨i0, hi0, hz0, hz1, hz2⟩ := info_parts int_info
  have HI0 : Hid (Try.prog.info? 3 = some i0) := hi0
  have HZ0 := Lib.hid hz0
  have HZ1 := Lib.hid hz1
  have HZ2 := Lib.hid hz2
  clear hi0 hz0 hz1 hz2
  have d0 : (n : Int) ≤ 100 := by omega
  have HR0 := Lib.hid hr0
  go_enter Try.func8, Try.ntmps8
  go_wp2_with (fail)
  refine (anchor_any _).mono ?_
  rintro e w1 ⟨rfl, hb1⟩
  have K1 := Lib.hid ((Bx.new W r rfl).later hb1)
  have HB1 := Lib.hid (((Below.refl _ W).alloc (Nat.le_refl _) _).trans (hb1.mono (by simp)))
  obtain ⟨a0, a1, a2⟩ := K1.out.box
  clear hb1 hr0
  go_wp2_with (fail)
  refine (lawright_any r _).mono ?_
  rintro e w2 ⟨rfl, hb2⟩
  rw [HR0.out]
  have hP2 : Play W w2 w2.heap.size r (.slice none 0 0) [] := ⟨K1.out.later hb2, World.ownsRow_nil _ _ _ _, HB1.out.trans (hb2.mono HB1.out.size), Nat.le_refl _, Nat.lt_of_lt_of_le K1.out.lt hb2.size⟩
  obtain ⟨B, HBB⟩ : ∃ B, Hid (w2.heap.size = B) := ⟨_, Lib.hid rfl⟩
  rw [HBB.out] at hP2
  have P2 := Lib.hid hP2
  clear hb2 a0 a1 a2 hP2 K1 HB1
  go_wp2
  go_loopw [5, 7, 8, 9, 11, 24] (fun va _ _ _ _ i wr => ∃ (k : Nat) (e : Ep) (vs : List Int), k ≤ n ∧ i = .int .i64 k ∧ okB e = true ∧ vs.length ≤ k ∧ (∀ v ∈ vs, v ≤ e.vote) ∧ Play W wr B e va vs) (fun _ _ _ _ _ i _ => n - (Go.Lib.intOf i).toNat)
  case atStart => exact ⟨0, r, [], by omega, rfl, HR0.out, by simp, by simp, P2.out⟩
  case round =>
    obtain ⟨k, e, vs, hk, rfl, he, hvk, hv, hp⟩ := hrel
    by_cases hlt : k < n
    · obtain ⟨ad, ⟨ho, nn⟩, rfl, ha, hal, k0, k1⟩ := (hr.below hp.bel).at_ hlt
      simp only at k0 k1
      clear ha hal
      have HP := Lib.hid hp
      have HV := Lib.hid hv
      have HE := Lib.hid he
      have HVK := Lib.hid hvk
      obtain ⟨a0, a1, a2⟩ := hp.box.box
      have hB0 := hp.box.lt
      obtain ⟨Av, cv, rfl, hcv, hcvm⟩ := own_slice hp.row
      clear hp hv he hvk
      by_cases x1 : ho = 1
      · subst x1
        obtain ⟨x, HX⟩ : ∃ x, Hid (seeE e nn = x) := ⟨_, Lib.hid rfl⟩
        obtain ⟨g, HG⟩ : ∃ g, Hid (seeF e nn = g) := ⟨_, Lib.hid rfl⟩
        go_wp2_with (fail)
        refine (see_any e nn _).mono ?_
        rintro en w3 ⟨rfl, hb3⟩
        rw [HX.out, HG.out]
        have HP3 := Lib.hid (HP.out.below (below_step hb3))
        have HA3 := Lib.hid (((Ax.new wr 1 nn).alloc (.cells #[.int .i64 e.cur, .int .i64 e.vote, .int .i64 e.conf] 23)).later hb3)
        have HN3 : Hid (Bx w3 (wr.heap.size + 1) e) := ((Bx.new (wr.alloc (.cells #[.int .i64 1, .int .i64 nn] 36)) e (by simp)).later hb3)
        have HS3 : Hid (wr.heap.size + 1 < w3.heap.size) := HN3.out.lt
        have hBr := Nat.lt_of_lt_of_le HP.out.lt HP.out.le
        obtain ⟨b0, b1, b2⟩ := HN3.out.box
        have f0 := HN3.out.fz 0
        have f1 := HN3.out.fz 1
        have f2 := HN3.out.fz 2
        have HN4 := Lib.hid (HN3.out.store x)
        have HP4 := Lib.hid (HP.out.below (below3 (below_step hb3) (c := wr.heap.size + 1) (i := 0) (j := 1) (k := 2) (by omega) (.int .i64 x.cur) (.int .i64 x.vote) (.int .i64 x.conf)))
        have HA4 := Lib.hid (HA3.out.far3 (c := wr.heap.size + 1) (i := 0) (j := 1) (k := 2) (by omega) (.int .i64 x.cur) (.int .i64 x.vote) (.int .i64 x.conf))
        clear hb3
        by_cases hg : g = 0
        · subst hg
          have HU := Lib.hid (see_up HE.out (by rw [HG.out]))
          rw [HX.out] at HU
          obtain ⟨u0, u1, u2, u3⟩ := HU.out
          have U0 := Lib.hid u0
          have v1 : decide (x.cur < e.cur) = false := by simp; omega
          have v2 : decide (x.vote < e.vote) = false := by simp; omega
          have v3 : decide (x.conf < e.conf) = false := by simp; omega
          clear u0 u1 u2 u3 HU
          go_wp2_with (fail)
          refine (right_any x _).mono ?_
          rintro en w5 ⟨rfl, hb5⟩
          rw [U0.out]
          have HN5 := Lib.hid (HN4.out.later hb5)
          have HP5 := Lib.hid (HP4.out.below hb5)
          have HA5 := Lib.hid (HA4.out.later hb5)
          obtain ⟨c0, c1, c2⟩ := HN5.out.box
          obtain ⟨d0, d1, d2⟩ := HP5.out.box.box
          have h0 := HP5.out.box.fz 0
          have h1 := HP5.out.box.fz 1
          have h2 := HP5.out.box.fz 2
          have s0 := HA5.out.c0
          have s1 := HA5.out.c1
          clear hb5 a0 a1 a2 b0 b1 b2 f0 f1 f2
          go_wp2
          go_roundw
          case rel => exact ⟨k + 1, x, vs, by omega, by go_num, U0.out, by have := HVK.out; omega, fun v hv => Int.le_trans (HV.out v hv) (by simp at v2; omega), HP5.out.store x⟩
          case measure => simp [Go.Lib.intOf]; omega
        · have hg' : (g != 0) = true := by simpa using hg
          clear hg
          go_wp2
          go_roundw
          case rel => exact ⟨k + 1, e, vs, by omega, by go_num, HE.out, by have := HVK.out; omega, HV.out, HP4.out⟩
          case measure => simp [Go.Lib.intOf]; omega
      · have y1 : (ho == 1) = false := by rw [beq_eq_false_iff_ne]; exact x1
        by_cases x2 : ho = 2
        · subst x2
          obtain ⟨x, HX⟩ : ∃ x, Hid (standE e = x) := ⟨_, Lib.hid rfl⟩
          obtain ⟨g, HG⟩ : ∃ g, Hid (standF e = g) := ⟨_, Lib.hid rfl⟩
          go_wp2_with (fail)
          refine (stand_any e _).mono ?_
          rintro en w3 ⟨rfl, hb3⟩
          rw [HX.out, HG.out]
          have HP3 := Lib.hid (HP.out.below (below_step hb3))
          have HA3 := Lib.hid (((Ax.new wr 2 nn).alloc (.cells #[.int .i64 e.cur, .int .i64 e.vote, .int .i64 e.conf] 23)).later hb3)
          have HN3 : Hid (Bx w3 (wr.heap.size + 1) e) := ((Bx.new (wr.alloc (.cells #[.int .i64 2, .int .i64 nn] 36)) e (by simp)).later hb3)
          have HS3 : Hid (wr.heap.size + 1 < w3.heap.size) := HN3.out.lt
          have hBr := Nat.lt_of_lt_of_le HP.out.lt HP.out.le
          obtain ⟨b0, b1, b2⟩ := HN3.out.box
          have f0 := HN3.out.fz 0
          have f1 := HN3.out.fz 1
          have f2 := HN3.out.fz 2
          have HN4 := Lib.hid (HN3.out.store x)
          have HP4 := Lib.hid (HP.out.below (below3 (below_step hb3) (c := wr.heap.size + 1) (i := 0) (j := 1) (k := 2) (by omega) (.int .i64 x.cur) (.int .i64 x.vote) (.int .i64 x.conf)))
          have HA4 := Lib.hid (HA3.out.far3 (c := wr.heap.size + 1) (i := 0) (j := 1) (k := 2) (by omega) (.int .i64 x.cur) (.int .i64 x.vote) (.int .i64 x.conf))
          clear hb3
          by_cases hg : g = 0
          · subst hg
            have HU := Lib.hid (stand_up HE.out (by rw [HG.out]))
            rw [HX.out] at HU
            obtain ⟨u0, u1, u2, u3⟩ := HU.out
            have U0 := Lib.hid u0
            have v1 : decide (x.cur < e.cur) = false := by simp; omega
            have v2 : decide (x.vote < e.vote) = false := by simp; omega
            have v3 : decide (x.conf < e.conf) = false := by simp; omega
            clear u0 u1 u2 u3 HU
            go_wp2_with (fail)
            refine (right_any x _).mono ?_
            rintro en w5 ⟨rfl, hb5⟩
            rw [U0.out]
            have HN5 := Lib.hid (HN4.out.later hb5)
            have HP5 := Lib.hid (HP4.out.below hb5)
            have HA5 := Lib.hid (HA4.out.later hb5)
            obtain ⟨c0, c1, c2⟩ := HN5.out.box
            obtain ⟨d0, d1, d2⟩ := HP5.out.box.box
            have h0 := HP5.out.box.fz 0
            have h1 := HP5.out.box.fz 1
            have h2 := HP5.out.box.fz 2
            have s0 := HA5.out.c0
            have s1 := HA5.out.c1
            clear hb5 a0 a1 a2 b0 b1 b2 f0 f1 f2
            go_wp2
            go_roundw
            case rel => exact ⟨k + 1, x, vs, by omega, by go_num, U0.out, by have := HVK.out; omega, fun v hv => Int.le_trans (HV.out v hv) (by simp at v2; omega), HP5.out.store x⟩
            case measure => simp [Go.Lib.intOf]; omega
          · have hg' : (g != 0) = true := by simpa using hg
            clear hg
            go_wp2
            go_roundw
            case rel => exact ⟨k + 1, e, vs, by omega, by go_num, HE.out, by have := HVK.out; omega, HV.out, HP4.out⟩
            case measure => simp [Go.Lib.intOf]; omega
        · have y2 : (ho == 2) = false := by rw [beq_eq_false_iff_ne]; exact x2
          by_cases x3 : ho = 3
          · subst x3
            obtain ⟨x, HX⟩ : ∃ x, Hid (grantE e nn = x) := ⟨_, Lib.hid rfl⟩
            obtain ⟨g, HG⟩ : ∃ g, Hid (grantF e nn = g) := ⟨_, Lib.hid rfl⟩
            go_wp2_with (fail)
            refine (grant_any e nn _).mono ?_
            rintro en w3 ⟨rfl, hb3⟩
            rw [HX.out, HG.out]
            have HP3 := Lib.hid (HP.out.below (below_step hb3))
            have HA3 := Lib.hid (((Ax.new wr 3 nn).alloc (.cells #[.int .i64 e.cur, .int .i64 e.vote, .int .i64 e.conf] 23)).later hb3)
            have HN3 : Hid (Bx w3 (wr.heap.size + 1) e) := ((Bx.new (wr.alloc (.cells #[.int .i64 3, .int .i64 nn] 36)) e (by simp)).later hb3)
            have HS3 : Hid (wr.heap.size + 1 < w3.heap.size) := HN3.out.lt
            have hBr := Nat.lt_of_lt_of_le HP.out.lt HP.out.le
            obtain ⟨b0, b1, b2⟩ := HN3.out.box
            have f0 := HN3.out.fz 0
            have f1 := HN3.out.fz 1
            have f2 := HN3.out.fz 2
            have HN4 := Lib.hid (HN3.out.store x)
            have HP4 := Lib.hid (HP.out.below (below3 (below_step hb3) (c := wr.heap.size + 1) (i := 0) (j := 1) (k := 2) (by omega) (.int .i64 x.cur) (.int .i64 x.vote) (.int .i64 x.conf)))
            have HA4 := Lib.hid (HA3.out.far3 (c := wr.heap.size + 1) (i := 0) (j := 1) (k := 2) (by omega) (.int .i64 x.cur) (.int .i64 x.vote) (.int .i64 x.conf))
            clear hb3
            by_cases hg : g = 0
            · subst hg
              have HU := Lib.hid ((grant_up HE.out (by rw [HG.out])).1)
              rw [HX.out] at HU
              obtain ⟨u0, u1, u2, u3⟩ := HU.out
              have U0 := Lib.hid u0
              have v1 : decide (x.cur < e.cur) = false := by simp; omega
              have v2 : decide (x.vote < e.vote) = false := by simp; omega
              have v3 : decide (x.conf < e.conf) = false := by simp; omega
              clear u0 u1 u2 u3 HU
              have HUV := Lib.hid (grant_up (n := nn) HE.out (by rw [HG.out])).2
              rw [HX.out] at HUV
              go_wp2_with (fail)
              refine (right_any x _).mono ?_
              rintro en w5 ⟨rfl, hb5⟩
              rw [U0.out]
              have HN5 := Lib.hid (HN4.out.later hb5)
              have HP5 := Lib.hid (HP4.out.below hb5)
              have HA5 := Lib.hid (HA4.out.later hb5)
              obtain ⟨c0, c1, c2⟩ := HN5.out.box
              obtain ⟨d0, d1, d2⟩ := HP5.out.box.box
              have h0 := HP5.out.box.fz 0
              have h1 := HP5.out.box.fz 1
              have h2 := HP5.out.box.fz 2
              have s0 := HA5.out.c0
              have s1 := HA5.out.c1
              clear hb5 a0 a1 a2 b0 b1 b2 f0 f1 f2
              have HM := Lib.hid HUV.out.1
              have HLT := Lib.hid HUV.out.2
              have HLEN : Hid (vs.length ≤ 100) := by have := HVK.out; show _ ≤ _; omega
              have hr5 : Reads w5 w5.heap.size Av vs.length (zints vs) := own_read HP5.out.row _ (.inl (Nat.le_refl _))
              have HR5 := Lib.hid hr5
              clear hr5
              go_wp2
              go_loopw [11, 103] (fun _ j wi => ∃ m : Nat, m ≤ vs.length ∧ j = .int .i64 m ∧ wi = w5) (fun _ j _ => vs.length - (Go.Lib.intOf j).toNat)
              case atStart => exact ⟨0, by omega, rfl, rfl⟩
              case round =>
                obtain ⟨m, hm, rfl, rfl⟩ := hrel
                by_cases hlti : m < vs.length
                · obtain ⟨adv, u, hadv, hu, hcu⟩ := HR5.out.at_ hlti
                  cases hadv
                  obtain ⟨z, hz, rfl⟩ := zints_at hu
                  have hzn : (z == nn) = false := by rw [beq_eq_false_iff_ne]; have := HV.out z (List.mem_of_getElem? hz); have := HLT.out; omega
                  clear hz hu
                  go_wp2
                  go_roundw
                  case rel => exact ⟨m + 1, by omega, by go_num, by first | rfl | trivial⟩
                  case measure => simp [Go.Lib.intOf]; omega
                · obtain rfl : m = vs.length := by omega
                  have hl9 := HLEN.out
                  have hs9 := HP5.out.le
                  go_wp2_with (at_builtin; refine wpList_append_own _ rfl _ _ 34 rfl B 3 i0 (.int .i64 0) 1 8 Try.underlying34 HI0.out HZ0.out HZ1.out HZ2.out rfl (by decide) _ _ _ rfl (HP5.out.row.alloc _) ⟨wr.heap.size, 0, none⟩ 1 1 [.int .i64 nn] rfl rfl (cell_one_new _ _ _) (by simp [Value.oneCell']) (by unfold maxLen; omega) (by omega) (by simp; omega) ?_; intro v' w6 hown' hg6 _; have hg7 := (only_alloc (World.grownBy.refl _ _) _).trans hg6; have HP6 := Lib.hid (HP5.out.more hg7 hown'); obtain ⟨e0, e1, e2⟩ := (show Bx w6 _ x from Blk.grown HN5.out hg7 (fun e => by have := (HP.out.row.lt _ e.symm).2; omega)).box; obtain ⟨o0, o1, o2⟩ := HP6.out.box.box; have h3 := HP6.out.box.fz 0; have h4 := HP6.out.box.fz 1; have h5 := HP6.out.box.fz 2; clear hg6 hg7 hown')
                  go_roundw
                  case rel => exact ⟨k + 1, x, vs ++ [nn], by omega, by go_num, U0.out, by have := HVK.out; simp; omega, fun v hv => by
                    have h2 := HM.out
                    rcases List.mem_append.1 hv with hv | hv
                    · have := HV.out v hv; have := HLT.out; omega
                    · simp at hv; omega, HP6.out.store x⟩
                  case measure => simp [Go.Lib.intOf]; omega
            · have hg' : (g != 0) = true := by simpa using hg
              clear hg
              go_wp2
              go_roundw
              case rel => exact ⟨k + 1, e, vs, by omega, by go_num, HE.out, by have := HVK.out; omega, HV.out, HP4.out⟩
              case measure => simp [Go.Lib.intOf]; omega
          · have y3 : (ho == 3) = false := by rw [beq_eq_false_iff_ne]; exact x3
            by_cases x4 : ho = 4
            · subst x4
              obtain ⟨x, HX⟩ : ∃ x, Hid (winE e nn = x) := ⟨_, Lib.hid rfl⟩
              obtain ⟨g, HG⟩ : ∃ g, Hid (winF e nn = g) := ⟨_, Lib.hid rfl⟩
              go_wp2_with (fail)
              refine (win_any e nn _).mono ?_
              rintro en w3 ⟨rfl, hb3⟩
              rw [HX.out, HG.out]
              have HP3 := Lib.hid (HP.out.below (below_step hb3))
              have HA3 := Lib.hid (((Ax.new wr 4 nn).alloc (.cells #[.int .i64 e.cur, .int .i64 e.vote, .int .i64 e.conf] 23)).later hb3)
              have HN3 : Hid (Bx w3 (wr.heap.size + 1) e) := ((Bx.new (wr.alloc (.cells #[.int .i64 4, .int .i64 nn] 36)) e (by simp)).later hb3)
              have HS3 : Hid (wr.heap.size + 1 < w3.heap.size) := HN3.out.lt
              have hBr := Nat.lt_of_lt_of_le HP.out.lt HP.out.le
              obtain ⟨b0, b1, b2⟩ := HN3.out.box
              have f0 := HN3.out.fz 0
              have f1 := HN3.out.fz 1
              have f2 := HN3.out.fz 2
              have HN4 := Lib.hid (HN3.out.store x)
              have HP4 := Lib.hid (HP.out.below (below3 (below_step hb3) (c := wr.heap.size + 1) (i := 0) (j := 1) (k := 2) (by omega) (.int .i64 x.cur) (.int .i64 x.vote) (.int .i64 x.conf)))
              have HA4 := Lib.hid (HA3.out.far3 (c := wr.heap.size + 1) (i := 0) (j := 1) (k := 2) (by omega) (.int .i64 x.cur) (.int .i64 x.vote) (.int .i64 x.conf))
              clear hb3
              by_cases hg : g = 0
              · subst hg
                have HU := Lib.hid (win_up HE.out (by rw [HG.out]))
                rw [HX.out] at HU
                obtain ⟨u0, u1, u2, u3⟩ := HU.out
                have U0 := Lib.hid u0
                have v1 : decide (x.cur < e.cur) = false := by simp; omega
                have v2 : decide (x.vote < e.vote) = false := by simp; omega
                have v3 : decide (x.conf < e.conf) = false := by simp; omega
                clear u0 u1 u2 u3 HU
                go_wp2_with (fail)
                refine (right_any x _).mono ?_
                rintro en w5 ⟨rfl, hb5⟩
                rw [U0.out]
                have HN5 := Lib.hid (HN4.out.later hb5)
                have HP5 := Lib.hid (HP4.out.below hb5)
                have HA5 := Lib.hid (HA4.out.later hb5)
                obtain ⟨c0, c1, c2⟩ := HN5.out.box
                obtain ⟨d0, d1, d2⟩ := HP5.out.box.box
                have h0 := HP5.out.box.fz 0
                have h1 := HP5.out.box.fz 1
                have h2 := HP5.out.box.fz 2
                have s0 := HA5.out.c0
                have s1 := HA5.out.c1
                clear hb5 a0 a1 a2 b0 b1 b2 f0 f1 f2
                go_wp2
                go_roundw
                case rel => exact ⟨k + 1, x, vs, by omega, by go_num, U0.out, by have := HVK.out; omega, fun v hv => Int.le_trans (HV.out v hv) (by simp at v2; omega), HP5.out.store x⟩
                case measure => simp [Go.Lib.intOf]; omega
              · have hg' : (g != 0) = true := by simpa using hg
                clear hg
                go_wp2
                go_roundw
                case rel => exact ⟨k + 1, e, vs, by omega, by go_num, HE.out, by have := HVK.out; omega, HV.out, HP4.out⟩
                case measure => simp [Go.Lib.intOf]; omega
            · have y4 : (ho == 4) = false := by rw [beq_eq_false_iff_ne]; exact x4
              by_cases x5 : ho = 5
              · subst x5
                obtain ⟨x, HX⟩ : ∃ x, Hid (bumpE e = x) := ⟨_, Lib.hid rfl⟩
                obtain ⟨g, HG⟩ : ∃ g, Hid (bumpF e = g) := ⟨_, Lib.hid rfl⟩
                go_wp2_with (fail)
                refine (bump_any e _).mono ?_
                rintro en w3 ⟨rfl, hb3⟩
                rw [HX.out, HG.out]
                have HP3 := Lib.hid (HP.out.below (below_step hb3))
                have HA3 := Lib.hid (((Ax.new wr 5 nn).alloc (.cells #[.int .i64 e.cur, .int .i64 e.vote, .int .i64 e.conf] 23)).later hb3)
                have HN3 : Hid (Bx w3 (wr.heap.size + 1) e) := ((Bx.new (wr.alloc (.cells #[.int .i64 5, .int .i64 nn] 36)) e (by simp)).later hb3)
                have HS3 : Hid (wr.heap.size + 1 < w3.heap.size) := HN3.out.lt
                have hBr := Nat.lt_of_lt_of_le HP.out.lt HP.out.le
                obtain ⟨b0, b1, b2⟩ := HN3.out.box
                have f0 := HN3.out.fz 0
                have f1 := HN3.out.fz 1
                have f2 := HN3.out.fz 2
                have HN4 := Lib.hid (HN3.out.store x)
                have HP4 := Lib.hid (HP.out.below (below3 (below_step hb3) (c := wr.heap.size + 1) (i := 0) (j := 1) (k := 2) (by omega) (.int .i64 x.cur) (.int .i64 x.vote) (.int .i64 x.conf)))
                have HA4 := Lib.hid (HA3.out.far3 (c := wr.heap.size + 1) (i := 0) (j := 1) (k := 2) (by omega) (.int .i64 x.cur) (.int .i64 x.vote) (.int .i64 x.conf))
                clear hb3
                by_cases hg : g = 0
                · subst hg
                  have HU := Lib.hid (bump_up HE.out (by rw [HG.out]))
                  rw [HX.out] at HU
                  obtain ⟨u0, u1, u2, u3⟩ := HU.out
                  have U0 := Lib.hid u0
                  have v1 : decide (x.cur < e.cur) = false := by simp; omega
                  have v2 : decide (x.vote < e.vote) = false := by simp; omega
                  have v3 : decide (x.conf < e.conf) = false := by simp; omega
                  clear u0 u1 u2 u3 HU
                  go_wp2_with (fail)
                  refine (right_any x _).mono ?_
                  rintro en w5 ⟨rfl, hb5⟩
                  rw [U0.out]
                  have HN5 := Lib.hid (HN4.out.later hb5)
                  have HP5 := Lib.hid (HP4.out.below hb5)
                  have HA5 := Lib.hid (HA4.out.later hb5)
                  obtain ⟨c0, c1, c2⟩ := HN5.out.box
                  obtain ⟨d0, d1, d2⟩ := HP5.out.box.box
                  have h0 := HP5.out.box.fz 0
                  have h1 := HP5.out.box.fz 1
                  have h2 := HP5.out.box.fz 2
                  have s0 := HA5.out.c0
                  have s1 := HA5.out.c1
                  clear hb5 a0 a1 a2 b0 b1 b2 f0 f1 f2
                  go_wp2
                  go_roundw
                  case rel => exact ⟨k + 1, x, vs, by omega, by go_num, U0.out, by have := HVK.out; omega, fun v hv => Int.le_trans (HV.out v hv) (by simp at v2; omega), HP5.out.store x⟩
                  case measure => simp [Go.Lib.intOf]; omega
                · have hg' : (g != 0) = true := by simpa using hg
                  clear hg
                  go_wp2
                  go_roundw
                  case rel => exact ⟨k + 1, e, vs, by omega, by go_num, HE.out, by have := HVK.out; omega, HV.out, HP4.out⟩
                  case measure => simp [Go.Lib.intOf]; omega
              · have y5 : (ho == 5) = false := by rw [beq_eq_false_iff_ne]; exact x5
                have HP4 := Lib.hid (HP.out.below (((Below.refl _ wr).alloc (Nat.le_refl _) (.cells #[.int .i64 ho, .int .i64 nn] 36)).alloc (by simp) (.cells #[.int .i64 e.cur, .int .i64 e.vote, .int .i64 e.conf] 23)))
                go_wp2
                go_roundw
                case rel => exact ⟨k + 1, e, vs, by omega, by go_num, HE.out, by have := HVK.out; omega, HV.out, HP4.out⟩
                case measure => simp [Go.Lib.intOf]; omega
    · obtain rfl : k = n := by omega
      have HP := Lib.hid hp.bel
      clear hp
      go_wp2
      go_ret
      exact ⟨rfl, HP.out⟩


set_option maxHeartbeats 1000000 in
theorem growslaw_any (r : Ep) (A : Option Addr) (n cap : Nat) (l : List Step) (W : World) (_hnc : n ≤ cap) (_hc : cap ≤ 9223372036854775807) (hr : StepsAt W A n l) :
    Calls Try.prog 8 #[vEp r, .slice A n cap] W (Says true W) := by
  obtain ⟨b1, B1⟩ : ∃ b, Hid (okB r = b) := ⟨_, Lib.hid rfl⟩
  by_cases hgo : b1 = true ∧ n ≤ 100
  · obtain ⟨rfl, hn⟩ := hgo
    exact grows_in r A n cap l W B1.out hn hr
  · have hcase : b1 = false ∨ (b1 = true ∧ (100 : Int) < (n : Int)) := by
      cases b1
      · exact .inl rfl
      · exact .inr ⟨rfl, by simp at hgo; omega⟩
    clear hgo hr
    go_enter Try.func8, Try.ntmps8
    go_wp2_with (fail)
    refine (anchor_any _).mono ?_
    rintro e w1 ⟨rfl, hb1⟩
    have K1 := Lib.hid ((Bx.new W r rfl).later hb1)
    have HB1 := Lib.hid (((Below.refl _ W).alloc (Nat.le_refl _) _).trans (hb1.mono (by simp)))
    obtain ⟨a0, a1, a2⟩ := K1.out.box
    clear hb1
    go_wp2_with (fail)
    refine (lawright_any r _).mono ?_
    rintro e w2 ⟨rfl, hb2⟩
    rw [B1.out]
    have HB2 := Lib.hid (HB1.out.trans (hb2.mono HB1.out.size))
    clear hb2 a0 a1 a2
    rcases hcase with rfl | ⟨rfl, h1⟩
    all_goals
      go_wp2
      go_ret
      exact ⟨rfl, HB2.out⟩

theorem grows_lifted (os : Os) (started : os.Started) (H : Type) (enc : TypeId × Value → H) :
    ReturnsInHanded {} Try.checked os 8 .any (Rows.epochGrowsSpec.pre6 enc Try.prog Try.f8 Rows.epochGrowsRow.domain false) (Rows.epochGrowsSpec.post enc Try.prog Try.f8 false true false false) := by
  refine returnsInHanded_of_change (C := Try.checked) own started (by kernel_rfl) Try.func8
    (ChangeSpec.witness6 (enc := enc) (C := Try.checked) false ⟨#[], #[.agg #[.int .i64 0, .int .i64 0, .int .i64 0], .slice none 0 0], []⟩ 8 (by kernel_rfl) (by kernel_rfl) (by kernel_rfl) (by kernel_rfl)) ?_
  intro W base args ds gs before hval0 hW _ _
  have hval : ∀ (j : Nat) t v, Try.f8.params[j]? = some t → args[j]? = some v → Value.okWide Try.prog W .any base t v := hval0
  have hW' := hW
  obtain ⟨p, q, hA0, hV, rfl, _, _⟩ := hW
  have hA : DataW.TrodAll enc Try.prog W 0 (fun _ => true) true Try.f8.params.toList args.toList ds p := hA0
  rw [Try.params8] at hA hval
  obtain ⟨v0, vs0, d0, ds0, p0, q0, hargs, rfl, rfl, h0, r0⟩ := trodAll_cons hA
  obtain ⟨v1, vs1, d1, ds1, p1, q1, rfl, rfl, rfl, h1, r1⟩ := trodAll_cons r0
  obtain ⟨rfl, rfl, rfl⟩ := trodAll_nil r1
  obtain rfl : args = #[v0, v1] := by cases args; simp_all
  obtain ⟨rfl, rfl⟩ := trodVars_none hV
  obtain ⟨s0, rfl, hs0⟩ := open_ep (hval 0 23 v0 rfl rfl) h0
  obtain ⟨A1, n1, c1, l1, rfl, hl1, hc1, hm1, hr1, hz1⟩ := open_acts (hval 1 33 v1 rfl rfl) h1
  clear hA0
  have hk := growslaw_any s0 A1 n1 c1 l1 W hc1 hm1 hr1
  exact hk.mono fun e W' ⟨he, hb⟩ => ⟨_, he, law_post laid_ok (by kernel_rfl) rfl Try.underlying4 rfl hW' rfl hb⟩

theorem grows_holds : Rows.EpochGrowsSaid :=
  OpenClaim.holds_of_wide 8 Try.f8 rfl rfl rfl rfl rfl rfl rfl ⟨rfl, rfl, rfl, rfl, rfl⟩ rfl rfl rfl rfl rfl (by kernel_rfl) Try.func8 (by kernel_rfl)
    (of_decide_eq_true (by kernel_rfl)) (by unfold Func.isWrapper; first | (rw [if_pos (by decide +kernel)]; kernel_rfl) | (rw [if_neg (by decide +kernel)]; exact ⟨rfl, rfl⟩))
    (fun os started H enc _ => grows_lifted os started H enc)
end Go.Proofs.Ytckdibnadokipaa
