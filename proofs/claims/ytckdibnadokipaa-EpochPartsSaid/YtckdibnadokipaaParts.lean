/-
  WHAT IS PROVED: the law EpochParts answers true for all arguments, which read behind the call as before it (masters with one Config that tell one another theirs, again and again, the one that yields bumping, come to unlike ones within a few rounds; the one of the greatest id never bumps). No condition beyond those of the given row.
-/
import Derived.Test.YtckdibnadokipaaRow
import Derived.Test.YtckdibnadokipaaPhases
import Derived.Test.YtckdibnadokipaaQuiet
import Derived.Deep.RegionHeld3
import Derived.Deep.CutRange
import Derived.BigQuiet
namespace Go.Proofs.Ytckdibnadokipaa
open Go.RowKit Go.Lib Go.ChangeShapes Go.WideShapes Go.ChangeAt Go.WideElems

theorem quiet_eq {P : Program} {f : FuncId} {args : Array Value} {w : World} {n : Nat} {v : Value} (h : Calls P f args (w.drewN n) fun e w' => e = .returned v ∧ w.drewN n = w') : Calls P f args (w.drewN n) fun e w'' => e = .returned v ∧ ∃ m, w'' = w.drewN m :=
  h.mono fun _ _ ⟨he, hm⟩ => ⟨he, n, hm.symm⟩
theorem new_ahead {w w5 : World} {b : Nat} (hb : b = w.heap.size) (h5 : Below (w.alloc (.cells #[.int .i64 0, .int .i64 0, .int .i64 0] 23)).heap.size (w.alloc (.cells #[.int .i64 0, .int .i64 0, .int .i64 0] 23)) w5) :
    Bx w5 b ⟨0, 0, 0⟩ ∧ Below w.heap.size w w5 :=
  ⟨(Bx.new w ⟨0, 0, 0⟩ hb).later h5, ((Below.refl _ w).alloc (Nat.le_refl _) _).trans (h5.mono (by simp))⟩
theorem set_get {l : List Ep} {i k : Nat} {a b x : Ep} (ha : l[i]? = some a) (hb : l[k]? = some b) (hx : x.conf = a.conf) : (l.set i x)[i]? = some x ∧ ∃ c, (l.set i x)[k]? = some c ∧ c.conf = b.conf := by
  have hi := (List.getElem?_eq_some_iff.1 ha).1
  refine ⟨List.getElem?_set_self hi, ?_⟩
  by_cases h : k = i
  · subst h
    rw [ha] at hb
    cases hb
    exact ⟨x, List.getElem?_set_self hi, hx⟩
  · exact ⟨b, by rw [List.getElem?_set_ne (fun e => h e.symm)]; exact hb, rfl⟩

set_option maxRecDepth 100000 in
set_option maxHeartbeats 8000000 in
theorem parts_in (n : Nat) (C : Int) (W : World) (h1 : 1 ≤ n) (h8 : n ≤ 8) (c0 : 0 ≤ C) (c1 : C ≤ 1099511627776) :
    Calls Try.prog 9 #[.int .i64 (n : Int), .int .i64 C] W (Says true W) := by
  have hmk := run_mk n (by omega)
  have d1 : decide ((n : Int) < 1) = false := by simp; omega
  have d2 : decide ((8 : Int) < (n : Int)) = false := by simp; omega
  have d3 : decide (C < 0) = false := by simp; omega
  have d4 : decide (1099511627776 < C) = false := by simp; omega
  obtain ⟨N, hN⟩ : ∃ N : Nat, n * n = N := ⟨_, rfl⟩
  have hN1 : 1 ≤ N := by rw [← hN]; exact Nat.mul_le_mul h1 h1
  have hN64 : N ≤ 64 := by rw [← hN]; exact Nat.mul_le_mul h8 h8
  have d5 : (n : Int) * (n : Int) = (N : Int) := by rw [← hN, Int.natCast_mul]
  have d6 : IntKind.i64.wrap (N : Int) = (N : Int) := by rw [IntKind.wrap_i64]; omega
  have H1 := Lib.hid h1
  clear hN
  go_enter Try.func9, Try.ntmps9
  go_wp2_with (fail)
  refine (anchor_any _).mono ?_
  rintro e w1 ⟨rfl, hb1⟩
  have HB1 := Lib.hid hb1
  have HR1 := Lib.hid (RowAt.new w1 n)
  have HL1 := Lib.hid (below_new hb1 hb1.size (.cells (zrow n) 23))
  clear hb1
  go_wp2
  go_loopw [6, 35] (fun _ i wr => ∃ (k : Nat) (l : List Ep), k ≤ n ∧ i = .int .i64 k ∧ l.length = n ∧ (∀ j, j < k → l[j]? = some ⟨C, 0, C⟩) ∧ RowAt wr w1.heap.size l ∧ Below W.heap.size W wr) (fun _ i _ => n - (Go.Lib.intOf i).toNat)
  case atStart => exact ⟨0, List.replicate n Ep.zero, by omega, rfl, by simp, fun j hj => absurd hj (by omega), HR1.out, HL1.out⟩
  case round =>
    obtain ⟨k, l, hk, rfl, hl, hc, hr, hw⟩ := hrel
    by_cases hlt : k < n
    · obtain ⟨s, hs⟩ : ∃ s, l[k]? = some s := ⟨_, List.getElem?_eq_getElem (by omega)⟩
      obtain ⟨⟨k0, k1, k2⟩, f0, f1, f2⟩ := hr.at_ hs
      have HLE := Lib.hid hl
      have HCC := Lib.hid hc
      have HR := Lib.hid hr
      have HW := Lib.hid hw
      clear hl hc hr hw hs
      go_wp2
      go_roundw
      case rel => exact ⟨k + 1, l.set k ⟨C, 0, C⟩, by omega, by go_num, by rw [List.length_set]; exact HLE.out, fun j hj => by
        by_cases e : j = k
        · subst e; rw [List.getElem?_set_self (by rw [HLE.out]; exact hlt)]
        · rw [List.getElem?_set_ne (fun h => e h.symm)]; exact HCC.out j (by omega), HR.out.store (by rw [HLE.out]; exact hlt) ⟨C, 0, C⟩, below_set (below_set (below_set HW.out (p := ⟨w1.heap.size, k * 3, none⟩) HB1.out.size _) (p := ⟨w1.heap.size, k * 3 + 1, none⟩) HB1.out.size _) (p := ⟨w1.heap.size, k * 3 + 2, none⟩) HB1.out.size _⟩
      case measure => simp [Go.Lib.intOf]; omega
    · obtain rfl : k = n := by omega
      have HI := Lib.hid (Inv.start hl hc c0)
      have HR := Lib.hid hr
      have HW := Lib.hid hw
      clear hl hc hr hw HR1 HL1
      go_wp2
      go_loopw [7, 8, 9, 10, 11, 12, 48] (fun _ _ _ _ _ _ i wr => ∃ (r : Nat) (l : List Ep), r ≤ N ∧ i = .int .i64 r ∧ Inv k C r 0 0 l ∧ RowAt wr w1.heap.size l ∧ Below W.heap.size W wr) (fun _ _ _ _ _ _ i _ => N - (Go.Lib.intOf i).toNat)
      case atStart => exact ⟨0, l, by omega, rfl, HI.out, HR.out, HW.out⟩
      case round =>
        obtain ⟨r, l, hr, rfl, hi, hrow, hw⟩ := hrel
        by_cases hltr : r < N
        · have HI := Lib.hid hi
          have HR := Lib.hid hrow
          have HW := Lib.hid hw
          clear hi hrow hw
          go_wp2
          go_loopw [7, 8, 9, 10, 11, 12, 52] (fun _ _ _ _ _ _ j wr => ∃ (i : Nat) (l : List Ep), i ≤ k ∧ j = .int .i64 i ∧ Inv k C r i 0 l ∧ RowAt wr w1.heap.size l ∧ Below W.heap.size W wr) (fun _ _ _ _ _ _ j _ => k - (Go.Lib.intOf j).toNat)
          case atStart => exact ⟨0, l, by omega, rfl, HI.out, HR.out, HW.out⟩
          case round =>
            obtain ⟨i, l, hi, rfl, hv, hrow, hw⟩ := hrel
            by_cases hlti : i < k
            · have HI := Lib.hid hv
              have HR := Lib.hid hrow
              have HW := Lib.hid hw
              clear hv hrow hw
              go_wp2
              go_loopw [8, 9, 10, 11, 12, 57] (fun _ _ _ _ _ j wr => ∃ (m : Nat) (l : List Ep), m ≤ k ∧ j = .int .i64 m ∧ Inv k C r i m l ∧ RowAt wr w1.heap.size l ∧ Below W.heap.size W wr) (fun _ _ _ _ _ j _ => k - (Go.Lib.intOf j).toNat)
              case atStart => exact ⟨0, l, by omega, rfl, HI.out, HR.out, HW.out⟩
              case round =>
                obtain ⟨m, l, hm, rfl, hv, hrow, hw⟩ := hrel
                by_cases hltm : m < k
                · obtain ⟨a, ha⟩ : ∃ a, l[i]? = some a := ⟨_, List.getElem?_eq_getElem (by rw [hv.len]; exact hlti)⟩
                  obtain ⟨b, hb⟩ : ∃ b, l[m]? = some b := ⟨_, List.getElem?_eq_getElem (by rw [hv.len]; exact hltm)⟩
                  obtain ⟨x, HX⟩ : ∃ x, Hid ((⟨max a.cur b.cur, 0, a.conf⟩ : Ep) = x) := ⟨_, Lib.hid rfl⟩
                  obtain ⟨x2, HX2⟩ : ∃ x2, Hid ((⟨max a.cur b.cur + 1, 0, max a.cur b.cur + 1⟩ : Ep) = x2) := ⟨_, Lib.hid rfl⟩
                  have hs := hv.see c0 c1 h8 ha hb
                  have hp := hv.bump c0 c1 h8 ha hb
                  rw [HX.out] at hs hp
                  rw [HX2.out] at hp
                  have HS := Lib.hid hs
                  have HP := Lib.hid hp
                  have hxc : x.conf = a.conf := by rw [← HX.out]
                  obtain ⟨hg1, b1, hg2, hbc⟩ := set_get ha hb hxc
                  obtain ⟨y, HY⟩ : ∃ y, Hid (yieldB ((i : Int) + 1) ((m : Int) + 1) x.conf b1.conf = y) := ⟨_, Lib.hid rfl⟩
                  have HYW : Hid (y = true ↔ (r = 0 ∧ m = i + 1)) := by show _ ↔ _; rw [← HY.out, yield_iff, hxc, hbc]; exact hv.who hlti ha hb
                  have HA := Lib.hid ha
                  have HBM := Lib.hid hb
                  have HV := Lib.hid hv
                  have HR := Lib.hid hrow
                  have HW := Lib.hid hw
                  have HG1 := Lib.hid hg1
                  have HG2 := Lib.hid hg2
                  have HSL : Hid (∀ w', Below wr.heap.size wr w' → (w'.cell? ⟨w1.heap.size, i * 3, none⟩ = some (.int .i64 a.cur) ∧ w'.cell? ⟨w1.heap.size, i * 3 + 1, none⟩ = some (.int .i64 a.vote) ∧ w'.cell? ⟨w1.heap.size, i * 3 + 2, none⟩ = some (.int .i64 a.conf) ∧ w'.cell? ⟨w1.heap.size, m * 3, none⟩ = some (.int .i64 b.cur))) := fun w' h =>
                    ⟨((HR.out.later h).at_ HA.out).1.1, ((HR.out.later h).at_ HA.out).1.2.1, ((HR.out.later h).at_ HA.out).1.2.2, ((HR.out.later h).at_ HBM.out).1.1⟩
                  have HD0 : Below wr.heap.size wr wr.drew := below_drewN (Below.refl _ _) 1
                  have HD1 : Below wr.heap.size wr (wr.drew.alloc (.cells #[.int .i64 0, .int .i64 0, .int .i64 0] 23)) := HD0.alloc (Nat.le_refl _) _
                  clear ha hb hs hp hxc hg1 hg2 hbc hv hrow hw
                  go_upto_region 19 with (fail)
                  go_cut [9, 10] from 60 to 72 (fun vx vf wx => ∃ bx, vx = .pointer (some ⟨bx, 0, none⟩) ∧ vf = .int .i64 0 ∧ Bx wx bx x ∧ RowAt wx w1.heap.size l ∧ Below wr.heap.size wr wx ∧ wr.heap.size ≤ bx)
                  case first =>
                    go_region_held3 (fun w' => w'.cell? ⟨w1.heap.size, i * 3, none⟩ = some (.int .i64 a.cur) ∧ w'.cell? ⟨w1.heap.size, i * 3 + 1, none⟩ = some (.int .i64 a.vote) ∧ w'.cell? ⟨w1.heap.size, i * 3 + 2, none⟩ = some (.int .i64 a.conf) ∧ w'.cell? ⟨w1.heap.size, m * 3, none⟩ = some (.int .i64 b.cur)) (first | exact HSL.out _ HD0 | exact HSL.out _ HD1 | exact HSL.out _ HB5 | exact HSL.out _ (below_new HB5 HB5.size _) | exact HSL.out _ (below3 HB5 (Nat.le_refl _) _ _ _)) (first | (go_at_call 13; refine (see_any a b.cur _).mono ?_; rintro en w5 ⟨rfl, hb5⟩; rw [HS.out.1, HS.out.2]; first | (have HB5 : Below wr.heap.size wr w5 := HD0.trans (new_ahead (w := wr.drew) (b := wr.heap.size) rfl hb5).2; have HN5 := Lib.hid (new_ahead (w := wr.drew) (b := wr.heap.size) rfl hb5).1; obtain ⟨n0, n1, n2⟩ := HN5.out.box; have n3 := HN5.out.fz 0; have n4 := HN5.out.fz 1; have n5 := HN5.out.fz 2; clear hb5) | (have HB5 : Below wr.heap.size wr w5 := HD0.trans hb5; clear hb5)))
                    all_goals
                      go_wp2_with fail
                      go_meet
                      first
                      | exact ⟨w5.heap.size, rfl, rfl, Bx.new w5 x rfl, (HR.out.later HB5).alloc _, HB5.alloc HB5.size _, HB5.size⟩
                      | exact ⟨wr.heap.size, rfl, rfl, HN5.out.store x, (HR.out.later HB5).far3 (by have := HR.out.lt; omega) _ _ _, below3 HB5 (Nat.le_refl _) _ _ _, Nat.le_refl _⟩
                  case rest =>
                    obtain ⟨bx, rfl, rfl, hx, hrow, hw, hbx⟩ := hcut
                    obtain ⟨x0, x1, x2'⟩ := hx.box
                    obtain ⟨⟨k0, k1, k2⟩, f0, f1, f2⟩ := hrow.at_ HA.out
                    have hgx : w1.heap.size ≠ bx := by have := HR.out.lt; omega
                    have hr2 := hrow.store (i := i) (by rw [HV.out.len]; exact hlti) x
                    obtain ⟨⟨q0, q1, q2⟩, _⟩ := hr2.at_ HG1.out
                    obtain ⟨⟨p0, p1, p2⟩, _⟩ := hr2.at_ HG2.out
                    have HR2 := Lib.hid hr2
                    have HW2 := Lib.hid (below_set (below_set (below_set (HW.out.trans (hw.mono HW.out.size)) (p := ⟨w1.heap.size, i * 3, none⟩) HB1.out.size (.int .i64 x.cur)) (p := ⟨w1.heap.size, i * 3 + 1, none⟩) HB1.out.size (.int .i64 x.vote)) (p := ⟨w1.heap.size, i * 3 + 2, none⟩) HB1.out.size (.int .i64 x.conf))
                    have wi : IntKind.i64.wrap ((i : Int) + 1) = (i : Int) + 1 := by rw [IntKind.wrap_i64]; omega
                    have wm : IntKind.i64.wrap ((m : Int) + 1) = (m : Int) + 1 := by rw [IntKind.wrap_i64]; omega
                    have hq1 : ∀ p : Later (((wc.setCell ⟨w1.heap.size, i * 3, none⟩ (.int .i64 x.cur)).setCell ⟨w1.heap.size, i * 3 + 1, none⟩ (.int .i64 x.vote)).setCell ⟨w1.heap.size, i * 3 + 2, none⟩ (.int .i64 x.conf)), p.now.cell? ⟨w1.heap.size, i * 3 + 2, none⟩ = some (.int .i64 x.conf) := fun p => p.cell q2
                    have hq2 : ∀ p : Later (((wc.setCell ⟨w1.heap.size, i * 3, none⟩ (.int .i64 x.cur)).setCell ⟨w1.heap.size, i * 3 + 1, none⟩ (.int .i64 x.vote)).setCell ⟨w1.heap.size, i * 3 + 2, none⟩ (.int .i64 x.conf)), p.now.cell? ⟨w1.heap.size, m * 3 + 2, none⟩ = some (.int .i64 b1.conf) := fun p => p.cell p2
                    have HYC : Hid (∀ W, Calls Try.prog 21 #[.int .i64 ((i : Int) + 1), .int .i64 ((m : Int) + 1), .int .i64 x.conf, .int .i64 b1.conf] W fun e w' => e = .returned (.bool y) ∧ Below W.heap.size W w') := fun W => by
                      rw [← HY.out]; exact (yields_any _ _ _ _ W).mono fun _ _ h => ⟨h.1, by rw [← h.2]; exact Below.refl _ _⟩
                    clear hx hrow hw hbx hr2 q0 q1 q2 p0 p1 p2
                    go_upto_region 23 with (fail)
                    go_cut [93] from 79 to 92 (fun vy wx => vy = .bool y ∧ RowAt wx w1.heap.size (l.set i x) ∧ Below W.heap.size W wx)
                    case first =>
                      refine wp_region_later (by kernel_rfl) (by kernel_rfl) ?_
                      repeat (quiet_step (first | (go_at_call 21; exact Later.calls (HYC.out _)) | fail))
                      refine wpQuiet_nil ?_
                      intro _ hw'
                      obtain ⟨pq, hw''⟩ := hw'
                      subst hw''
                      go_wp2
                      go_meet
                      exact ⟨rfl, HR2.out.later pq.below, HW2.out.trans (pq.below.mono HW2.out.size)⟩
                    case rest =>
                      obtain ⟨rfl, hrow, hw⟩ := hcut
                      have HR3 := Lib.hid hrow
                      have HW3 := Lib.hid hw
                      cases y
                      · have hno : ¬ (r = 0 ∧ m = i + 1) := fun h => by have := HYW.out.2 h; cases this
                        have HN : Hid (Inv k C r i (m + 1) (l.set i x)) := by have h := HV.out.quiet hlti HA.out HBM.out hno; rwa [HX.out] at h
                        clear hrow hw hno hq1 hq2
                        go_wp2
                        go_roundw
                        case rel => exact ⟨m + 1, l.set i x, by omega, by go_num, HN.out, HR3.out, HW3.out⟩
                        case measure => simp [Go.Lib.intOf]; omega
                      · have HN : Hid (Inv k C r i (m + 1) (l.set i x2)) := by have h := HV.out.loud hlti c0 HA.out HBM.out (HYW.out.1 rfl); rwa [HX2.out] at h
                        obtain ⟨⟨q0, q1, q2⟩, _⟩ := hrow.at_ HG1.out
                        clear hrow hw hq1 hq2 k0 k1 k2 f0 f1 f2 x0 x1 x2'
                        go_wp2_with (fail)
                        refine (bump_any x _).mono ?_
                        rintro en w7 ⟨rfl, hb7⟩
                        rw [HP.out.1, HP.out.2]
                        have hr7 := HR3.out.later hb7
                        obtain ⟨⟨p0, p1, p2⟩, g0, g1, g2⟩ := hr7.at_ HG1.out
                        have HR7 := Lib.hid hr7
                        have HR8 := Lib.hid (hr7.store (i := i) (by rw [List.length_set, HV.out.len]; exact hlti) x2)
                        have HW7 := Lib.hid (HW3.out.trans (hb7.mono HW3.out.size))
                        have hg7 := hr7.lt
                        have HW8 := Lib.hid (below_set (below_set (below_set HW7.out (p := ⟨w1.heap.size, i * 3, none⟩) HB1.out.size (.int .i64 x2.cur)) (p := ⟨w1.heap.size, i * 3 + 1, none⟩) HB1.out.size (.int .i64 x2.vote)) (p := ⟨w1.heap.size, i * 3 + 2, none⟩) HB1.out.size (.int .i64 x2.conf))
                        clear hr7 hb7 q0 q1 q2
                        go_wp2
                        go_roundw
                        case rel => exact ⟨m + 1, l.set i x2, by omega, by go_num, HN.out, by have h := HR8.out; rw [List.set_set] at h; exact h.alloc _, below_new HW8.out (by have := HW7.out.size; simpa [World.setCell] using this) _⟩
                        case measure => simp [Go.Lib.intOf]; omega
                · obtain rfl : m = k := by omega
                  have HI := Lib.hid hv.next
                  have HR := Lib.hid hrow
                  have HW := Lib.hid hw
                  clear hv hrow hw
                  go_wp2
                  go_roundw
                  case rel => exact ⟨i + 1, l, by omega, by go_num, HI.out, HR.out, HW.out⟩
                  case measure => simp [Go.Lib.intOf]; omega
            · obtain rfl : i = k := by omega
              have HI := Lib.hid hv.again
              have HR := Lib.hid hrow
              have HW := Lib.hid hw
              clear hv hrow hw
              go_wp2
              go_roundw
              case rel => exact ⟨r + 1, l, by omega, by go_num, HI.out, HR.out, HW.out⟩
              case measure => simp [Go.Lib.intOf]; omega
        · obtain rfl : r = N := by omega
          have HI := Lib.hid hi
          have HR := Lib.hid hrow
          have HW := Lib.hid hw
          clear hi hrow hw
          go_wp2
          go_loopw [13, 14, 113] (fun _ _ j wr => ∃ i : Nat, i ≤ k ∧ j = .int .i64 i ∧ RowAt wr w1.heap.size l ∧ Below W.heap.size W wr) (fun _ _ j _ => k - (Go.Lib.intOf j).toNat)
          case atStart => exact ⟨0, by omega, rfl, HR.out, HW.out⟩
          case round =>
            obtain ⟨i, hik, rfl, hrow, hw⟩ := hrel
            have HR := Lib.hid hrow
            have HW := Lib.hid hw
            by_cases hlti : i < k
            · clear hrow hw
              go_wp2
              go_loopw [14, 117] (fun _ j wr => ∃ m : Nat, m ≤ i ∧ j = .int .i64 m ∧ RowAt wr w1.heap.size l ∧ Below W.heap.size W wr) (fun _ j _ => i - (Go.Lib.intOf j).toNat)
              case atStart => exact ⟨0, by omega, rfl, HR.out, HW.out⟩
              case round =>
                obtain ⟨m, hmi, rfl, hrow, hw⟩ := hrel
                have HR2 := Lib.hid hrow
                have HW2 := Lib.hid hw
                by_cases hltm : m < i
                · obtain ⟨a, ha⟩ : ∃ a, l[i]? = some a := ⟨_, List.getElem?_eq_getElem (by rw [HI.out.len]; exact hlti)⟩
                  obtain ⟨b, hb⟩ : ∃ b, l[m]? = some b := ⟨_, List.getElem?_eq_getElem (by rw [HI.out.len]; omega)⟩
                  have hne := HI.out.apart hN1 hltm ha hb
                  have hq1 : ∀ p : Later wr, p.now.cell? ⟨w1.heap.size, i * 3 + 2, none⟩ = some (.int .i64 a.conf) := fun p => p.cell (HR2.out.at_ ha).1.2.2
                  have hq2 : ∀ p : Later wr, p.now.cell? ⟨w1.heap.size, m * 3 + 2, none⟩ = some (.int .i64 b.conf) := fun p => p.cell (HR2.out.at_ hb).1.2.2
                  have hmk2 : m < k := by omega
                  clear ha hb hrow hw
                  go_wp2
                  refine wp_region_later (by kernel_rfl) (by kernel_rfl) ?_
                  repeat (quiet_step (fail))
                  refine wpQuiet_nil ?_
                  intro _ hw'
                  obtain ⟨pq, hw''⟩ := hw'
                  subst hw''
                  have HR3 := Lib.hid (HR2.out.later pq.below)
                  have HW3 := Lib.hid (HW2.out.trans (pq.below.mono HW2.out.size))
                  go_wp2
                  go_roundw
                  case rel => exact ⟨m + 1, by omega, by go_num, HR3.out, HW3.out⟩
                  case measure => simp [Go.Lib.intOf]; omega
                · obtain rfl : m = i := by omega
                  clear hrow hw
                  go_wp2
                  go_roundw
                  case rel => exact ⟨m + 1, by omega, by go_num, HR2.out, HW2.out⟩
                  case measure => simp [Go.Lib.intOf]; omega
            · obtain rfl : i = k := by omega
              obtain ⟨M, hM⟩ : ∃ M : Nat, i - 1 = M := ⟨_, rfl⟩
              have hM1 : (i : Int) - 1 = (M : Int) := by omega
              have hM2 : M < i := by omega
              obtain ⟨a, ha⟩ : ∃ a, l[M]? = some a := ⟨_, List.getElem?_eq_getElem (by rw [HI.out.len]; exact hM2)⟩
              have hac : a.conf = C := HI.out.last (by rw [hM]; exact ha)
              obtain ⟨⟨k0, k1, k2⟩, _⟩ := hrow.at_ ha
              rw [hac] at k2
              clear hrow hw ha hM
              go_wp2
              go_ret
              exact ⟨rfl, HW.out⟩

set_option maxHeartbeats 1000000 in
theorem partslaw_any (z C : Int) (W : World) : Calls Try.prog 9 #[.int .i64 z, .int .i64 C] W (Says true W) := by
  by_cases hgo : 1 ≤ z ∧ z ≤ 8 ∧ 0 ≤ C ∧ C ≤ 1099511627776
  · obtain ⟨n, rfl⟩ : ∃ n : Nat, z = (n : Int) := ⟨z.toNat, by omega⟩
    exact parts_in n C W (by omega) (by omega) (by omega) (by omega)
  · have hcase : (z < 1) ∨ (decide (z < 1) = false ∧ 8 < z) ∨ (decide (z < 1) = false ∧ decide (8 < z) = false ∧ C < 0) ∨ (decide (z < 1) = false ∧ decide (8 < z) = false ∧ decide (C < 0) = false ∧ 1099511627776 < C) := by
      simp only [decide_eq_false_iff_not]
      omega
    clear hgo
    rcases hcase with g1 | ⟨g1, g2⟩ | ⟨g1, g2, g3⟩ | ⟨g1, g2, g3, g4⟩
    all_goals
      go_enter Try.func9, Try.ntmps9
      go_wp2_with (fail)
      refine (anchor_any _).mono ?_
      rintro e w1 ⟨rfl, hb1⟩
      go_wp2
      go_ret
      exact ⟨rfl, hb1⟩

theorem parts_lifted (os : Os) (started : os.Started) (H : Type) (enc : TypeId × Value → H) :
    ReturnsInHanded {} Try.checked os 9 .any (Rows.epochPartsSpec.pre6 enc Try.prog Try.f9 Rows.epochPartsRow.domain false) (Rows.epochPartsSpec.post enc Try.prog Try.f9 false true false false) := by
  refine returnsInHanded_of_change (C := Try.checked) own started (by kernel_rfl) Try.func9
    (ChangeSpec.witness6 (enc := enc) (C := Try.checked) false ⟨#[], #[.int .i64 0, .int .i64 0], []⟩ 8 (by kernel_rfl) (by kernel_rfl) (by kernel_rfl) (by kernel_rfl)) ?_
  intro W base args ds gs before hval0 hW _ _
  have hval : ∀ (j : Nat) t v, Try.f9.params[j]? = some t → args[j]? = some v → Value.okWide Try.prog W .any base t v := hval0
  have hW' := hW
  obtain ⟨p, q, hA0, hV, rfl, _, _⟩ := hW
  have hA : DataW.TrodAll enc Try.prog W 0 (fun _ => true) true Try.f9.params.toList args.toList ds p := hA0
  rw [Try.params9] at hA hval
  obtain ⟨v0, vs0, d0, ds0, p0, q0, hargs, rfl, rfl, h0, r0⟩ := trodAll_cons hA
  obtain ⟨v1, vs1, d1, ds1, p1, q1, rfl, rfl, rfl, h1, r1⟩ := trodAll_cons r0
  obtain ⟨rfl, rfl, rfl⟩ := trodAll_nil r1
  obtain rfl : args = #[v0, v1] := by cases args; simp_all
  obtain ⟨rfl, rfl⟩ := trodVars_none hV
  obtain ⟨z0, rfl, rfl, rfl, wz0⟩ := open_int Try.underlying3 (hval 0 3 v0 rfl rfl) h0
  obtain ⟨z1, rfl, rfl, rfl, wz1⟩ := open_int Try.underlying3 (hval 1 3 v1 rfl rfl) h1
  clear hA0
  have hk := partslaw_any z0 z1 W
  exact hk.mono fun e W' ⟨he, hb⟩ => ⟨_, he, law_post laid_ok (by kernel_rfl) rfl Try.underlying4 rfl hW' rfl hb⟩

theorem parts_holds : Rows.EpochPartsSaid :=
  OpenClaim.holds_of_wide 9 Try.f9 rfl rfl rfl rfl rfl rfl rfl ⟨rfl, rfl, rfl, rfl, rfl⟩ rfl rfl rfl rfl rfl (by kernel_rfl) Try.func9 (by kernel_rfl)
    (of_decide_eq_true (by kernel_rfl)) (by unfold Func.isWrapper; first | (rw [if_pos (by decide +kernel)]; kernel_rfl) | (rw [if_neg (by decide +kernel)]; exact ⟨rfl, rfl⟩))
    (fun os started H enc _ => parts_lifted os started H enc)
end Go.Proofs.Ytckdibnadokipaa
