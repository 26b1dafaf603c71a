/-
  WHAT IS PROVED: the law ClaimsOrder answers true for all arguments, which read behind the call as before it (claims of unlike epochs come to the same owners in whatever order they are made, and however often; each slot is its greatest claim's). No condition beyond those of the given row.
-/
import Derived.Test.YtkkjciomgcgdiaaBest
import Derived.Test.YtkkjciomgcgdiaaAnchor
import Derived.Test.YtkkjciomgcgdiaaQuiet
import Derived.Laws.Small
namespace Go.Proofs.Ytkkjciomgcgdiaa
open Go.RowKit Go.Lib

/-- one more new variable behind another -/
theorem at_alloc2 {ops : Array Oper} {rest : List Oper} {Q : Exit → Act → World → Prop} {a : Act} {w : World} {dst : Option Tmp} {ty : TypeId} {pos : String} {after : Array Edge} {g : Option (Nat × Bool)} {o : Obj}
    (hw : Region.wanted ⟨dst, .alloc 24, ty, pos, after, g⟩ (yielded ops a.tmps) = true)
    (h : wpList Try.prog ops Q rest (a.put dst (.pointer (some ⟨w.heap.size + 1, 0, none⟩))) ((w.alloc o).alloc (.cells (tb Tab.zero) 24))) : wpList Try.prog ops Q (⟨dst, .alloc 24, ty, pos, after, g⟩ :: rest) a (w.alloc o) :=
  at_alloc hw (by rw [show (w.alloc o).heap.size = w.heap.size + 1 by simp]; exact h)

theorem step_cases (i : Nat) (a : Int × Int) (c : Cl) :
    (c.s.testBit i = false ∧ bestStep i a c = a) ∨ (c.s.testBit i = true ∧ decide (a.2 < c.ep) = false ∧ bestStep i a c = a) ∨ (c.s.testBit i = true ∧ decide (a.2 < c.ep) = true ∧ bestStep i a c = (c.id, c.ep)) := by
  unfold bestStep
  cases h : c.s.testBit i
  · exact .inl ⟨rfl, by rw [if_neg (by simp)]⟩
  · by_cases h2 : a.2 < c.ep
    · exact .inr (.inr ⟨rfl, by simpa using h2, by rw [if_pos ⟨rfl, h2⟩]⟩)
    · exact .inr (.inl ⟨rfl, by simpa using h2, by rw [if_neg (fun h' => h2 h'.2)]⟩)

set_option maxRecDepth 100000 in
set_option maxHeartbeats 4000000 in
/-- what is left behind the two tables -/
theorem order_early (A : Option Addr) (n c : Nat) (l : List Cl) (z : Int) (W : World) (hnc : n ≤ c) (hc : c ≤ 9223372036854775807) (hr : ClsAt W A n l) (h : 20 < n ∨ unlikeB l = false ∨ z < 0) :
    Calls Try.prog 7 #[.slice A n c, .int .i64 z] W (Says true W) := by
  have HR := Lib.hid hr
  have HH := Lib.hid h
  clear hr h
  go_enter Try.func7, Try.ntmps7
  go_wp2_with (fail)
  refine (anchor_any W).mono ?_
  rintro e w1 ⟨rfl, hb1⟩
  have HB1 := Lib.hid hb1
  clear hb1
  by_cases h20 : 20 < n
  · go_wp2
    go_ret
    exact ⟨rfl, HB1.out⟩
  · have h20' : n ≤ 20 := by omega
    obtain ⟨b, HU⟩ : ∃ b, Hid (unlikeB l = b) := ⟨_, Lib.hid rfl⟩
    clear h20
    go_wp2_with (fail)
    refine (unlike_any A n c l _ hnc hc (HR.out.below HB1.out)).mono ?_
    rintro e w2 ⟨rfl, hb2⟩
    rw [HU.out]
    have HB2 := Lib.hid (HB1.out.trans (hb2.mono HB1.out.size))
    clear hb2
    cases b
    · go_wp2
      go_ret
      exact ⟨rfl, HB2.out⟩
    · have hz : z < 0 := by
        rcases HH.out with h | h | h
        · omega
        · rw [HU.out] at h; cases h
        · exact h
      have hz1 : decide (z < 0) = true := by simpa using hz
      clear hz
      go_wp2
      go_ret
      exact ⟨rfl, HB2.out⟩

set_option maxRecDepth 100000 in
set_option maxHeartbeats 8000000 in
theorem order_main (A : Option Addr) (n c : Nat) (l : List Cl) (z : Int) (W : World) (hnc : n ≤ c) (hc : c ≤ 9223372036854775807) (hr : ClsAt W A n l) (hs : ∀ s ∈ l, s.fits) (hn : n ≤ 20) (hu : unlikeB l = true) (hz : 0 ≤ z) :
    Calls Try.prog 7 #[.slice A n c, .int .i64 z] W (Says true W) := by
  obtain ⟨k, hk, hrem⟩ : ∃ k : Nat, k ≤ n ∧ z % ((n : Int) + 1) = (k : Int) :=
    ⟨(z % ((n : Int) + 1)).toNat, by have := Int.emod_lt_of_pos z (show (0 : Int) < (n : Int) + 1 by omega); have := Int.emod_nonneg z (show ((n : Int) + 1) ≠ 0 by omega); omega, by have := Int.emod_nonneg z (show ((n : Int) + 1) ≠ 0 by omega); omega⟩
  obtain ⟨i0, hi0, hz0, hz1, hz2⟩ := info_parts' cl_info
  have HI0 : Hid (Try.prog.info? 28 = some i0) := hi0
  have HZ0 := Lib.hid hz0
  have HZ1 := Lib.hid hz1
  have HZ2 := Lib.hid hz2
  have hz' : decide (z < 0) = false := by simp; omega
  have HR := Lib.hid hr
  have HU := Lib.hid hu
  have HSF := Lib.hid hs
  have HL := Lib.hid hr.1
  have k0 : (0 : Int) ≤ (k : Int) := by omega
  have k1 : (k : Int) ≤ (n : Int) := by omega
  have k2 : (n : Int) ≤ (c : Int) := by omega
  have k3 : (k : Int) ≤ (c : Int) := by omega
  have hn1 : ((n : Int) + 1) ≠ 0 := by omega
  have HM1 := Lib.hid (fun w h => made_any A n c l w hnc hc h hs fun _ hc => unlike_fine hu hc)
  have HM2 := Lib.hid (fun A' m c' w h1 h2 h => made_any A' m c' (l.drop k ++ l) w h1 h2 h (fun s hs' => hs s ((turned_mem s).1 hs')) fun _ hc => unlike_fine hu ((turned_mem _).1 hc))
  have HO1 := Lib.hid (made_owner hu)
  have HO2 := Lib.hid (turned_owner hu k)
  clear hi0 hz0 hz1 hz2 hr hu hs
  go_enter Try.func7, Try.ntmps7
  go_wp2_with (fail)
  refine (anchor_any W).mono ?_
  rintro e w1 ⟨rfl, hb1⟩
  have HB1 := Lib.hid hb1
  clear hb1
  go_wp2_with (fail)
  refine (unlike_any A n c l _ hnc hc (HR.out.below HB1.out)).mono ?_
  rintro e w2 ⟨rfl, hb2⟩
  rw [HU.out]
  have HB2 := Lib.hid (HB1.out.trans (hb2.mono HB1.out.size))
  clear hb2
  have HBA := Lib.hid (below_new HB2.out HB2.out.size (.cells #[] 28))
  have HOWN : Hid ((w2.alloc (.cells #[] 28)).ownsRow W.heap.size 28 3 (.slice (some ⟨w2.heap.size, 0, none⟩) 0 0) 0 (flatC [])) := World.ownsRow_made w2 #[] 0 HB2.out.size (Nat.zero_le _) rfl
  by_cases hck : c = k
  · have HRA := Lib.hid ((HR.out.below HBA.out).cut hk hnc)
    rw [if_pos hck] at HRA
    obtain rfl : n = k := by omega
    obtain rfl : c = n := hck
    rw [Nat.sub_self] at HRA
    go_wp2_with (first
      | (at_builtin; refine wpList_append_cls _ rfl (.tmp 33) (.tmp 36) 42 rfl W.heap.size 28 i0 _ Try.underlying42 HI0.out HZ0.out HZ1.out HZ2.out rfl _ 0 [] rfl HOWN.out A 0 0 (l.drop c) rfl HRA.out (by omega) HBA.out.size ?_; intro v4 w4 hown4 hg4 hv4; clear hv4; rw [Nat.zero_add, List.nil_append] at hown4; have HO4 := Lib.hid hown4; have HB4 := Lib.hid (HBA.out.grown hg4 HBA.out.size (fun j e => (HOWN.out.lt j e).1)); clear hown4 hg4)
      | (at_builtin; refine wpList_append_cls _ rfl (.tmp 37) (.tmp 38) 42 rfl W.heap.size 28 i0 _ Try.underlying42 HI0.out HZ0.out HZ1.out HZ2.out rfl _ _ _ rfl HO4.out A c c l rfl (HR.out.below HB4.out) (by omega) HB4.out.size ?_; intro v5 w5 hown5 hg5 hv5; clear hv5; rw [Nat.zero_add] at hown5; have HB5 := Lib.hid (HB4.out.grown hg5 HB4.out.size (fun j e => (HO4.out.lt j e).1)); obtain ⟨A5, c5, rfl, hc5, hm5, hr5⟩ := own_cls hown5; have HO5 := Lib.hid hr5; clear hown5 hg5 hr5))
    refine (HM1.out _ (HR.out.below HB5.out)).mono ?_
    rintro e w6 ⟨rfl, hb6⟩
    have HB6 := Lib.hid (HB5.out.trans (hb6.mono HB5.out.size))
    have HO6 := Lib.hid (HO5.out.below hb6)
    clear hb6
    go_wp2_with (fail)
    refine (HM2.out A5 _ c5 _ hc5 hm5 HO6.out).mono ?_
    rintro e w7 ⟨rfl, hb7⟩
    have HB7 := Lib.hid (HB6.out.trans (hb7.mono HB6.out.size))
    clear hb7 HOWN HBA HO4 HB4 HO5 HB5 HO6 HB6 HM1 HM2 HRA
    generalize madeT (l.drop c ++ l) = Tb at *
    generalize madeT l = Ta at *
    have K8 : Hid (TabAt ((w7.alloc (.cells (tb Tab.zero) 24)).alloc (.cells (tb Tab.zero) 24)) w7.heap.size Tab.zero) := Lib.hid ((TabAt.new w7 Tab.zero).alloc _)
    have K9 : Hid (∀ cs, TabAt (((w7.alloc (.cells (tb Tab.zero) 24)).alloc (.cells (tb Tab.zero) 24)).setRow w7.heap.size cs) (w7.heap.size + 1) Tab.zero) := Lib.hid (fun cs => TabAt.row_far (by
      have := TabAt.new (w7.alloc (.cells (tb Tab.zero) 24)) Tab.zero
      simpa using this) (by omega) cs)
    have P8 : Hid (TabAt ((((w7.alloc (.cells (tb Tab.zero) 24)).alloc (.cells (tb Tab.zero) 24)).setRow w7.heap.size (tb Ta)).setRow (w7.heap.size + 1) (tb Tb)) w7.heap.size Ta) := Lib.hid ((K8.out.store Ta).row_far (by omega) _)
    have Q8 : Hid (TabAt ((((w7.alloc (.cells (tb Tab.zero) 24)).alloc (.cells (tb Tab.zero) 24)).setRow w7.heap.size (tb Ta)).setRow (w7.heap.size + 1) (tb Tb)) (w7.heap.size + 1) Tb) := Lib.hid ((K9.out _).store Tb)
    have HB8 : Hid (Below W.heap.size W ((((w7.alloc (.cells (tb Tab.zero) 24)).alloc (.cells (tb Tab.zero) 24)).setRow w7.heap.size (tb Ta)).setRow (w7.heap.size + 1) (tb Tb))) := Lib.hid (below_row (below_row (below_new (below_new HB7.out HB7.out.size _) (Nat.le_trans HB7.out.size (by simp)) _) HB7.out.size _) (Nat.le_trans HB7.out.size (Nat.le_succ _)) _)
    go_wp2_with (first | refine at_alloc2 rfl ?_ | refine at_alloc rfl ?_ | (refine at_store (t := Tab.zero) rfl rfl ?_ rfl ?_; with_reducible first | exact K8.out | exact K9.out _))
    generalize (((w7.alloc (.cells (tb Tab.zero) 24)).alloc (.cells (tb Tab.zero) 24)).setRow w7.heap.size (tb Ta)).setRow (w7.heap.size + 1) (tb Tb) = w8 at *
    clear K8 K9
    go_loopw [44] (fun i wr => ∃ j : Nat, j ≤ 64 ∧ i = .int .i64 j ∧ Hid (Below W.heap.size W wr) ∧ Hid (TabAt wr w7.heap.size Ta) ∧ Hid (TabAt wr (w7.heap.size + 1) Tb)) (fun i _ => 64 - (intOf i).toNat)
    case atStart => exact ⟨0, by omega, rfl, HB8, P8, Q8⟩
    case round =>
      obtain ⟨j, hj, rfl, hb, hP, hQ⟩ := hrel
      by_cases hlt : j < 64
      · have hj0 : (0 : Int) ≤ j := by omega
        have hj1 : (j : Int) < 64 := by omega
        obtain ⟨w9, e9⟩ : ∃ w9, wr = w9 := ⟨_, rfl⟩
        rw [e9] at hb hP hQ ⊢
        clear e9
        go_wp2
        go_loopw [10, 11, 49] (fun q1 q2 i wr' => ∃ m : Nat, m ≤ c ∧ i = .int .i64 m ∧ q1 = .int .i64 (bestL j (l.take m)).1 ∧ q2 = .int .i64 (bestL j (l.take m)).2 ∧ Hid (Below w9.heap.size w9 wr')) (fun _ _ i _ => c - (intOf i).toNat)
        case atStart => exact ⟨0, by omega, rfl, rfl, rfl, Lib.hid (Below.refl _ _)⟩
        case round =>
          obtain ⟨m, hm, rfl, rfl, rfl, hb'⟩ := hrel
          have HBW := Lib.hid (hb.out.trans (hb'.out.mono hb.out.size))
          by_cases hmn : m < c
          · obtain ⟨ad, r, rfl, hr0, _, c0, c1, c2⟩ := (HR.out.below HBW.out).at_ hmn
            have HS := Lib.hid (cl_snoc hr0)
            have HBS := Lib.hid (bestL_snoc j (l.take m) r)
            have HRF := Lib.hid (HSF.out r (List.mem_of_getElem? hr0))
            have HSC := Lib.hid (step_cases j (bestL j (l.take m)) r)
            have HH := Lib.hid (has_at (s := r.s) hlt)
            have HB9 := Lib.hid (below_new hb'.out hb'.out.size (.cells #[.int .i64 r.id, .int .i64 r.ep, .int .u64 (r.s : Int)] 28))
            have HX := Lib.hid (Bx.new wr r)
            obtain ⟨f0, f1, f2⟩ := HX.out.box
            clear hr0
            generalize bestL j (l.take m) = a at *
            go_wp2_with (fail)
            refine (has_any r.s HRF.out _ _).mono ?_
            rintro e w10 ⟨rfl, rfl⟩
            rw [HH.out]
            generalize r.s.testBit j = bit at *
            rcases HSC.out with ⟨rfl, hx⟩ | ⟨rfl, h1, hx⟩ | ⟨rfl, h1, hx⟩
            · have HXE := Lib.hid hx
              clear hx HSC
              go_wp2
              go_roundw
              case rel => exact ⟨m + 1, by omega, by go_num, by rw [HS.out, HBS.out, HXE.out], by rw [HS.out, HBS.out, HXE.out], HB9⟩
              case measure => simp [intOf]; omega
            · have HXE := Lib.hid hx
              clear hx HSC
              go_wp2
              go_roundw
              case rel => exact ⟨m + 1, by omega, by go_num, by rw [HS.out, HBS.out, HXE.out], by rw [HS.out, HBS.out, HXE.out], HB9⟩
              case measure => simp [intOf]; omega
            · have HXE := Lib.hid hx
              clear hx HSC
              go_wp2
              go_quiet (fail)
              go_wp2
              go_roundw
              case rel => exact ⟨m + 1, by omega, by go_num, by rw [HS.out, HBS.out, HXE.out], by rw [HS.out, HBS.out, HXE.out], Lib.hid (below_drewN HB9.out nq)⟩
              case measure => simp [intOf]; omega
          · obtain rfl : m = c := by omega
            have e : l.take m = l := List.take_of_length_le (by rw [HL.out]; omega)
            rw [e]
            have hA := (hP.out.later hb'.out).o hlt
            have hB := (hQ.out.later hb'.out).o hlt
            rw [HO1.out j] at hA
            rw [HO2.out j] at hB
            have HP9 := Lib.hid (hP.out.later hb'.out)
            have HQ9 := Lib.hid (hQ.out.later hb'.out)
            generalize (bestL j l).1 = x at hA hB ⊢
            generalize (bestL j l).2 = y
            clear e
            go_wp2
            go_roundw
            case rel => exact ⟨j + 1, by omega, by go_num, HBW, HP9, HQ9⟩
            case measure => simp [intOf]; omega
      · obtain rfl : j = 64 := by omega
        go_wp2
        go_ret
        exact ⟨rfl, hb.out⟩
  · have HRA := Lib.hid ((HR.out.below HBA.out).cut hk hnc)
    rw [if_neg hck] at HRA
    obtain ⟨A4, hA4⟩ : ∃ A4, A.map (fun x => x.add (k * 3)) = A4 := ⟨_, rfl⟩
    rw [hA4] at HRA
    go_wp2_with (first
      | (at_builtin; refine wpList_append_cls _ rfl (.tmp 33) (.tmp 36) 42 rfl W.heap.size 28 i0 _ Try.underlying42 HI0.out HZ0.out HZ1.out HZ2.out rfl _ 0 [] rfl HOWN.out A4 (n - k) (c - k) (l.drop k) rfl HRA.out (by omega) HBA.out.size ?_; intro v4 w4 hown4 hg4 hv4; clear hv4; rw [Nat.zero_add, List.nil_append] at hown4; have HO4 := Lib.hid hown4; have HB4 := Lib.hid (HBA.out.grown hg4 HBA.out.size (fun j e => (HOWN.out.lt j e).1)); clear hown4 hg4)
      | (at_builtin; refine wpList_append_cls _ rfl (.tmp 37) (.tmp 38) 42 rfl W.heap.size 28 i0 _ Try.underlying42 HI0.out HZ0.out HZ1.out HZ2.out rfl _ _ _ rfl HO4.out A n c l rfl (HR.out.below HB4.out) (by omega) HB4.out.size ?_; intro v5 w5 hown5 hg5 hv5; clear hv5; have HB5 := Lib.hid (HB4.out.grown hg5 HB4.out.size (fun j e => (HO4.out.lt j e).1)); obtain ⟨A5, c5, rfl, hc5, hm5, hr5⟩ := own_cls hown5; have HO5 := Lib.hid hr5; clear hown5 hg5 hr5))
    refine (HM1.out _ (HR.out.below HB5.out)).mono ?_
    rintro e w6 ⟨rfl, hb6⟩
    have HB6 := Lib.hid (HB5.out.trans (hb6.mono HB5.out.size))
    have HO6 := Lib.hid (HO5.out.below hb6)
    clear hb6
    go_wp2_with (fail)
    refine (HM2.out A5 _ c5 _ hc5 hm5 HO6.out).mono ?_
    rintro e w7 ⟨rfl, hb7⟩
    have HB7 := Lib.hid (HB6.out.trans (hb7.mono HB6.out.size))
    clear hA4 hb7 HOWN HBA HO4 HB4 HO5 HB5 HO6 HB6 HM1 HM2 HRA
    generalize madeT (l.drop k ++ l) = Tb at *
    generalize madeT l = Ta at *
    have K8 : Hid (TabAt ((w7.alloc (.cells (tb Tab.zero) 24)).alloc (.cells (tb Tab.zero) 24)) w7.heap.size Tab.zero) := Lib.hid ((TabAt.new w7 Tab.zero).alloc _)
    have K9 : Hid (∀ cs, TabAt (((w7.alloc (.cells (tb Tab.zero) 24)).alloc (.cells (tb Tab.zero) 24)).setRow w7.heap.size cs) (w7.heap.size + 1) Tab.zero) := Lib.hid (fun cs => TabAt.row_far (by
      have := TabAt.new (w7.alloc (.cells (tb Tab.zero) 24)) Tab.zero
      simpa using this) (by omega) cs)
    have P8 : Hid (TabAt ((((w7.alloc (.cells (tb Tab.zero) 24)).alloc (.cells (tb Tab.zero) 24)).setRow w7.heap.size (tb Ta)).setRow (w7.heap.size + 1) (tb Tb)) w7.heap.size Ta) := Lib.hid ((K8.out.store Ta).row_far (by omega) _)
    have Q8 : Hid (TabAt ((((w7.alloc (.cells (tb Tab.zero) 24)).alloc (.cells (tb Tab.zero) 24)).setRow w7.heap.size (tb Ta)).setRow (w7.heap.size + 1) (tb Tb)) (w7.heap.size + 1) Tb) := Lib.hid ((K9.out _).store Tb)
    have HB8 : Hid (Below W.heap.size W ((((w7.alloc (.cells (tb Tab.zero) 24)).alloc (.cells (tb Tab.zero) 24)).setRow w7.heap.size (tb Ta)).setRow (w7.heap.size + 1) (tb Tb))) := Lib.hid (below_row (below_row (below_new (below_new HB7.out HB7.out.size _) (Nat.le_trans HB7.out.size (by simp)) _) HB7.out.size _) (Nat.le_trans HB7.out.size (Nat.le_succ _)) _)
    go_wp2_with (first | refine at_alloc2 rfl ?_ | refine at_alloc rfl ?_ | (refine at_store (t := Tab.zero) rfl rfl ?_ rfl ?_; with_reducible first | exact K8.out | exact K9.out _))
    generalize (((w7.alloc (.cells (tb Tab.zero) 24)).alloc (.cells (tb Tab.zero) 24)).setRow w7.heap.size (tb Ta)).setRow (w7.heap.size + 1) (tb Tb) = w8 at *
    clear K8 K9
    go_loopw [44] (fun i wr => ∃ j : Nat, j ≤ 64 ∧ i = .int .i64 j ∧ Hid (Below W.heap.size W wr) ∧ Hid (TabAt wr w7.heap.size Ta) ∧ Hid (TabAt wr (w7.heap.size + 1) Tb)) (fun i _ => 64 - (intOf i).toNat)
    case atStart => exact ⟨0, by omega, rfl, HB8, P8, Q8⟩
    case round =>
      obtain ⟨j, hj, rfl, hb, hP, hQ⟩ := hrel
      by_cases hlt : j < 64
      · have hj0 : (0 : Int) ≤ j := by omega
        have hj1 : (j : Int) < 64 := by omega
        obtain ⟨w9, e9⟩ : ∃ w9, wr = w9 := ⟨_, rfl⟩
        rw [e9] at hb hP hQ ⊢
        clear e9
        go_wp2
        go_loopw [10, 11, 49] (fun q1 q2 i wr' => ∃ m : Nat, m ≤ n ∧ i = .int .i64 m ∧ q1 = .int .i64 (bestL j (l.take m)).1 ∧ q2 = .int .i64 (bestL j (l.take m)).2 ∧ Hid (Below w9.heap.size w9 wr')) (fun _ _ i _ => n - (intOf i).toNat)
        case atStart => exact ⟨0, by omega, rfl, rfl, rfl, Lib.hid (Below.refl _ _)⟩
        case round =>
          obtain ⟨m, hm, rfl, rfl, rfl, hb'⟩ := hrel
          have HBW := Lib.hid (hb.out.trans (hb'.out.mono hb.out.size))
          by_cases hmn : m < n
          · obtain ⟨ad, r, rfl, hr0, _, c0, c1, c2⟩ := (HR.out.below HBW.out).at_ hmn
            have HS := Lib.hid (cl_snoc hr0)
            have HBS := Lib.hid (bestL_snoc j (l.take m) r)
            have HRF := Lib.hid (HSF.out r (List.mem_of_getElem? hr0))
            have HSC := Lib.hid (step_cases j (bestL j (l.take m)) r)
            have HH := Lib.hid (has_at (s := r.s) hlt)
            have HB9 := Lib.hid (below_new hb'.out hb'.out.size (.cells #[.int .i64 r.id, .int .i64 r.ep, .int .u64 (r.s : Int)] 28))
            have HX := Lib.hid (Bx.new wr r)
            obtain ⟨f0, f1, f2⟩ := HX.out.box
            clear hr0
            generalize bestL j (l.take m) = a at *
            go_wp2_with (fail)
            refine (has_any r.s HRF.out _ _).mono ?_
            rintro e w10 ⟨rfl, rfl⟩
            rw [HH.out]
            generalize r.s.testBit j = bit at *
            rcases HSC.out with ⟨rfl, hx⟩ | ⟨rfl, h1, hx⟩ | ⟨rfl, h1, hx⟩
            · have HXE := Lib.hid hx
              clear hx HSC
              go_wp2
              go_roundw
              case rel => exact ⟨m + 1, by omega, by go_num, by rw [HS.out, HBS.out, HXE.out], by rw [HS.out, HBS.out, HXE.out], HB9⟩
              case measure => simp [intOf]; omega
            · have HXE := Lib.hid hx
              clear hx HSC
              go_wp2
              go_roundw
              case rel => exact ⟨m + 1, by omega, by go_num, by rw [HS.out, HBS.out, HXE.out], by rw [HS.out, HBS.out, HXE.out], HB9⟩
              case measure => simp [intOf]; omega
            · have HXE := Lib.hid hx
              clear hx HSC
              go_wp2
              go_quiet (fail)
              go_wp2
              go_roundw
              case rel => exact ⟨m + 1, by omega, by go_num, by rw [HS.out, HBS.out, HXE.out], by rw [HS.out, HBS.out, HXE.out], Lib.hid (below_drewN HB9.out nq)⟩
              case measure => simp [intOf]; omega
          · obtain rfl : m = n := by omega
            have e : l.take m = l := List.take_of_length_le (by rw [HL.out]; omega)
            rw [e]
            have hA := (hP.out.later hb'.out).o hlt
            have hB := (hQ.out.later hb'.out).o hlt
            rw [HO1.out j] at hA
            rw [HO2.out j] at hB
            have HP9 := Lib.hid (hP.out.later hb'.out)
            have HQ9 := Lib.hid (hQ.out.later hb'.out)
            generalize (bestL j l).1 = x at hA hB ⊢
            generalize (bestL j l).2 = y
            clear e
            go_wp2
            go_roundw
            case rel => exact ⟨j + 1, by omega, by go_num, HBW, HP9, HQ9⟩
            case measure => simp [intOf]; omega
      · obtain rfl : j = 64 := by omega
        go_wp2
        go_ret
        exact ⟨rfl, hb.out⟩
theorem orderlaw_any (A : Option Addr) (n c : Nat) (l : List Cl) (z : Int) (W : World) (hnc : n ≤ c) (hc : c ≤ 9223372036854775807) (hr : ClsAt W A n l) (hs : ∀ s ∈ l, s.fits) :
    Calls Try.prog 7 #[.slice A n c, .int .i64 z] W (Says true W) := by
  by_cases h : 20 < n ∨ unlikeB l = false ∨ z < 0
  · exact order_early A n c l z W hnc hc hr h
  · refine order_main A n c l z W hnc hc hr hs (by omega) ?_ (by omega)
    cases e : unlikeB l with
    | true => rfl
    | false => exact absurd (.inr (.inl e)) h
end Go.Proofs.Ytkkjciomgcgdiaa
