/-
  WHAT IS PROVED: contracts of the two functions that ask whether a list is replicas. Condition: none beyond the argument's reading.
-/
import Derived.Test.YtdeppjoehnlbnaaFns
namespace Go.Proofs.Ytdeppjoehnlbnaa
open Go.RowKit Go.Lib

set_option maxRecDepth 100000 in
set_option maxHeartbeats 2000000 in
theorem are_any (A : Option Addr) (n c : Nat) (l : List Rep) (w : World) (hnc : n ≤ c) (hr : RepsAt w A n l) :
    Calls Try.prog 17 #[.slice A n c] w (Says (rightB l) w) := by
  have hlen := hr.1
  by_cases h16 : n ≤ 16
  · have HG := Lib.hid (right_good (l := l) (by omega))
    have HL := Lib.hid hlen
    clear hlen
    go_enter Try.func17, Try.ntmps17
    go_wp2
    go_loopw [3, 4, 10] (fun _ _ i wr => ∃ k : Nat, k ≤ n ∧ i = .int .i64 k ∧ Below w.heap.size w wr ∧ goodB (l.take k) = true) (fun _ _ i _ => n - (intOf i).toNat)
    case atStart => exact ⟨0, by omega, rfl, Below.refl _ _, by simpa using good_nil⟩
    case round =>
      obtain ⟨k, hk, rfl, hb, hx⟩ := hrel
      have HK := Lib.hid hx
      clear hx
      by_cases hlt : k < n
      · have hrw := hr.below hb
        obtain ⟨ad, r, rfl, hr0, hadb, c0, c1⟩ := hrw.at_ hlt
        have hkc : k ≤ c := by omega
        have hrk := hrw.take hk
        have HZ := Lib.hid hr0
        have HS := Lib.hid hb.size
        have HB := Lib.hid hb
        have HRK := Lib.hid hrk
        clear hr0 hrk hrw hb
        have hq0 : ∀ p : Later (wr.alloc (.cells #[.int .i64 r.id, .int .i64 r.off] 29)), p.now.cell? ⟨wr.heap.size, 0, none⟩ = some (.int .i64 r.id) := fun p => p.cell (by simp)
        have hq1 : ∀ p : Later (wr.alloc (.cells #[.int .i64 r.id, .int .i64 r.off] 29)), p.now.cell? ⟨wr.heap.size, 1, none⟩ = some (.int .i64 r.off) := fun p => p.cell (by simp)
        have HN : Hid (∀ p : Later (wr.alloc (.cells #[.int .i64 r.id, .int .i64 r.off] 29)), RepsAt p.now (some ad) k (l.take k) ∧ Below w.heap.size w p.now) := fun p =>
          have hb1 := (Below.refl wr.heap.size wr).alloc (Nat.le_refl _) (.cells #[.int .i64 r.id, .int .i64 r.off] 29)
          have hb2 : Below wr.heap.size wr p.now := hb1.trans (p.below.mono (by simp))
          ⟨HRK.out.below hb2, HB.out.trans (hb2.mono HS.out)⟩
        clear HRK HB
        by_cases ho : okB r = true
        · by_cases hi : r.id ∈ ids (l.take k)
          · have HX : Hid (rightB l = false) := HG.out.trans (bad_twice HZ.out hi)
            obtain ⟨z, HP, hz⟩ : ∃ z : Int, Hid (∀ p : Later (wr.alloc (.cells #[.int .i64 r.id, .int .i64 r.off] 29)), Calls Try.prog 21 #[.slice (some ad) k c, .int .i64 r.id] p.now fun e w' => e = .returned (.int .i64 z) ∧ Below p.now.heap.size p.now w') ∧ 0 ≤ z := ⟨_, fun p => place_any _ k _ (l.take k) r.id _ (by omega) (HN.out p).1, place_in hi⟩
            have HO : Hid (∀ W, Calls Try.prog 22 #[vRep r] W (Says true W)) := fun W => by have h := isright_any r W; rwa [ho] at h
            clear ho hi
            go_wp2
            refine wp_region_later (by kernel_rfl) (by kernel_rfl) ?_
            repeat (quiet_step (first | (go_at_call 22; exact Later.calls (HO.out _)) | (go_at_call 21; exact Later.calls (HP.out _))))
            refine wpQuiet_nil ?_
            intro _ hw'
            obtain ⟨pq, hw''⟩ := hw'
            subst hw''
            go_wp2
            go_ret
            exact ⟨by rw [HX.out]; rfl, (HN.out _).2⟩
          · have HX : Hid (goodB (l.take (k + 1)) = true) := good_step HZ.out HK.out ho hi
            have HP : Hid (∀ p : Later (wr.alloc (.cells #[.int .i64 r.id, .int .i64 r.off] 29)), Calls Try.prog 21 #[.slice (some ad) k c, .int .i64 r.id] p.now fun e w' => e = .returned (.int .i64 (-1)) ∧ Below p.now.heap.size p.now w') := fun p => by have h := place_any _ k c (l.take k) r.id _ (by omega) (HN.out p).1; rwa [place_no hi] at h
            have HO : Hid (∀ W, Calls Try.prog 22 #[vRep r] W (Says true W)) := fun W => by have h := isright_any r W; rwa [ho] at h
            clear ho hi
            go_wp2
            refine wp_region_later (by kernel_rfl) (by kernel_rfl) ?_
            repeat (quiet_step (first | (go_at_call 22; exact Later.calls (HO.out _)) | (go_at_call 21; exact Later.calls (HP.out _))))
            refine wpQuiet_nil ?_
            intro _ hw'
            obtain ⟨pq, hw''⟩ := hw'
            subst hw''
            go_wp2
            go_roundw
            case rel => exact ⟨k + 1, by omega, by go_num, (HN.out _).2, HX.out⟩
            case measure => simp [intOf]; omega
        · have ho' : okB r = false := by simpa using ho
          have HX : Hid (rightB l = false) := HG.out.trans (bad_id HZ.out ho')
          have HO : Hid (∀ W, Calls Try.prog 22 #[vRep r] W (Says false W)) := fun W => by have h := isright_any r W; rwa [ho'] at h
          clear ho ho'
          go_wp2
          refine wp_region_later (by kernel_rfl) (by kernel_rfl) ?_
          repeat (quiet_step (first | (go_at_call 22; exact Later.calls (HO.out _)) | fail))
          refine wpQuiet_nil ?_
          intro _ hw'
          obtain ⟨pq, hw''⟩ := hw'
          subst hw''
          go_wp2
          go_ret
          exact ⟨by rw [HX.out]; rfl, (HN.out _).2⟩
      · obtain rfl : k = n := by omega
        have HX : Hid (rightB l = true) := by
          have h := HK.out
          rw [List.take_of_length_le (by rw [HL.out]; exact Nat.le_refl _)] at h
          exact HG.out.trans h
        go_wp2
        go_ret
        exact ⟨by rw [HX.out]; rfl, hb⟩
  · have HX := Lib.hid (right_long (l := l) (by omega))
    have h17 : 16 < n := by omega
    clear h16 hlen
    go_enter Try.func17, Try.ntmps17
    go_wp2
    go_ret
    exact ⟨by rw [HX.out]; rfl, Below.refl _ _⟩
end Go.Proofs.Ytdeppjoehnlbnaa
