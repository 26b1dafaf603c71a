/-
  WHAT IS PROVED: the contract of the law's function that holds a tally's lists against those expected. Condition: the block is a tally; the lists are its voters and those who granted.
-/
import Derived.Test.YtacljdpmcndhdaaArg
namespace Go.Proofs.Ytacljdpmcndhdaa
open Go.RowKit Go.Lib

theorem lt_at {l : List Int} (h : l.Pairwise (· < ·)) {k : Nat} {a b : Int} (ha : l[k]? = some a) (hb : l[k + 1]? = some b) : a < b := by
  obtain ⟨h1, rfl⟩ := List.getElem?_eq_some_iff.1 ha
  obtain ⟨h2, rfl⟩ := List.getElem?_eq_some_iff.1 hb
  exact List.pairwise_iff_getElem.1 h k (k + 1) h1 h2 (by omega)
theorem among_lt {vs gs : List Int} (h : vs.Pairwise (· < ·)) : (among vs gs).Pairwise (· < ·) := h.sublist List.filter_sublist
theorem among_mem {vs gs : List Int} {x : Int} (h : x ∈ among vs gs) : x ∈ gs := by
  unfold among at h
  exact has_iff.1 (List.mem_filter.1 h).2
theorem among_len {vs gs : List Int} (hv : vs.Nodup) (h : Sub vs gs) : (among vs gs).length = gs.length :=
  same_len (hv.sublist List.filter_sublist) h.1 fun x => ⟨among_mem, fun hx => List.mem_filter.2 ⟨h.2 x hx, has_yes hx⟩⟩

set_option maxRecDepth 100000 in
set_option maxHeartbeats 2000000 in
theorem told_law (g b : Nat) (A C : Option Addr) (n c o p : Nat) (vs gs : List Int) (w : World) (h : Ty w g b (sorted vs) gs) (hr : rightB vs = true) (hra : Reads w w.heap.size A n (zints vs)) (hrc : Reads w w.heap.size C o (zints gs)) :
    Calls Try.prog 21 #[.pointer (some ⟨g, 0, none⟩), .slice A n c, .slice C o p] w (Says true w) := by
  have hn := (right_iff.1 hr).2.1
  have hlv := zlen hra
  have hlg := zlen hrc
  have h16 := (right_iff.1 hr).1
  have ho := h.sub.le
  have HLV : Hid ((sorted vs).length = n) := (sorted_len vs).trans hlv
  have HLM : Hid ((among (sorted vs) gs).length = o) := (among_len (sorted_nodup hn) h.sub).trans hlg
  have HMV : Hid (∀ x, x ∈ sorted vs → hasB vs x = true) := fun x hx => has_yes (mem_sorted.1 hx)
  have HMM : Hid (∀ x, x ∈ among (sorted vs) gs → hasB gs x = true) := fun x hx => has_yes (among_mem hx)
  have HSV := Lib.hid (sorted_lt hn)
  have HSM := Lib.hid (among_lt (gs := gs) (sorted_lt hn))
  have HIN : Hid (∀ x, x ∈ sorted vs → -9223372036854775808 ≤ x ∧ x ≤ 9223372036854775807) := fun x hx => ids_in hr x (mem_sorted.1 hx)
  have hn16 : n ≤ 16 := by omega
  have ho16 : o ≤ 16 := by rw [sorted_len] at ho; omega
  have HT := Lib.hid h
  have HRA := Lib.hid hra
  have HRC := Lib.hid hrc
  have KV : Hid (Calls Try.prog 28 #[.pointer (some ⟨g, 0, none⟩)] w (fun e w' => Below w.heap.size w w' ∧ ∃ A c, e = .returned (.slice A n c) ∧ Reads w' w'.heap.size A n (zints (sorted vs)))) := by
    refine (voters_any g b _ gs w h).mono ?_
    rintro e w' ⟨hb, A1, c1, rfl, _, _, hr1⟩
    rw [HLV.out] at hr1
    rw [HLV.out]
    exact ⟨hb, A1, c1, rfl, hr1 _ (.inl (Nat.le_refl _))⟩
  have KM : Hid (∀ w1, Below w.heap.size w w1 → Calls Try.prog 29 #[.pointer (some ⟨g, 0, none⟩)] w1 (fun e w' => Below w1.heap.size w1 w' ∧ ∃ A c, e = .returned (.slice A o c) ∧ Reads w' w'.heap.size A o (zints (among (sorted vs) gs)))) := by
    intro w1 hb1
    refine (told_any g b _ gs w1 (h.below hb1) HIN.out).mono ?_
    rintro e w' ⟨hb, A1, c1, rfl, _, _, hr1⟩
    rw [HLM.out] at hr1
    rw [HLM.out]
    exact ⟨hb, A1, c1, rfl, hr1 _ (.inl (Nat.le_refl _))⟩
  clear h hr hra hrc hn hlv hlg h16 ho HLV HLM HT HIN
  generalize among (sorted vs) gs = M at *
  generalize sorted vs = V at *
  go_enter Try.func21, Try.ntmps21
  go_wp2_with (fail)
  refine KV.out.mono ?_
  rintro e w1 ⟨hb1, A1, c1, rfl, hr1⟩
  go_wp2_with (fail)
  refine (KM.out _ hb1).mono ?_
  rintro e w2 ⟨hb2', A2, c2, rfl, hr2⟩
  have hb2 := hb1.trans (hb2'.mono hb1.size)
  have hr1 := hr1.old hb2' hb2'.size
  have ra := HRA.out.old hb2 hb2.size
  have rc := HRC.out.old hb2 hb2.size
  clear KV KM HRA HRC hb1 hb2'
  go_wp2
  go_loop [31] (fun i => ∃ k : Nat, k ≤ n ∧ i = .int .i64 k) (fun i => n - (intOf i).toNat)
  case atStart => exact ⟨0, by omega, rfl⟩
  case round =>
    obtain ⟨k, hk, rfl⟩ := hrel
    by_cases hlt : k < n
    · obtain ⟨ad, u, rfl, hu, hcell⟩ := hr1.at_ hlt
      obtain ⟨x, hx, rfl⟩ := zints_at hu
      have E1 := Lib.hid (HMV.out x (List.mem_of_getElem? hx))
      clear hu
      rcases Nat.eq_zero_or_pos k with h0 | hpos
      · have hz0 : decide (0 < k) = false := by simp; omega
        clear hx h0
        go_wp2_with (fail)
        refine (has_any A n c vs x _ _ (by omega) ra).mono ?_
        rintro e w4 ⟨rfl, rfl⟩
        rw [E1.out]
        go_wp2
        go_round
        case rel => exact ⟨k + 1, by omega, by go_num⟩
        case measure => simp [intOf]; omega
      · have hz0 : decide (0 < k) = true := by simp; omega
        obtain ⟨ad', u, hadd, hu, hcell2⟩ := hr1.at_ (show k - 1 < n by omega)
        cases hadd
        obtain ⟨y, hy, rfl⟩ := zints_at hu
        have hyx : decide (x ≤ y) = false := by have := lt_at HSV.out hy (by rw [Nat.sub_add_cancel hpos]; exact hx); simpa using this
        clear hx hy hu
        go_wp2_with (fail)
        refine (has_any A n c vs x _ _ (by omega) ra).mono ?_
        rintro e w4 ⟨rfl, rfl⟩
        rw [E1.out]
        go_wp2
        go_round
        case rel => exact ⟨k + 1, by omega, by go_num⟩
        case measure => simp [intOf]; omega
    · obtain rfl : k = n := by omega
      go_wp2
      go_loop [56] (fun i => ∃ k : Nat, k ≤ o ∧ i = .int .i64 k) (fun i => o - (intOf i).toNat)
      case atStart => exact ⟨0, by omega, rfl⟩
      case round =>
        obtain ⟨k, hk, rfl⟩ := hrel
        by_cases hlt : k < o
        · obtain ⟨ad, u, rfl, hu, hcell⟩ := hr2.at_ hlt
          obtain ⟨x, hx, rfl⟩ := zints_at hu
          have E1 := Lib.hid (HMM.out x (List.mem_of_getElem? hx))
          clear hu
          rcases Nat.eq_zero_or_pos k with h0 | hpos
          · have hz0 : decide (0 < k) = false := by simp; omega
            clear hx h0
            go_wp2_with (fail)
            refine (has_any C o p gs x _ _ (by omega) rc).mono ?_
            rintro e w4 ⟨rfl, rfl⟩
            rw [E1.out]
            go_wp2
            go_round
            case rel => exact ⟨k + 1, by omega, by go_num⟩
            case measure => simp [intOf]; omega
          · have hz0 : decide (0 < k) = true := by simp; omega
            obtain ⟨ad', u, hadd, hu, hcell2⟩ := hr2.at_ (show k - 1 < o by omega)
            cases hadd
            obtain ⟨y, hy, rfl⟩ := zints_at hu
            have hyx : decide (x ≤ y) = false := by have := lt_at HSM.out hy (by rw [Nat.sub_add_cancel hpos]; exact hx); simpa using this
            clear hx hy hu
            go_wp2_with (fail)
            refine (has_any C o p gs x _ _ (by omega) rc).mono ?_
            rintro e w4 ⟨rfl, rfl⟩
            rw [E1.out]
            go_wp2
            go_round
            case rel => exact ⟨k + 1, by omega, by go_num⟩
            case measure => simp [intOf]; omega
        · obtain rfl : k = o := by omega
          go_wp2
          go_ret
          exact ⟨rfl, hb2⟩
end Go.Proofs.Ytacljdpmcndhdaa
