/-
  WHAT IS PROVED: the contract of the law's function that asks whether a list is replicas. Condition: none beyond the argument's reading.
-/
import Derived.Test.YtdeppjoehnlbnaaFns
namespace Go.Proofs.Ytdeppjoehnlbnaa
open Go.RowKit Go.Lib

set_option maxRecDepth 100000 in
set_option maxHeartbeats 4000000 in
theorem right_any (A : Option Addr) (n c : Nat) (l : List Rep) (w : World) (hnc : n ≤ c) (hr : RepsAt w A n l) :
    Calls Try.prog 12 #[.slice A n c] w (Says (rightB l) w) := by
  have hlen := hr.1
  by_cases h16 : n ≤ 16
  · have HG := Lib.hid (right_good (l := l) (by omega))
    have HL := Lib.hid hlen
    clear hlen
    go_enter Try.func12, Try.ntmps12
    go_wp2
    go_loopw [3, 4, 6, 12] (fun _ _ _ i wr => ∃ k : Nat, k ≤ n ∧ i = .int .i64 k ∧ Below w.heap.size w wr ∧ goodB (l.take k) = true) (fun _ _ _ i _ => n - (intOf i).toNat)
    case atStart => exact ⟨0, by omega, rfl, Below.refl _ _, by simpa using good_nil⟩
    case round =>
      obtain ⟨k, hk, rfl, hb, hx⟩ := hrel
      have HK := Lib.hid hx
      clear hx
      by_cases hlt : k < n
      · have hrw := hr.below hb
        obtain ⟨ad, r, rfl, hr0, hadb, c0, c1⟩ := hrw.at_ hlt
        have hkc : k ≤ c := by omega
        have hb1 := (Below.refl wr.heap.size wr).alloc (Nat.le_refl _) (.cells #[.int .i64 r.id, .int .i64 r.off] 29)
        have hb2 : Below w.heap.size w (wr.alloc (.cells #[.int .i64 r.id, .int .i64 r.off] 29)) := hb.trans (hb1.mono hb.size)
        have hrk := (hrw.below hb1).take hk
        have HZ := Lib.hid hr0
        clear hr0
        by_cases h1 : 1 ≤ r.id
        · by_cases h2 : r.id ≤ 4294967296
          · by_cases h3 : 0 ≤ r.off
            · by_cases h4 : r.off ≤ 281474976710656
              · have HO := Lib.hid (ok_iff.2 ⟨h1, h2, h3, h4⟩)
                have b0 : (wr.alloc (.cells #[.int .i64 r.id, .int .i64 r.off] 29)).cell? ⟨wr.heap.size, 0, none⟩ = some (.int .i64 r.id) := by simp
                have hlw : wr.heap.size < (wr.alloc (.cells #[.int .i64 r.id, .int .i64 r.off] 29)).heap.size := by simp
                have HHB := Lib.hid hb2
                have HRK := Lib.hid hrk
                have HB0 : Hid (∀ w2, Below (wr.alloc (.cells #[.int .i64 r.id, .int .i64 r.off] 29)).heap.size (wr.alloc (.cells #[.int .i64 r.id, .int .i64 r.off] 29)) w2 → w2.cell? ⟨wr.heap.size, 0, none⟩ = some (.int .i64 r.id)) := fun w2 h => (h.cell (p := ⟨wr.heap.size, 0, none⟩) hlw).trans b0
                have HRW := Lib.hid hrw
                clear hb hb1 hb2 hrk b0 hlw hrw
                go_wp2
                go_loopw [6, 39] (fun _ j wr2 => ∃ m : Nat, m ≤ k ∧ j = .int .i64 m ∧ Below (wr.alloc (.cells #[.int .i64 r.id, .int .i64 r.off] 29)).heap.size (wr.alloc (.cells #[.int .i64 r.id, .int .i64 r.off] 29)) wr2 ∧ r.id ∉ ids ((l.take k).take m)) (fun _ j _ => k - (intOf j).toNat)
                case atStart => exact ⟨0, by omega, rfl, Below.refl _ _, by simp [ids]⟩
                case round =>
                  obtain ⟨m, hm, rfl, hbi, hxi⟩ := hrel
                  by_cases hlti : m < k
                  · obtain ⟨ad', o, hadd, ho0, _, d0, d1⟩ := (HRK.out.below hbi).at_ hlti
                    cases hadd
                    have b1 := fun ob => HB0.out _ (hbi.trans (((Below.refl _ _).alloc (Nat.le_refl _) ob).mono hbi.size))
                    have hbo := hbi.trans (((Below.refl _ _).alloc (Nat.le_refl _) (.cells #[.int .i64 o.id, .int .i64 o.off] 29)).mono hbi.size)
                    have HBI := Lib.hid (HHB.out.trans (hbo.mono HHB.out.size))
                    have HBO := Lib.hid hbo
                    clear hbo
                    by_cases he : o.id = r.id
                    · have HX : Hid (rightB l = false) := HG.out.trans (bad_twice HZ.out (by rw [← he]; exact mem_ids (List.mem_of_getElem? ho0)))
                      have ht : (o.id == r.id) = true := by simpa using he
                      clear he ho0 hxi hbi
                      go_wp2
                      go_ret
                      exact ⟨by rw [HX.out]; rfl, HBI.out⟩
                    · have HXI : Hid (r.id ∉ ids ((l.take k).take (m + 1))) := by
                        show ¬ _
                        rw [takeR_snoc ho0, ids_append]
                        simp [ids]
                        exact ⟨by simpa [ids] using hxi, fun e => he e.symm⟩
                      have ht : (o.id == r.id) = false := by simpa using he
                      clear he ho0 hxi hbi
                      go_wp2
                      go_roundw
                      case rel => exact ⟨m + 1, by omega, by go_num, HBO.out, HXI.out⟩
                      case measure => simp [intOf]; omega
                  · obtain rfl : m = k := by omega
                    have HX : Hid (goodB (l.take (m + 1)) = true) := good_step HZ.out HK.out HO.out (by rwa [List.take_take, Nat.min_self] at hxi)
                    have HBI := Lib.hid (HHB.out.trans (hbi.mono HHB.out.size))
                    clear hxi hbi
                    go_wp2
                    go_roundw
                    case rel => exact ⟨m + 1, by omega, by go_num, HBI.out, HX.out⟩
                    case measure => simp [intOf]; omega
              · have h5 : 281474976710656 < r.off := by omega
                have HX : Hid (rightB l = false) := HG.out.trans (bad_id HZ.out (ok_no.2 (by omega)))
                clear h4
                go_wp2
                go_ret
                exact ⟨by rw [HX.out]; rfl, hb2⟩
            · have h5 : r.off < 0 := by omega
              have HX : Hid (rightB l = false) := HG.out.trans (bad_id HZ.out (ok_no.2 (by omega)))
              clear h3
              go_wp2
              go_ret
              exact ⟨by rw [HX.out]; rfl, hb2⟩
          · have h5 : 4294967296 < r.id := by omega
            have HX : Hid (rightB l = false) := HG.out.trans (bad_id HZ.out (ok_no.2 (by omega)))
            clear h2
            go_wp2
            go_ret
            exact ⟨by rw [HX.out]; rfl, hb2⟩
        · have h5 : r.id < 1 := by omega
          have HX : Hid (rightB l = false) := HG.out.trans (bad_id HZ.out (ok_no.2 (by omega)))
          clear h1
          go_wp2
          go_ret
          exact ⟨by rw [HX.out]; rfl, hb2⟩
      · obtain rfl : k = n := by omega
        have HX : Hid (rightB l = true) := by
          have h := HK.out
          rw [List.take_of_length_le (by rw [HL.out]; exact Nat.le_refl _)] at h
          exact HG.out.trans h
        go_wp2
        go_ret
        exact ⟨by rw [HX.out]; rfl, hb⟩
  · have HX := Lib.hid (right_long (l := l) (by omega))
    have h17 : 16 < n := by omega
    clear h16 hlen
    go_enter Try.func12, Try.ntmps12
    go_wp2
    go_ret
    exact ⟨by rw [HX.out]; rfl, Below.refl _ _⟩
end Go.Proofs.Ytdeppjoehnlbnaa
