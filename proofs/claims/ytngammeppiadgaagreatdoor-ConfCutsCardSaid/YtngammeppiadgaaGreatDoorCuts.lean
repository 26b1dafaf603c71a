/-
  WHAT IS PROVED: the law ConfCuts answers true: a right text that is cut off within a line, or lacks its first line, or has it twice, is none. Conditions: the library's variables hold what is laid there; the known ones lie in memory.
-/
import Derived.Test.YtngammeppiadgaaGreatDoorUnlike
import Derived.Test.YtngammeppiadgaaGreatDoorLen
namespace Go.Proofs.YtngammeppiadgaaGreatDoor
open Go.RowKit C

theorem parse_two {o : Option Dt} {w w' : World} {e : Ending} (h : ParsePost o w e w') : Below w.heap.size w w' ∧ ∃ (sv : Sv) (f : Int), e = .returned (.tuple #[.agg (stv sv), .int .i64 f]) ∧ (o = none → f = 60) := by
  obtain ⟨hb, ⟨d, a, n, c, ho, he, _⟩ | ⟨ho, he⟩⟩ := h
  · exact ⟨hb, mkS d a n c, 0, he, fun h => by rw [ho] at h; cases h⟩
  · exact ⟨hb, Sv.zero, 60, he, fun _ => rfl⟩
theorem str_get {t : List UInt8} {i : Nat} (h : i < (str t).size) : t[i]? = some (str t)[i] := by
  have : i < t.length := h
  rw [List.getElem?_eq_getElem this]; rfl
theorem byte_no {t : List UInt8} {i : Nat} {k : UInt8} (h : i < (str t).size) (hn : t[i]? ≠ some k) : (((str t)[i].toNat : Int) == (k.toNat : Int)) = false := by
  rw [str_get h] at hn
  simp only [beq_eq_false_iff_ne, ne_eq]
  intro e
  have e2 : (str t)[i].toNat = k.toNat := by omega
  exact hn (by rw [UInt8.toNat_inj.1 e2])
theorem byte_yes {t : List UInt8} {i : Nat} {k : UInt8} (h : i < (str t).size) (hn : t[i]? = some k) : (((str t)[i].toNat : Int) == (k.toNat : Int)) = true := by
  rw [str_get h] at hn
  injection hn with hn
  rw [hn]; simp

set_option maxRecDepth 100000 in
set_option maxHeartbeats 1000000 in
theorem cuts_any (d : Dt) (A : Option Addr) (n c : Nat) (z : Int) (W : World) (hE : Env W) (ha : KnAt W A n d.l) (hn : n ≤ 9223372036854775807) :
    Calls Tryz.prog 5 #[.agg (stv (mkS d A n c)), .int .i64 z] W (Says true W) := by
  have HS := Lib.hid (StAt.new W (mkS d A n c))
  have HB := Lib.hid ((Below.refl W.heap.size W).alloc (Nat.le_refl _) (.cells (stv (mkS d A n c)) 29))
  have HA := Lib.hid (ha.below HB.out)
  have HE := Lib.hid (hE.below HB.out)
  clear ha hE
  go_enter Tryz.func5, Tryz.ntmps5
  go_wp2_with (fail)
  refine (anchor_any _ HE.out).mono ?_
  rintro e1 w1 ⟨rfl, hb1⟩
  have K1 := Lib.hid (HS.out.later hb1)
  have KB := Lib.hid (HB.out.trans (hb1.mono HB.out.size))
  have KA := Lib.hid (HA.out.below hb1)
  have KE := Lib.hid (HE.out.below hb1)
  clear hb1 HS HB HA HE
  go_wp2_with (first | ((with_reducible refine st_load (b := W.heap.size) (s := mkS d A n c) ?_ ?_ ?_ ?_); (rfl); (with_reducible exact K1.out); (rfl)))
  refine (text_d d A n c _ KE.out KA.out hn).mono ?_
  rintro e1 w2 ⟨rfl, hb2⟩
  have LB := Lib.hid (KB.out.trans (hb2.mono KB.out.size))
  have LE := Lib.hid (KE.out.below hb2)
  clear hb2 K1 KB KA KE
  rcases txO_two d with ⟨ok, et⟩ | ⟨ok, et⟩
  · by_cases hz0 : z < 0
    · have hq : decide (z < 0) = true := by simpa using hz0
      rw [et]
      clear et ok
      generalize txD d = T at *
      go_wp2
      go_ret
      exact ⟨rfl, LB.out⟩
    · have hq : decide (z < 0) = false := by simpa using hz0
      have hlen := txD_len ok
      have HFI : Hid (txD d = selfB d ++ 10 :: restD d) := Lib.hid (txD_first d)
      have HCI : Hid (∀ n, n ≤ (txD d).length → (n = 0 ∨ (txD d)[n - 1]? ≠ some 10) → parseD ((txD d).take n) = none) := Lib.hid fun n h1 h2 => cut_in d h1 h2
      have HCR := Lib.hid (cut_rest d)
      have HCT := Lib.hid (cut_twice d)
      have HNO := Lib.hid (self_no d)
      rw [et]
      clear et ok
      generalize txD d = T at *
      generalize restD d = R at *
      generalize selfB d = S0 at *
      have hTl : T.length = S0.length + 1 + R.length := by rw [HFI.out]; simp; omega
      have HD : Hid (T.drop (S0.length + 1) = R) := Lib.hid (by rw [HFI.out, show S0 ++ 10 :: R = (S0 ++ [10]) ++ R by simp, List.drop_left' (by simp)])
      have HK : Hid (T.take (S0.length + 1) = S0 ++ [10]) := Lib.hid (by rw [HFI.out, show S0 ++ 10 :: R = (S0 ++ [10]) ++ R by simp, List.take_left' (by simp)])
      have HNE : Hid (∀ k, k < S0.length → T[k]? ≠ some 10) := Lib.hid fun k hk h => by
        rw [HFI.out, List.getElem?_append_left hk] at h
        exact HNO.out 10 (List.mem_of_getElem? h) rfl
      have HEQ : Hid (T[S0.length]? = some 10) := Lib.hid (by rw [HFI.out, List.getElem?_append_right (Nat.le_refl _)]; simp)
      have HRL : Hid (R.length ≤ 100000) := Lib.hid (by omega)
      have HTT : Hid ((S0 ++ [10]) ++ T = S0 ++ 10 :: T ∧ (S0 ++ 10 :: T).length ≤ 100000) := Lib.hid ⟨by simp, by simp; omega⟩
      clear HFI HNO
      obtain ⟨k, rfl⟩ := Int.eq_ofNat_of_zero_le (show 0 ≤ z by omega)
      obtain ⟨L, hL⟩ : ∃ L, T.length = L := ⟨_, rfl⟩
      obtain ⟨fl, hfl⟩ : ∃ fl, S0.length = fl := ⟨_, rfl⟩
      rw [hL, hfl] at hTl
      rw [hL] at hlen
      rw [hfl] at HD HK HNE HEQ
      have hL1 : 1 ≤ L := by omega
      have hflL : fl < L := by omega
      clear hTl
      have hsz : (str T).size = L := hL
      obtain ⟨N, hN⟩ : ∃ N, k % L = N := ⟨_, rfl⟩
      have hNL : N < L := by rw [← hN]; exact Nat.mod_lt _ (by omega)
      have hm1 : Int.tmod (k : Int) (L : Int) = (N : Int) := by rw [← hN]; rfl
      have hm2 : (k : Int) % (L : Int) = (N : Int) := by rw [← hN]; rfl
      have hL0 : ((L : Int) == 0) = false := by simp; omega
      have hx1 := str_ext0 T N
      have HPT : Hid (parseD (T.take N) = none ∨ (0 < N ∧ T[N - 1]? = some 10)) := Lib.hid (by
        by_cases h0 : N = 0
        · exact .inl (HCI.out N (by omega) (.inl h0))
        · by_cases h1 : T[N - 1]? = some 10
          · exact .inr ⟨by omega, h1⟩
          · exact .inl (HCI.out N (by omega) (.inr h1)))
      have hq2 : ((0 : Int) < (L : Int)) := by omega
      clear hN
      go_wp2_with (fail)
      refine (cparse_any (T.take N) (by rw [List.length_take]; omega) _ LE.out).mono ?_
      rintro e1 w3 h3
      obtain ⟨hb3, sv, f, rfl, hf⟩ := parse_two h3
      have HF : Hid (parseD (T.take N) = none → f = 60) := Lib.hid hf
      have MB := Lib.hid ((LB.out.trans (hb3.mono LB.out.size)).alloc (Nat.le_trans LB.out.size hb3.size) (.cells (stv sv) 29))
      have ME := Lib.hid ((LE.out.below hb3).alloc (.cells (stv sv) 29))
      clear hb3 hf h3 LB LE
      go_wp2_with (first | refine st_alloc rfl ?_ | refine st_store_new rfl rfl rfl ?_)
      obtain ⟨w4, hw4⟩ : ∃ w4, w3.alloc (.cells (stv sv) 29) = w4 := ⟨_, rfl⟩
      rw [hw4] at MB ME ⊢
      clear hw4
      go_loop [10] (fun i => ∃ j : Nat, j ≤ fl ∧ i = .int .i64 j) (fun i => fl - (intOf i).toNat)
      case atStart => exact ⟨0, by omega, rfl⟩
      case round =>
        obtain ⟨j, hj, rfl⟩ := hrel
        have hjs : j < (str T).size := by omega
        by_cases hlt : j < fl
        · have hb := byte_no hjs (HNE.out j hlt)
          have hb2 : (((str T)[j].toNat : Int) == 10) = false := hb
          clear hb
          go_wp2
          go_round
          case rel => exact ⟨j + 1, by omega, by go_num⟩
          case measure => simp [intOf]; omega
        · obtain rfl : fl = j := by omega
          have hb2 : (((str T)[fl].toNat : Int) == 10) = true := byte_yes hjs HEQ.out
          have hx2 := str_ext T (fl + 1)
          have hx3 := str_ext0 T (fl + 1)
          rw [HD.out] at hx2
          rw [HK.out] at hx3
          rw [hL] at hx2
          go_wp2_with (fail)
          refine (cparse_any R HRL.out _ ME.out).mono ?_
          rintro e1 w5 h5
          obtain ⟨hb5, sv5, f5, rfl, hf5⟩ := parse_two h5
          obtain rfl : f5 = 60 := hf5 HCR.out
          have NB := Lib.hid ((MB.out.trans (hb5.mono MB.out.size)).alloc (Nat.le_trans MB.out.size hb5.size) (.cells (stv sv5) 29))
          have NE := Lib.hid ((ME.out.below hb5).alloc (.cells (stv sv5) 29))
          clear hb5 hf5 h5 MB ME
          have hsz3 : (str (S0 ++ [10])).size = fl + 1 := by show (S0 ++ [10]).length = _; simp [hfl]
          have hno : ¬ 9223372036854775807 < fl + 1 + L := by omega
          have hap := S.str_app (S0 ++ [10]) T
          rw [HTT.out.1] at hap
          go_wp2_with (first | refine st_alloc rfl ?_ | refine st_store_new rfl rfl rfl ?_)
          obtain ⟨w6, hw6⟩ : ∃ w6, w5.alloc (.cells (stv sv5) 29) = w6 := ⟨_, rfl⟩
          rw [hw6] at NB NE ⊢
          clear hw6
          go_wp2_with (fail)
          refine (cparse_any (S0 ++ 10 :: T) HTT.out.2 _ NE.out).mono ?_
          rintro e1 w7 h7
          obtain ⟨hb7, sv7, f7, rfl, hf7⟩ := parse_two h7
          obtain rfl : f7 = 60 := hf7 HCT.out
          have OB := Lib.hid ((NB.out.trans (hb7.mono NB.out.size)).alloc (Nat.le_trans NB.out.size hb7.size) (.cells (stv sv7) 29))
          clear hb7 hf7 h7 NB NE
          go_wp2_with (first | refine st_alloc rfl ?_ | refine st_store_new rfl rfl rfl ?_)
          · rename_i h10
            go_ret
            refine ⟨?_, OB.out⟩
            simp
          · rename_i hp hr h10
            obtain rfl : f = 60 := HF.out (HPT.out.elim id fun h => absurd (of_decide_eq_true (byte_yes (by omega) h.2)) h10)
            go_ret
            refine ⟨?_, OB.out⟩
            simp
          · rename_i hp
            obtain rfl : f = 60 := HF.out (HPT.out.elim id fun h => absurd h.1 hp)
            go_ret
            exact ⟨rfl, OB.out⟩
  · rw [et]
    clear et ok
    by_cases hz0 : z < 0
    · have hq : decide (z < 0) = true := by simpa using hz0
      go_wp2
      go_ret
      exact ⟨rfl, LB.out⟩
    · have hq : decide (z < 0) = false := by simpa using hz0
      go_wp2
      go_ret
      exact ⟨rfl, LB.out⟩
end Go.Proofs.YtngammeppiadgaaGreatDoor
