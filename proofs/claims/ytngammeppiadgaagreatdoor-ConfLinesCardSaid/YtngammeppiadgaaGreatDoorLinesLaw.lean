/-
  WHAT IS PROVED: the law ConfLines answers true: a right text has a line for the state itself, one for each known node, one for each owner and epoch; each ends with a line feed and none is blank. Conditions: the library's variables hold what is laid there; the known ones lie in memory.
-/
import Derived.Test.YtngammeppiadgaaGreatDoorUnlike
import Derived.Test.YtngammeppiadgaaGreatDoorLines
import Derived.BigQuiet
namespace Go.Proofs.YtngammeppiadgaaGreatDoor
open Go.RowKit C

theorem tb_at (t : Tab) {i : Nat} (h : i < 64) : (tbL t)[i]? = some (.int .i64 (t.o i)) ∧ (tbL t)[64 + i]? = some (.int .i64 (t.e i)) := by
  have e : (tb t).toList = tbL t := rfl
  refine ⟨?_, ?_⟩
  · rw [← e, Array.getElem?_toList]; exact tb_o t h
  · rw [← e, Array.getElem?_toList]; exact tb_e t h
theorem StAt.o {w : World} {b : Nat} {s : Sv} (h : StAt w b s) {i : Nat} (hi : i < 64) : w.cell? ⟨b, 6 + i, none⟩ = some (.int .i64 (s.t.o i)) := (Blk.cell h (6 + i)).trans ((stv_t s i).trans (tb_at s.t hi).1)
theorem StAt.e {w : World} {b : Nat} {s : Sv} (h : StAt w b s) {i : Nat} (hi : i < 64) : w.cell? ⟨b, 70 + i, none⟩ = some (.int .i64 (s.t.e i)) := (Blk.cell h (70 + i)).trans ((show (stv s)[70 + i]? = (stv s)[6 + (64 + i)]? by rw [← Nat.add_assoc]).trans ((stv_t s (64 + i)).trans (tb_at s.t hi).2))
section
variable {ops : Array Oper} {rest : List Oper} {Q : Exit → Act → World → Prop} {a : Act} {w : World} {dst : Option Tmp} {ty : TypeId} {pos : String} {after : Array Edge} {g : Option (Nat × Bool)} {x : Operand} {b : Nat} {s : Sv}
theorem st_owners {f : Nat → Int} (hf : s.t.o = f) (hx : a.eval x = .pointer (some ⟨b, 6, none⟩)) (hT : StAt w b s) (hw : Region.wanted ⟨dst, .load 25 x, ty, pos, after, g⟩ (yielded ops a.tmps) = true)
    (h : wpList Tryz.prog ops Q rest (a.put dst (.agg (row f).toArray)) w) : wpList Tryz.prog ops Q (⟨dst, .load 25 x, ty, pos, after, g⟩ :: rest) a w := by
  subst hf
  exact at_want hw fun _ hK => wp_load_mid 25 x rfl b 6 hx (row s.t.o) _ (row_range fun _ hi => hT.o hi) Tryz.underlying25 rfl (arr_size _) (hK _ _ h)
end

theorem str_get {t : List UInt8} {i : Nat} (h : i < (str t).size) : t[i]? = some (str t)[i] := by
  have : i < t.length := h
  rw [List.getElem?_eq_getElem this]; rfl
theorem byte_no {t : List UInt8} {i : Nat} {k : UInt8} (h : i < (str t).size) (hn : t[i]? ≠ some k) : (((str t)[i].toNat : Int) == (k.toNat : Int)) = false := by
  rw [str_get h] at hn
  simp only [beq_eq_false_iff_ne, ne_eq]
  intro e
  have e2 : (str t)[i].toNat = k.toNat := by omega
  exact hn (by rw [UInt8.toNat_inj.1 e2])
theorem byte_yes {t : List UInt8} {i : Nat} {k : UInt8} (h : i < (str t).size) (hn : t[i]? = some k) : (((str t)[i].toNat : Int) == (k.toNat : Int)) = true := by
  rw [str_get h] at hn
  injection hn with hn
  rw [hn]; simp

set_option maxRecDepth 100000 in
set_option maxHeartbeats 1000000 in
theorem lines_any (d : Dt) (A : Option Addr) (n c : Nat) (W : World) (hE : Env W) (ha : KnAt W A n d.l) (hn : n ≤ 9223372036854775807) :
    Calls Tryz.prog 7 #[.agg (stv (mkS d A n c))] W (Says true W) := by
  have HS := Lib.hid (StAt.new W (mkS d A n c))
  have HB := Lib.hid ((Below.refl W.heap.size W).alloc (Nat.le_refl _) (.cells (stv (mkS d A n c)) 29))
  have HA := Lib.hid (ha.below HB.out)
  have HE := Lib.hid (hE.below HB.out)
  have hla : d.l.length = n := ha.1
  clear ha hE
  go_enter Tryz.func7, Tryz.ntmps7
  go_wp2_with (fail)
  refine (anchor_any _ HE.out).mono ?_
  rintro e1 w1 ⟨rfl, hb1⟩
  have K1 := Lib.hid (HS.out.later hb1)
  have KB := Lib.hid (HB.out.trans (hb1.mono HB.out.size))
  have KA := Lib.hid (HA.out.below hb1)
  have KE := Lib.hid (HE.out.below hb1)
  clear hb1 HS HB HA HE
  have a5' : w1.cell? ⟨W.heap.size, 5, none⟩ = some (.slice A n c) := K1.out.box.2.2.2.2.2
  by_cases hn4 : n ≤ 40
  · have hq1' : decide (40 < (n : Int)) = false := by simp; omega
    go_wp2_with (first | ((with_reducible refine st_load (b := W.heap.size) (s := mkS d A n c) ?_ ?_ ?_ ?_); (rfl); (with_reducible exact K1.out); (rfl)))
    refine (text_d d A n c _ KE.out KA.out hn).mono ?_
    rintro e1 w2 ⟨rfl, hb2⟩
    have LB := Lib.hid (KB.out.trans (hb2.mono KB.out.size))
    have L1 := Lib.hid (K1.out.later hb2)
    clear hb2 K1 KB KA KE a5'
    have b5 : w2.cell? ⟨W.heap.size, 5, none⟩ = some (.slice A n c) := L1.out.box.2.2.2.2.2
    rcases txO_two d with ⟨ok, et⟩ | ⟨ok, et⟩
    · rw [et]
      clear et
      have hlen := txD_len ok
      have hok : okB d.t = true := (ok_parts ok).2.2.2.2.2.2.2.1
      have HX : Hid ((txD d).count 10 = 1 + n + news d.t 64) := Lib.hid (by rw [news_all hok, feeds d, hla])
      have HLF := Lib.hid (last_feed d)
      have HAH : Hid (∀ i : Nat, (txD d)[i]? = some 10 → 0 < i ∧ ∃ x, (txD d)[i - 1]? = some x ∧ x ≠ 10 ∧ x ≠ 32) := Lib.hid fun i h => ahead d h
      clear ok hok
      generalize txD d = T at *
      obtain ⟨L, hL⟩ : ∃ L, T.length = L := ⟨_, rfl⟩
      rw [hL] at hlen HLF
      have hL1 : 1 ≤ L := by
        have h := HLF.out
        have h2 : L - 1 < T.length := by
          rcases Nat.lt_or_ge (L - 1) T.length with h3 | h3
          · exact h3
          · rw [List.getElem?_eq_none h3] at h; cases h
        omega
      have hsz : (str T).size = L := hL
      have HC0 : Hid ((T.take 0).count 10 = 0) := Lib.hid rfl
      have HCS : Hid (∀ (i : Nat) (c : UInt8), T[i]? = some c → (T.take (i + 1)).count 10 = (T.take i).count 10 + if c = 10 then 1 else 0) := Lib.hid fun i c h => count_step h
      have HCL : Hid ((T.take L).count 10 = 1 + n + news d.t 64) := Lib.hid (by rw [← hL, List.take_length]; exact HX.out)
      have HCM : Hid (∀ i : Nat, (T.take i).count 10 ≤ i) := Lib.hid fun i => Nat.le_trans List.count_le_length (by rw [List.length_take]; omega)
      clear HX
      revert HC0 HCS HCL HCM
      generalize hCC : (fun i : Nat => (T.take i).count 10) = C
      have hCC2 : ∀ i, (T.take i).count 10 = C i := fun i => congrFun hCC i
      simp only [hCC2]
      clear hCC hCC2
      intro HC0 HCS HCL HCM
      generalize ht : d.t = t at *
      have HT : Hid ((mkS d A n c).t = t) := Lib.hid ht
      have HTO : Hid ((mkS d A n c).t.o = t.o) := Lib.hid (congrArg Tab.o ht)
      clear ht
      have HNS : Hid (∀ k, news t (k + 1) = news t k + if newTo t k k = true then 1 else 0) := Lib.hid (news_succ t)
      have HN0 : Hid (news t 0 = 0) := Lib.hid rfl
      have HNM : Hid (∀ k, news t k ≤ k) := Lib.hid fun k => by
        have h := List.length_filter_le (fun i => newTo t i i) (List.range k)
        rw [List.length_range] at h
        exact h
      have HM0 : Hid (∀ k, (t.o k != 0) = newTo t k 0) := Lib.hid fun k => by simp [newTo]
      have HMS : Hid (∀ k m, newTo t k (m + 1) = (newTo t k m && ((t.o m != t.o k) || (t.e m != t.e k)))) := Lib.hid (newTo_succ t)
      revert HNS HN0 HNM HM0 HMS HCL
      generalize news t = U
      generalize newTo t = N
      intro HCL HNS HN0 HNM HM0 HMS
      go_wp2_with (first | (refine st_owners (f := t.o) (b := W.heap.size) (s := mkS d A n c) HTO.out rfl L1.out rfl ?_))
      clear b5
      go_loopw [5, 34] (fun q i wr => ∃ k : Nat, k ≤ 64 ∧ i = .int .i64 k ∧ q = .int .i64 (((1 + n + U k : Nat)) : Int) ∧ Hid (Below W.heap.size W wr) ∧ Hid (StAt wr W.heap.size (mkS d A n c))) (fun _ i _ => 64 - (intOf i).toNat)
      case atStart => exact ⟨0, by omega, rfl, by rw [HN0.out]; go_num, LB, L1⟩
      case round =>
        obtain ⟨k, hk, rfl, rfl, hB, hS⟩ := hrel
        obtain ⟨w8, hw8⟩ : ∃ x, x = wr := ⟨_, rfl⟩
        have hUk := HNM.out k
        by_cases hlt : k < 64
        · have hidx := index_row t.o hlt
          have h0 := HM0.out k
          go_wp2
          go_loopw [8, 41] (fun f i wr => ∃ m : Nat, m ≤ k ∧ i = .int .i64 m ∧ f = .bool (N k m) ∧ Hid (Below W.heap.size W wr) ∧ Hid (StAt wr W.heap.size (mkS d A n c))) (fun _ i _ => k - (intOf i).toNat)
          case atStart => exact ⟨0, by omega, rfl, rfl, hB, hS⟩
          case round =>
            clear hB hS
            obtain ⟨m, hm, rfl, rfl, hB, hS⟩ := hrel
            by_cases hmt : m < k
            · have hm64 : m < 64 := by omega
              have HN := HMS.out k m
              have hom : wr.cell? ⟨W.heap.size, 6 + m, none⟩ = some (.int .i64 (t.o m)) := by have h := hS.out.o hm64; rwa [HT.out] at h
              have hem : wr.cell? ⟨W.heap.size, 70 + m, none⟩ = some (.int .i64 (t.e m)) := by have h := hS.out.e hm64; rwa [HT.out] at h
              have hek : wr.cell? ⟨W.heap.size, 70 + k, none⟩ = some (.int .i64 (t.e k)) := by have h := hS.out.e hlt; rwa [HT.out] at h
              have HND : Hid (N k (m + 1) = (N k m && ((t.o m != t.o k) || (t.e m != t.e k)))) := Lib.hid HN
              clear HN
              have hm0 : (0 : Int) ≤ m := by omega
              have hm1 : (m : Int) < 64 := by omega
              have hk0 : (0 : Int) ≤ k := by omega
              have hk1 : (k : Int) < 64 := by omega
              cases hb : N k m
              · go_wp2
                go_quiet (fail)
                have HNZ : Hid (N k (m + 1) = false) := Lib.hid (by rw [HND.out, hb]; simp)
                have HB4 := Lib.hid (below_drewN hB.out nq)
                have HS4 : Hid (StAt (wr.drewN nq) W.heap.size (mkS d A n c)) := Lib.hid hS.out
                go_wp2
                go_round
                case rel => exact ⟨m + 1, by omega, by go_num, by rw [HNZ.out], HB4, HS4⟩
                case measure => simp [intOf]; omega
              · cases ho : (t.o m != t.o k)
                · go_wp2
                  go_quiet (fail)
                  have HNZ : Hid (N k (m + 1) = (t.e m != t.e k)) := Lib.hid (by rw [HND.out, hb, ho]; simp)
                  have HB4 := Lib.hid (below_drewN hB.out nq)
                  have HS4 : Hid (StAt (wr.drewN nq) W.heap.size (mkS d A n c)) := Lib.hid hS.out
                  go_wp2
                  go_round
                  case rel => exact ⟨m + 1, by omega, by go_num, by rw [HNZ.out], HB4, HS4⟩
                  case measure => simp [intOf]; omega
                · go_wp2
                  go_quiet (fail)
                  have HNZ : Hid (N k (m + 1) = true) := Lib.hid (by rw [HND.out, hb, ho]; simp)
                  have HB4 := Lib.hid (below_drewN hB.out nq)
                  have HS4 : Hid (StAt (wr.drewN nq) W.heap.size (mkS d A n c)) := Lib.hid hS.out
                  go_wp2
                  go_round
                  case rel => exact ⟨m + 1, by omega, by go_num, by rw [HNZ.out], HB4, HS4⟩
                  case measure => simp [intOf]; omega
            · obtain rfl : k = m := by omega
              have HNX := HNS.out k
              cases hb : N k k
              · rw [hb] at HNX
                have HNY : Hid (U (k + 1) = U k) := Lib.hid (by simpa using HNX)
                clear HNX
                go_wp2
                go_round
                case rel => exact ⟨k + 1, by omega, by go_num, by rw [HNY.out], hB, hS⟩
                case measure => simp [intOf]; omega
              · rw [hb] at HNX
                have HNY : Hid (U (k + 1) = U k + 1) := Lib.hid (by simpa using HNX)
                clear HNX
                go_wp2
                go_round
                case rel => exact ⟨k + 1, by omega, by go_num, by rw [HNY.out]; go_num, hB, hS⟩
                case measure => simp [intOf]; omega
        · have hdec : decide ((k : Int) < 64) = false := by simp; omega
          have HCK : Hid (C L = 1 + n + U k) := Lib.hid (by rw [show k = 64 by omega]; exact HCL.out)
          have hXb : 1 + n + U k ≤ 105 := by omega
          clear HCL hUk
          generalize 1 + n + U k = X at *
          go_wp2
          go_loop [10, 74] (fun q i => ∃ j : Nat, j ≤ L ∧ i = .int .i64 j ∧ q = .int .i64 ((C j : Nat) : Int)) (fun _ i => L - (intOf i).toNat)
          case atStart => exact ⟨0, by omega, rfl, by rw [HC0.out]; rfl⟩
          case round =>
            obtain ⟨j, hj, rfl, rfl⟩ := hrel
            have hCj := HCM.out j
            by_cases hjt : j < L
            · have hjs : j < (str T).size := by omega
              have HJ := Lib.hid (HCS.out j _ (str_get hjs))
              by_cases hb : T[j]? = some 10
              · have hb2 : (((str T)[j].toNat : Int) == 10) = true := byte_yes hjs hb
                have HCN : Hid (C (j + 1) = C j + 1) := Lib.hid (by
                  rw [str_get hjs] at hb
                  injection hb with hb
                  rw [HJ.out, if_pos hb])
                obtain ⟨hj0, x, hx, hx1, hx2⟩ := HAH.out j hb
                have hjp : j - 1 < (str T).size := by omega
                have g1 : (((str T)[j - 1].toNat : Int) == 10) = false := byte_no hjp (k := 10) (by rw [hx]; intro h; injection h with h; exact hx1 h)
                have g2 : (((str T)[j - 1].toNat : Int) == 32) = false := byte_no hjp (k := 32) (by rw [hx]; intro h; injection h with h; exact hx2 h)
                have hz : ((j : Int) == 0) = false := by simp; omega
                clear HJ hx
                go_wp2
                go_round
                case rel => exact ⟨j + 1, by omega, by go_num, by rw [HCN.out]; go_num⟩
                case measure => simp [intOf]; omega
              · have hb2 : (((str T)[j].toNat : Int) == 10) = false := byte_no hjs hb
                have HCN : Hid (C (j + 1) = C j) := Lib.hid (by
                  rw [str_get hjs] at hb
                  rw [HJ.out, if_neg (fun h => hb (by rw [h]))]
                  rfl)
                clear HJ
                go_wp2
                go_round
                case rel => exact ⟨j + 1, by omega, by go_num, by rw [HCN.out]⟩
                case measure => simp [intOf]; omega
            · obtain rfl : L = j := by omega
              rw [HCK.out]
              have hLs : L - 1 < (str T).size := by omega
              have g1 : (((str T)[L - 1].toNat : Int) == 10) = true := byte_yes hLs HLF.out
              have g2 : decide ((L : Int) < 8192) = true := by simp; omega
              go_wp2
              go_ret
              exact ⟨rfl, hB.out⟩
    · rw [et]
      clear et ok
      have hem : (str ([] : List UInt8)).toList.isEmpty = true := by rw [str_toList]; rfl
      go_wp2
      go_ret
      refine ⟨?_, LB.out⟩
      simp
  · have hq1' : decide (40 < (n : Int)) = true := by simp; omega
    go_wp2
    go_ret
    exact ⟨rfl, KB.out⟩
end Go.Proofs.YtngammeppiadgaaGreatDoor
