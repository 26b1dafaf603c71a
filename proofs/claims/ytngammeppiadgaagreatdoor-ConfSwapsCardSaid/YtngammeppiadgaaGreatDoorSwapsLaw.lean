/-
  WHAT IS PROVED: the law ConfSwaps answers true: a right text with two neighbours of its lines behind the first swapped is none. Conditions: the library's variables hold what is laid there; the known ones lie in memory.
-/
import Derived.Test.YtngammeppiadgaaGreatDoorUnlike
import Derived.Test.YtngammeppiadgaaGreatDoorSwap
import Derived.BigQuiet
import Derived.RegionTactic
import Derived.ChangeAlike
namespace Go.Proofs.YtngammeppiadgaaGreatDoor
open Go.RowKit C

theorem parse_two {o : Option Dt} {w w' : World} {e : Ending} (h : ParsePost o w e w') : Below w.heap.size w w' ∧ ∃ (sv : Sv) (f : Int), e = .returned (.tuple #[.agg (stv sv), .int .i64 f]) ∧ (o = none → f = 60) := by
  obtain ⟨hb, ⟨d, a, n, c, ho, he, _⟩ | ⟨ho, he⟩⟩ := h
  · exact ⟨hb, mkS d a n c, 0, he, fun h => by rw [ho] at h; cases h⟩
  · exact ⟨hb, Sv.zero, 60, he, fun _ => rfl⟩
theorem swap_len {a b : List UInt8} : ∀ (k : Nat) (Ln : List (List UInt8)), Ln[k]? = some a → Ln[k + 1]? = some b → ((Ln.set k b).set (k + 1) a).flatten.length = Ln.flatten.length
  | _, [], h, _ => by simp at h
  | 0, [x], _, h => by simp at h
  | 0, x :: y :: S, h1, h2 => by
    simp at h1 h2
    subst h1; subst h2
    simp
    omega
  | k + 1, x :: Ln, h1, h2 => by
    have h := swap_len k Ln (by simpa using h1) (by simpa using h2)
    simpa using h
theorem str_get {t : List UInt8} {i : Nat} (h : i < (str t).size) : t[i]? = some (str t)[i] := by
  have : i < t.length := h
  rw [List.getElem?_eq_getElem this]; rfl
theorem byte_no {t : List UInt8} {i : Nat} {k : UInt8} (h : i < (str t).size) (hn : t[i]? ≠ some k) : (((str t)[i].toNat : Int) == (k.toNat : Int)) = false := by
  rw [str_get h] at hn
  simp only [beq_eq_false_iff_ne, ne_eq]
  intro e
  have e2 : (str t)[i].toNat = k.toNat := by omega
  exact hn (by rw [UInt8.toNat_inj.1 e2])
theorem byte_yes {t : List UInt8} {i : Nat} {k : UInt8} (h : i < (str t).size) (hn : t[i]? = some k) : (((str t)[i].toNat : Int) == (k.toNat : Int)) = true := by
  rw [str_get h] at hn
  injection hn with hn
  rw [hn]; simp

/-- where a line begins -/
def off (Ln : List (List UInt8)) (j : Nat) : Nat := (Ln.take j).flatten.length
theorem off_succ {Ln : List (List UInt8)} {j : Nat} {b : List UInt8} (h : Ln[j]? = some b) : off Ln (j + 1) = off Ln j + b.length := by
  unfold off; rw [List.take_add_one, h]; simp
theorem off_all (Ln : List (List UInt8)) : off Ln Ln.length = Ln.flatten.length := by unfold off; rw [List.take_length]
theorem flat_split {Ln : List (List UInt8)} {j : Nat} {b : List UInt8} (h : Ln[j]? = some b) : Ln.flatten = (Ln.take j).flatten ++ (b ++ (Ln.drop (j + 1)).flatten) := by
  obtain ⟨hj, rfl⟩ := List.getElem?_eq_some_iff.1 h
  conv => lhs; rw [← List.take_append_drop j Ln, List.drop_eq_getElem_cons hj]
  rw [List.flatten_append, List.flatten_cons]
theorem line_cut {Ln : List (List UInt8)} {j : Nat} {b : List UInt8} (h : Ln[j]? = some b) : (Ln.flatten.drop (off Ln j)).take b.length = b := by
  rw [flat_split h]
  unfold off
  rw [List.drop_left' rfl, List.take_left' rfl]
theorem line_byte {Ln : List (List UInt8)} {j i : Nat} {b : List UInt8} (h : Ln[j]? = some b) (h1 : off Ln j ≤ i) (h2 : i < off Ln (j + 1)) : Ln.flatten[i]? = b[i - off Ln j]? := by
  rw [off_succ h] at h2
  rw [flat_split h]
  have e : (Ln.take j).flatten.length = off Ln j := rfl
  rw [List.getElem?_append_right (by omega), e, List.getElem?_append_left (by omega)]
theorem line_feed (d : Dt) {j i : Nat} {b : List UInt8} (h : (linesD d)[j]? = some b) (h1 : off (linesD d) j ≤ i) (h2 : i < off (linesD d) (j + 1)) : ((linesD d).flatten[i]? = some 10 ↔ i + 1 = off (linesD d) (j + 1)) := by
  rw [line_byte h h1 h2]
  have h3 := off_succ h
  have hm := List.mem_of_getElem? h
  obtain ⟨b0, hb0, rfl⟩ := List.mem_map.1 hm
  rw [List.length_append, List.length_singleton] at h3
  constructor
  · intro hx
    by_cases hlt : i - off (linesD d) j < b0.length
    · rw [List.getElem?_append_left hlt] at hx
      exact absurd rfl (bodies_no d b0 hb0 10 (List.mem_of_getElem? hx))
    · omega
  · intro hx
    rw [List.getElem?_append_right (by omega), show i - off (linesD d) j - b0.length = 0 by omega]
    rfl
theorem line_pos (d : Dt) {j : Nat} {b : List UInt8} (h : (linesD d)[j]? = some b) : 1 ≤ b.length := by
  obtain ⟨b0, _, rfl⟩ := List.mem_map.1 (List.mem_of_getElem? h)
  simp
theorem off_le (Ln : List (List UInt8)) (j : Nat) : off Ln j ≤ Ln.flatten.length := by
  unfold off
  conv => rhs; rw [← List.take_append_drop j Ln, List.flatten_append, List.length_append]
  omega

set_option maxRecDepth 100000 in
set_option maxHeartbeats 1000000 in
theorem swaps_any (d : Dt) (A : Option Addr) (n c : Nat) (z : Int) (W : World) (hE : Env W) (ha : KnAt W A n d.l) (hn : n ≤ 9223372036854775807) :
    Calls Tryz.prog 8 #[.agg (stv (mkS d A n c)), .int .i64 z] W (Says true W) := by
  obtain ⟨i0, hi0, hz0, hz1, hz2⟩ := info_parts str_info
  have HI : Hid (Tryz.prog.info? 9 = some i0) := hi0
  have HZ0 := Lib.hid hz0
  have HZ1 := Lib.hid hz1
  have HZ2 := Lib.hid hz2
  clear hi0 hz0 hz1 hz2
  have HS := Lib.hid (StAt.new W (mkS d A n c))
  have HB := Lib.hid ((Below.refl W.heap.size W).alloc (Nat.le_refl _) (.cells (stv (mkS d A n c)) 29))
  have HA := Lib.hid (ha.below HB.out)
  have HE := Lib.hid (hE.below HB.out)
  clear ha hE
  go_enter Tryz.func8, Tryz.ntmps8
  go_wp2_with (fail)
  refine (anchor_any _ HE.out).mono ?_
  rintro e1 w1 ⟨rfl, hb1⟩
  have K1 := Lib.hid (HS.out.later hb1)
  have KB := Lib.hid (HB.out.trans (hb1.mono HB.out.size))
  have KA := Lib.hid (HA.out.below hb1)
  have KE := Lib.hid (HE.out.below hb1)
  clear hb1 HS HB HA HE
  go_wp2_with (first | ((with_reducible refine st_load (b := W.heap.size) (s := mkS d A n c) ?_ ?_ ?_ ?_); (rfl); (with_reducible exact K1.out); (rfl)))
  refine (text_d d A n c _ KE.out KA.out hn).mono ?_
  rintro e1 w2 ⟨rfl, hb2⟩
  have LB := Lib.hid (KB.out.trans (hb2.mono KB.out.size))
  have LE := Lib.hid (KE.out.below hb2)
  clear hb2 K1 KB KA KE
  rcases txO_two d with ⟨ok, et⟩ | ⟨ok, et⟩
  · by_cases hz0 : z < 0
    · have hq : decide (z < 0) = true := by simpa using hz0
      rw [et]
      clear et ok
      generalize txD d = T at *
      go_wp2
      go_ret
      exact ⟨rfl, LB.out⟩
    · have hq : decide (z < 0) = false := by simpa using hz0
      rw [et]
      clear et
      have hlen := txD_len ok
      have HSW : Hid (∀ (k : Nat) (a b : List UInt8), 1 ≤ k → (linesD d)[k]? = some a → (linesD d)[k + 1]? = some b → parseD (((linesD d).set k b).set (k + 1) a).flatten = none) := Lib.hid fun k a b h1 h2 h3 => swap_no ok h1 h2 h3
      have HLF : Hid (∀ (j i : Nat) (b : List UInt8), (linesD d)[j]? = some b → off (linesD d) j ≤ i → i < off (linesD d) (j + 1) → ((linesD d).flatten[i]? = some 10 ↔ i + 1 = off (linesD d) (j + 1))) := Lib.hid fun j i b h1 h2 h3 => line_feed d h1 h2 h3
      have HLP : Hid (∀ (j : Nat) (b : List UInt8), (linesD d)[j]? = some b → 1 ≤ b.length) := Lib.hid fun j b h => line_pos d h
      rw [tx_lines] at hlen ⊢
      clear ok
      generalize linesD d = Ln at *
      obtain ⟨T, HT⟩ : ∃ T, Hid (Ln.flatten = T) := ⟨_, Lib.hid rfl⟩
      rw [HT.out] at hlen HLF ⊢
      obtain ⟨L, hL⟩ : ∃ L, T.length = L := ⟨_, rfl⟩
      rw [hL] at hlen
      have hsz : (str T).size = L := hL
      obtain ⟨M, HM⟩ : ∃ M, Hid (Ln.length = M) := ⟨_, Lib.hid rfl⟩
      have HOE : Hid (off Ln M = L) := Lib.hid (by rw [← HM.out, off_all, HT.out]; exact hL)
      have HOL : Hid (∀ j, off Ln j ≤ L) := Lib.hid fun j => by have h := off_le Ln j; rw [HT.out, hL] at h; exact h
      have HOS : Hid (∀ (j : Nat) (b : List UInt8), Ln[j]? = some b → off Ln (j + 1) = off Ln j + b.length) := Lib.hid fun j b h => off_succ h
      have HCU : Hid (∀ (j : Nat) (b : List UInt8), Ln[j]? = some b → (T.drop (off Ln j)).take b.length = b) := Lib.hid fun j b h => by rw [← HT.out]; exact line_cut h
      have HO0 : Hid (off Ln 0 = 0) := Lib.hid rfl
      have HON : Hid (w2.ownsRow w2.heap.size 9 1 (.slice none 0 0) 0 []) := Lib.hid (World.ownsRow_nil w2 _ 9 1)
      have HJO : Hid (∀ j, j ≤ M → j ≤ off Ln j) := Lib.hid fun j => by
        induction j with
        | zero => intro _; omega
        | succ j ih =>
          intro hj
          obtain ⟨b, hb⟩ : ∃ b, Ln[j]? = some b := ⟨_, List.getElem?_eq_getElem (by have := HM.out; omega)⟩
          have h1 := HOS.out j b hb
          have h2 := HLP.out j b hb
          have := ih (by omega)
          omega
      have hM : M ≤ 4029 := by have h1 := HJO.out M (Nat.le_refl _); have h2 := HOL.out M; omega
      clear hz0
      go_wp2
      go_loopw [7, 8, 31] (fun va l i wr => ∃ (j q : Nat), j ≤ M ∧ q ≤ L ∧ i = .int .i64 q ∧ l = .int .i64 (off Ln j) ∧ off Ln j ≤ q ∧ (j = M → q = L) ∧ (j < M → q < off Ln (j + 1)) ∧ Hid (Below w2.heap.size w2 wr) ∧ Hid (wr.ownsRow w2.heap.size 9 1 va j (strV (Ln.take j)))) (fun _ _ i _ => L - (intOf i).toNat)
      case atStart =>
        refine ⟨0, 0, by omega, by omega, rfl, by rw [HO0.out]; rfl, by rw [HO0.out]; omega, ?_, ?_, Lib.hid (Below.refl _ _), HON⟩
        · intro h; rw [← HOE.out, ← h, HO0.out]
        · intro h
          obtain ⟨b, hb⟩ : ∃ b, Ln[0]? = some b := ⟨_, List.getElem?_eq_getElem (by have := HM.out; omega)⟩
          have h1 := HOS.out 0 b hb
          have h2 := HLP.out 0 b hb
          omega
      case round =>
        obtain ⟨j, q, hj, hqL, rfl, rfl, ho1, ho2, ho3, hB, hO⟩ := hrel
        by_cases hqt : q < L
        · have hjM : j < M := by
            rcases Nat.lt_or_ge j M with h | h
            · exact h
            · have := ho2 (by omega); omega
          obtain ⟨line, hline⟩ : ∃ b, Ln[j]? = some b := ⟨_, List.getElem?_eq_getElem (by have := HM.out; omega)⟩
          have HX := Lib.hid (HLF.out j q line hline ho1 (ho3 hjM))
          have hos := HOS.out j line hline
          have hol := HOL.out (j + 1)
          have hps := HLP.out j line hline
          have hqs : q < (str T).size := by omega
          by_cases hb : T[q]? = some 10
          · have hb2 : (((str T)[q].toNat : Int) == 10) = true := byte_yes hqs hb
            have hq1 : q + 1 = off Ln (j + 1) := HX.out.1 hb
            have hcut : (str T).extract (off Ln j) (q + 1) = str line := by rw [str_ext2, show q + 1 - off Ln j = line.length by omega]; rw [HCU.out j line hline]
            have HRN := Lib.hid (reads_new wr 9 [.string (str line)] #[.string (str line)] (wr.heap.size + 1) wr.heap.size 1 rfl rfl rfl (by omega))
            have HTK : Hid (strV (Ln.take (j + 1)) = strV (Ln.take j) ++ [Value.string (str line)]) := Lib.hid (by rw [List.take_add_one, hline]; exact strV_append _ _)
            obtain ⟨h, hh⟩ : ∃ h, q + 1 = h := ⟨_, rfl⟩
            have hi1 : (q : Int) + 1 = (h : Int) := by omega
            rw [hh] at hcut
            have hof : off Ln j ≤ h := by omega
            have hhL : h ≤ L := by omega
            have hbs := hB.out.size
            clear HX hos hol hps
            generalize off Ln j = lo at *
            go_wp2_with (at_builtin; refine wpList_append_cells _ rfl (.tmp 38) (.tmp 44) 47 rfl w2.heap.size 9 i0 _ 16 Tryz.underlying47 HI.out HZ0.out HZ1.out HZ2.out rfl _ _ _ rfl (hO.out.alloc _) _ _ 1 1 [.string (str line)] rfl HRN.out (fun u hu => by simp at hu; subst hu; rfl) (by unfold maxLen; omega) (by omega) (by simp; omega) ?_; intro v' w6 hown' hg3 hob)
            have HB6 : Hid (Below w2.heap.size w2 w6) := Lib.hid ((hB.out.alloc hbs _).grown hg3 (by simp; omega) (fun g e => (hO.out.lt g e).1))
            refine ⟨⟨j + 1, h, by omega, hhL, rfl, by rw [← hh, hq1], by omega, fun e => ?_, fun e => ?_, HB6, Lib.hid (by rw [HTK.out]; exact hown')⟩, by simp [intOf]; omega⟩
            · have h1 := HOE.out
              rw [← e] at h1
              omega
            · obtain ⟨b, hb⟩ : ∃ b, Ln[j + 1]? = some b := ⟨_, List.getElem?_eq_getElem (by have := HM.out; omega)⟩
              have h1 := HOS.out (j + 1) b hb
              have h2 := HLP.out (j + 1) b hb
              omega
          · have hb2 : (((str T)[q].toNat : Int) == 10) = false := byte_no hqs hb
            have hq1 : q + 1 < off Ln (j + 1) := by
              have h1 : ¬ q + 1 = off Ln (j + 1) := fun h => hb (HX.out.2 h)
              have := ho3 hjM
              omega
            go_wp2
            go_roundw
            case rel => exact ⟨j, q + 1, hj, by omega, by go_num, rfl, by omega, fun h => by omega, fun _ => hq1, hB, hO⟩
            case measure => simp [intOf]; omega
        · obtain rfl : M = j := by
            rcases Nat.lt_or_ge j M with h | h
            · have h1 := ho3 h
              have h2 := HOL.out (j + 1)
              omega
            · omega
          have hO2 : wr.ownsRow w2.heap.size 9 1 u7 M (strV Ln) := by
            have h1 := hO.out
            rw [List.take_of_length_le (by have := HM.out; omega)] at h1
            exact h1
          clear hO HJO HOS HCU HO0 HON HLF HLP HOE HOL
          have hqL2 : q = L := by omega
          by_cases hM3 : M < 3
          · obtain ⟨A2, c2, rfl, hc1, hc2, _⟩ := own_reads hO2
            go_wp2
            go_ret
            exact ⟨rfl, LB.out.trans (hB.out.mono LB.out.size)⟩
          · rcases hO2.2 with ⟨_, h0⟩ | ⟨g, cap, cur, rfl, hg, hh, hnc, hcm, hcs, ht⟩
            · omega
            have hG : Hid (Blk wr g 9 cur) := Lib.hid hh
            have hcell : ∀ (j : Nat) (b : List UInt8), Ln[j]? = some b → cur[j]? = some (Value.string (str b)) := fun j b hb => by
              have hu : (strV Ln)[j]? = some (Value.string (str b)) := by unfold strV; rw [List.getElem?_map, hb]; rfl
              rw [← ht, List.getElem?_take] at hu
              split at hu
              · simpa using hu
              · cases hu
            obtain ⟨P, hP⟩ : ∃ P, P + 2 = M := ⟨M - 2, by omega⟩
            have hp : (M : Int) - 2 = (P : Int) := by omega
            have hp0 : ((P : Int) == 0) = false := by simp; omega
            obtain ⟨Z, rfl⟩ := Int.eq_ofNat_of_zero_le (show 0 ≤ z by simpa using hq)
            obtain ⟨K, hK⟩ : ∃ K, Z % P = K := ⟨_, rfl⟩
            have hKP : K < P := by rw [← hK]; exact Nat.mod_lt _ (by omega)
            have hm1 : Int.tmod (Z : Int) (P : Int) = (K : Int) := by rw [← hK]; rfl
            have hm2 : (Z : Int) % (P : Int) = (K : Int) := by rw [← hK]; rfl
            obtain ⟨k, hk⟩ : ∃ k, 1 + K = k := ⟨_, rfl⟩
            have hk2 : (1 : Int) + (K : Int) = (k : Int) := by omega
            obtain ⟨k1, hk1⟩ : ∃ k1, k + 1 = k1 := ⟨_, rfl⟩
            have hk3 : (k : Int) + 1 = (k1 : Int) := by omega
            have hkM : k < M := by omega
            have hk1M : k1 < M := by omega
            obtain ⟨a, ha⟩ : ∃ b, Ln[k]? = some b := ⟨_, List.getElem?_eq_getElem (by have := HM.out; omega)⟩
            obtain ⟨b, hb⟩ : ∃ b, Ln[k1]? = some b := ⟨_, List.getElem?_eq_getElem (by have := HM.out; omega)⟩
            have HPN : Hid (parseD ((Ln.set k b).set k1 a).flatten = none) := Lib.hid (by rw [← hk1]; exact HSW.out k a b (by omega) ha (by rw [hk1]; exact hb))
            have hca : wr.cell? ⟨g, k, none⟩ = some (.string (str a)) := (Blk.cell hG.out k).trans (hcell k a ha)
            have hcb : wr.cell? ⟨g, k1, none⟩ = some (.string (str b)) := (Blk.cell hG.out k1).trans (hcell k1 b hb)
            have hfa : wr.frozen? ⟨g, k, none⟩ = false := Blk.frozen hG.out k
            have hfb : wr.frozen? ⟨g, k1, none⟩ = false := Blk.frozen hG.out k1
            clear hh ht HSW
            have hkk : k ≠ k1 := by omega
            go_upto_region 18 with (fail)
            clear hp hp0 hm1 hm2 hk2
            go_region
            obtain ⟨LS, HLS⟩ : ∃ X, Hid ((Ln.set k b).set k1 a = X) := ⟨_, Lib.hid rfl⟩
            have HLL : Hid (LS.flatten.length = L) := Lib.hid (by
              have h := swap_len k Ln ha (by rw [hk1]; exact hb)
              rw [hk1, HLS.out, HT.out, hL] at h
              exact h)
            have hLM : LS.length = M := by rw [← HLS.out, List.length_set, List.length_set]; exact HM.out
            have HG2 : Hid (Blk (((wr.setCell ⟨g, k, none⟩ (.string (str b))).setCell ⟨g, k1, none⟩ (.string (str a))).drew) g 9 ((cur.setIfInBounds k (.string (str b))).setIfInBounds k1 (.string (str a)))) := Lib.hid ((Blk.set_ (Blk.set_ hG.out k _) k1 _).drew)
            have HC2 : Hid (∀ (j : Nat) (x : List UInt8), LS[j]? = some x → ((wr.setCell ⟨g, k, none⟩ (.string (str b))).setCell ⟨g, k1, none⟩ (.string (str a))).drew.cell? ⟨g, j, none⟩ = some (.string (str x))) := Lib.hid fun j x hx => by
              rw [Blk.cell HG2.out j]
              have e1 := hcell k a ha
              have e2 := hcell k1 b hb
              have l1 : k < cur.size := (Array.getElem?_eq_some_iff.1 e1).1
              have l2 : k1 < cur.size := (Array.getElem?_eq_some_iff.1 e2).1
              rw [← HLS.out] at hx
              rw [Array.getElem?_setIfInBounds, Array.getElem?_setIfInBounds]
              by_cases j1 : k1 = j
              · subst j1
                rw [List.getElem?_set_self (by rw [List.length_set]; have := HM.out; omega)] at hx
                injection hx with hx
                rw [if_pos rfl, if_pos (by simpa using l2), hx]
              · rw [List.getElem?_set_ne j1] at hx
                rw [if_neg j1]
                by_cases j0 : k = j
                · subst j0
                  rw [List.getElem?_set_self (by have := HM.out; omega)] at hx
                  injection hx with hx
                  rw [if_pos rfl, if_pos l1, hx]
                · rw [List.getElem?_set_ne j0] at hx
                  rw [if_neg j0]
                  exact hcell j x hx
            have HB2 : Hid (Below w2.heap.size w2 (((wr.setCell ⟨g, k, none⟩ (.string (str b))).setCell ⟨g, k1, none⟩ (.string (str a))).drew)) := Lib.hid (by have h := below_set (below_set hB.out (p := ⟨g, k, none⟩) hg (.string (str b))) (p := ⟨g, k1, none⟩) hg (.string (str a)); exact ⟨h.os, h.tape, h.output, h.size, h.block⟩)
            rw [HLS.out] at HPN
            generalize ((wr.setCell ⟨g, k, none⟩ (.string (str b))).setCell ⟨g, k1, none⟩ (.string (str a))).drew = w9 at *
            have HE9 := Lib.hid (LE.out.below HB2.out)
            clear HG2 hca hcb hfa hfb hcell hG HLS
            go_wp2
            go_loop [11, 76] (fun s i => ∃ j : Nat, j ≤ M ∧ i = .int .i64 j ∧ s = .string (str (LS.take j).flatten)) (fun _ i => M - (intOf i).toNat)
            case atStart => exact ⟨0, by omega, rfl, rfl⟩
            case round =>
              obtain ⟨j, hj, rfl, rfl⟩ := hrel
              have hof := off_le LS j
              rw [HLL.out] at hof
              by_cases hjt : j < M
              · obtain ⟨x, hx⟩ : ∃ b, LS[j]? = some b := ⟨_, List.getElem?_eq_getElem (by omega)⟩
                have hcx := HC2.out j x hx
                have hos := off_succ hx
                have hol := off_le LS (j + 1)
                rw [HLL.out] at hol
                have HTK : Hid ((LS.take (j + 1)).flatten = (LS.take j).flatten ++ x) := Lib.hid (by rw [List.take_add_one, hx]; simp)
                have hap := S.str_app (LS.take j).flatten x
                have hs1 : (str (LS.take j).flatten).size = off LS j := rfl
                have hs2 : (str x).size = x.length := rfl
                have hno : ¬ 9223372036854775807 < off LS j + x.length := by omega
                rw [← HTK.out] at hap
                obtain ⟨F2, HF2⟩ : ∃ F, Hid ((LS.take (j + 1)).flatten = F) := ⟨_, Lib.hid rfl⟩
                rw [HF2.out] at hap
                clear HTK
                generalize (LS.take j).flatten = F1 at *
                generalize off LS j = o1 at *
                generalize off LS (j + 1) = o2 at *
                obtain ⟨lx, hlx⟩ : ∃ l, x.length = l := ⟨_, rfl⟩
                rw [hlx] at hs2 hno hos
                go_wp2
                exact ⟨⟨j + 1, by omega, by go_num, by rw [HF2.out]⟩, by simp [intOf]; omega⟩
              · obtain rfl : M = j := by omega
                have hfl : (LS.take M).flatten = LS.flatten := by rw [List.take_of_length_le (by omega)]
                rw [hfl]
                go_wp2_with (fail)
                refine (cparse_any LS.flatten (by rw [HLL.out]; omega) _ HE9.out).mono ?_
                rintro e1 w10 h10
                obtain ⟨hb10, sv, f, rfl, hf⟩ := parse_two h10
                obtain rfl : f = 60 := hf HPN.out
                have HBB := Lib.hid (LB.out.trans (HB2.out.mono LB.out.size))
                have OB := Lib.hid ((HBB.out.trans (hb10.mono HBB.out.size)).alloc (Nat.le_trans HBB.out.size hb10.size) (.cells (stv sv) 29))
                clear hb10 hf h10
                go_wp2_with (first | refine st_alloc rfl ?_ | refine st_store_new rfl rfl rfl ?_)
                go_ret
                exact ⟨rfl, OB.out⟩
  · rw [et]
    clear et ok
    by_cases hz0 : z < 0
    · have hq : decide (z < 0) = true := by simpa using hz0
      go_wp2
      go_ret
      exact ⟨rfl, LB.out⟩
    · have hq : decide (z < 0) = false := by simpa using hz0
      go_wp2
      go_ret
      exact ⟨rfl, LB.out⟩
end Go.Proofs.YtngammeppiadgaaGreatDoor
