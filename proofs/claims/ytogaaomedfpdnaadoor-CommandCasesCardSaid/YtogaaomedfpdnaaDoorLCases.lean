/-
  WHAT IS PROVED: the law CommandCases answers true: the first word may have big and small letters in any mixture; what stands behind it counts letter by letter. Conditions: the library's variables and the program's own hold what is laid there; a key has less than 2^61 bytes; the flips lie in memory.
-/
import Derived.Test.YtogaaomedfpdnaaDoorAn
import Derived.Test.YtogaaomedfpdnaaDoorMx
namespace Go.Proofs.YtogaaomedfpdnaaDoor
set_option maxRecDepth 100000
open Go.RowKit Go.Lib

def bools (fl : List Bool) : List Value := fl.map Value.bool
theorem bools_at {fl : List Bool} {k : Nat} {u : Value} (h : (bools fl)[k]? = some u) : ∃ q, fl[k]? = some q ∧ u = .bool q := by
  unfold bools at h
  rw [List.getElem?_map] at h
  cases e : fl[k]? with
  | none => rw [e] at h; cases h
  | some q => rw [e] at h; injection h with h; exact ⟨q, rfl, h.symm⟩

theorem Reads.setg {w : World} {g n k : Nat} {A : Option Addr} {xs : List Value} {v : Value} (h : Reads w g A n xs) : Reads (w.setCell ⟨g, k, none⟩ v) g A n xs :=
  ⟨h.1, fun hn => by
    obtain ⟨ad, e, hlt, hne, hc⟩ := h.2 hn
    refine ⟨ad, e, by simpa using hlt, hne, fun j u hu => ?_⟩
    exact (World.cell?_of_block (Below.heap_setCell w ⟨g, k, none⟩ v (ad.add j).block (by rw [block_of_add]; exact hne))).trans (hc j u hu)⟩

set_option maxHeartbeats 4000000 in
theorem cases_any (l : Ln) (hl : okL l) (A : Option Addr) (n cap : Nat) (fl : List Bool) (w : World) (hE : Env w) (hR : Reads w w.heap.size A n (bools fl)) (hn : n ≤ 9223372036854775807) :
    Calls Tryd.prog 5 #[.agg (lnA l), .slice A n cap] w (Says true w) := by
  have hlv : lnA l = #[.int .i64 l.k, .int .i64 l.i, .int .u64 (l.s : Int), .string (str l.y)] := rfl
  have hb0 : Below w.heap.size w (w.alloc (.cells #[.int .i64 l.k, .int .i64 l.i, .int .u64 (l.s : Int), .string (str l.y)] 26)) := (Below.refl _ w).alloc (Nat.le_refl _) _
  have HK0 : Hid (Blk (w.alloc (.cells #[.int .i64 l.k, .int .i64 l.i, .int .u64 (l.s : Int), .string (str l.y)] 26)) w.heap.size 26 (lnA l)) := Lib.hid (Blk.new w _ _)
  have HB0 := Lib.hid hb0
  have HE0 := Lib.hid (hE.below hb0)
  have HEW := Lib.hid hE
  have HRW : Hid (∀ g', w.heap.size ≤ g' → Reads w g' A n (bools fl)) := Lib.hid fun g' hg => hR.other hg
  clear hb0 hE
  have hfl : (bools fl).length = n := hR.1
  have hfl2 : fl.length = n := by rw [← hfl]; simp [bools]
  clear hR hfl
  have HT : Hid (∀ W, Env W → Calls Tryd.prog 11 #[.agg #[.int .i64 l.k, .int .i64 l.i, .int .u64 (l.s : Int), .string (str l.y)]] W (GivesT (textC l) W)) := Lib.hid fun W hW => text_any l hl W hW
  have hz4 : (str l.y).size = l.y.length := rfl
  have HFL := Lib.hid hfl2
  clear hfl2
  go_enter Tryd.func5, Tryd.ntmps5
  go_wp2_with (fail)
  refine (anchor_any _ HE0.out).mono ?_
  rintro e1 w1 ⟨rfl, hb1⟩
  have K1 := Lib.hid (HK0.out.below hb1 (by simp))
  have B1 := Lib.hid (HB0.out.trans (hb1.mono HB0.out.size))
  have E1 := Lib.hid (HE0.out.below hb1)
  clear hb1 HK0 HB0 HE0
  have c0 : w1.cell? ⟨w.heap.size, 0, none⟩ = some (.int .i64 l.k) := K1.out.cell 0
  have c1 : w1.cell? ⟨w.heap.size, 1, none⟩ = some (.int .i64 l.i) := K1.out.cell 1
  have c2 : w1.cell? ⟨w.heap.size, 2, none⟩ = some (.int .u64 (l.s : Int)) := K1.out.cell 2
  have c3 : w1.cell? ⟨w.heap.size, 3, none⟩ = some (.string (str l.y)) := K1.out.cell 3
  by_cases hbig : 500 < l.y.length
  · have hd : decide ((500 : Int) < (l.y.length : Int)) = true := decide_eq_true (by omega)
    go_wp2
    go_ret
    exact ⟨rfl, B1.out⟩
  have hd : decide ((500 : Int) < (l.y.length : Int)) = false := decide_eq_false (by omega)
  by_cases hmany : 60 < n
  · have hd2 : decide ((60 : Int) < (n : Int)) = true := decide_eq_true (by omega)
    go_wp2
    go_ret
    exact ⟨rfl, B1.out⟩
  have hd2 : decide ((60 : Int) < (n : Int)) = false := decide_eq_false (by omega)
  go_wp2_with (fail)
  refine (HT.out _ E1.out).mono ?_
  rintro e2 w2 ⟨rfl, hb2⟩
  have K2 := Lib.hid (K1.out.below hb2 K1.out.lt)
  have B2 := Lib.hid (B1.out.trans (hb2.mono B1.out.size))
  have E2 := Lib.hid (E1.out.below hb2)
  clear hb2 K1 B1 E1 c0 c1 c2 c3 HT
  rcases text_two l with ⟨hp, ht⟩ | ⟨hp, ht⟩
  rotate_left 1
  · rw [ht]
    have hq0 : (str ([] : List UInt8)).toList.isEmpty = true := by rw [str_toList]; rfl
    clear hp ht
    go_wp2
    go_ret
    exact ⟨rfl, B2.out⟩
  rw [ht]
  obtain ⟨f, b, blank, hf, hw, hb, hx, hle⟩ := text_form hp
  have HP := Lib.hid (mix_parse hf hb hx hle fl)
  have HLT := Lib.hid (firsts_all f hf).1
  rw [hw]
  clear hp ht hf hw hx
  generalize f.w = a at *
  have hrl : (a ++ rest b blank).length ≤ 8192 := hle
  obtain ⟨cap2, w3, hcv, hby, hb3⟩ := bytes_of w2 (a ++ rest b blank)
  have Y3 : Hid (Bys w3 w2.heap.size (cur fl a (rest b blank) 0)) := Lib.hid (by rw [cur_zero]; exact hby)
  have K3 := Lib.hid (K2.out.below hb3 K2.out.lt)
  have B3 := Lib.hid (B2.out.trans (hb3.mono B2.out.size))
  have hsz : w.heap.size < w2.heap.size := K2.out.lt
  obtain ⟨N, hN⟩ : ∃ N, (a ++ rest b blank).length = N := ⟨_, rfl⟩
  rw [hN] at hcv hrl
  have hgo : a.length ≤ N := by rw [← hN]; simp
  have HEND : Hid ((blank = false ∧ a.length = N) ∨ (blank = true ∧ a.length < N ∧ (rest b blank).head? = some 32)) := Lib.hid (by
    cases blank with
    | false => exact .inl ⟨rfl, by rw [← hN]; simp [rest]⟩
    | true => exact .inr ⟨rfl, by rw [← hN]; simp [rest], rfl⟩)
  have HN := Lib.hid hN
  clear hby hb3 hb hle hN K2 B2 E2
  generalize w2.heap.size = g2 at *
  have R3 := Lib.hid ((HRW.out g2 (by omega)).below B3.out)
  clear HRW
  generalize hr : rest b blank = r at *
  clear hr
  go_wp2
  go_loopw [8, 35] (fun _ i wr => ∃ k : Nat, k ≤ a.length ∧ i = .int .i64 k ∧ Hid (Bys wr g2 (cur fl a r k)) ∧ Hid (Blk wr w.heap.size 26 (lnA l)) ∧ Hid (Below w.heap.size w wr) ∧ Hid (Reads wr g2 A n (bools fl))) (fun _ i _ => a.length - (RowKit.intOf i).toNat)
  case atStart => exact ⟨0, by omega, rfl, Y3, K3, B3, R3⟩
  case round =>
    clear Y3 K3 B3 R3 hcv
    obtain ⟨k, hk, rfl, hy, hkb, hbw, hrd⟩ := hrel
    by_cases hlt : k < a.length
    · have hk0 : (0 : Int) ≤ k := by omega
      have hk1 : (k : Int) < N := by omega
      have hk2 : k < N := by omega
      obtain ⟨c, hc⟩ : ∃ c, a[k]? = some c := ⟨_, List.getElem?_eq_getElem hlt⟩
      have hlet := HLT.out c (List.mem_of_getElem? hc)
      have hcell := hy.out.cell (cur_at (fl := fl) (r := r) hc)
      have hfz := hy.out.frozen (i := k) (by rw [cur_len, HN.out]; exact hk2)
      have hne : ((c.toNat : Int) == 32) = false := by rw [beq_eq_false_iff_ne]; omega
      have HV := Lib.hid (low_val hlet)
      have h1 : (65 : Int) ≤ c.toNat := by omega
      have h2 : (c.toNat : Int) ≤ 90 := by omega
      have HSET : Hid (fl[k]? = some true → ∀ z : Int, z = (c.toNat : Int) + 32 → Bys (wr.setCell ⟨g2, k, none⟩ (.int .u8 z)) g2 (cur fl a r (k + 1))) := Lib.hid fun hf z hz => by
        rw [cur_succ hc, if_pos hf]
        exact hy.out.set_ (hz.trans HV.out.symm) (by rw [cur_len, HN.out]; exact hk2)
      have HSAME : Hid (fl[k]? ≠ some true → Bys wr g2 (cur fl a r (k + 1))) := Lib.hid fun hf => by rw [cur_same hc hf]; exact hy.out
      by_cases hkn : k < n
      · obtain ⟨ad, u, rfl, hu, hcu⟩ := hrd.out.at_ hkn
        obtain ⟨q, hq, rfl⟩ := bools_at hu
        have hd3 : decide ((k : Int) < (n : Int)) = true := decide_eq_true (by omega)
        have hkI : (k : Int) < n := by omega
        cases q with
        | true =>
          have HX := Lib.hid (HSET.out hq)
          have KX : Hid (∀ v, Blk (wr.setCell ⟨g2, k, none⟩ v) w.heap.size 26 (lnA l)) := Lib.hid fun v => hkb.out.far (p := ⟨g2, k, none⟩) (by show w.heap.size ≠ g2; omega) v
          have BX : Hid (∀ v, Below w.heap.size w (wr.setCell ⟨g2, k, none⟩ v)) := Lib.hid fun v => hbw.out.setCell (p := ⟨g2, k, none⟩) (by show w.heap.size ≤ g2; omega) v
          have RX : Hid (∀ v, Reads (wr.setCell ⟨g2, k, none⟩ v) g2 (some ad) n (bools fl)) := Lib.hid fun v => hrd.out.setg
          clear HSET HSAME hu hq hy HV hc
          go_wp2
          go_roundw
          case rel => exact ⟨k + 1, by omega, by go_num, Lib.hid (HX.out _ rfl), Lib.hid (KX.out _), Lib.hid (BX.out _), Lib.hid (RX.out _)⟩
          case measure => simp [RowKit.intOf]; omega
        | false =>
          have HX := Lib.hid (HSAME.out (by rw [hq]; simp))
          clear HSET HSAME hu hq hy HV hc
          go_wp2
          go_roundw
          case rel => exact ⟨k + 1, by omega, by go_num, HX, hkb, hbw, hrd⟩
          case measure => simp [RowKit.intOf]; omega
      · have hd3 : decide ((k : Int) < (n : Int)) = false := decide_eq_false (by omega)
        have HX := Lib.hid (HSAME.out (by rw [List.getElem?_eq_none (by rw [HFL.out]; omega)]; simp))
        clear HSET HSAME hy HV hc
        go_wp2
        go_roundw
        case rel => exact ⟨k + 1, by omega, by go_num, HX, hkb, hbw, hrd⟩
        case measure => simp [RowKit.intOf]; omega
    · obtain rfl : k = a.length := by omega
      have HBB : Hid ((convert 42 9 (.slice (some ⟨g2, 0, none⟩) N cap2)).run Tryd.prog wr = .ok (.string (str (mix fl a ++ r))) wr) := Lib.hid (by
        have h1 := hy.out
        have h2 := bytes_back (h1.reads (g' := g2 + 1) (by omega)) (c := cap2)
        rw [cur_len, HN.out, cur_all] at h2
        exact h2)
      have hb2 := HBB.out
      have hml : (mix fl a ++ r).length ≤ 8192 := by
        have := HN.out
        simp [mix_len] at this ⊢; omega
      have EW := Lib.hid (HEW.out.below hbw.out)
      have HCE : Hid (r.head? = some 32 → wr.cell? ⟨g2, a.length, none⟩ = some (.int .u8 32)) := Lib.hid fun h => hy.out.cell (cur_end (fl := fl) (a := a) h)
      have hsm := same_ln l l
      rw [decide_eq_true (rfl : l = l), hlv] at hsm
      rcases HEND.out with ⟨hbl, hend⟩ | ⟨hbl, hend, hhead⟩
      · have hd3 : decide ((a.length : Int) < (N : Int)) = false := decide_eq_false (by omega)
        have hd4 : ¬ ((a.length : Int) < (N : Int)) := by omega
        clear hend HN HCE hgo
        go_wp2_with (fail)
        refine (cparse_any (mix fl a ++ r) (by omega) _ EW.out).mono ?_
        rintro e4 w4 ⟨rfl, hb4⟩
        rw [HP.out]
        have K4 := Lib.hid (hkb.out.below hb4 hkb.out.lt)
        have B4 := Lib.hid (hbw.out.trans (hb4.mono hbw.out.size))
        clear hb4
        have c0 : ∀ o, (w4.alloc o).cell? ⟨w.heap.size, 0, none⟩ = some (.int .i64 l.k) := fun o => (K4.out.alloc o).cell 0
        have c1 : ∀ o, (w4.alloc o).cell? ⟨w.heap.size, 1, none⟩ = some (.int .i64 l.i) := fun o => (K4.out.alloc o).cell 1
        have c2 : ∀ o, (w4.alloc o).cell? ⟨w.heap.size, 2, none⟩ = some (.int .u64 (l.s : Int)) := fun o => (K4.out.alloc o).cell 2
        have c3 : ∀ o, (w4.alloc o).cell? ⟨w.heap.size, 3, none⟩ = some (.string (str l.y)) := fun o => (K4.out.alloc o).cell 3
        have BO : Hid (∀ o, Below w.heap.size w (w4.alloc o)) := Lib.hid fun o => B4.out.alloc B4.out.size o
        go_wp2
        go_ret
        exact ⟨rfl, BO.out _⟩
      · have hd3 : (a.length : Int) < N := by omega
        have hce := HCE.out hhead
        clear HCE hhead
        go_wp2_with (fail)
        refine (cparse_any (mix fl a ++ r) (by omega) _ EW.out).mono ?_
        rintro e4 w4 ⟨rfl, hb4⟩
        rw [HP.out]
        have K4 := Lib.hid (hkb.out.below hb4 hkb.out.lt)
        have B4 := Lib.hid (hbw.out.trans (hb4.mono hbw.out.size))
        clear hb4
        have c0 : ∀ o, (w4.alloc o).cell? ⟨w.heap.size, 0, none⟩ = some (.int .i64 l.k) := fun o => (K4.out.alloc o).cell 0
        have c1 : ∀ o, (w4.alloc o).cell? ⟨w.heap.size, 1, none⟩ = some (.int .i64 l.i) := fun o => (K4.out.alloc o).cell 1
        have c2 : ∀ o, (w4.alloc o).cell? ⟨w.heap.size, 2, none⟩ = some (.int .u64 (l.s : Int)) := fun o => (K4.out.alloc o).cell 2
        have c3 : ∀ o, (w4.alloc o).cell? ⟨w.heap.size, 3, none⟩ = some (.string (str l.y)) := fun o => (K4.out.alloc o).cell 3
        have BO : Hid (∀ o, Below w.heap.size w (w4.alloc o)) := Lib.hid fun o => B4.out.alloc B4.out.size o
        go_wp2
        go_ret
        exact ⟨rfl, BO.out _⟩
end Go.Proofs.YtogaaomedfpdnaaDoor
