/-
  WHAT IS PROVED: the contract of the document's reader of lines. Condition: the text's size.
-/
import Derived.Test.YtogaaomedfpdnaaDoorLn
import Derived.Test.YtogaaomedfpdnaaDoorRn
import Derived.Test.YtogaaomedfpdnaaDoorSRefParse
import Derived.Test.YtogaaomedfpdnaaDoorSFl2
import Derived.Deep.WholeRow
namespace Go.Proofs.YtogaaomedfpdnaaDoor
set_option maxRecDepth 100000
open Go.RowKit

def NoR (u : List UInt8) (k : Nat) : Prop := ∀ j : Nat, 1 ≤ j → j < k → (ofK j).w = [] ∨ (ofK j).w ≠ u
theorem noR_end {u : List UInt8} (h : NoR u 17) : inW u = none := by
  cases hw : inW u with
  | none => rfl
  | some f =>
    exfalso
    obtain ⟨hf, hu⟩ := inW_mem hw
    obtain ⟨_, _, hk, _, hne, _, h1, h16⟩ := firsts_all f hf
    have hcast : ((f.k.toNat : Nat) : Int) = f.k := Int.toNat_of_nonneg (by omega)
    have := h f.k.toNat (by omega) (by omega)
    rw [hcast, hk] at this
    rcases this with h2 | h2
    · exact hne h2
    · exact h2 hu
theorem noR_succ {u : List UInt8} {k : Nat} (h : NoR u k) (h2 : (ofK k).w = [] ∨ (ofK k).w ≠ u) : NoR u (k + 1) := fun j h1 hj => by
  rcases Nat.lt_or_ge j k with h3 | h3
  · exact h j h1 h3
  · obtain rfl : j = k := by omega
    exact h2
theorem refP_two (b : List UInt8) : ((S.refParse b).isSome = false ∧ (S.parseP b).2 ≠ 0) ∨ ((S.refParse b).isSome = true ∧ S.parseP b = (S.refSet b, 0)) := by
  cases hp : S.refParse b with
  | none => exact .inl ⟨rfl, by rw [S.parse_none hp]; decide⟩
  | some L => rw [S.refSet_some hp]; exact .inr ⟨rfl, (S.parse_some hp).1⟩
theorem lineC_0 {f : Fw} (h : f.a = 0) (b : List UInt8) (bl : Bool) : lineC f b bl = if bl = true then none else some ⟨f.k, 0, 0, []⟩ := by unfold lineC; rw [h]; rfl
theorem lineC_1 {f : Fw} (h : f.a = 1) (b : List UInt8) (bl : Bool) : lineC f b bl = if refN b < 0 then none else some ⟨f.k, refN b, 0, []⟩ := by
  unfold lineC
  rw [h, if_pos rfl, refN_num]
  by_cases h2 : refN b < 0
  · rw [if_pos h2, if_pos h2]
  · rw [if_neg h2, if_neg h2]
theorem lineC_2 {f : Fw} (h : f.a = 2) (b : List UInt8) (bl : Bool) : lineC f b bl = if (S.parseP b).2 = 0 ∧ (S.parseP b).1 ≠ 0 then some ⟨f.k, 0, (S.parseP b).1, []⟩ else none := by unfold lineC; rw [h]; rfl
theorem lineC_3 {f : Fw} (h : f.a = 3) (b : List UInt8) (bl : Bool) : lineC f b bl = if bl = true then some ⟨f.k, 0, 0, b⟩ else none := by unfold lineC; rw [h]; rfl
theorem refN_nil : refN [] = -1 := rfl

set_option maxHeartbeats 4000000 in
theorem rparse_no (t a : List UInt8) (hf : t = a) (ha : ∀ x ∈ a, x ≠ 32) (ht : t.length ≤ 8192) (w : World) :
    Calls Tryd.prog 9 #[.string (str t)] w (GivesL (lineT a [] false) w) := by
  have hz : (str t).size = t.length := rfl
  have hx0 : (str t).extract 0 a.length = str a := by rw [str_ext0, hf]; simp
  subst hf
  have HT : Hid (∀ k, k < t.length → ∀ c, t[k]? = some c → c ≠ 32) := Lib.hid fun k hk c hc => ha c (List.mem_of_getElem? hc)
  have hal : t.length ≤ t.length := by omega
  have hq : decide ((8192 : Int) < (t.length : Int)) = false := decide_eq_false (by omega)
  have HR0 : Hid (Blk (w.alloc (.cells (lnA Ln.zero) 31)) w.heap.size 31 (lnA Ln.zero)) := Lib.hid (Blk.new w _ _)
  have HB0 : Hid (Below w.heap.size w (w.alloc (.cells (lnA Ln.zero) 31))) := Lib.hid ((Below.refl _ w).alloc (Nat.le_refl _) _)
  have HAK : Hid (∀ (v : List UInt8) (W : World), Calls Tryd.prog 17 #[.string (str t), .string (str v)] W (fun e w' => e = .returned (.bool (decide (up t = v))) ∧ W = w')) := Lib.hid fun v W => alike_any t v (by omega) W
  obtain ⟨R, hR⟩ : ∃ R, lineT t [] false = R := ⟨_, rfl⟩
  have HNO : Hid (inW (up t) = none → R = (Ln.zero, 61)) := Lib.hid fun h => by rw [← hR]; unfold lineT; simp only [h]
  have HYES : Hid (∀ f, inW (up t) = some f → R = match lineC f [] false with | none => (Ln.zero, 62) | some l => (l, 0)) := Lib.hid fun f h => by rw [← hR]; unfold lineT; simp only [h]; cases lineC f [] false <;> rfl
  rw [hR]
  clear hR  ha
  generalize up t = u at *
  go_enter Tryd.func9, Tryd.ntmps9
  go_wp2
  go_loopw [4] (fun e wr => ∃ k : Nat, k ≤ t.length ∧ e = .int .i64 k ∧ Hid (Blk wr w.heap.size 31 (lnA Ln.zero)) ∧ Hid (Below w.heap.size w wr)) (fun e _ => t.length - (RowKit.intOf e).toNat)
  case atStart => exact ⟨0, by omega, rfl, HR0, HB0⟩
  case round =>
    obtain ⟨k, hk, rfl, hr, hbw⟩ := hrel
    by_cases hlt : k < t.length
    · have hk1 : k < (str t).size := by omega
      have hk2 : k < t.length := by omega
      have hkI : (k : Int) < t.length := by omega
      have hk0 : (0 : Int) ≤ k := by omega
      have g := str_get hk1
      have hne : (((str t)[k].toNat : Int) != 32) = true := by
        rw [bne_iff_ne]
        intro e
        exact HT.out k hlt _ g (UInt8.toNat_inj.1 (by show (str t)[k].toNat = 32; omega))
      clear g
      go_wp2
      go_roundw
      case rel => exact ⟨k + 1, by omega, by go_num, hr, hbw⟩
      case measure => simp [RowKit.intOf]; omega
    · obtain rfl : k = t.length := by omega
      have hs2 : decide ((t.length : Int) < t.length) = false := decide_eq_false (by omega)
      clear hlt HT
      go_wp2
      obtain ⟨w0, rfl⟩ : ∃ w0 : World, w0 = wr := ⟨_, rfl⟩
      go_loopw [5, 6, 7] (fun i _ _ wr => ∃ k : Nat, 1 ≤ k ∧ k ≤ 17 ∧ i = .int .i64 k ∧ Hid (NoR u k) ∧ Hid (Blk wr w.heap.size 31 (lnA Ln.zero)) ∧ Hid (Below w.heap.size w wr)) (fun i _ _ _ => 17 - (RowKit.intOf i).toNat)
      case atStart => exact ⟨1, by omega, by omega, rfl, Lib.hid (fun j h1 h2 => absurd h2 (by omega)), hr, hbw⟩
      case round =>
        clear hr hbw
        obtain ⟨k, h1k, hk, rfl, hn, hr, hbw⟩ := hrel
        by_cases hlt : k ≤ 16
        · have hk0 : (1 : Int) ≤ k := by omega
          have hk1 : (k : Int) ≤ 16 := by omega
          have hk2 : decide ((k : Int) ≤ 16) = true := decide_eq_true hk1
          have HS : Hid ((ofK k).w = [] ∨ (ofK k).w ≠ u → NoR u (k + 1)) := Lib.hid (noR_succ hn.out)
          have HM := Lib.hid (ofK_mem (k : Int))
          clear hn
          go_wp2_with (fail)
          refine (word_any (k : Int) _).mono ?_
          rintro e1 w1 ⟨rfl, rfl⟩
          generalize ofK (k : Int) = f at *
          have hsz : w.heap.size < wr.heap.size := hr.out.lt
          rcases HM.out with ⟨hfm, hfk⟩ | hno
          · obtain ⟨_, _, _, hfa, hfn, _⟩ := firsts_all f hfm
            have HIN := Lib.hid (inW_of hfm)
            clear HM hfm
            have he1 : (str f.w).toList.isEmpty = false := by rw [str_toList]; cases hw : f.w with
              | nil => exact absurd hw hfn
              | cons x r => rfl
            have he2 : ((str f.w).toList == []) = false := by rw [str_toList]; cases hw : f.w with
              | nil => exact absurd hw hfn
              | cons x r => rfl
            clear hfn
            go_wp2_with (fail)
            refine (HAK.out f.w _).mono ?_
            rintro e2 w2 ⟨rfl, rfl⟩
            by_cases hu : u = f.w
            · have HRR := Lib.hid (HYES.out f (by rw [hu]; exact HIN.out))
              rw [decide_eq_true hu]
              clear hu HIN HS HNO HYES HAK
              have K : ∀ m : Ln, Hid (Blk (wr.alloc (.cells #[.int .i64 m.k, .int .i64 m.i, .int .u64 (m.s : Int), .string (str m.y)] 31)) w.heap.size 31 (lnA Ln.zero)) := fun m => Lib.hid (hr.out.alloc _)
              have KB : ∀ m : Ln, Hid (Below w.heap.size w (wr.alloc (.cells #[.int .i64 m.k, .int .i64 m.i, .int .u64 (m.s : Int), .string (str m.y)] 31))) := fun m => Lib.hid (hbw.out.alloc hbw.out.size _)
              have d0 : wr.cell? ⟨w.heap.size, 0, none⟩ = some (.int .i64 0) := hr.out.cell 0
              have d1 : wr.cell? ⟨w.heap.size, 1, none⟩ = some (.int .i64 0) := hr.out.cell 1
              have d2 : wr.cell? ⟨w.heap.size, 2, none⟩ = some (.int .u64 0) := hr.out.cell 2
              have d3 : wr.cell? ⟨w.heap.size, 3, none⟩ = some (.string ⟨#[]⟩) := hr.out.cell 3
              have fy := hr.out.frozen
              have c0 : ∀ o, (wr.alloc o).cell? ⟨w.heap.size, 0, none⟩ = some (.int .i64 0) := fun o => (hr.out.alloc o).cell 0
              have c1 : ∀ o, (wr.alloc o).cell? ⟨w.heap.size, 1, none⟩ = some (.int .i64 0) := fun o => (hr.out.alloc o).cell 1
              have c2 : ∀ o, (wr.alloc o).cell? ⟨w.heap.size, 2, none⟩ = some (.int .u64 0) := fun o => (hr.out.alloc o).cell 2
              have c3 : ∀ o, (wr.alloc o).cell? ⟨w.heap.size, 3, none⟩ = some (.string ⟨#[]⟩) := fun o => (hr.out.alloc o).cell 3
              have fz : ∀ o i, (wr.alloc o).frozen? ⟨w.heap.size, i, none⟩ = false := fun o i => (hr.out.alloc o).frozen i
              rcases hfa with hfa | hfa | hfa | hfa
              · have HX : Hid (R = ((⟨k, 0, 0, []⟩ : Ln), 0)) := Lib.hid (HRR.out.trans (by rw [lineC_0 hfa, if_neg (by simp), hfk]))
                clear HRR
                go_wp2
                exact bodyPost_ret (results_lnp rfl Tryd.underlying31 rfl _ _ w.heap.size (⟨k, 0, 0, []⟩) (ln_size2 _) rfl ((blk_store4 hr.out (⟨k, 0, 0, []⟩)).alloc _)) rfl ⟨by rw [HX.out]; rfl, (below_store4 hbw.out (Nat.le_refl _) _ _ _ _).alloc (by simpa using hbw.out.size) _⟩
              · have HX : Hid (R = ((Ln.zero : Ln), 62)) := Lib.hid (HRR.out.trans (by rw [lineC_1 hfa, refN_nil, if_pos (by decide)]))
                clear HRR
                go_wp2
                exact bodyPost_ret (results_lnp rfl Tryd.underlying31 rfl _ _ w.heap.size (Ln.zero) (ln_size2 _) rfl ((blk_store4 hr.out (Ln.zero)).alloc _)) rfl ⟨by rw [HX.out]; rfl, (below_store4 hbw.out (Nat.le_refl _) _ _ _ _).alloc (by simpa using hbw.out.size) _⟩
              · have HX : Hid (R = ((Ln.zero : Ln), 62)) := Lib.hid (HRR.out.trans (by rw [lineC_2 hfa, parseP_nil, if_neg (by simp)]))
                clear HRR
                go_wp2
                exact bodyPost_ret (results_lnp rfl Tryd.underlying31 rfl _ _ w.heap.size (Ln.zero) (ln_size2 _) rfl ((blk_store4 hr.out (Ln.zero)).alloc _)) rfl ⟨by rw [HX.out]; rfl, (below_store4 hbw.out (Nat.le_refl _) _ _ _ _).alloc (by simpa using hbw.out.size) _⟩
              · have HX : Hid (R = ((Ln.zero : Ln), 62)) := Lib.hid (HRR.out.trans (by rw [lineC_3 hfa, if_neg (by simp)]))
                clear HRR
                go_wp2
                exact bodyPost_ret (results_lnp rfl Tryd.underlying31 rfl _ _ w.heap.size (Ln.zero) (ln_size2 _) rfl ((blk_store4 hr.out (Ln.zero)).alloc _)) rfl ⟨by rw [HX.out]; rfl, (below_store4 hbw.out (Nat.le_refl _) _ _ _ _).alloc (by simpa using hbw.out.size) _⟩
            · have HX := Lib.hid (HS.out (.inr fun e => hu e.symm))
              rw [decide_eq_false hu]
              clear hu HIN HS
              go_wp2
              go_roundw
              case rel => exact ⟨k + 1, by omega, by omega, by go_num, HX, hr, hbw⟩
              case measure => simp [RowKit.intOf]; omega
          · have HX := Lib.hid (HS.out (.inl (by rw [hno]; rfl)))
            subst hno
            have he1 : (str noF.w).toList.isEmpty = true := by rw [str_toList]; rfl
            have he2 : ((str noF.w).toList == []) = true := by rw [str_toList]; rfl
            clear HS HM
            go_wp2
            go_roundw
            case rel => exact ⟨k + 1, by omega, by omega, by go_num, HX, hr, hbw⟩
            case measure => simp [RowKit.intOf]; omega
        · obtain rfl : k = 17 := by omega
          have HX := Lib.hid (HNO.out (noR_end hn.out))
          have d0 : wr.cell? ⟨w.heap.size, 0, none⟩ = some (.int .i64 0) := hr.out.cell 0
          have d1 : wr.cell? ⟨w.heap.size, 1, none⟩ = some (.int .i64 0) := hr.out.cell 1
          have d2 : wr.cell? ⟨w.heap.size, 2, none⟩ = some (.int .u64 0) := hr.out.cell 2
          have d3 : wr.cell? ⟨w.heap.size, 3, none⟩ = some (.string ⟨#[]⟩) := hr.out.cell 3
          have fy := hr.out.frozen
          go_wp2
          exact bodyPost_ret (results_lnp rfl Tryd.underlying31 rfl _ _ w.heap.size Ln.zero (ln_size2 _) rfl (blk_store4 hr.out Ln.zero)) rfl ⟨by rw [HX.out]; rfl, below_store4 hbw.out (Nat.le_refl _) _ _ _ _⟩

set_option maxHeartbeats 4000000 in
theorem rparse_yes (t a b : List UInt8) (hf : t = a ++ 32 :: b) (ha : ∀ x ∈ a, x ≠ 32) (ht : t.length ≤ 8192) (w : World) :
    Calls Tryd.prog 9 #[.string (str t)] w (GivesL (lineT a b true) w) := by
  have hz : (str t).size = t.length := rfl
  have hx0 : (str t).extract 0 a.length = str a := by rw [str_ext0, hf]; simp
  have hlt0 : a.length < t.length := by rw [hf]; simp
  have hx1 : (str t).extract (a.length + 1) t.length = str b := by rw [str_ext, hf]; simp
  have g32 : t[a.length]? = some 32 := by rw [hf]; simp
  have hbl : b.length ≤ 8192 := by have := congrArg List.length hf; simp at this; omega
  have hstop : (((str t)[a.length]'hlt0).toNat : Int) = 32 := by
    have h4 := str_get (t := t) (i := a.length) hlt0
    rw [g32] at h4
    injection h4 with h4
    rw [← h4]; rfl
  have HT : Hid (∀ k, k < a.length → ∀ c, t[k]? = some c → c ≠ 32) := Lib.hid fun k hk c hc => by
    rw [hf, List.getElem?_append_left hk] at hc
    exact ha c (List.mem_of_getElem? hc)
  have hq2 : ((a.length : Int) == (t.length : Int)) = false := by rw [beq_eq_false_iff_ne]; omega
  clear g32
  have hal : a.length ≤ t.length := by omega
  have hq : decide ((8192 : Int) < (t.length : Int)) = false := decide_eq_false (by omega)
  have HR0 : Hid (Blk (w.alloc (.cells (lnA Ln.zero) 31)) w.heap.size 31 (lnA Ln.zero)) := Lib.hid (Blk.new w _ _)
  have HB0 : Hid (Below w.heap.size w (w.alloc (.cells (lnA Ln.zero) 31))) := Lib.hid ((Below.refl _ w).alloc (Nat.le_refl _) _)
  have HAK : Hid (∀ (v : List UInt8) (W : World), Calls Tryd.prog 17 #[.string (str a), .string (str v)] W (fun e w' => e = .returned (.bool (decide (up a = v))) ∧ W = w')) := Lib.hid fun v W => alike_any a v (by omega) W
  obtain ⟨R, hR⟩ : ∃ R, lineT a b true = R := ⟨_, rfl⟩
  have HNO : Hid (inW (up a) = none → R = (Ln.zero, 61)) := Lib.hid fun h => by rw [← hR]; unfold lineT; simp only [h]
  have HYES : Hid (∀ f, inW (up a) = some f → R = match lineC f b true with | none => (Ln.zero, 62) | some l => (l, 0)) := Lib.hid fun f h => by rw [← hR]; unfold lineT; simp only [h]; cases lineC f b true <;> rfl
  rw [hR]
  clear hR hf ha
  generalize up a = u at *
  go_enter Tryd.func9, Tryd.ntmps9
  go_wp2
  go_loopw [4] (fun e wr => ∃ k : Nat, k ≤ a.length ∧ e = .int .i64 k ∧ Hid (Blk wr w.heap.size 31 (lnA Ln.zero)) ∧ Hid (Below w.heap.size w wr)) (fun e _ => a.length - (RowKit.intOf e).toNat)
  case atStart => exact ⟨0, by omega, rfl, HR0, HB0⟩
  case round =>
    obtain ⟨k, hk, rfl, hr, hbw⟩ := hrel
    by_cases hlt : k < a.length
    · have hk1 : k < (str t).size := by omega
      have hk2 : k < t.length := by omega
      have hkI : (k : Int) < t.length := by omega
      have hk0 : (0 : Int) ≤ k := by omega
      have g := str_get hk1
      have hne : (((str t)[k].toNat : Int) != 32) = true := by
        rw [bne_iff_ne]
        intro e
        exact HT.out k hlt _ g (UInt8.toNat_inj.1 (by show (str t)[k].toNat = 32; omega))
      clear g
      go_wp2
      go_roundw
      case rel => exact ⟨k + 1, by omega, by go_num, hr, hbw⟩
      case measure => simp [RowKit.intOf]; omega
    · obtain rfl : k = a.length := by omega
      have hs1 : a.length < (str t).size := hlt0
      have hs2 : (a.length : Int) < t.length := by omega
      have hs3 : (((str t)[a.length].toNat : Int) != 32) = false := by rw [bne_eq_false_iff_eq]; exact hstop
      clear hstop
      clear hlt HT
      go_wp2
      obtain ⟨w0, rfl⟩ : ∃ w0 : World, w0 = wr := ⟨_, rfl⟩
      go_loopw [5, 6, 7] (fun i _ _ wr => ∃ k : Nat, 1 ≤ k ∧ k ≤ 17 ∧ i = .int .i64 k ∧ Hid (NoR u k) ∧ Hid (Blk wr w.heap.size 31 (lnA Ln.zero)) ∧ Hid (Below w.heap.size w wr)) (fun i _ _ _ => 17 - (RowKit.intOf i).toNat)
      case atStart => exact ⟨1, by omega, by omega, rfl, Lib.hid (fun j h1 h2 => absurd h2 (by omega)), hr, hbw⟩
      case round =>
        clear hr hbw
        obtain ⟨k, h1k, hk, rfl, hn, hr, hbw⟩ := hrel
        by_cases hlt : k ≤ 16
        · have hk0 : (1 : Int) ≤ k := by omega
          have hk1 : (k : Int) ≤ 16 := by omega
          have hk2 : decide ((k : Int) ≤ 16) = true := decide_eq_true hk1
          have HS : Hid ((ofK k).w = [] ∨ (ofK k).w ≠ u → NoR u (k + 1)) := Lib.hid (noR_succ hn.out)
          have HM := Lib.hid (ofK_mem (k : Int))
          clear hn
          go_wp2_with (fail)
          refine (word_any (k : Int) _).mono ?_
          rintro e1 w1 ⟨rfl, rfl⟩
          generalize ofK (k : Int) = f at *
          have hsz : w.heap.size < wr.heap.size := hr.out.lt
          rcases HM.out with ⟨hfm, hfk⟩ | hno
          · obtain ⟨_, _, _, hfa, hfn, _⟩ := firsts_all f hfm
            have HIN := Lib.hid (inW_of hfm)
            clear HM hfm
            have he1 : (str f.w).toList.isEmpty = false := by rw [str_toList]; cases hw : f.w with
              | nil => exact absurd hw hfn
              | cons x r => rfl
            have he2 : ((str f.w).toList == []) = false := by rw [str_toList]; cases hw : f.w with
              | nil => exact absurd hw hfn
              | cons x r => rfl
            clear hfn
            go_wp2_with (fail)
            refine (HAK.out f.w _).mono ?_
            rintro e2 w2 ⟨rfl, rfl⟩
            by_cases hu : u = f.w
            · have HRR := Lib.hid (HYES.out f (by rw [hu]; exact HIN.out))
              rw [decide_eq_true hu]
              clear hu HIN HS HNO HYES HAK
              have K : ∀ m : Ln, Hid (Blk (wr.alloc (.cells #[.int .i64 m.k, .int .i64 m.i, .int .u64 (m.s : Int), .string (str m.y)] 31)) w.heap.size 31 (lnA Ln.zero)) := fun m => Lib.hid (hr.out.alloc _)
              have KB : ∀ m : Ln, Hid (Below w.heap.size w (wr.alloc (.cells #[.int .i64 m.k, .int .i64 m.i, .int .u64 (m.s : Int), .string (str m.y)] 31))) := fun m => Lib.hid (hbw.out.alloc hbw.out.size _)
              have d0 : wr.cell? ⟨w.heap.size, 0, none⟩ = some (.int .i64 0) := hr.out.cell 0
              have d1 : wr.cell? ⟨w.heap.size, 1, none⟩ = some (.int .i64 0) := hr.out.cell 1
              have d2 : wr.cell? ⟨w.heap.size, 2, none⟩ = some (.int .u64 0) := hr.out.cell 2
              have d3 : wr.cell? ⟨w.heap.size, 3, none⟩ = some (.string ⟨#[]⟩) := hr.out.cell 3
              have fy := hr.out.frozen
              have c0 : ∀ o, (wr.alloc o).cell? ⟨w.heap.size, 0, none⟩ = some (.int .i64 0) := fun o => (hr.out.alloc o).cell 0
              have c1 : ∀ o, (wr.alloc o).cell? ⟨w.heap.size, 1, none⟩ = some (.int .i64 0) := fun o => (hr.out.alloc o).cell 1
              have c2 : ∀ o, (wr.alloc o).cell? ⟨w.heap.size, 2, none⟩ = some (.int .u64 0) := fun o => (hr.out.alloc o).cell 2
              have c3 : ∀ o, (wr.alloc o).cell? ⟨w.heap.size, 3, none⟩ = some (.string ⟨#[]⟩) := fun o => (hr.out.alloc o).cell 3
              have fz : ∀ o i, (wr.alloc o).frozen? ⟨w.heap.size, i, none⟩ = false := fun o i => (hr.out.alloc o).frozen i
              rcases hfa with hfa | hfa | hfa | hfa
              · have HX : Hid (R = ((Ln.zero : Ln), 62)) := Lib.hid (HRR.out.trans (by rw [lineC_0 hfa, if_pos rfl]))
                clear HRR
                go_wp2
                exact bodyPost_ret (results_lnp rfl Tryd.underlying31 rfl _ _ w.heap.size (Ln.zero) (ln_size2 _) rfl ((blk_store4 hr.out (Ln.zero)).alloc _)) rfl ⟨by rw [HX.out]; rfl, (below_store4 hbw.out (Nat.le_refl _) _ _ _ _).alloc (by simpa using hbw.out.size) _⟩
              · go_wp2_with (fail)
                refine (refn_any b (by omega) _).mono ?_
                rintro e3 w3 ⟨rfl, rfl⟩
                by_cases hneg : refN b < 0
                · have hd : decide (refN b < 0) = true := decide_eq_true hneg
                  have HX : Hid (R = ((Ln.zero : Ln), 62)) := Lib.hid (HRR.out.trans (by rw [lineC_1 hfa, if_pos hneg]))
                  clear HRR hneg
                  go_wp2
                  exact bodyPost_ret (results_lnp rfl Tryd.underlying31 rfl _ _ w.heap.size (Ln.zero) (ln_size2 _) rfl ((blk_store4 hr.out (Ln.zero)).alloc _)) rfl ⟨by rw [HX.out]; rfl, (below_store4 hbw.out (Nat.le_refl _) _ _ _ _).alloc (by simpa using hbw.out.size) _⟩
                · have hd : decide (refN b < 0) = false := decide_eq_false hneg
                  have HX : Hid (R = ((⟨k, refN b, 0, []⟩ : Ln), 0)) := Lib.hid (HRR.out.trans (by rw [lineC_1 hfa, if_neg hneg, hfk]))
                  clear HRR hneg
                  go_wp2
                  exact bodyPost_ret (results_lnp rfl Tryd.underlying31 rfl _ _ w.heap.size (⟨k, refN b, 0, []⟩) (ln_size2 _) rfl ((blk_store4 hr.out (⟨k, refN b, 0, []⟩)).alloc _)) rfl ⟨by rw [HX.out]; rfl, (below_store4 hbw.out (Nat.le_refl _) _ _ _ _).alloc (by simpa using hbw.out.size) _⟩
              · go_wp2_with (fail)
                refine (S.refparse_any b (by omega) _).mono ?_
                rintro e3 w3 ⟨rfl, hb3⟩
                have K8 : Hid (Blk w3 wr.heap.size 31 (lnA ⟨k, 0, 0, []⟩)) := Lib.hid (Blk.below (Blk.new wr 31 (lnA ⟨k, 0, 0, []⟩)) hb3 (by simp))
                have KR : Hid (Blk w3 w.heap.size 31 (lnA Ln.zero)) := Lib.hid (Blk.below (K ⟨k, 0, 0, []⟩).out hb3 (by simp; omega))
                have KBB : Hid (Below w.heap.size w w3) := Lib.hid ((KB ⟨k, 0, 0, []⟩).out.trans (hb3.mono (KB ⟨k, 0, 0, []⟩).out.size))
                clear hb3 K KB hr hbw d0 d1 d2 d3 fy c0 c1 c2 c3 fz
                have HP2 := Lib.hid (refP_two b)
                have hslt := S.refSet_lt b
                have HRS : Hid (∀ W, Calls Tryd.prog 20 #[.agg (S.fl (S.refSet b))] W fun e w' => e = .returned (.int .u64 (S.refSet b : Nat)) ∧ Below W.heap.size W w') := Lib.hid fun W => S.refset_any _ hslt W
                have HSI := Lib.hid (S.fl_info2 (S.refSet b))
                have HOO : Hid ((S.fl 0).size = (S.fl (S.refSet b)).size) := Lib.hid (by rw [S.fl_size, S.fl_size])
                have HCC := Lib.hid (S.fl_cells (S.refSet b))
                generalize S.fl (S.refSet b) = C at *
                obtain ⟨ok, hok⟩ : ∃ ok, (S.refParse b).isSome = ok := ⟨_, rfl⟩
                rw [hok] at HP2 ⊢
                clear hok
                have hsz3 : wr.heap.size < w3.heap.size := K8.out.lt
                go_wp2_with (first | (refine wpList_store_row rfl 57 (.tmp 10) (.tmp 86) rfl w3.heap.size C rfl rfl 57 (S.fl 0) (S.blk_new rfl (by kernel_rfl)) HSI.out HOO.out HCC.out ?_) | (refine wpList_load_row rfl 57 (.tmp 10) rfl w3.heap.size rfl 57 C (0, 0) _ (setRow_heap _ w3.heap.size _ C _ _ (heap_alloc_new _ _)) Tryd.underlying57 rfl HSI.out ?_))
                refine (HRS.out _).mono ?_
                rintro e4 w4 ⟨rfl, hb4⟩
                rw [World.setRow_alloc_new] at hb4
                have L8 := Lib.hid ((K8.out.alloc (.cells C 57)).below hb4 (by simp; omega))
                have LR := Lib.hid ((KR.out.alloc (.cells C 57)).below hb4 (by simp; omega))
                have LB := Lib.hid ((KBB.out.alloc KBB.out.size (.cells C 57)).trans (hb4.mono (by have := KBB.out.size; simp; omega)))
                clear hb4 K8 KR KBB HSI HOO HCC HRS
                have e0 : w4.cell? ⟨wr.heap.size, 0, none⟩ = some (.int .i64 k) := L8.out.cell 0
                have e1 : w4.cell? ⟨wr.heap.size, 1, none⟩ = some (.int .i64 0) := L8.out.cell 1
                have e2 : w4.cell? ⟨wr.heap.size, 2, none⟩ = some (.int .u64 0) := L8.out.cell 2
                have e3 : w4.cell? ⟨wr.heap.size, 3, none⟩ = some (.string ⟨#[]⟩) := L8.out.cell 3
                have fe := L8.out.frozen
                have d0 : w4.cell? ⟨w.heap.size, 0, none⟩ = some (.int .i64 0) := LR.out.cell 0
                have d1 : w4.cell? ⟨w.heap.size, 1, none⟩ = some (.int .i64 0) := LR.out.cell 1
                have d2 : w4.cell? ⟨w.heap.size, 2, none⟩ = some (.int .u64 0) := LR.out.cell 2
                have d3 : w4.cell? ⟨w.heap.size, 3, none⟩ = some (.string ⟨#[]⟩) := LR.out.cell 3
                have fd := LR.out.frozen
                rcases HP2.out with ⟨rfl, hp⟩ | ⟨rfl, hp⟩
                · have HX : Hid (R = ((Ln.zero : Ln), 62)) := Lib.hid (HRR.out.trans (by rw [lineC_2 hfa, if_neg (fun g => hp g.1)]))
                  clear HRR
                  go_wp2
                  exact bodyPost_ret (results_lnp rfl Tryd.underlying31 rfl _ _ w.heap.size (Ln.zero) (ln_size2 _) rfl (blk_store4 (LR.out.far (p := ⟨wr.heap.size, 2, none⟩) (by show w.heap.size ≠ wr.heap.size; omega) _) (Ln.zero))) rfl ⟨by rw [HX.out]; rfl, below_store4 (LB.out.setCell (p := ⟨wr.heap.size, 2, none⟩) (Nat.le_of_lt hsz) _) (Nat.le_refl _) _ _ _ _⟩
                · by_cases hs0 : S.refSet b = 0
                  · have hd : (((S.refSet b : Nat) : Int) == 0) = true := by rw [hs0]; rfl
                    have HX : Hid (R = ((Ln.zero : Ln), 62)) := Lib.hid (HRR.out.trans (by rw [lineC_2 hfa, hp, if_neg (fun g => g.2 hs0)]))
                    clear HRR
                    go_wp2
                    exact bodyPost_ret (results_lnp rfl Tryd.underlying31 rfl _ _ w.heap.size (Ln.zero) (ln_size2 _) rfl (blk_store4 (LR.out.far (p := ⟨wr.heap.size, 2, none⟩) (by show w.heap.size ≠ wr.heap.size; omega) _) (Ln.zero))) rfl ⟨by rw [HX.out]; rfl, below_store4 (LB.out.setCell (p := ⟨wr.heap.size, 2, none⟩) (Nat.le_of_lt hsz) _) (Nat.le_refl _) _ _ _ _⟩
                  · have hd : (((S.refSet b : Nat) : Int) == 0) = false := by rw [beq_eq_false_iff_ne]; omega
                    have HX : Hid (R = ((⟨k, 0, S.refSet b, []⟩ : Ln), 0)) := Lib.hid (HRR.out.trans (by rw [lineC_2 hfa, hp, if_pos ⟨rfl, hs0⟩, hfk]))
                    clear HRR
                    go_wp2
                    exact bodyPost_ret (results_lnp rfl Tryd.underlying31 rfl _ _ w.heap.size (⟨k, 0, S.refSet b, []⟩) (ln_size2 _) rfl (blk_store4 (LR.out.far (p := ⟨wr.heap.size, 2, none⟩) (by show w.heap.size ≠ wr.heap.size; omega) _) (⟨k, 0, S.refSet b, []⟩))) rfl ⟨by rw [HX.out]; rfl, below_store4 (LB.out.setCell (p := ⟨wr.heap.size, 2, none⟩) (Nat.le_of_lt hsz) _) (Nat.le_refl _) _ _ _ _⟩
              · have HX : Hid (R = ((⟨k, 0, 0, b⟩ : Ln), 0)) := Lib.hid (HRR.out.trans (by rw [lineC_3 hfa, if_pos rfl, hfk]))
                clear HRR
                go_wp2
                exact bodyPost_ret (results_lnp rfl Tryd.underlying31 rfl _ _ w.heap.size (⟨k, 0, 0, b⟩) (ln_size2 _) rfl ((blk_store4 hr.out (⟨k, 0, 0, b⟩)).alloc _)) rfl ⟨by rw [HX.out]; rfl, (below_store4 hbw.out (Nat.le_refl _) _ _ _ _).alloc (by simpa using hbw.out.size) _⟩
            · have HX := Lib.hid (HS.out (.inr fun e => hu e.symm))
              rw [decide_eq_false hu]
              clear hu HIN HS
              go_wp2
              go_roundw
              case rel => exact ⟨k + 1, by omega, by omega, by go_num, HX, hr, hbw⟩
              case measure => simp [RowKit.intOf]; omega
          · have HX := Lib.hid (HS.out (.inl (by rw [hno]; rfl)))
            subst hno
            have he1 : (str noF.w).toList.isEmpty = true := by rw [str_toList]; rfl
            have he2 : ((str noF.w).toList == []) = true := by rw [str_toList]; rfl
            clear HS HM
            go_wp2
            go_roundw
            case rel => exact ⟨k + 1, by omega, by omega, by go_num, HX, hr, hbw⟩
            case measure => simp [RowKit.intOf]; omega
        · obtain rfl : k = 17 := by omega
          have HX := Lib.hid (HNO.out (noR_end hn.out))
          have d0 : wr.cell? ⟨w.heap.size, 0, none⟩ = some (.int .i64 0) := hr.out.cell 0
          have d1 : wr.cell? ⟨w.heap.size, 1, none⟩ = some (.int .i64 0) := hr.out.cell 1
          have d2 : wr.cell? ⟨w.heap.size, 2, none⟩ = some (.int .u64 0) := hr.out.cell 2
          have d3 : wr.cell? ⟨w.heap.size, 3, none⟩ = some (.string ⟨#[]⟩) := hr.out.cell 3
          have fy := hr.out.frozen
          go_wp2
          exact bodyPost_ret (results_lnp rfl Tryd.underlying31 rfl _ _ w.heap.size Ln.zero (ln_size2 _) rfl (blk_store4 hr.out Ln.zero)) rfl ⟨by rw [HX.out]; rfl, below_store4 hbw.out (Nat.le_refl _) _ _ _ _⟩

set_option maxHeartbeats 1000000 in
theorem rparse_any (t : List UInt8) (ht : t.length ≤ 4294967296) (w : World) : Calls Tryd.prog 9 #[.string (str t)] w (GivesL (parseC t) w) := by
  have hz : (str t).size = t.length := rfl
  by_cases h : 8192 < t.length
  · have hq : decide ((8192 : Int) < (t.length : Int)) = true := decide_eq_true (by omega)
    have HX : Hid (parseC t = (Ln.zero, 12)) := Lib.hid (if_pos h)
    have HB : Hid (Below w.heap.size w (w.alloc (.cells #[.int .i64 0, .int .i64 0, .int .u64 0, .string ⟨#[]⟩] 31))) := Lib.hid ((Below.refl _ w).alloc (Nat.le_refl _) _)
    go_enter Tryd.func9, Tryd.ntmps9
    go_wp2
    exact bodyPost_ret (results_lnp rfl Tryd.underlying31 rfl _ _ w.heap.size Ln.zero (ln_size2 _) rfl (Blk.new w _ _)) rfl ⟨by rw [HX.out]; rfl, HB.out⟩
  · obtain ⟨a, b, blank, hf, ha, hc, hb⟩ := cut_form t
    have hp : parseC t = lineT a b blank := by unfold parseC; rw [if_neg h, hc]
    rw [hp]
    cases blank with
    | false =>
      rw [hb rfl]
      exact rparse_no t a (by rw [hf]; simp [rest]) ha (by omega) w
    | true => exact rparse_yes t a b (by rw [hf]; simp [rest]) ha (by omega) w
end Go.Proofs.YtogaaomedfpdnaaDoor
