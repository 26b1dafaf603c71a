/-
  WHAT IS PROVED: the law CommandMore answers true: a word more behind a command that isn't about a key, a blank ahead of it, or one more behind, makes it none. Conditions: the library's variables and the program's own hold what is laid there; a key has less than 2^61 bytes.
-/
import Derived.Test.YtogaaomedfpdnaaDoorAn
import Derived.Test.YtogaaomedfpdnaaDoorMx
namespace Go.Proofs.YtogaaomedfpdnaaDoor
set_option maxRecDepth 100000
open Go.RowKit Go.Lib

theorem key_kind : ∀ f ∈ firstsL, f.a = 3 → f.k = 11 := by decide +kernel
theorem more_at {l : Ln} {f : Fw} {b u : List UInt8} {blank : Bool} (hf : f ∈ firstsL) (h3 : f.a ≠ 3) (hb : blank = false → b = []) (hx : lineC f b blank = some l) (hu : ∀ c ∈ u, isD c = false) (hl : (f.w ++ rest b blank ++ 32 :: u).length ≤ 8192) :
    parseC (f.w ++ rest b blank ++ 32 :: u) = (Ln.zero, 62) := by
  have e : f.w ++ rest b blank ++ 32 :: u = f.w ++ rest (if blank = true then b ++ 32 :: u else u) true := by
    cases blank with
    | true => simp [rest]
    | false => simp [rest]
  rw [e] at hl ⊢
  rw [parse_word hf (letters_no hf) (firsts_all f hf).2.1 (by simp) hl, more_none hf h3 hu hx hb]
theorem ahead_at {t : List UInt8} (hl : t.length ≤ 8000) : parseC (32 :: t) = (Ln.zero, 61) := by
  have hc : cutL (32 :: t) 32 = ([], t, true) := S.cutL_at (a := []) (by simp)
  unfold parseC
  rw [if_neg (by simp; omega), hc]
  unfold lineT
  have : inW (up []) = none := inW_nil
  simp only [this]
theorem ahead_str (t : List UInt8) : (⟨#[32]⟩ : ByteArray) ++ str t = str (32 :: t) := by
  have : (⟨#[32]⟩ : ByteArray) = str [32] := rfl
  rw [this, S.str_app]; rfl
theorem behind_str (t : List UInt8) : str t ++ ⟨#[32]⟩ = str (t ++ 32 :: []) := by
  have : (⟨#[32]⟩ : ByteArray) = str [32] := rfl
  rw [this, S.str_app]

set_option maxHeartbeats 4000000 in
theorem more_any (l : Ln) (hl : okL l) (u : List UInt8) (w : World) (hE : Env w) :
    Calls Tryd.prog 6 #[.agg (lnA l), .string (str u)] w (Says true w) := by
  have hlv : lnA l = #[.int .i64 l.k, .int .i64 l.i, .int .u64 (l.s : Int), .string (str l.y)] := rfl
  have hb0 : Below w.heap.size w (w.alloc (.cells #[.int .i64 l.k, .int .i64 l.i, .int .u64 (l.s : Int), .string (str l.y)] 26)) := (Below.refl _ w).alloc (Nat.le_refl _) _
  have HK0 : Hid (Blk (w.alloc (.cells #[.int .i64 l.k, .int .i64 l.i, .int .u64 (l.s : Int), .string (str l.y)] 26)) w.heap.size 26 (lnA l)) := Lib.hid (Blk.new w _ _)
  have HB0 := Lib.hid hb0
  have HE0 := Lib.hid (hE.below hb0)
  have HEW := Lib.hid hE
  clear hb0 hE
  have HT : Hid (∀ W, Env W → Calls Tryd.prog 11 #[.agg #[.int .i64 l.k, .int .i64 l.i, .int .u64 (l.s : Int), .string (str l.y)]] W (GivesT (textC l) W)) := Lib.hid fun W hW => text_any l hl W hW
  have hz : (str u).size = u.length := rfl
  go_enter Tryd.func6, Tryd.ntmps6
  go_wp2_with (fail)
  refine (anchor_any _ HE0.out).mono ?_
  rintro e1 w1 ⟨rfl, hb1⟩
  have K1 := Lib.hid (HK0.out.below hb1 (by simp))
  have B1 := Lib.hid (HB0.out.trans (hb1.mono HB0.out.size))
  have E1 := Lib.hid (HE0.out.below hb1)
  clear hb1 HK0 HB0 HE0
  have c0 : w1.cell? ⟨w.heap.size, 0, none⟩ = some (.int .i64 l.k) := K1.out.cell 0
  have c1 : w1.cell? ⟨w.heap.size, 1, none⟩ = some (.int .i64 l.i) := K1.out.cell 1
  have c2 : w1.cell? ⟨w.heap.size, 2, none⟩ = some (.int .u64 (l.s : Int)) := K1.out.cell 2
  have c3 : w1.cell? ⟨w.heap.size, 3, none⟩ = some (.string (str l.y)) := K1.out.cell 3
  go_wp2_with (fail)
  refine (HT.out _ E1.out).mono ?_
  rintro e2 w2 ⟨rfl, hb2⟩
  have K2 := Lib.hid (K1.out.below hb2 K1.out.lt)
  have B2 := Lib.hid (B1.out.trans (hb2.mono B1.out.size))
  clear hb2 K1 B1 E1 c0 c1 c2 c3 HT
  have c0 : w2.cell? ⟨w.heap.size, 0, none⟩ = some (.int .i64 l.k) := K2.out.cell 0
  rcases text_two l with ⟨hp, ht⟩ | ⟨hp, ht⟩
  rotate_left 1
  · rw [ht]
    clear hp ht
    go_wp2
    go_ret
    exact ⟨rfl, B2.out⟩
  rw [ht]
  obtain ⟨f, b, blank, hf, hw, hb, hx, hle⟩ := text_form hp
  have hfk := (line_form hf hx hb).1
  by_cases h11 : l.k = 11
  · have q11 : (l.k == 11) = true := by simpa using h11
    clear hp ht hf hw hx hb hle hfk h11
    go_wp2
    go_ret
    exact ⟨rfl, B2.out⟩
  have q11 : (l.k == 11) = false := by simpa using h11
  have h3 : f.a ≠ 3 := fun e => h11 (by rw [hfk]; exact key_kind f hf e)
  have HMO := Lib.hid (fun (v : List UInt8) (hv : ∀ c ∈ v, isD c = false) (hl2 : (f.w ++ rest b blank ++ 32 :: v).length ≤ 8192) => more_at hf h3 hb hx hv hl2)
  rw [← hw] at HMO
  clear hp ht hf hw hx hb hle hfk h11 h3
  generalize writC l = t at *
  have hzt : (str t).size = t.length := rfl
  by_cases hbig : 100 < u.length
  · have hd : decide ((100 : Int) < (u.length : Int)) = true := decide_eq_true (by omega)
    go_wp2
    go_ret
    exact ⟨rfl, B2.out⟩
  have hd : decide ((100 : Int) < (u.length : Int)) = false := decide_eq_false (by omega)
  by_cases hlong : 1000 < t.length
  · have hd2 : decide ((1000 : Int) < (t.length : Int)) = true := decide_eq_true (by omega)
    go_wp2
    go_ret
    exact ⟨rfl, B2.out⟩
  have hd2 : decide ((1000 : Int) < (t.length : Int)) = false := decide_eq_false (by omega)
  go_wp2
  clear K2 c0
  go_loopw [7, 40] (fun _ i wr => ∃ k : Nat, k ≤ u.length ∧ i = .int .i64 k ∧ Hid (∀ c ∈ u.take k, isD c = false) ∧ Hid (Below w.heap.size w wr)) (fun _ i _ => u.length - (RowKit.intOf i).toNat)
  case atStart => exact ⟨0, by omega, rfl, Lib.hid (by simp), B2⟩
  case round =>
    clear B2
    obtain ⟨k, hk, rfl, hnd, hbw⟩ := hrel
    by_cases hlt : k < u.length
    · have hk1 : k < (str u).size := hlt
      have hkI : (k : Int) < u.length := by omega
      have hk0 : (0 : Int) ≤ k := by omega
      have g := str_get hk1
      have HS : Hid (isD (str u)[k] = false → ∀ c ∈ u.take (k + 1), isD c = false) := Lib.hid fun h c hc => by
        rw [take_snoc g] at hc
        rcases List.mem_append.1 hc with hc | hc
        · exact hnd.out c hc
        · rw [List.mem_singleton.1 hc]; exact h
      have HDI := Lib.hid (@isD_iff (str u)[k])
      clear g
      by_cases a1 : 48 ≤ (str u)[k].toNat
      · have d1 : decide ((48 : Int) ≤ ((str u)[k].toNat : Int)) = true := decide_eq_true (by omega)
        by_cases a2 : (str u)[k].toNat ≤ 57
        · have d2 : decide (((str u)[k].toNat : Int) ≤ 57) = true := decide_eq_true (by omega)
          clear HS HDI
          go_wp2
          go_ret
          exact ⟨rfl, hbw.out⟩
        · have d2 : decide (((str u)[k].toNat : Int) ≤ 57) = false := decide_eq_false (by omega)
          have HX := Lib.hid (HS.out (by
            rw [← Bool.not_eq_true]; intro e
            have := HDI.out.1 e
            omega))
          clear HS HDI
          go_wp2
          go_roundw
          case rel => exact ⟨k + 1, by omega, by go_num, HX, hbw⟩
          case measure => simp [RowKit.intOf]; omega
      · have d1 : decide ((48 : Int) ≤ ((str u)[k].toNat : Int)) = false := decide_eq_false (by omega)
        have HX := Lib.hid (HS.out (by
          rw [← Bool.not_eq_true]; intro e
          have := HDI.out.1 e
          omega))
        clear HS HDI
        go_wp2
        go_roundw
        case rel => exact ⟨k + 1, by omega, by go_num, HX, hbw⟩
        case measure => simp [RowKit.intOf]; omega
    · obtain rfl : k = u.length := by omega
      have HND : Hid (∀ c ∈ u, isD c = false) := Lib.hid (by
        have := hnd.out
        rw [List.take_length] at this
        exact this)
      have P1 := Lib.hid (HMO.out u HND.out (by simp; omega))
      have P2 := Lib.hid (ahead_at (t := t) (by omega))
      have P3 := Lib.hid (HMO.out [] (by simp) (by simp; omega))
      have EW := Lib.hid (HEW.out.below hbw.out)
      have j1 := join3 t u
      have j2 := ahead_str t
      have v3 : lnA Ln.zero = #[.int .i64 0, .int .i64 0, .int .u64 0, .string ⟨#[]⟩] := rfl
      clear HMO hnd HND
      go_wp2_with (fail)
      refine (cparse_any (t ++ 32 :: u) (by simp; omega) _ EW.out).mono ?_
      rintro e4 w4 ⟨rfl, hb4⟩
      rw [P1.out]
      have B4 := Lib.hid (hbw.out.trans (hb4.mono hbw.out.size))
      have B4A := Lib.hid (B4.out.alloc B4.out.size (.cells #[.int .i64 0, .int .i64 0, .int .u64 0, .string ⟨#[]⟩] 26))
      have E4 := Lib.hid (HEW.out.below B4A.out)
      clear hb4
      go_wp2_with (fail)
      refine (cparse_any (32 :: t) (by simp; omega) _ E4.out).mono ?_
      rintro e5 w5 ⟨rfl, hb5⟩
      rw [P2.out]
      have B5 := Lib.hid (B4A.out.trans (hb5.mono B4A.out.size))
      have B5A := Lib.hid (B5.out.alloc B5.out.size (.cells #[.int .i64 0, .int .i64 0, .int .u64 0, .string ⟨#[]⟩] 26))
      have E5 := Lib.hid (HEW.out.below B5A.out)
      clear hb5
      have j3 := behind_str t
      go_wp2_with (fail)
      refine (cparse_any (t ++ 32 :: []) (by simp; omega) _ E5.out).mono ?_
      rintro e6 w6 ⟨rfl, hb6⟩
      rw [P3.out]
      have B6 := Lib.hid (B5A.out.trans (hb6.mono B5A.out.size))
      have BO : Hid (∀ o, Below w.heap.size w (w6.alloc o)) := Lib.hid fun o => B6.out.alloc B6.out.size o
      clear hb6
      go_wp2
      go_ret
      exact ⟨rfl, BO.out _⟩
end Go.Proofs.YtogaaomedfpdnaaDoor
