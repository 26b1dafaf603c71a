/-
  WHAT IS PROVED: the law CommandParses answers true: any text is the line that the document says, or has its error; what is read is written as a text that is read as it. Conditions: the library's variables and the program's own hold what is laid there.
-/
import Derived.Test.YtogaaomedfpdnaaDoorAn
namespace Go.Proofs.YtogaaomedfpdnaaDoor
set_option maxRecDepth 100000
open Go.RowKit Go.Lib

set_option maxHeartbeats 2000000 in
theorem parses_any (t : List UInt8) (w : World) (hE : Env w) : Calls Tryd.prog 3 #[.string (str t)] w (Says true w) := by
  have hz : (str t).size = t.length := rfl
  have HE := Lib.hid hE
  clear hE
  go_enter Tryd.func3, Tryd.ntmps3
  go_wp2_with (fail)
  refine (anchor_any _ HE.out).mono ?_
  rintro e1 w1 ⟨rfl, hb1⟩
  have B1 := Lib.hid hb1
  have E1 := Lib.hid (HE.out.below hb1)
  clear hb1 HE
  by_cases hbig : 9000 < t.length
  · have hd : decide ((9000 : Int) < (t.length : Int)) = true := decide_eq_true (by omega)
    go_wp2
    go_ret
    exact ⟨rfl, B1.out⟩
  · have hd : decide ((9000 : Int) < (t.length : Int)) = false := decide_eq_false (by omega)
    go_wp2_with (fail)
    refine (cparse_any t (by omega) _ E1.out).mono ?_
    rintro e2 w2 ⟨rfl, hb2⟩
    have HRP := Lib.hid (fun W => rparse_any t (by omega) W)
    have HPE := Lib.hid (parse_err t)
    have HPR := Lib.hid (parse_range t)
    have HPB : Hid (∀ l, parseC t = (l, 0) → parseC (writC l) = (l, 0) ∧ (writC l).length = t.length) := Lib.hid fun l h => parse_back h
    have HTB : Hid (∀ l, parseC t = (l, 0) → textC l = (writC l, 0)) := Lib.hid fun l h => text_back h
    obtain ⟨r, hr⟩ : ∃ r, parseC t = r := ⟨_, rfl⟩
    obtain ⟨l, z⟩ := r
    rw [hr] at HRP HPE HPR
    rw [hr]
    have HR := Lib.hid hr
    clear hr
    simp only at HPE HPR ⊢
    have hlv : lnA l = #[.int .i64 l.k, .int .i64 l.i, .int .u64 (l.s : Int), .string (str l.y)] := rfl
    have hba : Below w2.heap.size w2 (w2.alloc (.cells #[.int .i64 l.k, .int .i64 l.i, .int .u64 (l.s : Int), .string (str l.y)] 26)) := (Below.refl _ w2).alloc (Nat.le_refl _) _
    have hbb := hb2.trans (hba.mono hb2.size)
    have B2 := Lib.hid (B1.out.trans (hbb.mono B1.out.size))
    have E2 := Lib.hid (E1.out.below hbb)
    have K2 : Hid (Blk (w2.alloc (.cells #[.int .i64 l.k, .int .i64 l.i, .int .u64 (l.s : Int), .string (str l.y)] 26)) w2.heap.size 26 (lnA l)) := Lib.hid (Blk.new w2 _ _)
    clear hb2 hba hbb B1 E1
    go_wp2_with (fail)
    refine (HRP.out _).mono ?_
    rintro e3 w3 ⟨rfl, hb3⟩
    have hba : Below w3.heap.size w3 (w3.alloc (.cells #[.int .i64 l.k, .int .i64 l.i, .int .u64 (l.s : Int), .string (str l.y)] 31)) := (Below.refl _ w3).alloc (Nat.le_refl _) _
    have hbb := hb3.trans (hba.mono hb3.size)
    have B3 := Lib.hid (B2.out.trans (hbb.mono B2.out.size))
    have E3 := Lib.hid (E2.out.below hbb)
    have K3 := Lib.hid (K2.out.below hbb K2.out.lt)
    have L3 : Hid (Blk (w3.alloc (.cells #[.int .i64 l.k, .int .i64 l.i, .int .u64 (l.s : Int), .string (str l.y)] 31)) w3.heap.size 31 (lnA l)) := Lib.hid (Blk.new w3 _ _)
    clear hb3 hba hbb B2 E2 K2 HRP
    generalize w2.heap.size = g2 at *
    simp only
    go_wp2_with (fail)
    obtain ⟨wa, hwa⟩ : ∃ wa, w3.alloc (.cells #[.int .i64 l.k, .int .i64 l.i, .int .u64 (l.s : Int), .string (str l.y)] 31) = wa := ⟨_, rfl⟩
    rw [hwa] at K3 L3 B3 E3 ⊢
    have HLI : Hid (∀ p : Later wa, Calls Tryd.prog 10 #[.agg (lnA l)] p.now fun e w' => e = .returned (.agg (lnA l)) ∧ Below p.now.heap.size p.now w') := Lib.hid fun p => lawline_any l p.now
    have hsm := same_ln2 l l
    rw [decide_eq_true (rfl : l = l)] at hsm
    have hzz : (z != z) = false := by simp
    clear hwa hlv
    refine wp_region_later (by kernel_rfl) (by kernel_rfl) ?_
    repeat (first | ((with_reducible refine quiet_ln1 (b := g2) (s := l) ?_ ?_ ?_ ?_); (rfl); (with_reducible exact K3.out); (rfl); (simp only [Act.put, List.setIfInBounds_toArray, List.set_cons_zero, List.set_cons_succ])) | ((with_reducible refine quiet_ln2 (b := w3.heap.size) (s := l) ?_ ?_ ?_ ?_); (rfl); (with_reducible exact L3.out); (rfl); (simp only [Act.put, List.setIfInBounds_toArray, List.set_cons_zero, List.set_cons_succ])) | go_big_quiet_step ((go_at_call 10; with_reducible exact Later.calls (HLI.out _))))
    refine wpQuiet_nil ?_
    intro _ hw'
    obtain ⟨pq, hw''⟩ := hw'
    subst hw''
    have K5 := Lib.hid (K3.out.below pq.below K3.out.lt)
    have B5 := Lib.hid (B3.out.trans (pq.below.mono B3.out.size))
    have E5 := Lib.hid (E3.out.below pq.below)
    generalize pq.now = w5 at *
    clear K3 L3 B3 E3 HLI hsm
    by_cases h0 : z = 0
    rotate_left 1
    · have q0 : (z != 0) = true := by simpa using h0
      go_wp2
      go_ret
      exact ⟨rfl, B5.out⟩
    have q0 : (z != 0) = false := by rw [h0]; rfl
    have hr0 : parseC t = (l, 0) := by rw [HR.out, h0]
    obtain ⟨hpb, hlen⟩ := HPB.out l hr0
    have HPW := Lib.hid hpb
    have HTW := Lib.hid (HTB.out l hr0)
    have hwl : (writC l).length = t.length := hlen
    have hokl : okL l := by
      obtain ⟨h1, h2, h3, _, h5⟩ := HPR.out
      exact ⟨by omega, by omega, h3, by omega⟩
    have HT : Hid (∀ W, Env W → Calls Tryd.prog 11 #[.agg #[.int .i64 l.k, .int .i64 l.i, .int .u64 (l.s : Int), .string (str l.y)]] W (GivesT (textC l) W)) := Lib.hid fun W hW => text_any l hokl W hW
    rw [HTW.out] at HT
    have c0 : w5.cell? ⟨g2, 0, none⟩ = some (.int .i64 l.k) := K5.out.cell 0
    have c1 : w5.cell? ⟨g2, 1, none⟩ = some (.int .i64 l.i) := K5.out.cell 1
    have c2 : w5.cell? ⟨g2, 2, none⟩ = some (.int .u64 (l.s : Int)) := K5.out.cell 2
    have c3 : w5.cell? ⟨g2, 3, none⟩ = some (.string (str l.y)) := K5.out.cell 3
    have HWL := Lib.hid hwl
    clear h0 hr0 hpb hlen HR HPB HTB HPE HPR HTW hokl hwl
    generalize writC l = u at *
    go_wp2_with (fail)
    refine (HT.out _ E5.out).mono ?_
    rintro e6 w6 ⟨rfl, hb6⟩
    have K6 := Lib.hid (K5.out.below hb6 K5.out.lt)
    have B6 := Lib.hid (B5.out.trans (hb6.mono B5.out.size))
    have E6 := Lib.hid (E5.out.below hb6)
    clear hb6 K5 B5 E5 HT c0 c1 c2 c3
    go_wp2_with (fail)
    refine (cparse_any u (by have := HWL.out; omega) _ E6.out).mono ?_
    rintro e7 w7 ⟨rfl, hb7⟩
    rw [HPW.out]
    have K7 := Lib.hid (K6.out.below hb7 K6.out.lt)
    have B7 := Lib.hid (B6.out.trans (hb7.mono B6.out.size))
    clear hb7 K6 B6 E6
    have hlv : lnA l = #[.int .i64 l.k, .int .i64 l.i, .int .u64 (l.s : Int), .string (str l.y)] := rfl
    have c0 : ∀ o, (w7.alloc o).cell? ⟨g2, 0, none⟩ = some (.int .i64 l.k) := fun o => (K7.out.alloc o).cell 0
    have c1 : ∀ o, (w7.alloc o).cell? ⟨g2, 1, none⟩ = some (.int .i64 l.i) := fun o => (K7.out.alloc o).cell 1
    have c2 : ∀ o, (w7.alloc o).cell? ⟨g2, 2, none⟩ = some (.int .u64 (l.s : Int)) := fun o => (K7.out.alloc o).cell 2
    have c3 : ∀ o, (w7.alloc o).cell? ⟨g2, 3, none⟩ = some (.string (str l.y)) := fun o => (K7.out.alloc o).cell 3
    have hsm := same_ln l l
    rw [decide_eq_true (rfl : l = l), hlv] at hsm
    have hlen2 : ((u.length : Int) == (t.length : Int)) = true := by rw [HWL.out]; simp
    have hlen3 : (((str u).size : Int) == (t.length : Int)) = true := hlen2
    have BO : Hid (∀ o, Below w.heap.size w (w7.alloc o)) := Lib.hid fun o => B7.out.alloc B7.out.size o
    go_wp2
    go_ret
    exact ⟨rfl, BO.out _⟩
end Go.Proofs.YtogaaomedfpdnaaDoor
