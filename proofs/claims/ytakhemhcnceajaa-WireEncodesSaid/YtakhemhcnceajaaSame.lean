/-
  WHAT IS PROVED: contract of the function that compares two packets. Condition: both sections' cells are there.
-/
import Derived.Test.YtakhemhcnceajaaRt
import Derived.Shelf.SlicesE.Kit
import Derived.Laws.StructEq
import Derived.Deep.RegionHeld3
namespace Go.Proofs.Ytakhemhcnceajaa
open Go.RowKit Go.Lib

theorem same_ent (x r : En) (w : World) : (Op.equalIn 10000 48 (.agg #[.int .i64 x.id, .int .i64 x.st]) (.agg #[.int .i64 r.id, .int .i64 r.st])).run Try.prog w = .ok (decide (x = r)) w := by
  have u3 := Try.underlying3
  have a3 := Try.isAgg3
  have z3 := Try.sizeOf3
  have hS : Try.prog.underlying 48 = some (.struct (Try.prog.fieldsOf 48)) := by kernel_rfl
  have hp : Try.prog.stoodInHeld 48 = false := by kernel_rfl
  rw [show (10000 : Nat) = 9999 + 1 from rfl, run_equalIn_agg w 9999 48 _ _ hS hp]
  simp only [Program.fieldsOf, Try.underlying48]
  obtain ⟨i, o⟩ := x
  obtain ⟨i', o'⟩ := r
  go_simp
  by_cases h1 : i = i' <;> by_cases h2 : o = o' <;> simp [h1, h2]
theorem guard_ent (op : BinOp) (a b : Operand) (x r : En) (w : World) : (eqGuard op 48 a b (.agg #[.int .i64 x.id, .int .i64 x.st]) (.agg #[.int .i64 r.id, .int .i64 r.st])).run Try.prog w = .ok () w := run_eqGuard_agg w op 48 a b _ _ (by kernel_rfl)
/-- are they the same? -/
def samePk (p q : Pk) : Bool := decide (p = q)
theorem takeE_snoc {l : List En} {k : Nat} {e : En} (h : l[k]? = some e) : l.take (k + 1) = l.take k ++ [e] := by rw [List.take_add_one, h]; rfl

set_option maxRecDepth 100000 in
set_option maxHeartbeats 40000000 in
theorem samepk_any (p q : Pk) (A B : Option Addr) (n c m d : Nat) (w : World) (hl : p.sec.length = n) (hm : q.sec.length = m) (hE : EsAt w A n p.sec) (hF : EsAt w B m q.sec) (hn : n ≤ 1000000) (hm1 : m ≤ d) (hd : d ≤ 9223372036854775807) :
    Calls Try.prog 18 #[vP p (.slice A n c), vP q (.slice B m d)] w (Says (samePk p q) w) := by
  obtain ⟨kind, frm, ep, cf, ma, sl, off, ab, ac, as_, sec⟩ := p
  obtain ⟨kind2, frm2, ep2, cf2, ma2, sl2, off2, ab2, ac2, as_2, sec2⟩ := q
  dsimp only at hl hm hE hF
  simp only [vP]
  by_cases he : kind = kind2
  case neg =>
    have HX : Hid (samePk ⟨kind, frm, ep, cf, ma, sl, off, ab, ac, as_, sec⟩ ⟨kind2, frm2, ep2, cf2, ma2, sl2, off2, ab2, ac2, as_2, sec2⟩ = false) := by show _ = _; unfold samePk; exact decide_eq_false (fun h => he (by injection h))
    have ht : (kind != kind2) = true := by simpa using he
    clear he
    go_enter Try.func18, Try.ntmps18
    go_wp2
    go_ret
    exact ⟨by rw [HX.out]; rfl, ((Below.refl _ _).alloc (Nat.le_refl _) _).alloc (by simp) _⟩
  subst he
  by_cases he : frm = frm2
  case neg =>
    have HX : Hid (samePk ⟨kind, frm, ep, cf, ma, sl, off, ab, ac, as_, sec⟩ ⟨kind, frm2, ep2, cf2, ma2, sl2, off2, ab2, ac2, as_2, sec2⟩ = false) := by show _ = _; unfold samePk; exact decide_eq_false (fun h => he (by injection h))
    have ht : (frm != frm2) = true := by simpa using he
    clear he
    go_enter Try.func18, Try.ntmps18
    go_wp2
    go_ret
    exact ⟨by rw [HX.out]; rfl, ((Below.refl _ _).alloc (Nat.le_refl _) _).alloc (by simp) _⟩
  subst he
  by_cases he : ep = ep2
  case neg =>
    have HX : Hid (samePk ⟨kind, frm, ep, cf, ma, sl, off, ab, ac, as_, sec⟩ ⟨kind, frm, ep2, cf2, ma2, sl2, off2, ab2, ac2, as_2, sec2⟩ = false) := by show _ = _; unfold samePk; exact decide_eq_false (fun h => he (by injection h))
    have ht : (ep != ep2) = true := by simpa using he
    clear he
    go_enter Try.func18, Try.ntmps18
    go_wp2
    go_ret
    exact ⟨by rw [HX.out]; rfl, ((Below.refl _ _).alloc (Nat.le_refl _) _).alloc (by simp) _⟩
  subst he
  by_cases he : cf = cf2
  case neg =>
    have HX : Hid (samePk ⟨kind, frm, ep, cf, ma, sl, off, ab, ac, as_, sec⟩ ⟨kind, frm, ep, cf2, ma2, sl2, off2, ab2, ac2, as_2, sec2⟩ = false) := by show _ = _; unfold samePk; exact decide_eq_false (fun h => he (by injection h))
    have ht : (cf != cf2) = true := by simpa using he
    clear he
    go_enter Try.func18, Try.ntmps18
    go_wp2
    go_ret
    exact ⟨by rw [HX.out]; rfl, ((Below.refl _ _).alloc (Nat.le_refl _) _).alloc (by simp) _⟩
  subst he
  by_cases he : ma = ma2
  case neg =>
    have HX : Hid (samePk ⟨kind, frm, ep, cf, ma, sl, off, ab, ac, as_, sec⟩ ⟨kind, frm, ep, cf, ma2, sl2, off2, ab2, ac2, as_2, sec2⟩ = false) := by show _ = _; unfold samePk; exact decide_eq_false (fun h => he (by injection h))
    have ht : (ma != ma2) = true := by simpa using he
    clear he
    go_enter Try.func18, Try.ntmps18
    go_wp2
    go_ret
    exact ⟨by rw [HX.out]; rfl, ((Below.refl _ _).alloc (Nat.le_refl _) _).alloc (by simp) _⟩
  subst he
  by_cases he : sl = sl2
  case neg =>
    have HX : Hid (samePk ⟨kind, frm, ep, cf, ma, sl, off, ab, ac, as_, sec⟩ ⟨kind, frm, ep, cf, ma, sl2, off2, ab2, ac2, as_2, sec2⟩ = false) := by show _ = _; unfold samePk; exact decide_eq_false (fun h => he (by injection h))
    have ht : (sl != sl2) = true := by simpa using he
    clear he
    go_enter Try.func18, Try.ntmps18
    go_wp2
    go_ret
    exact ⟨by rw [HX.out]; rfl, ((Below.refl _ _).alloc (Nat.le_refl _) _).alloc (by simp) _⟩
  subst he
  by_cases he : off = off2
  case neg =>
    have HX : Hid (samePk ⟨kind, frm, ep, cf, ma, sl, off, ab, ac, as_, sec⟩ ⟨kind, frm, ep, cf, ma, sl, off2, ab2, ac2, as_2, sec2⟩ = false) := by show _ = _; unfold samePk; exact decide_eq_false (fun h => he (by injection h))
    have ht : (off != off2) = true := by simpa using he
    clear he
    go_enter Try.func18, Try.ntmps18
    go_wp2
    go_ret
    exact ⟨by rw [HX.out]; rfl, ((Below.refl _ _).alloc (Nat.le_refl _) _).alloc (by simp) _⟩
  subst he
  by_cases he : ab = ab2
  case neg =>
    have HX : Hid (samePk ⟨kind, frm, ep, cf, ma, sl, off, ab, ac, as_, sec⟩ ⟨kind, frm, ep, cf, ma, sl, off, ab2, ac2, as_2, sec2⟩ = false) := by show _ = _; unfold samePk; exact decide_eq_false (fun h => he (by injection h))
    have ht : (ab != ab2) = true := by simpa using he
    clear he
    go_enter Try.func18, Try.ntmps18
    go_wp2
    go_ret
    exact ⟨by rw [HX.out]; rfl, ((Below.refl _ _).alloc (Nat.le_refl _) _).alloc (by simp) _⟩
  subst he
  by_cases he : ac = ac2
  case neg =>
    have HX : Hid (samePk ⟨kind, frm, ep, cf, ma, sl, off, ab, ac, as_, sec⟩ ⟨kind, frm, ep, cf, ma, sl, off, ab, ac2, as_2, sec2⟩ = false) := by show _ = _; unfold samePk; exact decide_eq_false (fun h => he (by injection h))
    have ht : (ac != ac2) = true := by simpa using he
    clear he
    go_enter Try.func18, Try.ntmps18
    go_wp2
    go_ret
    exact ⟨by rw [HX.out]; rfl, ((Below.refl _ _).alloc (Nat.le_refl _) _).alloc (by simp) _⟩
  subst he
  by_cases he : as_ = as_2
  case neg =>
    have HX : Hid (samePk ⟨kind, frm, ep, cf, ma, sl, off, ab, ac, as_, sec⟩ ⟨kind, frm, ep, cf, ma, sl, off, ab, ac, as_2, sec2⟩ = false) := by show _ = _; unfold samePk; exact decide_eq_false (fun h => he (by injection h))
    have ht : (as_ != as_2) = true := by simpa using he
    clear he
    go_enter Try.func18, Try.ntmps18
    go_wp2
    go_ret
    exact ⟨by rw [HX.out]; rfl, ((Below.refl _ _).alloc (Nat.le_refl _) _).alloc (by simp) _⟩
  subst he
  by_cases he : n = m
  case neg =>
    have HX : Hid (samePk ⟨kind, frm, ep, cf, ma, sl, off, ab, ac, as_, sec⟩ ⟨kind, frm, ep, cf, ma, sl, off, ab, ac, as_, sec2⟩ = false) := by show _ = _; unfold samePk; exact decide_eq_false (fun h => he (by injection h; subst_vars; rfl))
    have ht : ((n : Int) != (m : Int)) = true := by simp; omega
    clear he
    go_enter Try.func18, Try.ntmps18
    go_wp2
    go_ret
    exact ⟨by rw [HX.out]; rfl, ((Below.refl _ _).alloc (Nat.le_refl _) _).alloc (by simp) _⟩
  subst he
  have bq := Blk.new (w.alloc (.cells #[.int .i64 kind, .int .i64 frm, .int .i64 ep, .int .i64 cf, .int .i64 ma, .int .u64 sl, .int .i64 off, .int .i64 ab, .int .i64 ac, .int .u64 as_, .slice A n c] 26)) 26 #[.int .i64 kind, .int .i64 frm, .int .i64 ep, .int .i64 cf, .int .i64 ma, .int .u64 sl, .int .i64 off, .int .i64 ab, .int .i64 ac, .int .u64 as_, .slice B n d]
  rw [World.size_alloc] at bq
  have hB0 : Below w.heap.size w ((w.alloc (.cells #[.int .i64 kind, .int .i64 frm, .int .i64 ep, .int .i64 cf, .int .i64 ma, .int .u64 sl, .int .i64 off, .int .i64 ab, .int .i64 ac, .int .u64 as_, .slice A n c] 26)).alloc (.cells #[.int .i64 kind, .int .i64 frm, .int .i64 ep, .int .i64 cf, .int .i64 ma, .int .u64 sl, .int .i64 off, .int .i64 ab, .int .i64 ac, .int .u64 as_, .slice B n d] 26)) := ((Below.refl _ _).alloc (Nat.le_refl _) _).alloc (by simp) _
  have hsm := same_ent
  have hgd := guard_ent
  have HL := Lib.hid hl
  have HM := Lib.hid hm
  have HE := Lib.hid hE
  have HF := Lib.hid hF
  have BQ := Lib.hid bq
  have HB0 := Lib.hid hB0
  clear hE hF bq hB0 hl hm
  go_enter Try.func18, Try.ntmps18
  go_wp2
  go_loopw [5, 6, 87] (fun _ _ i wr => ∃ k : Nat, k ≤ n ∧ i = .int .i64 k ∧ Below (w.heap.size + 2) ((w.alloc (.cells #[.int .i64 kind, .int .i64 frm, .int .i64 ep, .int .i64 cf, .int .i64 ma, .int .u64 sl, .int .i64 off, .int .i64 ab, .int .i64 ac, .int .u64 as_, .slice A n c] 26)).alloc (.cells #[.int .i64 kind, .int .i64 frm, .int .i64 ep, .int .i64 cf, .int .i64 ma, .int .u64 sl, .int .i64 off, .int .i64 ab, .int .i64 ac, .int .u64 as_, .slice B n d] 26)) wr ∧ Hid (sec.take k = sec2.take k)) (fun _ _ i _ => n - (RowKit.intOf i).toNat)
  case atStart => exact ⟨0, by omega, rfl, Below.refl _ _, by show _ = _; simp⟩
  case round =>
    obtain ⟨k, hk, rfl, hbw, HT⟩ := hrel
    have hB := HB0.out.trans (hbw.mono (by omega))
    by_cases hkn : k < n
    · obtain ⟨ad, x, rfl, hx, hlt, x0, x1⟩ := (HE.out.below hB).at_ hkn
      obtain ⟨ad2, y, rfl, hy, hlt2, y0, y1⟩ := (HF.out.below hB).at_ hkn
      have hsz : w.heap.size + 2 ≤ wr.heap.size := by have := hbw.size; simp at this; omega
      have bqr := (BQ.out.below hbw (by omega)).alloc (.cells #[.int .i64 x.id, .int .i64 x.st] 48)
      have q10 := bqr.cell 10
      have bx := Blk.new wr 48 #[.int .i64 x.id, .int .i64 x.st]
      have z0 := bx.cell 0
      have z1 := bx.cell 1
      have hal : Below wr.heap.size wr (wr.alloc (.cells #[.int .i64 x.id, .int .i64 x.st] 48)) := (Below.refl _ _).alloc (Nat.le_refl _) _
      have w0 : (wr.alloc (.cells #[.int .i64 x.id, .int .i64 x.st] 48)).cell? (ad2.add (k * 2)) = some (.int .i64 y.id) := (hal.cell (by rw [block_of_add]; exact hlt2)).trans y0
      have w1 : (wr.alloc (.cells #[.int .i64 x.id, .int .i64 x.st] 48)).cell? ⟨(ad2.add (k * 2)).block, (ad2.add (k * 2)).off + 1, none⟩ = some (.int .i64 y.st) := (hal.cell (p := ⟨(ad2.add (k * 2)).block, (ad2.add (k * 2)).off + 1, none⟩) (by show (ad2.add (k * 2)).block < _; rw [block_of_add]; exact hlt2)).trans y1
      have hkd : (k : Int) < (n : Int) := by omega
      have hk0 : (0 : Int) ≤ (k : Int) := by omega
      have HBA := Lib.hid (hB.alloc hB.size (.cells #[.int .i64 x.id, .int .i64 x.st] 48))
      have HBW := Lib.hid (hbw.alloc hsz (.cells #[.int .i64 x.id, .int .i64 x.st] 48))
      by_cases hxy : x = y
      · subst hxy
        have hde : decide (x = x) = true := by simp
        have HN : Hid (sec.take (k + 1) = sec2.take (k + 1)) := by show _ = _; rw [takeE_snoc hx, takeE_snoc hy, HT.out]
        clear hx hy bqr bx hal hbw hB y0 y1
        go_wp2
        go_region_held3 (fun w' => w'.cell? ⟨wr.heap.size, 0, none⟩ = some (.int .i64 x.id) ∧ w'.cell? ⟨wr.heap.size, 1, none⟩ = some (.int .i64 x.st) ∧ w'.cell? ⟨w.heap.size + 1, 10, none⟩ = some (.slice (some ad2) n d) ∧ w'.cell? (ad2.add (k * 2)) = some (.int .i64 x.id) ∧ w'.cell? ⟨(ad2.add (k * 2)).block, (ad2.add (k * 2)).off + 1, none⟩ = some (.int .i64 x.st)) (first | exact ⟨z0, z1, q10, w0, w1⟩) (first | fail)
        go_wp2
        go_roundw
        case rel => exact ⟨k + 1, by omega, by go_num, HBW.out.drew, HN.out⟩
        case measure => simp [RowKit.intOf]; omega
      · have hde : decide (x = y) = false := decide_eq_false hxy
        have HX : Hid (samePk ⟨kind, frm, ep, cf, ma, sl, off, ab, ac, as_, sec⟩ ⟨kind, frm, ep, cf, ma, sl, off, ab, ac, as_, sec2⟩ = false) := by
          show _ = _
          unfold samePk
          refine decide_eq_false (fun h => hxy ?_)
          injection h with _ _ _ _ _ _ _ _ _ _ h
          rw [h, hy] at hx
          injection hx with hx
          exact hx.symm
        clear hx hy bqr bx hal hbw hB y0 y1 hxy
        go_wp2
        go_region_held3 (fun w' => w'.cell? ⟨wr.heap.size, 0, none⟩ = some (.int .i64 x.id) ∧ w'.cell? ⟨wr.heap.size, 1, none⟩ = some (.int .i64 x.st) ∧ w'.cell? ⟨w.heap.size + 1, 10, none⟩ = some (.slice (some ad2) n d) ∧ w'.cell? (ad2.add (k * 2)) = some (.int .i64 y.id) ∧ w'.cell? ⟨(ad2.add (k * 2)).block, (ad2.add (k * 2)).off + 1, none⟩ = some (.int .i64 y.st)) (first | exact ⟨z0, z1, q10, w0, w1⟩) (first | fail)
        go_wp2
        go_ret
        exact ⟨by rw [HX.out]; rfl, HBA.out.drew⟩
    · obtain rfl : k = n := by omega
      have HX : Hid (samePk ⟨kind, frm, ep, cf, ma, sl, off, ab, ac, as_, sec⟩ ⟨kind, frm, ep, cf, ma, sl, off, ab, ac, as_, sec2⟩ = true) := by
        show _ = _
        unfold samePk
        have e := HT.out
        rw [List.take_of_length_le (by rw [HL.out]; exact Nat.le_refl _), List.take_of_length_le (by rw [HM.out]; exact Nat.le_refl _)] at e
        rw [e]
        exact decide_eq_true rfl
      go_wp2
      go_ret
      exact ⟨by rw [HX.out]; rfl, hB⟩
end Go.Proofs.Ytakhemhcnceajaa
