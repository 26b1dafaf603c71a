/-
  WHAT IS PROVED: contracts of the library's Clone and SortFunc at replicas, and of Order and Rank. Condition: none beyond the argument's reading and its size.
-/
import Derived.Test.YtdeppjoehnlbnaaAgainst
import Derived.Test.YtdeppjoehnlbnaaAre
import Derived.Sort.LotA
namespace Go.Proofs.Ytdeppjoehnlbnaa
open Go.RowKit Go.Lib Go.Sort

theorem encR_len (r : Rep) : (encR r).length = 2 := rfl
theorem encR_one (r : Rep) : ∀ v ∈ encR r, v.oneCell' = true := fun v hv => by
  simp [encR] at hv
  rcases hv with rfl | rfl <;> rfl

/-- a list of replicas is handed back, in memory of its own -/
def Lists (l : List Rep) (w : World) (e : Ending) (w' : World) : Prop :=
  Below w.heap.size w w' ∧ ∃ v, e = .returned v ∧ w'.ownsRow w.heap.size 29 2 v l.length (flatR l)

set_option maxHeartbeats 1000000 in
theorem clone_any (A : Option Addr) (n c : Nat) (l : List Rep) (w : World) (hn : n ≤ 1000) (hr : RepsAt w A n l) :
    Calls Try.prog 18 #[.slice A n c] w (Lists l w) := by
  obtain ⟨i0, hi0, hz0, hz1, hz2⟩ := info_parts rep_info
  have HI : Hid (Try.prog.info? 29 = some i0) := hi0
  have HZ0 := Lib.hid hz0
  have HZ1 := Lib.hid hz1
  have HZ2 := Lib.hid hz2
  clear hi0 hz0 hz1 hz2
  obtain rfl := hr.1
  have q22 : ∀ (w : World) (a : Option Addr) (n c n' c' : Nat), (binOp .eql 22 (.slice a n c) (.slice none n' c')).run Try.prog w = .ok (.bool a.isNone) w := fun w a n c n' c' => Lib.run_eql_slice_nil w _ _ a n c n' c' Try.underlying22
  cases A with
  | none =>
    have h0 : l.length = 0 := by
      rcases Nat.eq_zero_or_pos l.length with h | h
      · exact h
      · obtain ⟨ad, e, _⟩ := hr.2 h; cases e
    have HL : Hid (l = []) := List.eq_nil_of_length_eq_zero h0
    clear h0
    go_enter Try.func18, Try.ntmps18
    go_wp2
    go_ret
    exact ⟨Below.refl _ _, _, rfl, by rw [HL.out]; exact World.ownsRow_nil _ _ _ _⟩
  | some ad =>
    have HR := Lib.hid hr
    clear hr
    go_enter Try.func18, Try.ntmps18
    go_wp2_with (at_builtin; refine wpList_append_reps _ rfl _ _ 22 rfl w.heap.size 29 i0 (.agg #[.int .i64 0, .int .i64 0]) Try.underlying22 HI.out HZ0.out HZ1.out HZ2.out rfl _ 0 [] rfl (World.ownsRow_made w #[] 0 (Nat.le_refl _) (Nat.zero_le _) (by simp)) (some ad) l.length c l rfl (HR.out.below ((Below.refl _ w).alloc (Nat.le_refl _) _)) (by omega) (by simp) ?_; intro v' w3 hown' hg3 _)
    have hb : Below w.heap.size w w3 := ((Below.refl _ w).alloc (Nat.le_refl _) _).grown hg3 (by simp) (fun k e => by cases e; exact Nat.le_refl _)
    rw [Nat.zero_add, List.nil_append] at hown'
    go_ret
    exact ⟨hb, _, rfl, hown'⟩

/-- the world behind a sort: all but the row is as it was -/
theorem sorted_below {w0 w : World} {g : Nat} (hb : Below w0.heap.size w0 w) (hg : w0.heap.size ≤ g) (k : Nat) (d : Array Rep) (os : Array Obj) : Below w0.heap.size w0 (sortWorldK encR 2 w g 0 k d os) := by
  refine ⟨hb.os, hb.tape, hb.output, Nat.le_trans hb.size ?_, fun i hi => ?_⟩
  · show w.heap.size ≤ ((w.heap.modify g _) ++ os).size
    simp
  · rw [← hb.block i hi]
    have hi2 : i < w.heap.size := Nat.lt_of_lt_of_le hi hb.size
    have hne : g ≠ i := by omega
    show ((w.heap.modify g _) ++ os)[i]? = _
    rw [Array.getElem?_append_left (by simpa using hi2), Array.getElem?_modify, if_neg hne]

theorem holds_row {w : World} {g n : Nat} {e : TypeId} {cur : Array Value} {l : List Rep} (hl : l.length = n) (hh : w.heap[g]? = some (.cells cur e (0, 0))) (ht : cur.toList.take (n * 2) = flatR l) : HoldsK encR 2 w g 0 l.toArray := by
  intro j hj
  have hj' : j < l.length * 2 := by simpa using hj
  refine ⟨?_, by simp [World.frozen?, hh]⟩
  have hi : j / 2 < l.length := by omega
  have hr := List.getElem?_eq_getElem hi
  have hc := flat_get hr
  have hcur : ∀ u, (flatR l)[j]? = some u → w.cell? ⟨g, 0 + j, none⟩ = some u := fun u hu => by
    rw [← ht, List.getElem?_take] at hu
    rw [if_pos (by omega)] at hu
    rw [Nat.zero_add, World.cell?, hh]
    simpa using hu
  rw [id, get_flatK _ _ _ _ (by simpa using hj')]
  have he : l.toArray[j / 2]! = l[j / 2] := by simp [hi]
  rw [he]
  rcases Nat.mod_two_eq_zero_or_one j with h | h
  · have hj2 : j = j / 2 * 2 := by omega
    rw [h]
    exact hcur _ (by rw [show (flatR l)[j]? = (flatR l)[j / 2 * 2]? by rw [← hj2]]; exact hc.1)
  · have hj2 : j = j / 2 * 2 + 1 := by omega
    rw [h]
    exact hcur _ (by rw [show (flatR l)[j]? = (flatR l)[j / 2 * 2 + 1]? by rw [← hj2]]; exact hc.2)

theorem reps_sorted {w : World} {g n k : Nat} {l m : List Rep} {os : Array Obj} (hm : m.length = l.length) (hl : l.length = n) (hH : HoldsK encR 2 w g 0 l.toArray) (hg : g < w.heap.size) : RepsAt (sortWorldK encR 2 w g 0 k m.toArray os) (some ⟨g, 0, none⟩) n m := by
  have h1 : HoldsK encR 2 (sortWorldK encR 2 w g 0 k m.toArray os) g 0 m.toArray := by
    refine holdsK_grow _ _ _ _ _ _ _ ?_ (holdsK_putRowK _ _ _ _ _ l.toArray _ (holdsK_ahead _ _ _ _ _ _ _ hH) (by simp [hm]))
    show g < (w.heap.modify g _).size
    simpa using hg
  refine ⟨by omega, fun _ => ⟨_, rfl, ?_, fun i s hs => ?_⟩⟩
  · show g < ((w.heap.modify g _) ++ os).size
    simp; omega
  · obtain ⟨hi, rfl⟩ := List.getElem?_eq_some_iff.1 hs
    have c0 := (h1.cell (i := i) (c := 0) (by simpa using hi) (by omega)).1
    have c1 := (h1.cell (i := i) (c := 1) (by simpa using hi) (by omega)).1
    have he : m.toArray[i]! = m[i] := by simp [hi]
    rw [he] at c0 c1
    rw [Go.WideShapes.add_plain, Go.WideShapes.add_plain]
    rw [show 0 + (i * 2 + 1) = 0 + i * 2 + 1 by omega]
    exact ⟨c0, c1⟩

theorem sort_any (base n : Nat) (v : Value) (l : List Rep) (w0 w : World) (hn : n ≤ 1000) (hb : Below w0.heap.size w0 w) (hbase : w0.heap.size ≤ base) (hown : w.ownsRow base 29 2 v n (flatR l)) :
    Calls Try.prog 19 #[v, .func (.func 20) #[] #[]] w fun e w' => e = .returned (.tuple #[]) ∧ Below w0.heap.size w0 w' ∧ ∃ A c, v = .slice A n c ∧ n ≤ c ∧ c ≤ 9223372036854775807 ∧ RepsAt w' A n (orderL l) := by
  have hl : l.length = n := by have := hown.1; rw [flat_len] at this; omega
  rcases hown.2 with ⟨rfl, rfl⟩ | ⟨g, cap, cur, rfl, hg, hh, hnc, hcm, _, ht⟩
  · obtain rfl := List.eq_nil_of_length_eq_zero hl
    refine (Try.SortFunc_none none 0 _ w).mono ?_
    rintro e w' ⟨rfl, rfl⟩
    exact ⟨rfl, hb, none, 0, rfl, Nat.le_refl _, by omega, by rw [show orderL [] = [] from List.eq_nil_of_length_eq_zero (order_len [])]; exact RepsAt.nil_ _ _⟩
  · have eg : ∀ args w, (callFunc 20 args).run Try.prog w = .ok (.enter 20 args) w := enters_of Try.func20 (by kernel_rfl) rfl
    have hH := holds_row hl hh ht
    have hlt : g < w.heap.size := (Array.getElem?_eq_some_iff.1 hh).1
    have h := Try.SortFunc_total encR encR_len encR_one cf swo_cf 20 #[] g 0 cap l.toArray w eg (against_lays g 0 _ w) hH hlt (by simp; omega) tot_cf
    rw [show l.toArray.size = n by simpa using hl] at h
    refine h.mono ?_
    rintro e w' ⟨rfl, k, os, rfl⟩
    exact ⟨rfl, sorted_below hb (Nat.le_trans hbase hg) _ _ _, _, cap, rfl, hnc, by unfold maxLen at hcm; omega, reps_sorted (order_len l) hl hH hlt⟩

def Ordered (l : List Rep) (n : Nat) (w : World) (e : Ending) (w' : World) : Prop :=
  Below w.heap.size w w' ∧ ∃ A c, e = .returned (.tuple #[.slice A n c, .int .i64 0]) ∧ n ≤ c ∧ c ≤ 9223372036854775807 ∧ RepsAt w' A n (orderL l)

theorem order_no (A : Option Addr) (n c : Nat) (l : List Rep) (w : World) (hnc : n ≤ c) (hr : RepsAt w A n l) (h : Hid (rightB l = false)) :
    Calls Try.prog 11 #[.slice A n c] w fun e w' => e = .returned (.tuple #[.slice none 0 0, .int .i64 10]) ∧ Below w.heap.size w w' := by
  go_enter Try.func11, Try.ntmps11
  go_wp2_with (fail)
  refine (are_any A n c l _ hnc hr).mono ?_
  rintro e w1 ⟨rfl, hb1⟩
  rw [h.out]
  go_wp2
  go_ret2
  exact ⟨rfl, hb1⟩

theorem order_yes (A : Option Addr) (n c : Nat) (l : List Rep) (w : World) (hnc : n ≤ c) (hr : RepsAt w A n l) (h : Hid (rightB l = true)) :
    Calls Try.prog 11 #[.slice A n c] w (Ordered l n w) := by
  obtain rfl := hr.1
  have h16 : l.length ≤ 16 := (right_iff.1 h.out).1
  go_enter Try.func11, Try.ntmps11
  go_wp2_with (fail)
  refine (are_any A _ c l _ hnc hr).mono ?_
  rintro e w1 ⟨rfl, hb1⟩
  rw [h.out]
  go_wp2_with (fail)
  refine (clone_any A _ c l _ (by omega) (hr.below hb1)).mono ?_
  rintro e w2 ⟨hb2, v, rfl, hown⟩
  have hb3 := hb1.trans (hb2.mono hb1.size)
  go_wp2_with (fail)
  refine (sort_any _ _ v l w _ (by omega) hb3 hb1.size hown).mono ?_
  rintro e w3 ⟨rfl, hb4, A1, c1, rfl, hn1, hc1, hr1⟩
  go_wp2
  go_ret2
  exact ⟨hb4, A1, c1, rfl, hn1, hc1, hr1⟩

theorem cnt_yes {l : List Rep} {k : Nat} {x r : Rep} (hx : l[k]? = some x) (h : aheadB x r = true) : cnt (l.take (k + 1)) r = cnt (l.take k) r + 1 := by
  unfold cnt; rw [takeR_snoc hx, List.countP_append]; simp [h]
theorem cnt_not {l : List Rep} {k : Nat} {x r : Rep} (hx : l[k]? = some x) (h : aheadB x r = false) : cnt (l.take (k + 1)) r = cnt (l.take k) r := by
  unfold cnt; rw [takeR_snoc hx, List.countP_append]; simp [h]
/-- a replica's two cells at the head of a block -/
def BoxAt (w : World) (b : Nat) (r : Rep) : Prop := w.cell? ⟨b, 0, none⟩ = some (.int .i64 r.id) ∧ w.cell? ⟨b, 1, none⟩ = some (.int .i64 r.off)
theorem BoxAt.new (w : World) (r : Rep) : BoxAt (w.alloc (.cells #[.int .i64 r.id, .int .i64 r.off] 29)) w.heap.size r := ⟨by simp, by simp⟩
theorem BoxAt.below {w w' : World} {b : Nat} {r : Rep} (h : BoxAt w b r) (hb : Below w.heap.size w w') : BoxAt w' b r := by
  have hlt : b < w.heap.size := lt_of_cell h.1
  exact ⟨(hb.cell (p := ⟨b, 0, none⟩) hlt).trans h.1, (hb.cell (p := ⟨b, 1, none⟩) hlt).trans h.2⟩
theorem below_alloc {w0 w : World} (hb : Below w0.heap.size w0 w) (o : Obj) : Below w0.heap.size w0 (w.alloc o) := hb.alloc hb.size o

/-- of the ones of a list: the rank, or the answer that none has the id -/
theorem rank_bad (A : Option Addr) (n c : Nat) (l : List Rep) (id : Int) (w : World) (hnc : n ≤ c) (hr : RepsAt w A n l) (h : Hid (rightB l = false)) :
    Calls Try.prog 14 #[.slice A n c, .int .i64 id] w fun e w' => e = .returned (.tuple #[.int .i64 0, .int .i64 10]) ∧ Below w.heap.size w w' := by
  go_enter Try.func14, Try.ntmps14
  go_wp2_with (fail)
  refine (order_no A n c l _ hnc hr h).mono ?_
  rintro e w1 ⟨rfl, hb1⟩
  go_wp2
  go_ret2
  exact ⟨rfl, hb1⟩

theorem rank_none (A : Option Addr) (n c : Nat) (l : List Rep) (id : Int) (w : World) (hnc : n ≤ c) (hr : RepsAt w A n l) (h : Hid (rightB l = true)) (hi : Hid (id ∉ ids l)) :
    Calls Try.prog 14 #[.slice A n c, .int .i64 id] w fun e w' => e = .returned (.tuple #[.int .i64 0, .int .i64 30]) ∧ Below w.heap.size w w' := by
  have h16 : n ≤ 16 := by have := (right_iff.1 h.out).1; have := hr.1; omega
  have HP : Hid (placeZ (orderL l) id = -1) := rank_no hi.out
  go_enter Try.func14, Try.ntmps14
  go_wp2_with (fail)
  refine (order_yes A n c l _ hnc hr h).mono ?_
  rintro e w1 ⟨hb1, A1, c1, rfl, hn1, hc1, hr1⟩
  go_wp2_with (fail)
  refine (place_any A1 n c1 (orderL l) id _ (by omega) hr1).mono ?_
  rintro e w2 ⟨rfl, hb2⟩
  rw [HP.out]
  have hb3 := hb1.trans (hb2.mono hb1.size)
  go_wp2
  go_ret2
  exact ⟨rfl, hb3⟩

theorem rank_of (A : Option Addr) (n c : Nat) (l : List Rep) (r : Rep) (k : Nat) (w : World) (hnc : n ≤ c) (hr : RepsAt w A n l) (h : Hid (rightB l = true)) (hi : Hid (r ∈ l)) (hk : Hid (cnt l r = k)) :
    Calls Try.prog 14 #[.slice A n c, .int .i64 r.id] w fun e w' => e = .returned (.tuple #[.int .i64 k, .int .i64 0]) ∧ Below w.heap.size w w' := by
  have h16 : n ≤ 16 := by have := (right_iff.1 h.out).1; have := hr.1; omega
  have HP : Hid (placeZ (orderL l) r.id = (k : Int)) := by have e := rank_yes h.out hi.out; rw [hk.out] at e; exact e
  go_enter Try.func14, Try.ntmps14
  go_wp2_with (fail)
  refine (order_yes A n c l _ hnc hr h).mono ?_
  rintro e w1 ⟨hb1, A1, c1, rfl, hn1, hc1, hr1⟩
  go_wp2_with (fail)
  refine (place_any A1 n c1 (orderL l) r.id _ (by omega) hr1).mono ?_
  rintro e w2 ⟨rfl, hb2⟩
  rw [HP.out]
  have hb3 := hb1.trans (hb2.mono hb1.size)
  have hk0 : decide ((k : Int) < 0) = false := by simp
  go_wp2
  go_ret2
  exact ⟨rfl, hb3⟩
end Go.Proofs.Ytdeppjoehnlbnaa
