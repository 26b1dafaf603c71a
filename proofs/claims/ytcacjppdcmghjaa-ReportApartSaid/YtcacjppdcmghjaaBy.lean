/-
  WHAT IS PROVED: contracts of the library's Sort at lists of ints, and of By. Condition: the object is a book.
-/
import Derived.Test.YtcacjppdcmghjaaGone
import Derived.Test.YtcacjppdcmghjaaShelf
import Derived.Test.YtcacjppdcmghjaaAppend
import Derived.Sort.OwnSortedInts
namespace Go.Proofs.Ytcacjppdcmghjaa
open Go.RowKit Go.Lib Go.Maps

theorem zints_len (l : List Int) : (zints l).length = l.length := by unfold zints; simp
theorem zints_append (l m : List Int) : zints (l ++ m) = zints l ++ zints m := by unfold zints; rw [List.map_append]
theorem zints_take (l : List Int) (k : Nat) : zints (l.take k) = (zints l).take k := by unfold zints; rw [List.map_take]
theorem zints_drop (l : List Int) (k : Nat) : zints (l.drop k) = (zints l).drop k := by unfold zints; rw [List.map_drop]
theorem zints_oneCell (l : List Int) : ∀ u ∈ zints l, u.oneCell' = true := by
  intro u hu
  unfold zints at hu
  obtain ⟨z, _, rfl⟩ := List.mem_map.1 hu
  rfl
theorem zlen {w : World} {g n : Nat} {A : Option Addr} {l : List Int} (h : Reads w g A n (zints l)) : l.length = n := by rw [← zints_len]; exact h.1
theorem cell_one_new (w : World) (v : Value) (t : TypeId) : ∀ j u, [v][j]? = some u → (w.alloc (.cells #[v] t)).cell? ((⟨w.heap.size, 0, none⟩ : Addr).add j) = some u := fun j u hu => by
  rw [Go.WideShapes.add_plain, Nat.zero_add, (Blk.new w t _).cell j]
  simpa using hu
theorem own_slice {w : World} {base n : Nat} {e : TypeId} {v : Value} {xs : List Value} (h : w.ownsRow base e 1 v n xs) :
    ∃ A cap, v = .slice A n cap ∧ n ≤ cap ∧ cap ≤ 9223372036854775807 := by
  rcases h.2 with ⟨rfl, rfl⟩ | ⟨b, cap, cur, rfl, hb, hh, hnc, hcm, _⟩
  · exact ⟨none, 0, rfl, Nat.le_refl _, by omega⟩
  · exact ⟨some ⟨b, 0, none⟩, cap, rfl, hnc, by unfold maxLen at hcm; omega⟩
theorem own_read {w : World} {base n cap : Nat} {A : Option Addr} {e : TypeId} {xs : List Value} (h : w.ownsRow base e 1 (.slice A n cap) n xs) : ∀ g, w.heap.size ≤ g ∨ g < base → Reads w g A n xs := by
  have hl : xs.length = n := by have := h.1; omega
  intro g hg
  refine ⟨hl, fun hn => ?_⟩
  rcases h.2 with ⟨hv, rfl⟩ | ⟨b, cap, cur, hv, hb, hh, hnc, hcm, _⟩
  · exact absurd hn (by omega)
  · injection hv with hv
    subst hv
    have hlt : b < w.heap.size := by
      rcases Nat.lt_or_ge b w.heap.size with hlt | hge
      · exact hlt
      · rw [Array.getElem?_eq_none hge] at hh; cases hh
    exact ⟨_, rfl, hlt, by show b ≠ g; omega, h.cells rfl⟩
theorem own_below {w w' : World} {base n : Nat} {e : TypeId} {v : Value} {xs : List Value} (h : w.ownsRow base e 1 v n xs) (hb : Below w.heap.size w w') : w'.ownsRow base e 1 v n xs :=
  h.kept (only_of_below hb none) (by cases v.ownBlock <;> simp)
/-- the block of a range is no row -/
theorem row_ne_range {w : World} {base n b r m : Nat} {e : TypeId} {v : Value} {xs : List Value} {D : Dm} {left : Lit → Bool} {cnt : Nat} (h : w.ownsRow base e 1 v n xs) (hr : Ra w b r m D left cnt) : some r ≠ v.ownBlock := by
  rcases h.2 with ⟨rfl, _⟩ | ⟨g, cap, cur, rfl, _, hh, _⟩
  · simp [Value.ownBlock]
  · intro e
    have e : r = g := by simpa [Value.ownBlock] using e
    obtain ⟨_, _, _, _, _, _, _, _, _, hi, _⟩ := hr
    rw [e, hh] at hi
    cases hi

theorem sort_any (base n : Nat) (v : Value) (zs : List Int) (w : World) (hn : n ≤ 1000000) (hown : w.ownsRow base 3 1 v n (zints zs)) :
    Calls Try.prog 30 #[v] w fun e w' => e = .returned (.tuple #[]) ∧ w'.ownsRow base 3 1 v n (zints (sorted zs)) ∧ w.grownBy w' v.ownBlock := by
  have hl : zs.length = n := by have := hown.1; rw [zints_len] at this; omega
  rcases hown.2 with ⟨rfl, rfl⟩ | ⟨g, cap, cur, rfl, hb, hh, hnc, hcm, hcs, ht⟩
  · obtain rfl := List.eq_nil_of_length_eq_zero hl
    refine (Try.slices_Sort_int_none none 0 w).mono ?_
    rintro e w' ⟨rfl, rfl⟩
    exact ⟨rfl, by rw [show sorted [] = [] by simp [sorted]]; exact hown, World.grownBy.refl _ _⟩
  · subst hl
    rw [Nat.mul_one] at ht
    have hH := holds_of_blockI (ss := zs) hh ht
    refine (Try.slices_Sort_int g 0 cap zs w hH (Array.getElem?_eq_some_iff.1 hh).1 (by omega)).mono ?_
    rintro e w' ⟨rfl, k, os, rfl⟩
    exact ⟨rfl, ownsRow_sortedI (by simp) hb hh hnc hcm hcs, grownBy_sortedI _⟩

/-- a list of numbers is handed back, in memory of its own -/
def Lists (l : List Int) (w : World) (e : Ending) (w' : World) : Prop :=
  Below w.heap.size w w' ∧ ∃ v, e = .returned v ∧ w'.ownsRow w.heap.size 3 1 v l.length (zints l)

/-! ### those who have come -/
def doneL (L : List Rp) (left : Lit → Bool) : List Rp := L.filter fun r => !left (kl r.a r.b)
theorem done_start {L : List Rp} {left : Lit → Bool} (h : ∀ r ∈ L, left (kl r.a r.b) = true) : doneL L left = [] := by
  unfold doneL
  rw [List.filter_eq_nil_iff]
  intro r hr
  simp [h r hr]
theorem done_end {L : List Rp} {left : Lit → Bool} (h : ∀ l, left l = false) : doneL L left = L := by
  unfold doneL
  rw [List.filter_eq_self]
  intro r _
  simp [h]
theorem done_step {L : List Rp} {left : Lit → Bool} (hu : Good L) {r : Rp} (hr : r ∈ L) (hl : left (kl r.a r.b) = true) : (doneL L (struck left r)).Perm (doneL L left ++ [r]) := by
  have hn : (doneL L left ++ [r]).Nodup := by
    rw [List.nodup_append]
    refine ⟨(hu.1.filter _).nodup, by simp, fun a ha b hb e => ?_⟩
    simp at hb
    subst hb; subst e
    have := (List.mem_filter.1 ha).2
    simp [hl] at this
  refine perm_of_mem _ _ (hu.1.filter _).nodup hn fun s => ?_
  unfold doneL
  simp only [List.mem_append, List.mem_filter, List.mem_singleton, struck]
  constructor
  · rintro ⟨hs, h⟩
    rw [same_kl (hu.2 r hr) (hu.2 s hs)] at h
    by_cases he : s.is r.a r.b
    · exact .inr (hu.1.eq hs hr he.1 he.2)
    · simp [he] at h
      exact .inl ⟨hs, by simp [h]⟩
  · rintro (⟨hs, h⟩ | rfl)
    · refine ⟨hs, ?_⟩
      simp at h
      simp [h]
    · refine ⟨hr, ?_⟩
      rw [same_kl (hu.2 s hr) (hu.2 s hr)]
      simp [Rp.is]
theorem who_snoc_yes {L : List Rp} {r : Rp} {about now win : Int} (h : tellB about now win r = true) : whoL (L ++ [r]) about now win = whoL L about now win ++ [r.b] := by
  unfold whoL; rw [List.filter_append, List.map_append]; simp [h]
theorem who_snoc_no {L : List Rp} {r : Rp} {about now win : Int} (h : tellB about now win r = false) : whoL (L ++ [r]) about now win = whoL L about now win := by
  unfold whoL; rw [List.filter_append, List.map_append]; simp [h]
theorem who_step_no {D D' : List Rp} {r : Rp} {about now win : Int} {zs : List Int} (hs : D'.Perm (D ++ [r])) (ht : tellB about now win r = false) (hz : zs.Perm (whoL D about now win)) : zs.Perm (whoL D' about now win) := by
  have := who_perm hs about now win
  rw [who_snoc_no ht] at this
  exact hz.trans this.symm
theorem who_step_yes {D D' : List Rp} {r : Rp} {about now win : Int} {zs : List Int} (hs : D'.Perm (D ++ [r])) (ht : tellB about now win r = true) (hz : zs.Perm (whoL D about now win)) : (zs ++ [r.b]).Perm (whoL D' about now win) := by
  have := who_perm hs about now win
  rw [who_snoc_yes ht] at this
  exact (hz.append_right [r.b]).trans this.symm
theorem done_le (L : List Rp) (left : Lit → Bool) : (doneL L left).length ≤ L.length := List.length_filter_le _ _

set_option maxRecDepth 100000 in
set_option maxHeartbeats 2000000 in
theorem by_any (g b : Nat) (win : Int) (L : List Rp) (about now : Int) (w : World) (h : Bk w g b win L) (hl : L.length < 100000) :
    Calls Try.prog 19 #[.pointer (some ⟨g, 0, none⟩), .int .i64 about, .int .i64 now] w (Lists (byL L about now win) w) := by
  obtain ⟨i0, hi0, hz0, hz1, hz2⟩ := info_parts int_info
  have HI0 : Hid (Try.prog.info? 3 = some i0) := hi0
  have HZ0 := Lib.hid hz0
  have HZ1 := Lib.hid hz1
  have HZ2 := Lib.hid hz2
  clear hi0 hz0 hz1 hz2
  have c1 := h.c1
  have HH := Lib.hid h
  obtain ⟨D, hown, hag⟩ := h.map
  have HAG := Lib.hid hag
  have hlg := h.lt
  have hlb := h.ltb
  have HBY : Hid (byL L about now win = sorted (whoL L about now win)) := Lib.hid rfl
  obtain ⟨bl, HBL⟩ : ∃ bl, Hid (byL L about now win = bl) := ⟨_, Lib.hid rfl⟩
  rw [HBL.out]
  clear hag h
  go_enter Try.func19, Try.ntmps19
  go_wp2_with (at_range; refine wpList_range_own _ rfl _ 49 rfl 56 3 keyed Try.underlying49 _ b _ D rfl hown ?_; intro w0 hrg0 hg0 hs0)
  go_frame
  have HRG0 := Lib.hid hrg0
  have HB0 : Hid (Below w.heap.size w w0) := Lib.hid (below_of_only (hg0.but (some w.heap.size)) (Nat.le_refl _) (Nat.le_refl _))
  clear hrg0 hg0 hs0 hown
  go_loopw [7, 9] (fun va _ wr => ∃ (left : Lit → Bool) (cnt : Nat) (zs : List Int), Ra wr b w.heap.size L.length D left cnt ∧ zs.Perm (whoL (doneL L left) about now win) ∧ wr.ownsRow w.heap.size 3 1 va zs.length (zints zs) ∧ Below w.heap.size w wr)
    (fun _ _ wr => wr.rangeLeft b w.heap.size)
  case atStart =>
    refine ⟨_, _, [], HRG0.out, ?_, World.ownsRow_nil _ _ _ _, HB0.out⟩
    rw [done_start fun r hr => by obtain ⟨h1, h2, _⟩ := ok_in (HH.out.good.2 r hr); rw [HAG.out.has_ _ _ h1 h2]; exact hasL_iff.2 ⟨r, hr, rfl, rfl⟩]
    exact List.Perm.refl _
  case round =>
    obtain ⟨left, cnt, zs, hrg, hperm, hrow, hbw⟩ := hrel
    have HRG := Lib.hid hrg
    have HPM := Lib.hid hperm
    have HRW := Lib.hid hrow
    have HBW := Lib.hid hbw
    have hzl : zs.length < 100000 := by
      have h1 := hperm.length_eq
      have h2 := who_le (doneL L left) about now win
      have h3 := done_le L left
      omega
    have hwr := hbw.size
    clear hrg hperm hrow hbw
    go_wp2_with (at_next; refine wpList_next_reports _ rfl _ rfl b w.heap.size L.length _ _ _ _ HAG.out rfl HRG.out ?_ ?_)
    · intro hl0
      have hz := HPM.out
      rw [done_end hl0] at hz
      have HSO : Hid (sorted zs = bl) := Lib.hid ((sorted_same hz).trans (HBY.out.symm.trans HBL.out))
      have HLN : Hid (zs.length = bl.length) := Lib.hid (by rw [← HSO.out, sorted_len])
      clear hl0 hz
      go_wp2_with (fail)
      refine (sort_any _ _ _ zs _ (by omega) HRW.out).mono ?_
      rintro e w2 ⟨rfl, hown2, hg2⟩
      rw [HSO.out, HLN.out] at hown2
      have HO2 := Lib.hid hown2
      have HB2 : Hid (Below w.heap.size w w2) := Lib.hid (HBW.out.grown hg2 HBW.out.size (fun j e => (HRW.out.lt j e).1))
      clear hown2 hg2
      go_wp2
      go_ret
      exact ⟨HB2.out, _, rfl, HO2.out⟩
    · intro r w1 cnt1 hrL hlr hrg1 hlt hg1 hs1 hen
      have HOK := Lib.hid (HH.out.good.2 r hrL)
      have HRG1 := Lib.hid hrg1
      have HLT := Lib.hid hlt
      have HST := Lib.hid (done_step HH.out.good hrL hlr)
      have HB1 : Hid (Below w.heap.size w w1) := Lib.hid (HBW.out.grown hg1 hwr (fun j e => by cases e; exact Nat.le_refl _))
      have HRW1 := Lib.hid (HRW.out.kept hg1 (.inr (row_ne_range HRW.out HRG.out).symm))
      have hs1' : w.heap.size < w1.heap.size := by have := HRG1.out.lt; omega
      clear hrL hlr hrg1 hlt hg1 hs1 hwr
      have HA1 := Lib.hid (((HB1.out.alloc HB1.out.size) (.cells #[.int .i64 r.a, .int .i64 r.b] 56)))
      have HRA : Hid (Ra (w1.alloc (.cells #[.int .i64 r.a, .int .i64 r.b] 56)) b w.heap.size L.length D (struck left r) cnt1) := Lib.hid (HRG1.out.alloc _)
      have HWA := Lib.hid (HRW1.out.alloc (.cells #[.int .i64 r.a, .int .i64 r.b] 56))
      have HKA := Lib.hid (HH.out.row.below HA1.out hlg)
      obtain ⟨q, HQ⟩ : ∃ q, Hid (countB win now r = q) := ⟨_, Lib.hid rfl⟩
      by_cases hab : r.a = about
      · have hab' : (r.a == about) = true := by simpa using hab
        have HT : Hid (tellB about now win r = q) := Lib.hid (by unfold tellB; rw [HQ.out]; simp [hab])
        clear hab
        go_wp2_with (fail)
        refine (counts_any g b win r now _ HKA.out HH.out.win HOK.out).mono ?_
        rintro e w2 ⟨rfl, rfl⟩
        rw [HQ.out]
        cases q
        · go_wp2
          go_roundw
          case rel => exact ⟨_, cnt1, zs, HRA.out, who_step_no HST.out HT.out HPM.out, HWA.out, HA1.out⟩
          case measure => rw [HRA.out.left_eq, HRG.out.left_eq]; exact HLT.out
        · go_wp2_with (at_builtin; refine wpList_append_own _ rfl _ _ 39 rfl w.heap.size 3 i0 (.int .i64 0) 1 8 Try.underlying39 HI0.out HZ0.out HZ1.out HZ2.out rfl (by decide) _ _ _ rfl (HWA.out.alloc _) ⟨w1.heap.size + 1, 0, none⟩ 1 1 [.int .i64 r.b] rfl rfl (by simpa using cell_one_new (w1.alloc (.cells #[.int .i64 r.a, .int .i64 r.b] 56)) (.int .i64 r.b) 3) (by simp [Value.oneCell']) (by unfold maxLen; omega) (by omega) (by simp; omega) ?_; intro v' w3 hown' hg3 _)
          have hblk := HWA.out.alloc (.cells #[.int .i64 r.b] 3)
          have hlow : ∀ j, u7.ownBlock = some j → w.heap.size ≤ j := fun j e => (HRW.out.lt j e).1
          have HRA3 : Hid (Ra w3 b w.heap.size L.length D (struck left r) cnt1) := Lib.hid ((HRA.out.alloc _).kept hg3 (fun e => by have := hlow b e.symm; omega) (row_ne_range hblk (HRA.out.alloc _)))
          have HB3 : Hid (Below w.heap.size w w3) := Lib.hid ((HA1.out.alloc HA1.out.size _).grown hg3 (HA1.out.alloc HA1.out.size _).size hlow)
          have HO3 : Hid (w3.ownsRow w.heap.size 3 1 v' (zs ++ [r.b]).length (zints (zs ++ [r.b]))) := Lib.hid (by rw [zints_append, List.length_append]; simpa [zints] using hown')
          clear hown' hg3 hblk hlow
          go_wp2
          go_roundw
          case rel => exact ⟨_, cnt1, zs ++ [r.b], HRA3.out, who_step_yes HST.out HT.out HPM.out, HO3.out, HB3.out⟩
          case measure => rw [HRA3.out.left_eq, HRG.out.left_eq]; exact HLT.out
      · have hab' : (r.a == about) = false := by simpa using hab
        have HT : Hid (tellB about now win r = false) := Lib.hid (by unfold tellB; simp [hab])
        clear hab
        go_wp2
        go_roundw
        case rel => exact ⟨_, cnt1, zs, HRA.out, who_step_no HST.out HT.out HPM.out, HWA.out, HA1.out⟩
        case measure => rw [HRA.out.left_eq, HRG.out.left_eq]; exact HLT.out
end Go.Proofs.Ytcacjppdcmghjaa
