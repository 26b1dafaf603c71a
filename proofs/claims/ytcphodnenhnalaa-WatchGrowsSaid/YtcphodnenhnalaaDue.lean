/-
  WHAT IS PROVED: contracts of Peers, Due and Late. Condition: the object is a watch.
-/
import Derived.Test.YtcphodnenhnalaaThose
namespace Go.Proofs.Ytcphodnenhnalaa
open Go.RowKit Go.Lib Go.Maps

theorem own_base {w : World} {base base' n : Nat} {e : TypeId} {v : Value} {xs : List Value} (h : w.ownsRow base e 1 v n xs) (hb : base' ≤ base) : w.ownsRow base' e 1 v n xs := by
  refine ⟨h.1, ?_⟩
  rcases h.2 with h2 | ⟨b, cap, cur, h0, h1, r⟩
  · exact .inl h2
  · exact .inr ⟨b, cap, cur, h0, Nat.le_trans hb h1, r⟩
set_option maxRecDepth 100000 in
set_option maxHeartbeats 2000000 in
theorem those_due (g b : Nat) (T : Int) (L : List Pr) (c d : Value) (f : Pr → Bool) (w : World) (h : Wt w g b T L)
    (hf : ∀ w' p, Below w.heap.size w w' → okPr p → Calls Try.prog 29 #[vPr p, c, d] w' (Says (f p) w')) :
    Calls Try.prog 27 #[.pointer (some ⟨g, 0, none⟩), .func (.func 29) #[] #[c, d]] w (Lists (whoL L f) w) := by
  obtain ⟨i0, hi0, hz0, hz1, hz2⟩ := info_parts int_info
  have HI0 : Hid (Try.prog.info? 3 = some i0) := hi0
  have HZ0 := Lib.hid hz0
  have HZ1 := Lib.hid hz1
  have HZ2 := Lib.hid hz2
  clear hi0 hz0 hz1 hz2
  have HF := Lib.hid hf
  have c1 := h.c1
  have HH := Lib.hid h
  obtain ⟨D, hown, hag⟩ := h.map
  have HAG := Lib.hid hag
  have hlg := h.lt
  have hlb := h.ltb
  have hll := h.len
  have HUP := Lib.hid (who_up h.good.up f)
  obtain ⟨bl, HBL⟩ : ∃ bl, Hid (whoL L f = bl) := ⟨_, Lib.hid rfl⟩
  rw [HBL.out] at HUP ⊢
  clear hag h hf
  go_enter Try.func27, Try.ntmps27
  go_wp2_with (at_range; refine wpList_range_own _ rfl _ 44 rfl 3 52 keyed Try.underlying44 _ b _ D rfl hown ?_; intro w0 hrg0 hg0 hs0)
  go_frame
  have HRG0 := Lib.hid hrg0
  have HB0 : Hid (Below w.heap.size w w0) := Lib.hid (below_of_only (hg0.but (some w.heap.size)) (Nat.le_refl _) (Nat.le_refl _))
  clear hrg0 hg0 hs0 hown
  go_loopw [5] (fun va wr => ∃ (left : Lit → Bool) (cnt : Nat) (zs : List Int), Ra wr b w.heap.size L.length D left cnt ∧ zs.Perm (whoL (doneL L left) f) ∧ wr.ownsRow w.heap.size 3 1 va zs.length (zints zs) ∧ Below w.heap.size w wr)
    (fun _ wr => wr.rangeLeft b w.heap.size)
  case atStart =>
    refine ⟨_, _, [], HRG0.out, ?_, World.ownsRow_nil _ _ _ _, HB0.out⟩
    rw [done_start fun p hp => by rw [HAG.out.has_ _ (ok_in (HH.out.good.ok p hp))]; exact hasL_iff.2 ⟨p, hp, rfl⟩]
    exact List.Perm.refl _
  case round =>
    obtain ⟨left, cnt, zs, hrg, hperm, hrow, hbw⟩ := hrel
    have HRG := Lib.hid hrg
    have HPM := Lib.hid hperm
    have HRW := Lib.hid hrow
    have HBW := Lib.hid hbw
    have hzl : zs.length < 1000 := by
      have h1 := hperm.length_eq
      have h2 := who_le (doneL L left) f
      have h3 := done_le L left
      omega
    have hwr := hbw.size
    clear hrg hperm hrow hbw
    go_wp2_with (at_next; refine wpList_next_prs _ rfl _ rfl b w.heap.size L.length _ _ _ _ HAG.out rfl HRG.out ?_ ?_)
    · intro hl0
      have hz := HPM.out
      rw [done_end hl0, HBL.out] at hz
      have HSO : Hid (sorted zs = bl) := Lib.hid (sorted_is hz HUP.out)
      have HLN : Hid (zs.length = bl.length) := Lib.hid hz.length_eq
      clear hl0 hz
      go_wp2_with (fail)
      refine (sort_any _ _ _ zs _ (by omega) HRW.out).mono ?_
      rintro e w2 ⟨rfl, hown2, hg2⟩
      rw [HSO.out, HLN.out] at hown2
      have HO2 := Lib.hid hown2
      have HB2 : Hid (Below w.heap.size w w2) := Lib.hid (HBW.out.grown hg2 HBW.out.size (fun j e => (HRW.out.lt j e).1))
      clear hown2 hg2
      go_wp2
      go_ret
      exact ⟨HB2.out, _, rfl, HO2.out⟩
    · intro p w1 cnt1 hrL hlr hrg1 hlt hg1 hs1 hen
      have HOK := Lib.hid (HH.out.good.ok p hrL)
      have HRG1 := Lib.hid hrg1
      have HLT := Lib.hid hlt
      have HST := Lib.hid (done_step HH.out.good.up hrL hlr)
      have HB1 : Hid (Below w.heap.size w w1) := Lib.hid (HBW.out.grown hg1 hwr (fun j e => by cases e; exact Nat.le_refl _))
      have HRW1 := Lib.hid (HRW.out.kept hg1 (.inr (row_ne_range HRW.out HRG.out).symm))
      have hs1' : w.heap.size < w1.heap.size := by have := HRG1.out.lt; omega
      have x0 := (Bx.new w1 p rfl).c0
      have x1 := (Bx.new w1 p rfl).c1
      have x2 := (Bx.new w1 p rfl).c2
      have HA1 := Lib.hid (HB1.out.alloc HB1.out.size (.cells #[.int .i64 p.last, .bool p.waits, .int .i64 p.since] 52))
      have HRA : Hid (Ra (w1.alloc (.cells #[.int .i64 p.last, .bool p.waits, .int .i64 p.since] 52)) b w.heap.size L.length D (struck left p) cnt1) := Lib.hid (HRG1.out.alloc _)
      have HWA := Lib.hid (HRW1.out.alloc (.cells #[.int .i64 p.last, .bool p.waits, .int .i64 p.since] 52))
      clear hrL hlr hrg1 hlt hg1 hs1 hwr
      obtain ⟨q, HQ⟩ : ∃ q, Hid (f p = q) := ⟨_, Lib.hid rfl⟩
      go_wp2_with (fail)
      refine (HF.out _ p HA1.out HOK.out).mono ?_
      rintro e w2 ⟨rfl, hb2⟩
      rw [HQ.out]
      have HB2 := Lib.hid (HA1.out.trans (hb2.mono HA1.out.size))
      have HR2 : Hid (Ra w2 b w.heap.size L.length D (struck left p) cnt1) := Lib.hid (HRA.out.kept (only_of_below hb2 none) (by simp) (by simp))
      have HW2 := Lib.hid (own_below HWA.out hb2)
      have hs2 : w.heap.size < w2.heap.size := by have := hb2.size; simp at this; omega
      clear hb2 x0 x1 x2
      cases q
      · go_wp2
        go_roundw
        case rel => exact ⟨_, cnt1, zs, HR2.out, who_step_no HST.out HQ.out HPM.out, HW2.out, HB2.out⟩
        case measure => rw [HR2.out.left_eq, HRG.out.left_eq]; exact HLT.out
      · go_wp2_with (at_builtin; refine wpList_append_own _ rfl _ _ 37 rfl w.heap.size 3 i0 (.int .i64 0) 1 8 Try.underlying37 HI0.out HZ0.out HZ1.out HZ2.out rfl (by decide) _ _ _ rfl (HW2.out.alloc _) ⟨w2.heap.size, 0, none⟩ 1 1 [.int .i64 p.id] rfl rfl (by simpa using cell_one_new w2 (.int .i64 p.id) 3) (by simp [Value.oneCell']) (by unfold maxLen; omega) (by omega) (by simp; omega) ?_; intro v' w3 hown' hg3 _)
        have hblk := HW2.out.alloc (.cells #[.int .i64 p.id] 3)
        have hlow : ∀ j, u5.ownBlock = some j → w.heap.size ≤ j := fun j e => (HRW.out.lt j e).1
        have HRA3 : Hid (Ra w3 b w.heap.size L.length D (struck left p) cnt1) := Lib.hid ((HR2.out.alloc _).kept hg3 (fun e => by have := hlow b e.symm; omega) (row_ne_range hblk (HR2.out.alloc _)))
        have HB3 : Hid (Below w.heap.size w w3) := Lib.hid ((HB2.out.alloc HB2.out.size _).grown hg3 (HB2.out.alloc HB2.out.size _).size hlow)
        have HO3 : Hid (w3.ownsRow w.heap.size 3 1 v' (zs ++ [p.id]).length (zints (zs ++ [p.id]))) := Lib.hid (by rw [zints_append, List.length_append]; simpa [zints] using hown')
        clear hown' hg3 hblk hlow
        go_wp2
        go_roundw
        case rel => exact ⟨_, cnt1, zs ++ [p.id], HRA3.out, who_step_yes HST.out HQ.out HPM.out, HO3.out, HB3.out⟩
        case measure => rw [HRA3.out.left_eq, HRG.out.left_eq]; exact HLT.out

set_option maxRecDepth 100000 in
set_option maxHeartbeats 2000000 in
theorem those_late (g b : Nat) (T : Int) (L : List Pr) (c d : Value) (f : Pr → Bool) (w : World) (h : Wt w g b T L)
    (hf : ∀ w' p, Below w.heap.size w w' → okPr p → Calls Try.prog 30 #[vPr p, c, d] w' (Says (f p) w')) :
    Calls Try.prog 27 #[.pointer (some ⟨g, 0, none⟩), .func (.func 30) #[] #[c, d]] w (Lists (whoL L f) w) := by
  obtain ⟨i0, hi0, hz0, hz1, hz2⟩ := info_parts int_info
  have HI0 : Hid (Try.prog.info? 3 = some i0) := hi0
  have HZ0 := Lib.hid hz0
  have HZ1 := Lib.hid hz1
  have HZ2 := Lib.hid hz2
  clear hi0 hz0 hz1 hz2
  have HF := Lib.hid hf
  have c1 := h.c1
  have HH := Lib.hid h
  obtain ⟨D, hown, hag⟩ := h.map
  have HAG := Lib.hid hag
  have hlg := h.lt
  have hlb := h.ltb
  have hll := h.len
  have HUP := Lib.hid (who_up h.good.up f)
  obtain ⟨bl, HBL⟩ : ∃ bl, Hid (whoL L f = bl) := ⟨_, Lib.hid rfl⟩
  rw [HBL.out] at HUP ⊢
  clear hag h hf
  go_enter Try.func27, Try.ntmps27
  go_wp2_with (at_range; refine wpList_range_own _ rfl _ 44 rfl 3 52 keyed Try.underlying44 _ b _ D rfl hown ?_; intro w0 hrg0 hg0 hs0)
  go_frame
  have HRG0 := Lib.hid hrg0
  have HB0 : Hid (Below w.heap.size w w0) := Lib.hid (below_of_only (hg0.but (some w.heap.size)) (Nat.le_refl _) (Nat.le_refl _))
  clear hrg0 hg0 hs0 hown
  go_loopw [5] (fun va wr => ∃ (left : Lit → Bool) (cnt : Nat) (zs : List Int), Ra wr b w.heap.size L.length D left cnt ∧ zs.Perm (whoL (doneL L left) f) ∧ wr.ownsRow w.heap.size 3 1 va zs.length (zints zs) ∧ Below w.heap.size w wr)
    (fun _ wr => wr.rangeLeft b w.heap.size)
  case atStart =>
    refine ⟨_, _, [], HRG0.out, ?_, World.ownsRow_nil _ _ _ _, HB0.out⟩
    rw [done_start fun p hp => by rw [HAG.out.has_ _ (ok_in (HH.out.good.ok p hp))]; exact hasL_iff.2 ⟨p, hp, rfl⟩]
    exact List.Perm.refl _
  case round =>
    obtain ⟨left, cnt, zs, hrg, hperm, hrow, hbw⟩ := hrel
    have HRG := Lib.hid hrg
    have HPM := Lib.hid hperm
    have HRW := Lib.hid hrow
    have HBW := Lib.hid hbw
    have hzl : zs.length < 1000 := by
      have h1 := hperm.length_eq
      have h2 := who_le (doneL L left) f
      have h3 := done_le L left
      omega
    have hwr := hbw.size
    clear hrg hperm hrow hbw
    go_wp2_with (at_next; refine wpList_next_prs _ rfl _ rfl b w.heap.size L.length _ _ _ _ HAG.out rfl HRG.out ?_ ?_)
    · intro hl0
      have hz := HPM.out
      rw [done_end hl0, HBL.out] at hz
      have HSO : Hid (sorted zs = bl) := Lib.hid (sorted_is hz HUP.out)
      have HLN : Hid (zs.length = bl.length) := Lib.hid hz.length_eq
      clear hl0 hz
      go_wp2_with (fail)
      refine (sort_any _ _ _ zs _ (by omega) HRW.out).mono ?_
      rintro e w2 ⟨rfl, hown2, hg2⟩
      rw [HSO.out, HLN.out] at hown2
      have HO2 := Lib.hid hown2
      have HB2 : Hid (Below w.heap.size w w2) := Lib.hid (HBW.out.grown hg2 HBW.out.size (fun j e => (HRW.out.lt j e).1))
      clear hown2 hg2
      go_wp2
      go_ret
      exact ⟨HB2.out, _, rfl, HO2.out⟩
    · intro p w1 cnt1 hrL hlr hrg1 hlt hg1 hs1 hen
      have HOK := Lib.hid (HH.out.good.ok p hrL)
      have HRG1 := Lib.hid hrg1
      have HLT := Lib.hid hlt
      have HST := Lib.hid (done_step HH.out.good.up hrL hlr)
      have HB1 : Hid (Below w.heap.size w w1) := Lib.hid (HBW.out.grown hg1 hwr (fun j e => by cases e; exact Nat.le_refl _))
      have HRW1 := Lib.hid (HRW.out.kept hg1 (.inr (row_ne_range HRW.out HRG.out).symm))
      have hs1' : w.heap.size < w1.heap.size := by have := HRG1.out.lt; omega
      have x0 := (Bx.new w1 p rfl).c0
      have x1 := (Bx.new w1 p rfl).c1
      have x2 := (Bx.new w1 p rfl).c2
      have HA1 := Lib.hid (HB1.out.alloc HB1.out.size (.cells #[.int .i64 p.last, .bool p.waits, .int .i64 p.since] 52))
      have HRA : Hid (Ra (w1.alloc (.cells #[.int .i64 p.last, .bool p.waits, .int .i64 p.since] 52)) b w.heap.size L.length D (struck left p) cnt1) := Lib.hid (HRG1.out.alloc _)
      have HWA := Lib.hid (HRW1.out.alloc (.cells #[.int .i64 p.last, .bool p.waits, .int .i64 p.since] 52))
      clear hrL hlr hrg1 hlt hg1 hs1 hwr
      obtain ⟨q, HQ⟩ : ∃ q, Hid (f p = q) := ⟨_, Lib.hid rfl⟩
      go_wp2_with (fail)
      refine (HF.out _ p HA1.out HOK.out).mono ?_
      rintro e w2 ⟨rfl, hb2⟩
      rw [HQ.out]
      have HB2 := Lib.hid (HA1.out.trans (hb2.mono HA1.out.size))
      have HR2 : Hid (Ra w2 b w.heap.size L.length D (struck left p) cnt1) := Lib.hid (HRA.out.kept (only_of_below hb2 none) (by simp) (by simp))
      have HW2 := Lib.hid (own_below HWA.out hb2)
      have hs2 : w.heap.size < w2.heap.size := by have := hb2.size; simp at this; omega
      clear hb2 x0 x1 x2
      cases q
      · go_wp2
        go_roundw
        case rel => exact ⟨_, cnt1, zs, HR2.out, who_step_no HST.out HQ.out HPM.out, HW2.out, HB2.out⟩
        case measure => rw [HR2.out.left_eq, HRG.out.left_eq]; exact HLT.out
      · go_wp2_with (at_builtin; refine wpList_append_own _ rfl _ _ 37 rfl w.heap.size 3 i0 (.int .i64 0) 1 8 Try.underlying37 HI0.out HZ0.out HZ1.out HZ2.out rfl (by decide) _ _ _ rfl (HW2.out.alloc _) ⟨w2.heap.size, 0, none⟩ 1 1 [.int .i64 p.id] rfl rfl (by simpa using cell_one_new w2 (.int .i64 p.id) 3) (by simp [Value.oneCell']) (by unfold maxLen; omega) (by omega) (by simp; omega) ?_; intro v' w3 hown' hg3 _)
        have hblk := HW2.out.alloc (.cells #[.int .i64 p.id] 3)
        have hlow : ∀ j, u5.ownBlock = some j → w.heap.size ≤ j := fun j e => (HRW.out.lt j e).1
        have HRA3 : Hid (Ra w3 b w.heap.size L.length D (struck left p) cnt1) := Lib.hid ((HR2.out.alloc _).kept hg3 (fun e => by have := hlow b e.symm; omega) (row_ne_range hblk (HR2.out.alloc _)))
        have HB3 : Hid (Below w.heap.size w w3) := Lib.hid ((HB2.out.alloc HB2.out.size _).grown hg3 (HB2.out.alloc HB2.out.size _).size hlow)
        have HO3 : Hid (w3.ownsRow w.heap.size 3 1 v' (zs ++ [p.id]).length (zints (zs ++ [p.id]))) := Lib.hid (by rw [zints_append, List.length_append]; simpa [zints] using hown')
        clear hown' hg3 hblk hlow
        go_wp2
        go_roundw
        case rel => exact ⟨_, cnt1, zs ++ [p.id], HRA3.out, who_step_yes HST.out HQ.out HPM.out, HO3.out, HB3.out⟩
        case measure => rw [HRA3.out.left_eq, HRG.out.left_eq]; exact HLT.out

set_option maxRecDepth 100000 in
set_option maxHeartbeats 2000000 in
theorem those_none (g b : Nat) (T : Int) (L : List Pr) (f : Pr → Bool) (w : World) (h : Wt w g b T L)
    (hf : ∀ w' p, Below w.heap.size w w' → okPr p → Calls Try.prog 28 #[vPr p] w' (Says (f p) w')) :
    Calls Try.prog 27 #[.pointer (some ⟨g, 0, none⟩), .func (.func 28) #[] #[]] w (Lists (whoL L f) w) := by
  obtain ⟨i0, hi0, hz0, hz1, hz2⟩ := info_parts int_info
  have HI0 : Hid (Try.prog.info? 3 = some i0) := hi0
  have HZ0 := Lib.hid hz0
  have HZ1 := Lib.hid hz1
  have HZ2 := Lib.hid hz2
  clear hi0 hz0 hz1 hz2
  have HF := Lib.hid hf
  have c1 := h.c1
  have HH := Lib.hid h
  obtain ⟨D, hown, hag⟩ := h.map
  have HAG := Lib.hid hag
  have hlg := h.lt
  have hlb := h.ltb
  have hll := h.len
  have HUP := Lib.hid (who_up h.good.up f)
  obtain ⟨bl, HBL⟩ : ∃ bl, Hid (whoL L f = bl) := ⟨_, Lib.hid rfl⟩
  rw [HBL.out] at HUP ⊢
  clear hag h hf
  go_enter Try.func27, Try.ntmps27
  go_wp2_with (at_range; refine wpList_range_own _ rfl _ 44 rfl 3 52 keyed Try.underlying44 _ b _ D rfl hown ?_; intro w0 hrg0 hg0 hs0)
  go_frame
  have HRG0 := Lib.hid hrg0
  have HB0 : Hid (Below w.heap.size w w0) := Lib.hid (below_of_only (hg0.but (some w.heap.size)) (Nat.le_refl _) (Nat.le_refl _))
  clear hrg0 hg0 hs0 hown
  go_loopw [5] (fun va wr => ∃ (left : Lit → Bool) (cnt : Nat) (zs : List Int), Ra wr b w.heap.size L.length D left cnt ∧ zs.Perm (whoL (doneL L left) f) ∧ wr.ownsRow w.heap.size 3 1 va zs.length (zints zs) ∧ Below w.heap.size w wr)
    (fun _ wr => wr.rangeLeft b w.heap.size)
  case atStart =>
    refine ⟨_, _, [], HRG0.out, ?_, World.ownsRow_nil _ _ _ _, HB0.out⟩
    rw [done_start fun p hp => by rw [HAG.out.has_ _ (ok_in (HH.out.good.ok p hp))]; exact hasL_iff.2 ⟨p, hp, rfl⟩]
    exact List.Perm.refl _
  case round =>
    obtain ⟨left, cnt, zs, hrg, hperm, hrow, hbw⟩ := hrel
    have HRG := Lib.hid hrg
    have HPM := Lib.hid hperm
    have HRW := Lib.hid hrow
    have HBW := Lib.hid hbw
    have hzl : zs.length < 1000 := by
      have h1 := hperm.length_eq
      have h2 := who_le (doneL L left) f
      have h3 := done_le L left
      omega
    have hwr := hbw.size
    clear hrg hperm hrow hbw
    go_wp2_with (at_next; refine wpList_next_prs _ rfl _ rfl b w.heap.size L.length _ _ _ _ HAG.out rfl HRG.out ?_ ?_)
    · intro hl0
      have hz := HPM.out
      rw [done_end hl0, HBL.out] at hz
      have HSO : Hid (sorted zs = bl) := Lib.hid (sorted_is hz HUP.out)
      have HLN : Hid (zs.length = bl.length) := Lib.hid hz.length_eq
      clear hl0 hz
      go_wp2_with (fail)
      refine (sort_any _ _ _ zs _ (by omega) HRW.out).mono ?_
      rintro e w2 ⟨rfl, hown2, hg2⟩
      rw [HSO.out, HLN.out] at hown2
      have HO2 := Lib.hid hown2
      have HB2 : Hid (Below w.heap.size w w2) := Lib.hid (HBW.out.grown hg2 HBW.out.size (fun j e => (HRW.out.lt j e).1))
      clear hown2 hg2
      go_wp2
      go_ret
      exact ⟨HB2.out, _, rfl, HO2.out⟩
    · intro p w1 cnt1 hrL hlr hrg1 hlt hg1 hs1 hen
      have HOK := Lib.hid (HH.out.good.ok p hrL)
      have HRG1 := Lib.hid hrg1
      have HLT := Lib.hid hlt
      have HST := Lib.hid (done_step HH.out.good.up hrL hlr)
      have HB1 : Hid (Below w.heap.size w w1) := Lib.hid (HBW.out.grown hg1 hwr (fun j e => by cases e; exact Nat.le_refl _))
      have HRW1 := Lib.hid (HRW.out.kept hg1 (.inr (row_ne_range HRW.out HRG.out).symm))
      have hs1' : w.heap.size < w1.heap.size := by have := HRG1.out.lt; omega
      have x0 := (Bx.new w1 p rfl).c0
      have x1 := (Bx.new w1 p rfl).c1
      have x2 := (Bx.new w1 p rfl).c2
      have HA1 := Lib.hid (HB1.out.alloc HB1.out.size (.cells #[.int .i64 p.last, .bool p.waits, .int .i64 p.since] 52))
      have HRA : Hid (Ra (w1.alloc (.cells #[.int .i64 p.last, .bool p.waits, .int .i64 p.since] 52)) b w.heap.size L.length D (struck left p) cnt1) := Lib.hid (HRG1.out.alloc _)
      have HWA := Lib.hid (HRW1.out.alloc (.cells #[.int .i64 p.last, .bool p.waits, .int .i64 p.since] 52))
      clear hrL hlr hrg1 hlt hg1 hs1 hwr
      obtain ⟨q, HQ⟩ : ∃ q, Hid (f p = q) := ⟨_, Lib.hid rfl⟩
      go_wp2_with (fail)
      refine (HF.out _ p HA1.out HOK.out).mono ?_
      rintro e w2 ⟨rfl, hb2⟩
      rw [HQ.out]
      have HB2 := Lib.hid (HA1.out.trans (hb2.mono HA1.out.size))
      have HR2 : Hid (Ra w2 b w.heap.size L.length D (struck left p) cnt1) := Lib.hid (HRA.out.kept (only_of_below hb2 none) (by simp) (by simp))
      have HW2 := Lib.hid (own_below HWA.out hb2)
      have hs2 : w.heap.size < w2.heap.size := by have := hb2.size; simp at this; omega
      clear hb2 x0 x1 x2
      cases q
      · go_wp2
        go_roundw
        case rel => exact ⟨_, cnt1, zs, HR2.out, who_step_no HST.out HQ.out HPM.out, HW2.out, HB2.out⟩
        case measure => rw [HR2.out.left_eq, HRG.out.left_eq]; exact HLT.out
      · go_wp2_with (at_builtin; refine wpList_append_own _ rfl _ _ 37 rfl w.heap.size 3 i0 (.int .i64 0) 1 8 Try.underlying37 HI0.out HZ0.out HZ1.out HZ2.out rfl (by decide) _ _ _ rfl (HW2.out.alloc _) ⟨w2.heap.size, 0, none⟩ 1 1 [.int .i64 p.id] rfl rfl (by simpa using cell_one_new w2 (.int .i64 p.id) 3) (by simp [Value.oneCell']) (by unfold maxLen; omega) (by omega) (by simp; omega) ?_; intro v' w3 hown' hg3 _)
        have hblk := HW2.out.alloc (.cells #[.int .i64 p.id] 3)
        have hlow : ∀ j, u5.ownBlock = some j → w.heap.size ≤ j := fun j e => (HRW.out.lt j e).1
        have HRA3 : Hid (Ra w3 b w.heap.size L.length D (struck left p) cnt1) := Lib.hid ((HR2.out.alloc _).kept hg3 (fun e => by have := hlow b e.symm; omega) (row_ne_range hblk (HR2.out.alloc _)))
        have HB3 : Hid (Below w.heap.size w w3) := Lib.hid ((HB2.out.alloc HB2.out.size _).grown hg3 (HB2.out.alloc HB2.out.size _).size hlow)
        have HO3 : Hid (w3.ownsRow w.heap.size 3 1 v' (zs ++ [p.id]).length (zints (zs ++ [p.id]))) := Lib.hid (by rw [zints_append, List.length_append]; simpa [zints] using hown')
        clear hown' hg3 hblk hlow
        go_wp2
        go_roundw
        case rel => exact ⟨_, cnt1, zs ++ [p.id], HRA3.out, who_step_yes HST.out HQ.out HPM.out, HO3.out, HB3.out⟩
        case measure => rw [HRA3.out.left_eq, HRG.out.left_eq]; exact HLT.out

theorem peers_any (g b : Nat) (T : Int) (L : List Pr) (w : World) (h : Wt w g b T L) :
    Calls Try.prog 16 #[.pointer (some ⟨g, 0, none⟩)] w (Lists (L.map Pr.id) w) := by
  rw [← who_all]
  have HH := Lib.hid h
  clear h
  go_enter Try.func16, Try.ntmps16
  go_wp2_with (fail)
  refine (those_none g b T L allB _ HH.out (fun w' p _ _ => all1_any p w')).mono ?_
  rintro e w1 ⟨hb1, v, rfl, hown1⟩
  have HB1 := Lib.hid hb1
  have HO1 := Lib.hid hown1
  clear hb1 hown1
  go_wp2
  go_ret
  exact ⟨HB1.out, v, rfl, HO1.out⟩
/-- the two boxes that Due and Late lay, and what their closures find in them -/
theorem boxes {w : World} {g : Nat} {now : Int} {w' : World} (hb : Below ((w.alloc (.cells #[.pointer (some ⟨g, 0, none⟩)] 24)).alloc (.cells #[.int .i64 now] 3)).heap.size ((w.alloc (.cells #[.pointer (some ⟨g, 0, none⟩)] 24)).alloc (.cells #[.int .i64 now] 3)) w') :
    w'.cell? ⟨w.heap.size + 1, 0, none⟩ = some (.int .i64 now) ∧ w'.cell? ⟨w.heap.size, 0, none⟩ = some (.pointer (some ⟨g, 0, none⟩)) := by
  refine ⟨(hb.cell (p := ⟨w.heap.size + 1, 0, none⟩) (by simp)).trans ?_, (hb.cell (p := ⟨w.heap.size, 0, none⟩) (by simp; omega)).trans (((Blk.new w _ _).alloc _).cell 0)⟩
  have := (Blk.new (w.alloc (.cells #[.pointer (some ⟨g, 0, none⟩)] 24)) 3 #[.int .i64 now]).cell 0
  rw [show (w.alloc (.cells #[.pointer (some ⟨g, 0, none⟩)] 24)).heap.size = w.heap.size + 1 by simp] at this
  exact this
theorem two_new (w : World) (o o' : Obj) : Below w.heap.size w ((w.alloc o).alloc o') := ((Below.refl _ _).alloc (Nat.le_refl _) _).alloc (by simp) _
theorem Lists.from {l : List Int} {w w2 w3 : World} (hb : Below w.heap.size w w2) (h3 : Below w2.heap.size w2 w3) {v : Value} (h : w3.ownsRow w2.heap.size 3 1 v l.length (zints l)) : Below w.heap.size w w3 ∧ w3.ownsRow w.heap.size 3 1 v l.length (zints l) :=
  ⟨hb.trans (h3.mono hb.size), own_base h hb.size⟩

set_option maxHeartbeats 1000000 in
theorem due_any (g b : Nat) (T : Int) (L : List Pr) (now : Int) (w : World) (h : Wt w g b T L) :
    Calls Try.prog 17 #[.pointer (some ⟨g, 0, none⟩), .int .i64 now] w (Lists (whoL L (dueB T now)) w) := by
  have HH := Lib.hid (h.below (two_new w (.cells #[.pointer (some ⟨g, 0, none⟩)] 24) (.cells #[.int .i64 now] 3)))
  have HT := Lib.hid (two_new w (.cells #[.pointer (some ⟨g, 0, none⟩)] 24) (.cells #[.int .i64 now] 3))
  clear h
  go_enter Try.func17, Try.ntmps17
  go_wp2_with (fail)
  refine (those_due g b T L (.pointer (some ⟨w.heap.size + 1, 0, none⟩)) (.pointer (some ⟨w.heap.size, 0, none⟩)) (dueB T now) _ HH.out (fun w' p hb hp => due1_any g b T now p _ _ w' (HH.out.row.below hb HH.out.lt) HH.out.to hp (boxes hb).1 (boxes hb).2)).mono ?_
  rintro e w1 ⟨hb1, v, rfl, hown1⟩
  have HR := Lib.hid (Lists.from HT.out hb1 hown1)
  clear hb1 hown1
  go_wp2
  go_ret
  exact ⟨HR.out.1, v, rfl, HR.out.2⟩
set_option maxHeartbeats 1000000 in
theorem late_any (g b : Nat) (T : Int) (L : List Pr) (now : Int) (w : World) (h : Wt w g b T L) :
    Calls Try.prog 18 #[.pointer (some ⟨g, 0, none⟩), .int .i64 now] w (Lists (whoL L (lateB T now)) w) := by
  have HH := Lib.hid (h.below (two_new w (.cells #[.pointer (some ⟨g, 0, none⟩)] 24) (.cells #[.int .i64 now] 3)))
  have HT := Lib.hid (two_new w (.cells #[.pointer (some ⟨g, 0, none⟩)] 24) (.cells #[.int .i64 now] 3))
  clear h
  go_enter Try.func18, Try.ntmps18
  go_wp2_with (fail)
  refine (those_late g b T L (.pointer (some ⟨w.heap.size + 1, 0, none⟩)) (.pointer (some ⟨w.heap.size, 0, none⟩)) (lateB T now) _ HH.out (fun w' p hb hp => late1_any g b T now p _ _ w' (HH.out.row.below hb HH.out.lt) HH.out.to hp (boxes hb).1 (boxes hb).2)).mono ?_
  rintro e w1 ⟨hb1, v, rfl, hown1⟩
  have HR := Lib.hid (Lists.from HT.out hb1 hown1)
  clear hb1 hown1
  go_wp2
  go_ret
  exact ⟨HR.out.1, v, rfl, HR.out.2⟩
end Go.Proofs.Ytcphodnenhnalaa
