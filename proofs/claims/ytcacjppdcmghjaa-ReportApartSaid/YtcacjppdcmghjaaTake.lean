/-
  WHAT IS PROVED: the contracts of takeAway (with what Forget and what Expire hand in), Forget and Expire. Condition: the object is a book.
-/
import Derived.Test.YtcacjppdcmghjaaGone
namespace Go.Proofs.Ytcacjppdcmghjaa
open Go.RowKit Go.Lib Go.Maps

set_option maxRecDepth 100000 in
set_option maxHeartbeats 2000000 in
theorem take_forget (g b : Nat) (win : Int) (L : List Rp) (id : Int) (c : Nat) (w : World) (h : Bk w g b win L) (hl : L.length < 100000) (hc : w.cell? ⟨c, 0, none⟩ = some (.int .i64 id)) (hcb : c ≠ b) :
    Calls Try.prog 25 #[.pointer (some ⟨g, 0, none⟩), .func (.func 26) #[] #[.pointer (some ⟨c, 0, none⟩)]] w (Did g b win ((L.length : Int) - ((L.filter fun r => !ofB id r).length : Int)) (L.filter fun r => !ofB id r) w) := by
  obtain ⟨p, HPP⟩ : ∃ p : Rp → Bool, Hid (ofB id = p) := ⟨_, Lib.hid rfl⟩
  have HF : Hid (∀ w' r, w.grownBy w' (some b) → okRp r → Calls Try.prog 26 #[vPair r.a r.b, .int .i64 r.t, .pointer (some ⟨c, 0, none⟩)] w' (Says (p r) w')) := by
    refine Lib.hid fun w' r hgw hr => ?_
    rw [← HPP.out]
    exact forget1_any r id c w' ((World.cell?_of_block (hgw.block c (lt_of_cell hc) (by simpa using hcb))).trans hc)
  rw [HPP.out]
  have c1 := h.c1
  have HH := Lib.hid h
  obtain ⟨D0, hown, hag⟩ := h.map
  have HAG := Lib.hid hag
  have HS := Lib.hid hag.size
  have hlg := h.lt
  have hlb := h.ltb
  clear hag h hc hcb HPP
  go_enter Try.func25, Try.ntmps25
  go_wp2_with (first
    | (at_len; refine wpList_len_own _ rfl _ 49 rfl 56 3 Try.underlying49 _ b _ D0 rfl hown ?_; rw [HS.out])
    | (at_range; refine wpList_range_own _ rfl _ 49 rfl 56 3 keyed Try.underlying49 _ b _ D0 rfl hown ?_; intro w0 hrg0 hg0 hs0))
  go_frame
  have HRG0 := Lib.hid hrg0
  have HG0 := Lib.hid hg0
  clear hrg0 hg0 hs0 hown
  go_loopw [7] (fun _ wr => ∃ (left : Lit → Bool) (cnt : Nat) (D : Dm), Ra wr b w.heap.size L.length D left cnt ∧ Agr D (leftL L p left) ∧ w.grownBy wr (some b))
    (fun _ wr => wr.rangeLeft b w.heap.size)
  case atStart =>
    refine ⟨_, _, D0, HRG0.out, ?_, HG0.out.but _⟩
    rw [left_start fun r hr => by obtain ⟨h1, h2, _⟩ := ok_in (HH.out.good.2 r hr); rw [HAG.out.has_ _ _ h1 h2]; exact hasL_iff.2 ⟨r, hr, rfl, rfl⟩]
    exact HAG.out
  case round =>
    obtain ⟨left, cnt, D, hrg, hagD, hgw⟩ := hrel
    have HRG := Lib.hid hrg
    have HAD := Lib.hid hagD
    have HGW := Lib.hid hgw
    have e1 := (HH.out.row.grown hgw (by have := HH.out.ne; simpa using this)).cell 1
    simp at e1
    have hwr := hgw.size
    clear hrg hagD hgw
    go_wp2_with (at_next; refine wpList_next_reports _ rfl _ rfl b w.heap.size L.length _ _ _ _ HAD.out rfl HRG.out ?_ ?_)
    · -- nothing is left
      intro hl0
      have HE := Lib.hid (left_end (L := L) (p := p) hl0)
      have HAE : Hid (Agr D (L.filter fun r => !p r)) := Lib.hid (by have := HAD.out; rw [HE.out] at this; exact this)
      have HSE := Lib.hid HAE.out.size
      have hle : (L.filter fun r => !p r).length ≤ L.length := List.length_filter_le _ _
      obtain ⟨m, HM⟩ : ∃ m, Hid ((L.filter fun r => !p r).length = m) := ⟨_, Lib.hid rfl⟩
      rw [HM.out] at hle
      clear hl0
      go_wp2_with (at_len; refine wpList_len_own _ rfl _ 49 rfl 56 3 Try.underlying49 _ b _ D rfl HRG.out.owns ?_; rw [HSE.out, HM.out])
      go_ret
      refine ⟨by rw [HM.out]; rfl, ⟨HH.out.row.grown HGW.out (by have := HH.out.ne; simpa using this), ⟨D, ?_, HAE.out⟩, HH.out.good.filter _, HH.out.win⟩, HGW.out⟩
      rw [← HAE.out.size]
      exact own_tight HRG.out.owns
    · -- one has come
      intro r w1 cnt1 hmem hlr hrg1 hlt hg1 hs1 hen
      have hrL := leftL_sub hmem
      have hokr := HH.out.good.2 r hrL
      have HOK := Lib.hid hokr
      have HRL := Lib.hid hrL
      have HRG1 := Lib.hid hrg1
      have hgw1 := HGW.out.andThen hg1 (fun j hj => by cases hj; exact Or.inl (Nat.le_refl _))
      have HGW1 := Lib.hid hgw1
      have HLT := Lib.hid hlt
      have hgs : g < w1.heap.size := by omega
      have hbs : b < w1.heap.size := by omega
      have f1 := (HH.out.row.grown hgw1 (by have := HH.out.ne; simpa using this)).cell 1
      simp at f1
      clear hmem hlr hrL hokr hrg1 hgw1 hlt hg1 hs1 e1 hwr
      obtain ⟨q, HQ⟩ : ∃ q, Hid (p r = q) := ⟨_, Lib.hid rfl⟩
      go_wp2_with (fail)
      refine (HF.out _ r (only_alloc HGW1.out _) HOK.out).mono ?_
      rintro e w2 ⟨rfl, hb2⟩
      rw [HQ.out]
      have HGW2 := Lib.hid ((only_alloc HGW1.out _).trans (only_of_below hb2 _))
      have HRG2 : Hid (Ra w2 b w.heap.size L.length D (struck left r) cnt1) := Lib.hid ((HRG1.out.alloc _).kept (only_of_below hb2 none) (by simp) (by simp))
      have hB2 : Blk w2 w1.heap.size 56 #[.int .i64 r.a, .int .i64 r.b] := (Blk.new w1 _ _).below hb2 (by simp)
      have d0 := hB2.cell 0
      have d1 := hB2.cell 1
      simp at d0 d1
      have g1 := (HH.out.row.grown HGW2.out (by have := HH.out.ne; simpa using this)).cell 1
      simp at g1
      have hgs2 : g < w2.heap.size := by have := hb2.size; simp at this; omega
      have K0 : Hid (w2.drew.cell? ⟨g, 1, none⟩ = some (.map (some b)) ∧ w2.drew.cell? ⟨w1.heap.size, 0, none⟩ = some (.int .i64 r.a) ∧ w2.drew.cell? ⟨w1.heap.size, 1, none⟩ = some (.int .i64 r.b)) := Lib.hid ⟨g1, d0, d1⟩
      have HB2 := Lib.hid hB2
      have hbw : b ≠ w1.heap.size := by omega
      clear hb2 hB2 f1
      cases q
      · -- it stays
        have HST := Lib.hid (left_stay (left := left) HH.out.good HRL.out HQ.out)
        go_wp2
        go_roundw
        case rel => exact ⟨_, cnt1, D, HRG2.out, by rw [HST.out]; exact HAD.out, HGW2.out⟩
        case measure => rw [HRG2.out.left_eq, HRG.out.left_eq]; exact HLT.out
      · -- it goes
        have HST := Lib.hid (left_go (left := left) HH.out.good HRL.out HQ.out)
        have HDR : Hid (Ra w2.drew b w.heap.size L.length D (struck left r) cnt1) := HRG2.out
        go_wp2
        go_region_held3 (fun w' => w'.cell? ⟨g, 1, none⟩ = some (.map (some b)) ∧ w'.cell? ⟨w1.heap.size, 0, none⟩ = some (.int .i64 r.a) ∧ w'.cell? ⟨w1.heap.size, 1, none⟩ = some (.int .i64 r.b)) (first | exact K0.out | exact K3.out)
          (first | ((refine step_delete_reports (by rfl) _ _ (by rfl) b w.heap.size L.length D _ cnt1 r HOK.out (by rfl) (by rfl) HDR.out ?_; intro w3 cnt3 hrg3 hle3 hg3; rw [struck_twice] at hrg3; have HRG3 := Lib.hid hrg3; have HLE3 := Lib.hid hle3; have HG3 := Lib.hid hg3; have K3 : Hid (w3.cell? ⟨g, 1, none⟩ = some (.map (some b)) ∧ w3.cell? ⟨w1.heap.size, 0, none⟩ = some (.int .i64 r.a) ∧ w3.cell? ⟨w1.heap.size, 1, none⟩ = some (.int .i64 r.b)) := Lib.hid ⟨(HH.out.row.grown ((only_drew HGW2.out).trans hg3) (by have := HH.out.ne; simpa using this)).cell 1, ((HB2.out.drew).grown hg3 (by simpa using hbw.symm)).cell 0, ((HB2.out.drew).grown hg3 (by simpa using hbw.symm)).cell 1⟩; clear hrg3 hle3 hg3)))
        go_wp2
        go_roundw
        case rel => exact ⟨_, cnt3, _, HRG3.out, by rw [HST.out]; obtain ⟨D9, h9, _⟩ := HH.out.map; exact HAD.out.del (HRG.out.owns.tidy keyed) (leftL_good HH.out.good _ _) (ok_in HOK.out).1 (ok_in HOK.out).2.1, (only_drew HGW2.out).trans HG3.out⟩
        case measure => rw [HRG3.out.left_eq, HRG.out.left_eq]; have := HLT.out; have := HLE3.out; omega

set_option maxRecDepth 100000 in
set_option maxHeartbeats 2000000 in
theorem take_expire (g b : Nat) (win : Int) (L : List Rp) (now : Int) (c d : Nat) (w : World) (h : Bk w g b win L) (hl : L.length < 100000) (hc : w.cell? ⟨c, 0, none⟩ = some (.pointer (some ⟨g, 0, none⟩))) (hd : w.cell? ⟨d, 0, none⟩ = some (.int .i64 now)) (hcb : c ≠ b) (hdb : d ≠ b) :
    Calls Try.prog 25 #[.pointer (some ⟨g, 0, none⟩), .func (.func 28) #[] #[.pointer (some ⟨c, 0, none⟩), .pointer (some ⟨d, 0, none⟩)]] w (Did g b win ((L.length : Int) - ((L.filter fun r => !staleB win now r).length : Int)) (L.filter fun r => !staleB win now r) w) := by
  obtain ⟨p, HPP⟩ : ∃ p : Rp → Bool, Hid (staleB win now = p) := ⟨_, Lib.hid rfl⟩
  have HF : Hid (∀ w' r, w.grownBy w' (some b) → okRp r → Calls Try.prog 28 #[vPair r.a r.b, .int .i64 r.t, .pointer (some ⟨c, 0, none⟩), .pointer (some ⟨d, 0, none⟩)] w' (Says (p r) w')) := by
    refine Lib.hid fun w' r hgw hr => ?_
    rw [← HPP.out]
    exact expire1_any g b win r now c d w' (h.row.grown hgw (by have := h.ne; simpa using this)) h.win hr ((World.cell?_of_block (hgw.block c (lt_of_cell hc) (by simpa using hcb))).trans hc) ((World.cell?_of_block (hgw.block d (lt_of_cell hd) (by simpa using hdb))).trans hd)
  rw [HPP.out]
  have c1 := h.c1
  have HH := Lib.hid h
  obtain ⟨D0, hown, hag⟩ := h.map
  have HAG := Lib.hid hag
  have HS := Lib.hid hag.size
  have hlg := h.lt
  have hlb := h.ltb
  clear hag h hc hd hcb hdb HPP
  go_enter Try.func25, Try.ntmps25
  go_wp2_with (first
    | (at_len; refine wpList_len_own _ rfl _ 49 rfl 56 3 Try.underlying49 _ b _ D0 rfl hown ?_; rw [HS.out])
    | (at_range; refine wpList_range_own _ rfl _ 49 rfl 56 3 keyed Try.underlying49 _ b _ D0 rfl hown ?_; intro w0 hrg0 hg0 hs0))
  go_frame
  have HRG0 := Lib.hid hrg0
  have HG0 := Lib.hid hg0
  clear hrg0 hg0 hs0 hown
  go_loopw [7] (fun _ wr => ∃ (left : Lit → Bool) (cnt : Nat) (D : Dm), Ra wr b w.heap.size L.length D left cnt ∧ Agr D (leftL L p left) ∧ w.grownBy wr (some b))
    (fun _ wr => wr.rangeLeft b w.heap.size)
  case atStart =>
    refine ⟨_, _, D0, HRG0.out, ?_, HG0.out.but _⟩
    rw [left_start fun r hr => by obtain ⟨h1, h2, _⟩ := ok_in (HH.out.good.2 r hr); rw [HAG.out.has_ _ _ h1 h2]; exact hasL_iff.2 ⟨r, hr, rfl, rfl⟩]
    exact HAG.out
  case round =>
    obtain ⟨left, cnt, D, hrg, hagD, hgw⟩ := hrel
    have HRG := Lib.hid hrg
    have HAD := Lib.hid hagD
    have HGW := Lib.hid hgw
    have e1 := (HH.out.row.grown hgw (by have := HH.out.ne; simpa using this)).cell 1
    simp at e1
    have hwr := hgw.size
    clear hrg hagD hgw
    go_wp2_with (at_next; refine wpList_next_reports _ rfl _ rfl b w.heap.size L.length _ _ _ _ HAD.out rfl HRG.out ?_ ?_)
    · -- nothing is left
      intro hl0
      have HE := Lib.hid (left_end (L := L) (p := p) hl0)
      have HAE : Hid (Agr D (L.filter fun r => !p r)) := Lib.hid (by have := HAD.out; rw [HE.out] at this; exact this)
      have HSE := Lib.hid HAE.out.size
      have hle : (L.filter fun r => !p r).length ≤ L.length := List.length_filter_le _ _
      obtain ⟨m, HM⟩ : ∃ m, Hid ((L.filter fun r => !p r).length = m) := ⟨_, Lib.hid rfl⟩
      rw [HM.out] at hle
      clear hl0
      go_wp2_with (at_len; refine wpList_len_own _ rfl _ 49 rfl 56 3 Try.underlying49 _ b _ D rfl HRG.out.owns ?_; rw [HSE.out, HM.out])
      go_ret
      refine ⟨by rw [HM.out]; rfl, ⟨HH.out.row.grown HGW.out (by have := HH.out.ne; simpa using this), ⟨D, ?_, HAE.out⟩, HH.out.good.filter _, HH.out.win⟩, HGW.out⟩
      rw [← HAE.out.size]
      exact own_tight HRG.out.owns
    · -- one has come
      intro r w1 cnt1 hmem hlr hrg1 hlt hg1 hs1 hen
      have hrL := leftL_sub hmem
      have hokr := HH.out.good.2 r hrL
      have HOK := Lib.hid hokr
      have HRL := Lib.hid hrL
      have HRG1 := Lib.hid hrg1
      have hgw1 := HGW.out.andThen hg1 (fun j hj => by cases hj; exact Or.inl (Nat.le_refl _))
      have HGW1 := Lib.hid hgw1
      have HLT := Lib.hid hlt
      have hgs : g < w1.heap.size := by omega
      have hbs : b < w1.heap.size := by omega
      have f1 := (HH.out.row.grown hgw1 (by have := HH.out.ne; simpa using this)).cell 1
      simp at f1
      clear hmem hlr hrL hokr hrg1 hgw1 hlt hg1 hs1 e1 hwr
      obtain ⟨q, HQ⟩ : ∃ q, Hid (p r = q) := ⟨_, Lib.hid rfl⟩
      go_wp2_with (fail)
      refine (HF.out _ r (only_alloc HGW1.out _) HOK.out).mono ?_
      rintro e w2 ⟨rfl, hb2⟩
      rw [HQ.out]
      have HGW2 := Lib.hid ((only_alloc HGW1.out _).trans (only_of_below hb2 _))
      have HRG2 : Hid (Ra w2 b w.heap.size L.length D (struck left r) cnt1) := Lib.hid ((HRG1.out.alloc _).kept (only_of_below hb2 none) (by simp) (by simp))
      have hB2 : Blk w2 w1.heap.size 56 #[.int .i64 r.a, .int .i64 r.b] := (Blk.new w1 _ _).below hb2 (by simp)
      have d0 := hB2.cell 0
      have d1 := hB2.cell 1
      simp at d0 d1
      have g1 := (HH.out.row.grown HGW2.out (by have := HH.out.ne; simpa using this)).cell 1
      simp at g1
      have hgs2 : g < w2.heap.size := by have := hb2.size; simp at this; omega
      have K0 : Hid (w2.drew.cell? ⟨g, 1, none⟩ = some (.map (some b)) ∧ w2.drew.cell? ⟨w1.heap.size, 0, none⟩ = some (.int .i64 r.a) ∧ w2.drew.cell? ⟨w1.heap.size, 1, none⟩ = some (.int .i64 r.b)) := Lib.hid ⟨g1, d0, d1⟩
      have HB2 := Lib.hid hB2
      have hbw : b ≠ w1.heap.size := by omega
      clear hb2 hB2 f1
      cases q
      · -- it stays
        have HST := Lib.hid (left_stay (left := left) HH.out.good HRL.out HQ.out)
        go_wp2
        go_roundw
        case rel => exact ⟨_, cnt1, D, HRG2.out, by rw [HST.out]; exact HAD.out, HGW2.out⟩
        case measure => rw [HRG2.out.left_eq, HRG.out.left_eq]; exact HLT.out
      · -- it goes
        have HST := Lib.hid (left_go (left := left) HH.out.good HRL.out HQ.out)
        have HDR : Hid (Ra w2.drew b w.heap.size L.length D (struck left r) cnt1) := HRG2.out
        go_wp2
        go_region_held3 (fun w' => w'.cell? ⟨g, 1, none⟩ = some (.map (some b)) ∧ w'.cell? ⟨w1.heap.size, 0, none⟩ = some (.int .i64 r.a) ∧ w'.cell? ⟨w1.heap.size, 1, none⟩ = some (.int .i64 r.b)) (first | exact K0.out | exact K3.out)
          (first | ((refine step_delete_reports (by rfl) _ _ (by rfl) b w.heap.size L.length D _ cnt1 r HOK.out (by rfl) (by rfl) HDR.out ?_; intro w3 cnt3 hrg3 hle3 hg3; rw [struck_twice] at hrg3; have HRG3 := Lib.hid hrg3; have HLE3 := Lib.hid hle3; have HG3 := Lib.hid hg3; have K3 : Hid (w3.cell? ⟨g, 1, none⟩ = some (.map (some b)) ∧ w3.cell? ⟨w1.heap.size, 0, none⟩ = some (.int .i64 r.a) ∧ w3.cell? ⟨w1.heap.size, 1, none⟩ = some (.int .i64 r.b)) := Lib.hid ⟨(HH.out.row.grown ((only_drew HGW2.out).trans hg3) (by have := HH.out.ne; simpa using this)).cell 1, ((HB2.out.drew).grown hg3 (by simpa using hbw.symm)).cell 0, ((HB2.out.drew).grown hg3 (by simpa using hbw.symm)).cell 1⟩; clear hrg3 hle3 hg3)))
        go_wp2
        go_roundw
        case rel => exact ⟨_, cnt3, _, HRG3.out, by rw [HST.out]; obtain ⟨D9, h9, _⟩ := HH.out.map; exact HAD.out.del (HRG.out.owns.tidy keyed) (leftL_good HH.out.good _ _) (ok_in HOK.out).1 (ok_in HOK.out).2.1, (only_drew HGW2.out).trans HG3.out⟩
        case measure => rw [HRG3.out.left_eq, HRG.out.left_eq]; have := HLT.out; have := HLE3.out; omega

set_option maxHeartbeats 1000000 in
theorem forget_any (g b : Nat) (win : Int) (L : List Rp) (id : Int) (w : World) (h : Bk w g b win L) (hl : L.length < 100000) :
    Calls Try.prog 15 #[.pointer (some ⟨g, 0, none⟩), .int .i64 id] w (Did g b win ((L.length : Int) - ((L.filter fun r => !ofB id r).length : Int)) (L.filter fun r => !ofB id r) w) := by
  obtain ⟨m, HM⟩ : ∃ m, Hid ((L.length : Int) - ((L.filter fun r => !ofB id r).length : Int) = m) := ⟨_, Lib.hid rfl⟩
  have HH := Lib.hid h
  have hlb := h.ltb
  rw [HM.out]
  clear h
  go_enter Try.func15, Try.ntmps15
  go_wp2_with (fail)
  refine (take_forget g b win L id w.heap.size _ (HH.out.below ((Below.refl _ _).alloc (Nat.le_refl _) _)) hl ((Blk.new w _ _).cell 0) (by omega)).mono ?_
  rintro e w1 ⟨rfl, hb1, hg1⟩
  rw [HM.out]
  go_wp2
  go_ret
  exact ⟨rfl, hb1, (only_alloc (World.grownBy.refl _ _) _).trans hg1⟩
set_option maxHeartbeats 1000000 in
theorem expire_any (g b : Nat) (win : Int) (L : List Rp) (now : Int) (w : World) (h : Bk w g b win L) (hl : L.length < 100000) :
    Calls Try.prog 16 #[.pointer (some ⟨g, 0, none⟩), .int .i64 now] w (Did g b win ((L.length : Int) - ((L.filter fun r => !staleB win now r).length : Int)) (L.filter fun r => !staleB win now r) w) := by
  obtain ⟨m, HM⟩ : ∃ m, Hid ((L.length : Int) - ((L.filter fun r => !staleB win now r).length : Int) = m) := ⟨_, Lib.hid rfl⟩
  have HH := Lib.hid h
  have hlb := h.ltb
  rw [HM.out]
  clear h
  go_enter Try.func16, Try.ntmps16
  go_wp2_with (fail)
  refine (take_expire g b win L now w.heap.size (w.heap.size + 1) _ (HH.out.below (((Below.refl _ _).alloc (Nat.le_refl _) _).alloc (by simp) _)) hl (((Blk.new w _ _).alloc _).cell 0) (by simp) (by omega) (by omega)).mono ?_
  rintro e w1 ⟨rfl, hb1, hg1⟩
  rw [HM.out]
  go_wp2
  go_ret
  exact ⟨rfl, hb1, (only_alloc (only_alloc (World.grownBy.refl _ _) _) _).trans hg1⟩
end Go.Proofs.Ytcacjppdcmghjaa
