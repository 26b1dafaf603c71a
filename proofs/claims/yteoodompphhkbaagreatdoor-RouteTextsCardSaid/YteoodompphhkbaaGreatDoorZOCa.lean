/-
  WHAT IS PROVED: the contract of a node's call with the closure of do. Conditions: the object is a node on a disk apart from it; the closure does what it is said to do; the library's variables hold what is laid there.
-/
import Derived.Test.YteoodompphhkbaaGreatDoorZOB
namespace Go.Proofs.YteoodompphhkbaaGreatDoor.Nod
set_option maxRecDepth 100000
open Go.RowKit Go.Lib Go.Maps
open Go.Proofs.YteoodompphhkbaaGreatDoor.Ros (Turn Sub Rd Blk no zints)
open Go.Proofs.YteoodompphhkbaaGreatDoor.K (KnAt Kn Sv stv StAt mkS)

/-- what a call comes to -/
def CallP (w : World) (C g : Nat) (F : Nat → Prop) (d e : Nat) (r : An × Nd × K.Dsk.Ds) (o : Ending) (w' : World) : Prop :=
  ∃ v F', o = .returned v ∧ AnAt w' w.heap.size F' (fun k => F k ∨ w.heap.size ≤ k) v r.1 ∧ Sys w' C g F' d e r.2.1 r.2.2 ∧ Turn w w' (fun i => F i ∨ K.Dsk.FD d e i) ∧ Sub w F F'

set_option maxHeartbeats 4000000 in
theorem call_do (C g d e : Nat) (F : Nat → Prop) (n : Nd) (D : K.Dsk.Ds) (now : Int) (cb : Nat) (fe : Tn → Int) (f : Tn → Tn) (w : World) (h : Sys w C g F d e n D) (hl : D.fs.length < 1000)
    (hc : n.stop = false → isNow now = true → ∀ w' t, Turn w w' F → w.heap.size ≤ t → TnAt w' C t g (fun i => F i ∨ i = t) d ⟨n.at_ now, [], []⟩ →
      Calls Tryz.prog 33 #[.pointer (some ⟨t, 0, none⟩), .pointer (some ⟨cb, 0, none⟩)] w' fun o w'' => o = .returned (.int .i64 (fe ⟨n.at_ now, [], []⟩)) ∧ ThenT w' w'' C t g (fun i => F i ∨ i = t) d (f ⟨n.at_ now, [], []⟩)) :
    Calls Tryz.prog 28 #[.pointer (some ⟨g, 0, none⟩), .int .i64 now, .func (.func 33) #[] #[.pointer (some ⟨cb, 0, none⟩)]] w (CallP w C g F d e (callW n D now fe f)) := by
  obtain ⟨w1, hw1⟩ : ∃ w1, w.alloc (.cells #[.int .i64 0, .slice none 0 0, .slice none 0 0] 55) = w1 := ⟨_, rfl⟩
  have hb1 : Below w.heap.size w w1 := by rw [← hw1]; exact (Below.refl _ w).alloc (Nat.le_refl _) _
  have HB1 := Lib.hid hb1
  have HSZ : Hid (w1.heap.size = w.heap.size + 1) := Lib.hid (by rw [← hw1]; simp)
  have HR1 : Hid (Blk w1 w.heap.size 55 #[.int .i64 0, .slice none 0 0, .slice none 0 0]) := Lib.hid (by rw [← hw1]; exact Blk.new w _ _)
  have H0 := Lib.hid h
  have H1 := Lib.hid (h.below hb1)
  have HC := Lib.hid hc
  have HL := Lib.hid hl
  have HFL := Lib.hid h.nd.lt
  have HFC := Lib.hid h.nd.lo
  obtain ⟨_, _, _, c3, c4, _⟩ := (h.below hb1).nd.cells
  have z4 := (h.below hb1).nd.fz 4
  obtain ⟨s, HS⟩ : ∃ s, Hid (n.stop = s) := ⟨_, Lib.hid rfl⟩
  rw [HS.out] at c3
  clear h hc hl hb1
  go_enter Tryz.func28, Tryz.ntmps28
  go_upto_region 1 with (fail)
  clear hw1
  cases s
  · obtain ⟨q, HQ⟩ : ∃ q, Hid (isNow now = q) := ⟨_, Lib.hid rfl⟩
    go_wp2_with (fail)
    refine (isnow_any now _).mono ?_
    rintro o w2 ⟨rfl, rfl⟩
    rw [HQ.out]
    cases q
    · have HX : Hid (callW n D now fe f = (.err 10, n, D)) := Lib.hid (by unfold callW; rw [if_neg (by rw [HS.out]; decide), if_pos HQ.out])
      go_wp2_with (first | (refine row_store rfl HR1.out rfl an_info rfl (by simp [Value.oneCell']) rfl ?_))
      exact bodyPost_ret (results_cell_row rfl _ _ w.heap.size 55 #[.int .i64 10, .slice none 0 0, .slice none 0 0] (0, 0) _ rfl (blk_row HR1.out _) Tryz.underlying55 rfl an_info) rfl ⟨_, F, rfl, by rw [HX.out]; exact AnAt.err _ _ _ _ 10, by rw [HX.out]; exact H0.out.below (K.C.below_row HB1.out (Nat.le_refl _) _), Turn.of_below (K.C.below_row HB1.out (Nat.le_refl _) _) _, Sub.refl _ _⟩
    · go_upto_region 6 with (fail)
      have hn2 : NdAt (w1.setCell ⟨g, 4, none⟩ (.int .i64 (max n.time now))) C g F d (n.at_ now) := H1.out.nd.put (k := 4) (u := .int .i64 (max n.time now)) (H1.out.nd.ok.at_ HQ.out) (by omega) rfl rfl rfl rfl rfl rfl rfl rfl
      have kt2 : Turn w1 (w1.setCell ⟨g, 4, none⟩ (.int .i64 (max n.time now))) F := turn_set _ ⟨g, 4, none⟩ _ F H1.out.nd.fg
      have hrf : ¬ F w.heap.size := fun f => absurd (HFL.out _ f) (Nat.lt_irrefl _)
      have hr2 := HR1.out.turn kt2 hrf
      have hd1 : K.Dsk.Dk w1 d e (fun i => F i ∨ i = w.heap.size) D := Dk_turn H0.out.dk (Turn.of_below HB1.out F) (fun i hi f => by rcases f with f | f; exact f; omega) (fun i hi => by
        rcases hi with hi | hi
        · exact H1.out.nd.lt i hi
        · rw [hi, HSZ.out]; omega)
      have hd2 := Dk_turn hd1 (kt2.wide (fun i hi => .inl hi)) (Sub.refl _ _) (fun i hi => Nat.lt_of_lt_of_le (hd1.ult i hi) kt2.size)
      have he2 := H1.out.env.turn kt2 H1.out.nd.lo H1.out.nd.cle
      have HN2 := Lib.hid hn2
      have T2 : Hid (Turn w (w1.setCell ⟨g, 4, none⟩ (.int .i64 (max n.time now))) F) := Lib.hid ((Turn.of_below HB1.out F).trans kt2 (Sub.refl _ _))
      have HR2 := Lib.hid hr2
      have HD2 := Lib.hid hd2
      have HE2 := Lib.hid he2
      have HRF := Lib.hid hrf
      have HS2 : Hid (w.heap.size < (w1.setCell ⟨g, 4, none⟩ (.int .i64 (max n.time now))).heap.size) := Lib.hid hr2.lt
      have HDL := Lib.hid H0.out.dlo
      have HAP := Lib.hid H0.out.dk.ap
      have HDT := Lib.hid H0.out.dk.lt
      have HCL := Lib.hid H0.out.nd.cle
      clear hn2 kt2 hrf hr2 hd1 hd2 he2 H1 HR1 c3 c4 z4
      generalize w1.setCell ⟨g, 4, none⟩ (.int .i64 (max n.time now)) = w2 at *
      go_wp2_with (fail)
      refine (state_any C g d F (n.at_ now) _ HN2.out).mono ?_
      rintro o w3 ⟨hb3, A, k, c, rfl, hk3, hk15, hlow⟩
      obtain ⟨s, HSS⟩ : ∃ s, Hid (mkS (n.at_ now).dt A k c = s) := ⟨_, Lib.hid rfl⟩
      rw [HSS.out]
      have ha : Below w3.heap.size w3 (w3.alloc (.cells #[.pointer (some ⟨g, 0, none⟩), .int .i64 0, .slice none 0 0, .slice none 0 0] 119)) := (Below.refl _ w3).alloc (Nat.le_refl _) _
      have hb : Below w3.heap.size w3 ((w3.alloc (.cells #[.pointer (some ⟨g, 0, none⟩), .int .i64 0, .slice none 0 0, .slice none 0 0] 119)).alloc (.cells (stv s) 73)) := ha.alloc ha.size _
      have HT4 : Hid (Blk ((w3.alloc (.cells #[.pointer (some ⟨g, 0, none⟩), .int .i64 0, .slice none 0 0, .slice none 0 0] 119)).alloc (.cells (stv s) 73)) w3.heap.size 119 #[.pointer (some ⟨g, 0, none⟩), .int .i64 0, .slice none 0 0, .slice none 0 0]) := Lib.hid ((Blk.new w3 _ _).alloc _)
      have HW4 : Hid (StAt ((w3.alloc (.cells #[.pointer (some ⟨g, 0, none⟩), .int .i64 0, .slice none 0 0, .slice none 0 0] 119)).alloc (.cells (stv s) 73)) (w3.heap.size + 1) s) := Lib.hid (by
        have h := StAt.new (w3.alloc (.cells #[.pointer (some ⟨g, 0, none⟩), .int .i64 0, .slice none 0 0, .slice none 0 0] 119)) s
        have e : (w3.alloc (.cells #[.pointer (some ⟨g, 0, none⟩), .int .i64 0, .slice none 0 0, .slice none 0 0] 119)).heap.size = w3.heap.size + 1 := by simp
        rw [e] at h
        exact h)
      have HB4 := Lib.hid (hb3.trans (hb.mono hb3.size))
      have HB34 := Lib.hid hb
      have HS3 := Lib.hid hb3.size
      have hd3 := HD2.out.below hb3
      have HD4 := Lib.hid (Dk_turn (U' := fun i => (F i ∨ i = w.heap.size) ∨ i = w3.heap.size) hd3 (Turn.of_below hb _) (fun i hi f => by rcases f with f | f; exact f; omega) (fun i hi => by
        rcases hi with hi | hi
        · exact Nat.lt_of_lt_of_le (hd3.ult i hi) hb.size
        · rw [hi]; exact HT4.out.lt))
      have HK4 := Lib.hid (hk3.below hb)
      have HAL := Lib.hid hlow
      have HKB : Hid (∀ ad, A = some ad → 0 < k → ad.block < w3.heap.size) := Lib.hid (fun ad e hk => by obtain ⟨ad2, e2, h2, _⟩ := hk3.2 hk; rw [e] at e2; injection e2 with e2; rw [e2]; exact h2)
      clear hb3 hk3 hlow ha hb hd3
      go_upto_region 7 with (first | ((with_reducible refine K.st_alloc ?_ ?_); (rfl)) | ((with_reducible refine K.st_store_new (u := s) ?_ ?_ ?_ ?_); (rfl); (rfl); (rfl)))
      obtain ⟨w4, hw4⟩ : ∃ w4, ((w3.alloc (.cells #[.pointer (some ⟨g, 0, none⟩), .int .i64 0, .slice none 0 0, .slice none 0 0] 119)).alloc (.cells (stv s) 73)) = w4 := ⟨_, rfl⟩
      rw [hw4] at HT4 HW4 HB4 HB34 HK4 HD4 ⊢
      clear hw4
      have hT4 := T2.out.then_ HB4.out
      have h23 : w.heap.size < w3.heap.size := Nat.lt_of_lt_of_le HS2.out HS3.out
      have hnt : ¬ F w3.heap.size := fun f => by have := HFL.out _ f; omega
      have h34 : w3.heap.size < w4.heap.size := HT4.out.lt
      have HCC := Lib.hid (HC.out HS.out HQ.out w4 w3.heap.size hT4 (by omega) (TnAt.start (HN2.out.below HB4.out) HT4.out hnt (by have := HCL.out; omega)))
      have HT := Lib.hid hT4
      have H23 := Lib.hid h23
      have H34 := Lib.hid h34
      have HNT := Lib.hid hnt
      have HE4 := Lib.hid (HE2.out.later HB4.out HN2.out.cle)
      have HR4 := Lib.hid (HR2.out.below HB4.out HR2.out.lt)
      clear hT4 h23 hnt h34 HC HT4 HN2 HE2 HD2 HR2 T2 H0
      go_wp2_with (fail)
      refine HCC.out.mono ?_
      rintro o w5 ⟨rfl, U5, k5, t5, s5⟩
      obtain ⟨r1, HR1⟩ : ∃ r, Hid (fe ⟨n.at_ now, [], []⟩ = r) := ⟨_, Lib.hid rfl⟩
      obtain ⟨x, HXX⟩ : ∃ x, Hid (f ⟨n.at_ now, [], []⟩ = x) := ⟨_, Lib.hid rfl⟩
      rw [HXX.out] at k5
      rw [HR1.out]
      obtain ⟨N, vo, ve, hN, hNU, hBt, hUt, o1, o2, hfin⟩ := k5.fin
      have hrU : ¬ U5 w.heap.size := fun f => by
        have := H23.out; have := H34.out
        rcases s5 _ (by omega) f with f | f
        · exact HRF.out f
        · omega
      have hUF : ∀ i, i < w.heap.size → U5 i → F i := fun i hi f => by
        have := H23.out; have := H34.out
        rcases s5 _ (by omega) f with f | f
        · exact f
        · omega
      have hFD : ∀ i, K.Dsk.FD d e i → i < w.heap.size ∧ ¬ U5 i := fun i hi => by
        rcases hi with rfl | rfl
        · exact ⟨HDT.out.1, fun f => HAP.out.1 (hUF _ HDT.out.1 f)⟩
        · exact ⟨HDT.out.2, fun f => HAP.out.2 (hUF _ HDT.out.2 f)⟩
      have hQ : ∀ k, U5 k → F k ∨ w.heap.size ≤ k := fun k hk => by
        rcases Nat.lt_or_ge k w.heap.size with h | h
        · exact .inl (hUF k h hk)
        · exact .inr h
      have hd5 : K.Dsk.Dk w5 d e (fun i => N i ∨ i = w.heap.size) D := Dk_turn HD4.out (t5.wide (fun i hi => by
        rcases hi with hi | hi
        · exact .inl (.inl hi)
        · exact .inr hi)) (fun i hi f => by
        rcases f with f | f
        · rcases s5 i hi (hNU i f).1 with f | f
          · exact .inl (.inl f)
          · exact .inr f
        · exact .inl (.inr f)) (fun i hi => by
        rcases hi with hi | hi
        · exact hN.lt i hi
        · rw [hi]; have := H23.out; have := H34.out; have := t5.size; omega)
      have he5 := HE4.out.turn t5 (fun i hi => by
        rcases hi with hi | hi
        · exact HFC.out i hi
        · have := H23.out; have := HCL.out; omega) (by have := H23.out; have := H34.out; have := HCL.out; omega)
      have hr5 := HR4.out.turn t5 (fun f => by rcases f with f | f; exact HRF.out f; have := H23.out; omega)
      have hst5 : StAt w5 (w3.heap.size + 1) s := Ros.Blk.turn HW4.out t5 (fun f => by
        rcases f with f | f
        · have := HFL.out _ f; have := H23.out; omega
        · omega)
      have hk5 := KnAt_turn HK4.out t5 (fun hk ad e f => by
        have h1 := HKB.out ad e hk
        have h2 := HAL.out ad e
        have h3 := HS2.out
        rcases f with f | f
        · have := HFL.out _ f; omega
        · omega)
      have hT5 : Turn w w5 F := HT.out.trans t5 (fun i hi f => by rcases f with f | f; exact f; have := H23.out; omega)
      have HSV := nsave_any C g d e N x.n D (n.at_ now).dt A k c w5 ⟨hN, Dk_less hd5 (fun i hi => .inl hi), he5, HDL.out⟩ (fun i => i = w.heap.size) hd5 HL.out hk5 (by omega)
      rw [HSS.out] at HSV
      have HSV2 := Lib.hid HSV
      have HFN := Lib.hid hfin
      have HN5 := Lib.hid hN
      have HNU := Lib.hid hNU
      have HBT := Lib.hid hBt
      have HRU := Lib.hid hrU
      have HUF := Lib.hid hUF
      have HFD := Lib.hid hFD
      have HQQ := Lib.hid hQ
      have HD5 := Lib.hid hd5
      have HE5 := Lib.hid he5
      have HR5 := Lib.hid hr5
      have HST5 := Lib.hid hst5
      have T5 := Lib.hid hT5
      have HNR : Hid (¬ N w.heap.size) := Lib.hid (fun f => hrU (hNU _ f).1)
      have HSU : Hid (Sub w F N) := Lib.hid (fun i hi f => hUF i hi (hNU i f).1)
      clear k5 t5 s5 hN hNU hBt hUt hfin hrU hUF hFD hQ hd5 he5 hr5 hst5 hk5 hT5 HSV HCC HK4 HW4 HR4 HE4 HD4 HB4 HB34
      by_cases h0 : r1 = 0
      · subst h0
        go_wp2_with (first | ((with_reducible refine K.st_load (b := w3.heap.size + 1) (s := s) ?_ ?_ ?_ ?_); (rfl); (with_reducible exact HST5.out); (rfl)))
        refine HSV2.out.mono ?_
        rintro o w6 ⟨rfl, h6, d6, t6⟩
        obtain ⟨⟨r2, D6⟩, HRR⟩ : ∃ r, Hid (x.n.saveE (n.at_ now).dt D = r) := ⟨_, Lib.hid rfl⟩
        rw [HRR.out] at h6 d6 ⊢
        have hr6 := HR5.out.turn t6 (fun f => by
          rcases f with f | f
          · exact HNR.out f
          · exact absurd (HFD.out _ f).1 (Nat.lt_irrefl _))
        have hb6 := HBT.out.turn t6 (fun f => by
          rcases f with f | f
          · exact (HNU.out _ f).2 rfl
          · have := (HFD.out _ f).1; have := H23.out; omega)
        have hT6 : Turn w w6 (fun i => F i ∨ K.Dsk.FD d e i) := (T5.out.wide (fun i hi => .inl hi)).trans t6 (fun i hi f => by
          rcases f with f | f
          · exact .inl (HUF.out i hi (HNU.out i f).1)
          · exact .inr f)
        have HR6 := Lib.hid hr6
        have HB6 := Lib.hid hb6
        have T6 := Lib.hid hT6
        have H6 := Lib.hid h6
        have D66 := Lib.hid d6
        have T56 := Lib.hid t6
        clear hr6 hb6 hT6 h6 d6 t6 HSV2
        have HFS : Hid (∀ cs, Sys (w6.setRow w.heap.size cs) C g N d e (x.n.saved (n.at_ now).dt D) D6 ∧ Turn w (w6.setRow w.heap.size cs) (fun i => F i ∨ K.Dsk.FD d e i)) := Lib.hid (fun cs => ⟨Sys.fin H6.out.nd D66.out H6.out.env HDL.out HNR.out HCL.out cs, T6.out.trans (turn_row w6 w.heap.size cs (fun i => i = w.heap.size) rfl) (fun i hi f => by omega)⟩)
        by_cases h1 : r2 = 0
        · subst h1
          have HX : Hid (callW n D now fe f = (⟨0, x.out, x.ev⟩, x.n.saved (n.at_ now).dt D, D6)) := Lib.hid (by
            unfold callW
            rw [if_neg (by rw [HS.out]; decide), if_neg (by rw [HQ.out]; decide)]
            simp only [HR1.out, HXX.out, show x.n.saveE n.dt D = (0, D6) from HRR.out]
            rfl)
          have HRG : Hid (w6.rangeAt w3.heap.size 1 [.int .i64 0, vo, ve]) := Lib.hid (fun j v hv => by
            match j, hv with
            | 0, hv => exact (HB6.out.cell 1).trans hv
            | 1, hv => exact (HB6.out.cell 2).trans hv
            | 2, hv => exact (HB6.out.cell 3).trans hv
            | j + 3, hv => simp at hv)
          have HON : Hid ((#[.int .i64 0, vo, ve] : Array Value).all (fun v => v.oneCell') = true) := Lib.hid (by rw [← Array.all_toList]; simp only [List.all_cons, List.all_nil, o1, o2]; rfl)
          go_wp2_with (first | ((with_reducible refine mid_load (b := w3.heap.size) (o := 1) (cs := [.int .i64 0, vo, ve]) ?_ HRG.out Tryz.underlying55 rfl ?_ ?_ ?_); (rfl); (exact an_info); (rfl)) | (refine row_store rfl HR6.out rfl an_info rfl HON.out rfl ?_))
          exact bodyPost_ret (results_cell_row rfl _ _ w.heap.size 55 #[.int .i64 0, vo, ve] (0, 0) _ rfl (blk_row HR6.out _) Tryz.underlying55 rfl an_info) rfl ⟨_, N, rfl, by
            rw [HX.out]
            exact HFN.out _ w.heap.size N _ (fun i => (N i ∨ K.Dsk.FD d e i) ∨ i = w.heap.size) ((T56.out.wide (fun i hi => .inl hi)).trans (turn_row w6 w.heap.size _ (fun i => i = w.heap.size) rfl) (fun i hi f => .inr f)) (fun i hi => by
              rcases hi with (hi | hi) | hi
              · exact .inl hi
              · have h1 := HFD.out i hi; have h2 := H23.out; exact .inr ⟨h1.2, by omega⟩
              · rw [hi]; exact .inr ⟨HRU.out, H23.out⟩) (Nat.le_of_lt H23.out) (fun i _ h => h) HQQ.out, by rw [HX.out]; exact (HFS.out _).1, (HFS.out _).2, HSU.out⟩
        · have hq : (r2 != 0) = true := by simpa using h1
          have HX : Hid (callW n D now fe f = (.err r2, x.n.saved (n.at_ now).dt D, D6)) := Lib.hid (by
            unfold callW
            rw [if_neg (by rw [HS.out]; decide), if_neg (by rw [HQ.out]; decide)]
            simp only [HR1.out, HXX.out, show x.n.saveE n.dt D = (r2, D6) from HRR.out]
            rw [if_neg (by decide), if_pos h1]
            rfl)
          clear h1
          go_wp2_with (first | (refine row_store rfl HR6.out rfl an_info rfl (by simp [Value.oneCell']) rfl ?_))
          exact bodyPost_ret (results_cell_row rfl _ _ w.heap.size 55 #[.int .i64 r2, .slice none 0 0, .slice none 0 0] (0, 0) _ rfl (blk_row HR6.out _) Tryz.underlying55 rfl an_info) rfl ⟨_, N, rfl, by rw [HX.out]; exact AnAt.err _ _ _ _ r2, by rw [HX.out]; exact (HFS.out _).1, (HFS.out _).2, HSU.out⟩
      · have hq : (r1 != 0) = true := by simpa using h0
        have HX : Hid (callW n D now fe f = (.err r1, x.n, D)) := Lib.hid (by
          unfold callW
          rw [if_neg (by rw [HS.out]; decide), if_neg (by rw [HQ.out]; decide)]
          simp only [HR1.out, HXX.out]
          rw [if_pos h0])
        clear h0 HSV2
        go_wp2_with (first | (refine row_store rfl HR5.out rfl an_info rfl (by simp [Value.oneCell']) rfl ?_))
        exact bodyPost_ret (results_cell_row rfl _ _ w.heap.size 55 #[.int .i64 r1, .slice none 0 0, .slice none 0 0] (0, 0) _ rfl (blk_row HR5.out _) Tryz.underlying55 rfl an_info) rfl ⟨_, N, rfl, by rw [HX.out]; exact AnAt.err _ _ _ _ r1, by rw [HX.out]; exact Sys.fin HN5.out HD5.out HE5.out HDL.out HNR.out HCL.out _, (T5.out.wide (fun i hi => .inl hi)).trans (turn_row w5 w.heap.size _ (fun i => i = w.heap.size) rfl) (fun i hi f => by omega), HSU.out⟩
  · have HX : Hid (callW n D now fe f = (.err 50, n, D)) := Lib.hid (by unfold callW; rw [if_pos HS.out])
    go_wp2_with (first | (refine row_store rfl HR1.out rfl an_info rfl (by simp [Value.oneCell']) rfl ?_))
    exact bodyPost_ret (results_cell_row rfl _ _ w.heap.size 55 #[.int .i64 50, .slice none 0 0, .slice none 0 0] (0, 0) _ rfl (blk_row HR1.out _) Tryz.underlying55 rfl an_info) rfl ⟨_, F, rfl, by rw [HX.out]; exact AnAt.err _ _ _ _ 50, by rw [HX.out]; exact H0.out.below (K.C.below_row HB1.out (Nat.le_refl _) _), Turn.of_below (K.C.below_row HB1.out (Nat.le_refl _) _) _, Sub.refl _ _⟩
end Go.Proofs.YteoodompphhkbaaGreatDoor.Nod
