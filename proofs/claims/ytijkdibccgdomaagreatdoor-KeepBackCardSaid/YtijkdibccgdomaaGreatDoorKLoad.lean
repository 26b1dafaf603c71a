/-
  WHAT IS PROVED: the contracts of keep.Save, keep.Load and keep.Carry. Conditions: the library's variables hold what is laid there; the known ones lie in memory; the disk has fewer than 1000 files.
-/
import Derived.Test.YtijkdibccgdomaaGreatDoorKSave
import Derived.Test.YtijkdibccgdomaaGreatDoorKB
import Derived.Test.YtijkdibccgdomaaGreatDoorSamest
import Derived.Test.YtijkdibccgdomaaGreatDoorRQuiet
import Derived.RegionTactic
import Derived.ChangeAlike
namespace Go.Proofs.YtijkdibccgdomaaGreatDoor.Dsk
set_option maxRecDepth 100000
open Go.RowKit Go.Lib C

def txO2 (d : Dt) : List UInt8 × Int := if okD d = true then (txD d, 0) else ([], 10)
theorem text_dk (d : Dt) (A : Option Addr) (n cap : Nat) (w : World) (hE : Env w) (hk : KnAt w A n d.l) (hN : n ≤ 9223372036854775807) : Calls Tryz.prog 12 #[.agg (stv (mkS d A n cap))] w (TextPost (txO2 d).1 (txO2 d).2 w) := by
  unfold txO2
  by_cases h : okD d = true
  · rw [if_pos h]
    exact text_yes (mkS d A n cap) d.l w hE hk (by rw [okD_eq d A n cap hk.1]; exact h)
  · rw [if_neg h]
    exact text_no (mkS d A n cap) d.l w hk hN (by rw [okD_eq d A n cap hk.1]; simpa using h)
theorem dk_ptr {w : World} {d g : Nat} {S : Ds} (h : Dk w d g S) {w1 : World} (hb : Below w.heap.size w w1) : Dk w1 d g S := h.below hb
theorem two_objs {w : World} {x y : Obj} : Below w.heap.size w ((w.alloc x).alloc y) ∧ ((w.alloc x).alloc y).heap.size = w.heap.size + 2 := ⟨((Below.refl _ w).alloc (Nat.le_refl _) x).alloc (by simp) y, by simp⟩

set_option maxHeartbeats 2000000 in
theorem save_any (d g : Nat) (S : Ds) (dt : Dt) (A : Option Addr) (n cap : Nat) (w : World) (hE : Env w) (h : Dk w d g S) (hl : S.fs.length < 1000) (hk : KnAt w A n dt.l) (hN : n ≤ 9223372036854775807) :
    Calls Tryz.prog 22 #[.pointer (some ⟨d, 0, none⟩), .agg (stv (mkS dt A n cap))] w (SaveP w d g (saveD S dt)) := by
  have hmf : ∀ (fn : Fn) (first cap : Array Value) (w : World), (Instr.makeFunc fn first cap).run Tryz.prog w = .ok (.func fn first cap) w := fun _ _ _ _ => rfl
  obtain ⟨t1, t2⟩ := two_objs (w := w) (x := .cells #[.pointer (some ⟨d, 0, none⟩)] 48) (y := .cells (stv (mkS dt A n cap)) 29)
  have J1 : Hid (Blk ((w.alloc (.cells #[.pointer (some ⟨d, 0, none⟩)] 48)).alloc (.cells (stv (mkS dt A n cap)) 29)) w.heap.size 48 #[.pointer (some ⟨d, 0, none⟩)]) := Lib.hid ((Blk.new w _ _).alloc _)
  have J2 : Hid (StAt ((w.alloc (.cells #[.pointer (some ⟨d, 0, none⟩)] 48)).alloc (.cells (stv (mkS dt A n cap)) 29)) (w.heap.size + 1) (mkS dt A n cap)) := Lib.hid (by
    have h := StAt.new (w.alloc (.cells #[.pointer (some ⟨d, 0, none⟩)] 48)) (mkS dt A n cap)
    have e : (w.alloc (.cells #[.pointer (some ⟨d, 0, none⟩)] 48)).heap.size = w.heap.size + 1 := by simp
    rw [e] at h
    exact h)
  have JB := Lib.hid t1
  have JE := Lib.hid (hE.below t1)
  have JK := Lib.hid (hk.below t1)
  have HD := Lib.hid h
  have hd := h.lt
  obtain ⟨R, HR⟩ : ∃ r, Hid (saveD S dt = r) := ⟨_, Lib.hid rfl⟩
  rw [HR.out]
  clear t1 t2 hE hk h
  go_enter Tryz.func22, Tryz.ntmps22
  go_wp2_with (first | ((with_reducible refine st_load (b := w.heap.size + 1) (s := mkS dt A n cap) ?_ ?_ ?_ ?_); (rfl); (with_reducible exact J2.out); (rfl)))
  refine (text_dk dt A n cap _ JE.out JK.out hN).mono ?_
  rintro e w1 ⟨rfl, hb1⟩
  have K1 := Lib.hid (Blk.below J1.out hb1 J1.out.lt)
  have KB := Lib.hid (JB.out.trans (hb1.mono JB.out.size))
  have KS := Lib.hid KB.out.size
  clear hb1 J1 J2 JB JE JK
  have hp0 : w1.cell? ⟨w.heap.size, 0, none⟩ = some (.pointer (some ⟨d, 0, none⟩)) := K1.out.cell 0
  have hlt1 : w.heap.size < w1.heap.size := K1.out.lt
  by_cases hok : okD dt = true
  · have hx : txO2 dt = (txD dt, 0) := by unfold txO2; rw [if_pos hok]
    have HX : Hid (R = saveT S (txD dt)) := Lib.hid (by rw [← HR.out]; unfold saveD; rw [if_pos hok])
    have hlen := Lib.hid (txD_len hok)
    rw [hx]
    clear hx hok HR
    obtain ⟨T, HT⟩ : ∃ t, Hid (txD dt = t) := ⟨_, Lib.hid rfl⟩
    rw [HT.out] at hlen HX ⊢
    have hb2 : Below w1.heap.size w1 (w1.alloc (.cells #[.string (str T)] 9)) := (Below.refl _ _).alloc (Nat.le_refl _) _
    obtain ⟨F, HF⟩ : ∃ F : Obj, Hid (Obj.cells #[.func (.func 49) #[] #[.pointer (some ⟨w.heap.size, 0, none⟩), .pointer (some ⟨w1.heap.size, 0, none⟩)], .func (.func 50) #[] #[.pointer (some ⟨w.heap.size, 0, none⟩)], .func (.func 52) #[] #[.pointer (some ⟨w.heap.size, 0, none⟩)]] 86 = F) := ⟨_, Lib.hid rfl⟩
    have hb3 : Below w1.heap.size w1 ((w1.alloc (.cells #[.string (str T)] 9)).alloc F) := hb2.alloc (by simp) F
    have hbk : Blk ((w1.alloc (.cells #[.string (str T)] 9)).alloc F) (w1.heap.size + 1) 86 #[.func (.func 49) #[] #[.pointer (some ⟨w.heap.size, 0, none⟩), .pointer (some ⟨w1.heap.size, 0, none⟩)], .func (.func 50) #[] #[.pointer (some ⟨w.heap.size, 0, none⟩)], .func (.func 52) #[] #[.pointer (some ⟨w.heap.size, 0, none⟩)]] := by
      rw [← HF.out]
      have h := Blk.new (w1.alloc (.cells #[.string (str T)] 9)) 86 #[.func (.func 49) #[] #[.pointer (some ⟨w.heap.size, 0, none⟩), .pointer (some ⟨w1.heap.size, 0, none⟩)], .func (.func 50) #[] #[.pointer (some ⟨w.heap.size, 0, none⟩)], .func (.func 52) #[] #[.pointer (some ⟨w.heap.size, 0, none⟩)]]
      have e : (w1.alloc (.cells #[.string (str T)] 9)).heap.size = w1.heap.size + 1 := by simp
      rw [e] at h
      exact h
    have HC := Lib.hid (inturn_any d g S T w.heap.size w1.heap.size (w1.heap.size + 1) _ (HD.out.below (KB.out.trans (hb3.mono KS.out))) hl (by have := hlen.out; omega) ((hb3.cell (p := ⟨w.heap.size, 0, none⟩) hlt1).trans hp0) (((Blk.new w1 _ _).alloc F).cell 0) ⟨hbk.cell 0, hbk.cell 1, hbk.cell 2⟩ (by omega) (by omega))
    have HB3 := Lib.hid (KB.out.trans (hb3.mono KS.out))
    rw [← HF.out] at HC HB3
    clear hb2 hb3 hbk HF
    go_wp2_with (fail)
    with_reducible refine HC.out.mono ?_
    rintro e w2 ⟨rfl, hk2, ht2⟩
    go_wp2
    go_ret
    exact ⟨by rw [HX.out]; rfl, by rw [HX.out]; exact hk2, (Turn.of_below HB3.out _).fd ht2⟩
  · have hx : txO2 dt = ([], 10) := by unfold txO2; rw [if_neg hok]
    have HX : Hid (R = (10, S)) := Lib.hid (by rw [← HR.out]; unfold saveD; rw [if_neg hok])
    rw [hx]
    clear hx hok HR
    go_wp2
    go_ret
    have hb : Below w.heap.size w (w1.alloc (.cells #[.string (str [])] 9)) := KB.out.alloc KS.out _
    exact ⟨by rw [HX.out]; rfl, by rw [HX.out]; exact HD.out.below hb, Turn.of_below hb _⟩

/-- what a load hands back: a state whose known ones lie in new memory, or an error -/
def LoadP (o : Int × Option Dt) (w : World) (e : Ending) (w' : World) : Prop :=
  Below w.heap.size w w' ∧ ((∃ d a n cap, o = (0, some d) ∧ e = .returned (.tuple #[.agg (stv (mkS d a n cap)), .int .i64 0]) ∧ KnAt w' a n d.l ∧ n ≤ 1000000 ∧ ∀ ad, a = some ad → w.heap.size ≤ ad.block) ∨ (o.2 = none ∧ o.1 ≠ 0 ∧ e = .returned (.tuple #[.agg (stv Sv.zero), .int .i64 o.1])))

set_option maxHeartbeats 2000000 in
theorem load_any (d g : Nat) (S : Ds) (w : World) (hE : Env w) (h : Dk w d g S) : Calls Tryz.prog 23 #[.pointer (some ⟨d, 0, none⟩)] w (LoadP (loadD S) w) := by
  have hlen : (readB S nSt).length ≤ 100000 := by
    unfold readB
    split
    · cases hh : hasF S.fs nSt with
      | true => exact (h.good.small _ (getF_mem hh)).2
      | false => rw [getF_none hh]; simp
    · simp
  have HL := Lib.hid hlen
  have HD := Lib.hid h
  have J1 := Lib.hid (StAt.new w Sv.zero)
  have JB : Hid (Below w.heap.size w (w.alloc (.cells (stv Sv.zero) 29))) := Lib.hid ((Below.refl _ w).alloc (Nat.le_refl _) _)
  have JE := Lib.hid (hE.below JB.out)
  have JD := Lib.hid (h.below JB.out)
  obtain ⟨R, HR⟩ : ∃ r, Hid (loadD S = r) := ⟨_, Lib.hid rfl⟩
  rw [HR.out]
  obtain ⟨re, HRE⟩ : ∃ r, Hid (readE S nSt = r) := ⟨_, Lib.hid rfl⟩
  obtain ⟨rb, HRB⟩ : ∃ r, Hid (readB S nSt = r) := ⟨_, Lib.hid rfl⟩
  have HX : Hid (R = if re ≠ 0 then (re, none) else match parseD rb with
    | some d => (0, some d)
    | none => (60, none)) := Lib.hid (by rw [← HR.out, ← HRE.out, ← HRB.out]; rfl)
  rw [HRB.out] at HL
  have HRD := Lib.hid (read_any d g S nSt _ JD.out (by decide))
  rw [HRE.out, HRB.out] at HRD
  clear hlen h hE HR HRE HRB
  go_enter Tryz.func23, Tryz.ntmps23
  go_wp2_with (first | refine st_alloc rfl ?_)
  refine HRD.out.mono ?_
  rintro e w1 ⟨A, n, c, rfl, hn, hc, hm, ho, hb1⟩
  have K1 := Lib.hid (J1.out.later hb1)
  have KB := Lib.hid (JB.out.trans (hb1.mono JB.out.size))
  have KE := Lib.hid (JE.out.below hb1)
  have hr1 : Rd w1 no 1 A n (bs rb) := Rd.of_own ho rfl (fun _ _ f => f)
  have hcv := bytes_back (c := c) hr1.reads
  have hlt1 : w.heap.size < w1.heap.size := K1.out.lt
  clear hb1 ho hr1 J1 JB JE JD HRD
  by_cases hre : re = 0
  · subst hre
    have HX2 : Hid (R = match parseD rb with
      | some d => (0, some d)
      | none => (60, none)) := Lib.hid (by rw [HX.out]; simp)
    clear HX
    go_wp2_with (fail)
    refine (cparse2_any rb HL.out w1 KE.out).mono ?_
    rintro e w2 ⟨hb2, hcase⟩
    have L1 := Lib.hid (K1.out.later hb2)
    have LB := Lib.hid (KB.out.trans (hb2.mono KB.out.size))
    clear hb2 hcv
    rcases hcase with ⟨dt, a, m, cap, hp, rfl, hk, hm2, hlow⟩ | ⟨hp, rfl⟩
    · have HN : Hid (R = (0, some dt)) := Lib.hid (by rw [HX2.out, hp])
      have HK := Lib.hid hk
      have HLW := Lib.hid hlow
      clear hp hk hlow HX2
      go_wp2_with (first | ((with_reducible refine st_store (b := w.heap.size) (s := Sv.zero) (u := mkS dt a m cap) ?_ ?_ ?_ ?_ ?_); (rfl); (rfl); (with_reducible exact L1.out); (rfl)))
      exact bodyPost_ret (results_st rfl _ _ w.heap.size _ rfl (L1.out.store _)) rfl ⟨below_row LB.out (Nat.le_refl _) _, .inl ⟨dt, a, m, cap, HN.out, rfl, kn_row_far HK.out (fun ad e => by have := HLW.out ad e; omega), hm2, fun ad e => by have := HLW.out ad e; omega⟩⟩
    · have HN : Hid (R = (60, none)) := Lib.hid (by rw [HX2.out, hp])
      clear hp HX2
      go_wp2_with (first | ((with_reducible refine st_store (b := w.heap.size) (s := Sv.zero) (u := Sv.zero) ?_ ?_ ?_ ?_ ?_); (rfl); (rfl); (with_reducible exact L1.out); (rfl)))
      exact bodyPost_ret (results_st rfl _ _ w.heap.size _ rfl (L1.out.store _)) rfl ⟨below_row LB.out (Nat.le_refl _) _, .inr ⟨by rw [HN.out], by rw [HN.out]; simp, by rw [HN.out]; rfl⟩⟩
  · have q0 : (re != 0) = true := by simpa using hre
    have HN : Hid (R = (re, none)) := Lib.hid (by rw [HX.out, if_pos hre])
    have HRN : Hid (re ≠ 0) := Lib.hid hre
    clear HX hre hcv
    go_wp2_with (first | (refine st_build rfl ?_) | ((with_reducible refine st_store (b := w.heap.size) (s := Sv.zero) (u := Sv.zero) ?_ ?_ ?_ ?_ ?_); (rfl); (rfl); (with_reducible exact K1.out); (rfl)))
    exact bodyPost_ret (results_st rfl _ _ w.heap.size _ rfl (K1.out.store _)) rfl ⟨below_row KB.out (Nat.le_refl _) _, .inr ⟨by rw [HN.out], by rw [HN.out]; exact HRN.out, by rw [HN.out]; rfl⟩⟩
end Go.Proofs.YtijkdibccgdomaaGreatDoor.Dsk
