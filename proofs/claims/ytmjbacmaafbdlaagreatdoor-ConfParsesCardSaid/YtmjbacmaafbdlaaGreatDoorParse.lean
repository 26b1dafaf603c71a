/-
  WHAT IS PROVED: the contract of conf.Parse. Conditions: the library's variables hold what is laid there; a text has at most 100000 bytes.
-/
import Derived.Test.YtmjbacmaafbdlaaGreatDoorRead
import Derived.Test.YtmjbacmaafbdlaaGreatDoorCtext
namespace Go.Proofs.YtmjbacmaafbdlaaGreatDoor
open Go.RowKit C

def okD (d : Dt) : Bool := okS (mkS d none d.l.length 0) d.l
def txD (d : Dt) : List UInt8 := txS (mkS d none d.l.length 0) d.l
theorem okD_eq (d : Dt) (a : Option Addr) (n cap : Nat) (h : d.l.length = n) : okS (mkS d a n cap) d.l = okD d := by subst h; rfl
theorem txD_eq (d : Dt) (a : Option Addr) (n cap : Nat) : txS (mkS d a n cap) d.l = txD d := rfl
/-- the state whose text it is -/
def parseD (t : List UInt8) : Option Dt := match readP t.length Dt.zero t with
  | some d => if okD d = true ∧ txD d = t then some d else none
  | none => none
/-- a State and an error are handed back, the known ones in new memory -/
def ParsePost2 (o : Option Dt) (w : World) (e : Ending) (w' : World) : Prop :=
  Below w.heap.size w w' ∧ ((∃ d a n cap, o = some d ∧ e = .returned (.tuple #[.agg (stv (mkS d a n cap)), .int .i64 0]) ∧ KnAt w' a n d.l ∧ n ≤ 1000000 ∧ ∀ ad, a = some ad → w.heap.size ≤ ad.block) ∨ (o = none ∧ e = .returned (.tuple #[.agg (stv Sv.zero), .int .i64 60])))
/-- a State and an error are handed back -/
def ParsePost (o : Option Dt) (w : World) (e : Ending) (w' : World) : Prop :=
  Below w.heap.size w w' ∧ ((∃ d a n cap, o = some d ∧ e = .returned (.tuple #[.agg (stv (mkS d a n cap)), .int .i64 0]) ∧ KnAt w' a n d.l ∧ n ≤ 1000000) ∨ (o = none ∧ e = .returned (.tuple #[.agg (stv Sv.zero), .int .i64 60])))
theorem kn_row_far {w : World} {a : Option Addr} {n g : Nat} {l : List Kn} {cs : Array Value} (h : KnAt w a n l) (hb : ∀ ad, a = some ad → ad.block ≠ g) : KnAt (w.setRow g cs) a n l :=
  ⟨h.1, fun hn => by
    obtain ⟨ad, e, hlt, hc⟩ := h.2 hn
    have hf : ∀ j, (w.setRow g cs).cell? (ad.add j) = w.cell? (ad.add j) := fun j => World.cell?_of_block (setRow_other w g _ cs (by rw [block_of_add]; exact hb ad e))
    refine ⟨ad, e, by rw [size_setRow]; exact hlt, fun i s hs => ?_⟩
    obtain ⟨c0, c1, c2⟩ := hc i s hs
    exact ⟨(hf _).trans c0, (hf _).trans c1, (hf _).trans c2⟩⟩

set_option maxRecDepth 100000 in
set_option maxHeartbeats 1000000 in
theorem cparse2_any (t : List UInt8) (ht : t.length ≤ 100000) (w : World) (hE : Env w) :
    Calls Tryz.prog 5 #[.string (str t)] w (ParsePost2 (parseD t) w) := by
  have HR : Hid (StAt (w.alloc (.cells (stv Sv.zero) 30)) w.heap.size Sv.zero) := Lib.hid (StAt.new w Sv.zero)
  have HB0 : Hid (Below w.heap.size w (w.alloc (.cells (stv Sv.zero) 30))) := Lib.hid ((Below.refl _ w).alloc (Nat.le_refl _) _)
  have HE := Lib.hid (hE.below HB0.out)
  have HPD : Hid (parseD t = match readP t.length Dt.zero t with
    | some d => if okD d = true ∧ txD d = t then some d else none
    | none => none) := Lib.hid rfl
  obtain ⟨R, HRR⟩ : ∃ R, Hid (parseD t = R) := ⟨_, Lib.hid rfl⟩
  rw [HRR.out] at HPD ⊢
  clear hE HRR
  go_enter Tryz.func5, Tryz.ntmps5
  go_wp2_with (first | refine st_alloc rfl ?_)
  refine (read_any t ht _ HE.out).mono ?_
  rintro e w1 ⟨hb1, hcase⟩
  have K1 := Lib.hid (HR.out.later hb1)
  have KB := Lib.hid (HB0.out.trans (hb1.mono HB0.out.size))
  have KE := Lib.hid (HE.out.below hb1)
  clear hb1 HR HB0 HE
  rcases hcase with ⟨d, a, n, cap, hd, rfl, hk, hn, hlow⟩ | ⟨hd, rfl⟩
  · have HPE : Hid (R = if okD d = true ∧ txD d = t then some d else none) := Lib.hid (by rw [HPD.out, hd])
    clear HPD hd
    have J2 := Lib.hid (StAt.new w1 (mkS d a n cap))
    have J1 := Lib.hid (K1.out.alloc (.cells (stv (mkS d a n cap)) 30))
    have JB := Lib.hid (KB.out.alloc KB.out.size (.cells (stv (mkS d a n cap)) 30))
    have JE := Lib.hid (KE.out.alloc (.cells (stv (mkS d a n cap)) 30))
    have JK := Lib.hid (hk.below ((Below.refl _ w1).alloc (Nat.le_refl _) (.cells (stv (mkS d a n cap)) 30)))
    have hdl := hk.1
    have HLOW : Hid (∀ ad, a = some ad → w.heap.size + 1 ≤ ad.block) := Lib.hid fun ad e => by have := hlow ad e; simpa using this
    clear hlow
    have hlt1 : w.heap.size < w1.heap.size := K1.out.lt
    obtain ⟨b, HB⟩ : ∃ b, Hid (okD d = b) := ⟨_, Lib.hid rfl⟩
    have HOK : Hid (okS (mkS d a n cap) d.l = b) := Lib.hid (by rw [okD_eq d a n cap hdl]; exact HB.out)
    cases b
    · have HX : Hid (R = none) := Lib.hid (by rw [HPE.out, HB.out]; simp)
      clear HPE hk
      go_wp2_with (first | refine st_alloc rfl ?_ | refine st_store_new rfl rfl rfl ?_ | (refine st_load rfl J2.out rfl ?_))
      refine (text_no (mkS d a n cap) d.l _ JK.out (by show n ≤ _; omega) HOK.out).mono ?_
      rintro e w2 ⟨rfl, hb2⟩
      have L1 := Lib.hid (J1.out.later hb2)
      have LB := Lib.hid (JB.out.trans (hb2.mono JB.out.size))
      clear hb2
      go_wp2_with (first | (refine st_build rfl ?_) | (refine st_store rfl rfl L1.out rfl ?_))
      exact bodyPost_ret (results_st rfl _ _ w.heap.size _ rfl (L1.out.store _)) rfl ⟨below_row LB.out (Nat.le_refl _) _, .inr ⟨HX.out, rfl⟩⟩
    · by_cases htx : txD d = t
      · have HX : Hid (R = some d) := Lib.hid (by rw [HPE.out, HB.out, if_pos ⟨rfl, htx⟩])
        have hq : ((str (txD d)).toList == (str t).toList) = true := by rw [str_toList, str_toList, htx]; simp
        clear HPE htx hk
        go_wp2_with (first | refine st_alloc rfl ?_ | refine st_store_new rfl rfl rfl ?_ | (refine st_load rfl J2.out rfl ?_))
        refine (text_yes (mkS d a n cap) d.l _ JE.out JK.out HOK.out).mono ?_
        rintro e w2 ⟨rfl, hb2⟩
        rw [txD_eq]
        have L1 := Lib.hid (J1.out.later hb2)
        have L2 := Lib.hid (J2.out.later hb2)
        have LB := Lib.hid (JB.out.trans (hb2.mono JB.out.size))
        have LK := Lib.hid (JK.out.below hb2)
        clear hb2
        go_wp2_with (first | (refine st_load rfl L2.out rfl ?_) | (refine st_store rfl rfl L1.out rfl ?_))
        exact bodyPost_ret (results_st rfl _ _ w.heap.size _ rfl (L1.out.store _)) rfl ⟨below_row LB.out (Nat.le_refl _) _, .inl ⟨d, a, n, cap, HX.out, rfl, kn_row_far LK.out (fun ad e => by have := HLOW.out ad e; omega), hn, fun ad e => by have := HLOW.out ad e; omega⟩⟩
      · have HX : Hid (R = none) := Lib.hid (by rw [HPE.out, if_neg (fun h => htx h.2)])
        have hq : ((str (txD d)).toList == (str t).toList) = false := by rw [str_toList, str_toList]; simpa using htx
        clear HPE htx hk
        go_wp2_with (first | refine st_alloc rfl ?_ | refine st_store_new rfl rfl rfl ?_ | (refine st_load rfl J2.out rfl ?_))
        refine (text_yes (mkS d a n cap) d.l _ JE.out JK.out HOK.out).mono ?_
        rintro e w2 ⟨rfl, hb2⟩
        rw [txD_eq]
        have L1 := Lib.hid (J1.out.later hb2)
        have LB := Lib.hid (JB.out.trans (hb2.mono JB.out.size))
        clear hb2
        go_wp2_with (first | (refine st_build rfl ?_) | (refine st_store rfl rfl L1.out rfl ?_))
        exact bodyPost_ret (results_st rfl _ _ w.heap.size _ rfl (L1.out.store _)) rfl ⟨below_row LB.out (Nat.le_refl _) _, .inr ⟨HX.out, rfl⟩⟩
  · have HX : Hid (R = none) := Lib.hid (by rw [HPD.out, hd])
    clear HPD hd
    have J1 := Lib.hid (K1.out.alloc (.cells (stv Sv.zero) 30))
    have JB := Lib.hid (KB.out.alloc KB.out.size (.cells (stv Sv.zero) 30))
    go_wp2_with (first | refine st_alloc rfl ?_ | refine st_store_new rfl rfl rfl ?_ | (refine st_build rfl ?_) | (refine st_store rfl rfl J1.out rfl ?_))
    exact bodyPost_ret (results_st rfl _ _ w.heap.size _ rfl (J1.out.store _)) rfl ⟨below_row JB.out (Nat.le_refl _) _, .inr ⟨HX.out, rfl⟩⟩
theorem cparse_any (t : List UInt8) (ht : t.length ≤ 100000) (w : World) (hE : Env w) :
    Calls Tryz.prog 5 #[.string (str t)] w (ParsePost (parseD t) w) :=
  (cparse2_any t ht w hE).mono fun _ _ ⟨hb, hc⟩ => ⟨hb, hc.imp (fun ⟨d, a, n, cap, h1, h2, h3, h4, _⟩ => ⟨d, a, n, cap, h1, h2, h3, h4⟩) id⟩
end Go.Proofs.YtmjbacmaafbdlaaGreatDoor
