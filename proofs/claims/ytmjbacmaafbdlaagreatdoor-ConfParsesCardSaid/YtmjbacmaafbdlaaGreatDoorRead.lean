/-
  WHAT IS PROVED: the contract of conf.read. Conditions: the library's variables hold what is laid there; a text has at most 100000 bytes.
-/
import Derived.Test.YtmjbacmaafbdlaaGreatDoorWitha
namespace Go.Proofs.YtmjbacmaafbdlaaGreatDoor
open Go.RowKit C

theorem with_any (d : Dt) (a : Option Addr) (n cap base : Nat) (line : List UInt8) (hl : line.length ≤ 4294967200) (w : World) (hE : Env w) (hb : base ≤ w.heap.size) (hn : n ≤ 999999) (hown : w.ownsRow base 52 3 (.slice a n cap) n (flatK d.l)) :
    Calls Tryz.prog 25 #[.agg (stv (mkS d a n cap)), .string (str line)] w (WithD base (withD d line) w) := by
  cases h : numsP line selfN with
  | some zs => exact with_1 zs d a n cap base line hl w hE hb h hown
  | none => exact with_2 d a n cap base line hl w hE hb hn h hown

/-- what a text's lines say -/
def readP : Nat → Dt → List UInt8 → Option Dt
  | _, d, [] => some d
  | 0, _, _ :: _ => none
  | k + 1, d, c :: r => match withD d (cutL (c :: r) 10).1 with
    | some d' => readP k d' (cutL (c :: r) 10).2.1
    | none => none
theorem read_nil (k : Nat) (d : Dt) : readP k d [] = some d := by cases k <;> rfl
theorem read_some {k : Nat} {d d' : Dt} {t : List UInt8} (ht : t ≠ []) (h : withD d (cutL t 10).1 = some d') : readP (k + 1) d t = readP k d' (cutL t 10).2.1 := by
  cases t with
  | nil => exact absurd rfl ht
  | cons c r => rw [readP, h]
theorem read_none {k : Nat} {d : Dt} {t : List UInt8} (ht : t ≠ []) (h : withD d (cutL t 10).1 = none) : readP (k + 1) d t = none := by
  cases t with
  | nil => exact absurd rfl ht
  | cons c r => rw [readP, h]
theorem with_len {d d' : Dt} {line : List UInt8} (h : withD d line = some d') : d'.l.length ≤ d.l.length + 1 := by
  unfold withD at h
  split at h
  · split at h
    · injection h with h; subst h; simp
    · cases h
  · split at h
    · split at h
      · injection h with h; subst h; simp
      · cases h
    · split at h
      · split at h
        · rename_i a b _
          cases hw : wsP d.t a b line with
          | none => rw [hw] at h; cases h
          | some T => rw [hw] at h; simp at h; subst h; simp
        · cases h
      · cases h

/-- a State whose known ones lie in memory, and whether there is one, is handed back -/
def ReadPost (o : Option Dt) (w : World) (e : Ending) (w' : World) : Prop :=
  Below w.heap.size w w' ∧ ((∃ d a n cap, o = some d ∧ e = .returned (.tuple #[.agg (stv (mkS d a n cap)), .bool true]) ∧ KnAt w' a n d.l ∧ n ≤ 1000000 ∧ ∀ ad, a = some ad → w.heap.size ≤ ad.block) ∨ (o = none ∧ e = .returned (.tuple #[.agg (stv Sv.zero), .bool false])))
theorem own_row_far {w : World} {base n g k : Nat} {v : Value} {xs : List Value} {cs : Array Value} {e : TypeId} (h : w.ownsRow base e k v n xs) (hg : g < base) : (w.setRow g cs).ownsRow base e k v n xs := by
  refine ⟨h.1, ?_⟩
  rcases h.2 with h0 | ⟨b, cap, cur, hv, hb, hh, hr⟩
  · exact .inl h0
  · exact .inr ⟨b, cap, cur, hv, hb, (setRow_other _ _ _ _ (by omega)).trans hh, hr⟩
theorem kn_of_own {w : World} {base n cap : Nat} {a : Option Addr} {l : List Kn} {e : TypeId} (h : w.ownsRow base e 3 (.slice a n cap) n (flatK l)) : KnAt w a n l := by
  obtain ⟨A2, c2, hv, _, _, hkn⟩ := own_kn h
  injection hv with hv1 hv2 hv3
  subst hv1
  exact hkn
theorem own_low {w : World} {base n cap k : Nat} {a : Option Addr} {xs : List Value} {e : TypeId} (h : w.ownsRow base e k (.slice a n cap) n xs) : ∀ ad, a = some ad → base ≤ ad.block := fun ad e1 => by
  subst e1
  rcases h.2 with ⟨h0, _⟩ | ⟨b, c, cur, hv, hb, _⟩
  · cases h0
  · injection hv with h1 h2 h3
    injection h1 with h1
    subst h1
    exact hb
def strSz : Value → Nat
  | .string b => b.size
  | _ => 0

set_option maxRecDepth 100000 in
set_option maxHeartbeats 1000000 in
theorem read_any (t : List UInt8) (ht : t.length ≤ 100000) (w : World) (hE : Env w) :
    Calls Tryz.prog 12 #[.string (str t)] w (ReadPost (readP t.length Dt.zero t) w) := by
  have HE := Lib.hid hE
  clear hE
  obtain ⟨j1, j2, j3, _⟩ := two_sts (w := w) (s := Sv.zero) (u := Sv.zero) (Below.refl _ _)
  have J1 := Lib.hid j1
  have J2 := Lib.hid j2
  have J3 := Lib.hid j3
  have JZ : Hid (StAt ((w.alloc (.cells (stv Sv.zero) 30)).alloc (.cells (stv Sv.zero) 30)) (w.heap.size + 1) (mkS Dt.zero none 0 0)) := Lib.hid j2
  have JS : Hid (w.heap.size + 2 ≤ ((w.alloc (.cells (stv Sv.zero) 30)).alloc (.cells (stv Sv.zero) 30)).heap.size) := Lib.hid (by simp)
  clear j1 j2 j3
  obtain ⟨R, HR⟩ : ∃ R, Hid (readP t.length Dt.zero t = R) := ⟨_, Lib.hid rfl⟩
  rw [HR.out]
  go_enter Tryz.func12, Tryz.ntmps12
  go_wp2_with (first | refine st_alloc rfl ?_)
  go_loopw [5] (fun r wr => ∃ (rest : List UInt8) (d : Dt) (a : Option Addr) (n cap m : Nat), r = .string (str rest) ∧ Hid (R = readP m d rest) ∧ rest.length ≤ m ∧ Hid (n + rest.length ≤ t.length) ∧ Hid (StAt wr w.heap.size Sv.zero) ∧ Hid (StAt wr (w.heap.size + 1) (mkS d a n cap)) ∧ Hid (Below w.heap.size w wr) ∧ Hid (w.heap.size + 2 ≤ wr.heap.size) ∧ Hid (wr.ownsRow (w.heap.size + 2) 52 3 (.slice a n cap) n (flatK d.l))) (fun r _ => strSz r)
  case atStart =>
    exact ⟨t, Dt.zero, none, 0, 0, t.length, rfl, Lib.hid HR.out.symm, Nat.le_refl _, Lib.hid (by omega), J1, JZ, J3, JS, Lib.hid ⟨rfl, .inl ⟨rfl, rfl⟩⟩⟩
  case round =>
    obtain ⟨rest, d, a, n, cap, m, rfl, HRD, hm, hn, K1, K2, K3, KS, KO⟩ := hrel
    by_cases he : rest = []
    · subst he
      have HX : Hid (R = some d) := Lib.hid (by rw [HRD.out, read_nil])
      have hq : (str []).toList.isEmpty = true := by rw [str_toList]; rfl
      have HK := Lib.hid (kn_of_own (own_row_far (g := w.heap.size) (cs := stv (mkS d a n cap)) KO.out (by omega)))
      go_wp2_with (first | (refine st_load rfl K2.out rfl ?_) | (refine st_store rfl rfl K1.out rfl ?_))
      exact bodyPost_ret (results_st rfl _ _ w.heap.size _ rfl (K1.out.store _)) rfl ⟨below_row K3.out (Nat.le_refl _) _, .inl ⟨d, a, n, cap, HX.out, rfl, HK.out, by have := hn.out; omega, fun ad e => Nat.le_trans (by omega) (own_low KO.out ad e)⟩⟩
    · have hq : (str rest).toList.isEmpty = false := by rw [str_toList]; simpa using he
      have hsh := S.cutL_shorter (c := 10) he
      have hfl := S.cutL_first_le rest 10
      have hnn := hn.out
      obtain ⟨m, rfl⟩ : ∃ k, m = k + 1 := ⟨m - 1, by have := List.length_pos_iff.2 he; omega⟩
      have HS1 : Hid (∀ d', withD d (cutL rest 10).1 = some d' → R = readP m d' (cutL rest 10).2.1) := Lib.hid fun d' h => by rw [HRD.out, read_some he h]
      have HS2 : Hid (withD d (cutL rest 10).1 = none → R = none) := Lib.hid fun h => by rw [HRD.out, read_none he h]
      have hsz : (str rest).size = rest.length := rfl
      have HRL := Lib.hid hsz
      clear he hsz
      go_wp2_with (fail)
      refine (cut1_any rest 10 (by omega) _).mono ?_
      rintro e w1 ⟨rfl, hb1⟩
      have L1 := Lib.hid (K1.out.later hb1)
      have L2 := Lib.hid (K2.out.later hb1)
      have L3 := Lib.hid (K3.out.trans (hb1.mono K3.out.size))
      have LS : Hid (w.heap.size + 2 ≤ w1.heap.size) := Lib.hid (Nat.le_trans KS.out hb1.size)
      have LO := Lib.hid (own_below KO.out hb1)
      clear hb1
      generalize cutL rest 10 = cc at *
      obtain ⟨c1, c2, c3⟩ := cc
      simp only at hsh hfl HS1 HS2 ⊢
      obtain ⟨wd, HWD⟩ : ∃ o, Hid (withD d c1 = o) := ⟨_, Lib.hid rfl⟩
      rw [HWD.out] at HS1 HS2
      go_wp2_with (first | (refine st_load rfl L2.out rfl ?_))
      refine (with_any d a n cap (w.heap.size + 2) c1 (by omega) _ (HE.out.below L3.out) LS.out (by omega) LO.out).mono ?_
      rw [HWD.out]
      rintro e w2 ⟨hb2, hcase⟩
      have M1 := Lib.hid (L1.out.below hb2 (by omega))
      have M2 := Lib.hid (L2.out.below hb2 (by omega))
      have M3 := Lib.hid (L3.out.trans (hb2.mono (by omega)))
      have MS : Hid (w.heap.size + 2 ≤ w2.heap.size) := Lib.hid (Nat.le_trans LS.out hb2.size)
      clear hb2
      rcases hcase with ⟨d', a', n', cap', rfl, rfl, hown⟩ | ⟨rfl, rfl⟩
      · have HN := Lib.hid (HS1.out d' rfl)
        have hnl : n' ≤ n + 1 := by
          have h1 := with_len HWD.out
          have h2 := hown.1
          have h3 := LO.out.1
          rw [flat_len] at h2 h3
          omega
        have NO := Lib.hid (own_row_far (g := w.heap.size + 1) (cs := stv (mkS d' a' n' cap')) hown (by omega))
        have N1 := Lib.hid (M1.out.row_far (g := w.heap.size + 1) (by omega) (stv (mkS d' a' n' cap')))
        have N2 := Lib.hid (M2.out.store (mkS d' a' n' cap'))
        have N3 := Lib.hid (below_row M3.out (g := w.heap.size + 1) (by omega) (stv (mkS d' a' n' cap')))
        have NS : Hid (w.heap.size + 2 ≤ (w2.setRow (w.heap.size + 1) (stv (mkS d' a' n' cap'))).heap.size) := Lib.hid (by rw [size_setRow]; exact MS.out)
        clear hown
        go_wp2_with (first | (refine st_store rfl rfl M2.out rfl ?_))
        go_roundw
        case rel => exact ⟨c2, d', a', n', cap', m, rfl, HN, by omega, Lib.hid (by omega), N1, N2, N3, NS, NO⟩
        case measure => simp [strSz]; show c2.length < rest.length; omega
      · have HN := Lib.hid (HS2.out rfl)
        have N1 := Lib.hid (M1.out.row_far (g := w.heap.size + 1) (by omega) (stv Sv.zero))
        have N3 := Lib.hid (below_row M3.out (g := w.heap.size + 1) (by omega) (stv Sv.zero))
        go_wp2_with (first | (refine st_build rfl ?_) | (refine st_store rfl rfl M2.out rfl ?_) | (refine st_store rfl rfl N1.out rfl ?_))
        exact bodyPost_ret (results_st rfl _ _ w.heap.size _ rfl (N1.out.store _)) rfl ⟨below_row N3.out (Nat.le_refl _) _, .inr ⟨HN.out, rfl⟩⟩
end Go.Proofs.YtmjbacmaafbdlaaGreatDoor
