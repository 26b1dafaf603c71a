/-
  WHAT IS PROVED: what the library's variables must hold, and that it lasts; contracts of strconv.Itoa at a number from 0 on and of strings.Cut at " : ". Condition: those variables hold what the program's text lays there.
-/
import Derived.Test.YtmjbacmaafbdlaaGreatDoorSA
import Derived.Test.YtmjbacmaafbdlaaGreatDoorShelfC
import Derived.Test.YtmjbacmaafbdlaaGreatDoorCA
import Derived.Lib.SmallJoins
import Derived.Test.YtmjbacmaafbdlaaGreatDoorAppend
namespace Go.Proofs.YtmjbacmaafbdlaaGreatDoor
open Go.RowKit Go.Shelf

/-- strconv's two errors hold an error, its table the powers of ten, bytealg's bound an int -/
def Env (w : World) : Prop := S.Errs w ∧ Lib.TabIs Tryz.prog w "internal/strconv.uint64pow10" .u64 Lib.pow10Tab ∧ ∃ m, w.cell? ⟨0, 0, none⟩ = some (.int .i64 m)
theorem g_pow : Tryz.prog.globalNamed "internal/strconv.uint64pow10" = some 1 := by kernel_rfl
theorem Env.below {w w' : World} (h : Env w) (hb : Below w.heap.size w w') : Env w' := by
  obtain ⟨h1, h2, m, h3⟩ := h
  exact ⟨h1.below hb, Go.Joins.tab_stays g_pow h2 hb (Nat.le_refl _), m, (hb.cell (S.lt_of_cell h3)).trans h3⟩
theorem Env.drewN {w : World} (h : Env w) (n : Nat) : Env (w.drewN n) := h.below (below_drewN (Below.refl _ _) n)
theorem Env.alloc {w : World} (h : Env w) (o : Obj) : Env (w.alloc o) := h.below ((Below.refl _ _).alloc (Nat.le_refl _) o)
theorem below_grown_draws (w : World) (k : Nat) (os : Array Obj) : Below w.heap.size w (Go.Sort.grow (w.drewN k) os) :=
  ⟨rfl, rfl, rfl, by simp [Go.Sort.grow], fun i hi => by
    show (w.heap ++ os)[i]? = w.heap[i]?
    rw [Array.getElem?_append_left hi]⟩

/-- a number's digits -/
def dg (z : Int) : List UInt8 := Lib.decDigits z.toNat
def AStr (b : List UInt8) (w : World) (e : Ending) (w' : World) : Prop := e = .returned (.string (str b)) ∧ Below w.heap.size w w'
theorem itoa_any (z : Int) (h0 : 0 ≤ z) (h1 : z ≤ 9223372036854775807) (w : World) (hE : Env w) : Calls Tryz.prog 36 #[.int .i64 z] w (AStr (dg z) w) :=
  (Tryz.strconv_Itoa z (by omega) h1 w hE.2.1).mono fun e w' ⟨he, k, os, hw⟩ => ⟨by
    rw [he]
    unfold Lib.itoa dg
    rw [if_neg (by omega)]; rfl, hw ▸ below_grown_draws w k os⟩
/-- what a cut at " : " comes to -/
def cut3 (l : List UInt8) : List UInt8 × List UInt8 × Bool := Lib.cut l [32, 58, 32]
theorem cut3_any (l : List UInt8) (hl : l.length ≤ 4294967200) (w : World) (hE : Env w) : Calls Tryz.prog 24 #[.string (str l), .string ⟨#[32, 58, 32]⟩] w fun e w' =>
    e = .returned (.tuple #[.string (str (cut3 l).1), .string (str (cut3 l).2.1), .bool (cut3 l).2.2]) ∧ Below w.heap.size w w' := by
  obtain ⟨_, _, m, h3⟩ := hE
  have hd : (str l).data.toList = l := rfl
  have hs : (str l).size = l.length := rfl
  refine (Tryz.strings_Cut (str l) ⟨#[32, 58, 32]⟩ m w (by omega) h3).mono fun e w' ⟨he, n, hw⟩ => ⟨?_, hw ▸ below_drewN (Below.refl _ _) n⟩
  rw [he, hd]; rfl
theorem cut3_le (l : List UInt8) : (cut3 l).2.1.length ≤ l.length := by
  unfold cut3 Lib.cut
  split
  · simp
  · simp
/-- a cut at one byte, told by what has turned -/
theorem cut1_any (l : List UInt8) (c : UInt8) (hl : l.length ≤ 4294967296) (w : World) : Calls Tryz.prog 24 #[.string (str l), .string (str [c])] w fun e w' =>
    e = .returned (.tuple #[.string (str (cutL l c).1), .string (str (cutL l c).2.1), .bool (cutL l c).2.2]) ∧ Below w.heap.size w w' :=
  (cut_any l c w (by omega)).mono fun _ _ ⟨he, n, hw⟩ => ⟨he, hw ▸ below_drewN (Below.refl _ _) n⟩
theorem atoi_env (l : List UInt8) (hl : l.length ≤ 4294967296) (w : World) (hE : Env w) : Calls Tryz.prog 65 #[.string (str l)] w (S.AtoiPost l w) := S.atoi_any l hl w hE.1
end Go.Proofs.YtmjbacmaafbdlaaGreatDoor

/-
  WHAT IS PROVED: the contract of conf.numbers. Conditions: strconv's errors hold errors; a line has less than 2^32 bytes.
-/
namespace Go.Proofs.YtmjbacmaafbdlaaGreatDoor
open Go.RowKit C

def wordOf (l : List UInt8) : List UInt8 := (cutL l 32).1
def digOf (l : List UInt8) : List UInt8 := (cutL (cutL l 32).2.1 32).1
def rest2 (l : List UInt8) : List UInt8 := (cutL (cutL l 32).2.1 32).2.1
def atoiO (d : List UInt8) : Option Int := match Lib.atoiAll d with
  | .ok v => some v
  | _ => none
/-- the numbers that a line has behind each of some names -/
def numsP : List UInt8 → List (List UInt8) → Option (List Int)
  | _, [] => some []
  | l, n :: ns => if wordOf l = n then (match atoiO (digOf l) with
    | some v => (numsP (rest2 l) ns).map (v :: ·)
    | none => none) else none
theorem nums_len : ∀ {ns : List (List UInt8)} {l : List UInt8} {zs : List Int}, numsP l ns = some zs → zs.length = ns.length
  | [], l, zs, h => by simp [numsP] at h; subst h; rfl
  | n :: ns, l, zs, h => by
    rw [numsP] at h
    split at h
    · split at h
      · cases hr : numsP (rest2 l) ns with
        | none => rw [hr] at h; cases h
        | some r => rw [hr] at h; simp at h; subst h; simp [nums_len hr]
      · cases h
    · cases h
/-- how far the reader has come -/
def Gone (l : List UInt8) (ns : List (List UInt8)) (k : Nat) (l' : List UInt8) (acc : List Int) : Prop := numsP l ns = (numsP l' (ns.drop k)).map (acc ++ ·)
theorem gone_start (l : List UInt8) (ns : List (List UInt8)) : Gone l ns 0 l [] := by
  unfold Gone
  rw [List.drop_zero]
  cases numsP l ns <;> simp
theorem gone_end {l l' : List UInt8} {ns : List (List UInt8)} {acc : List Int} (h : Gone l ns ns.length l' acc) : numsP l ns = some acc := by
  unfold Gone at h; rw [h, List.drop_length, numsP]; simp
theorem gone_next {l l' : List UInt8} {ns : List (List UInt8)} {k : Nat} {acc : List Int} {n : List UInt8} {v : Int} (h : Gone l ns k l' acc) (hn : ns[k]? = some n) (hw : wordOf l' = n) (hv : atoiO (digOf l') = some v) :
    Gone l ns (k + 1) (rest2 l') (acc ++ [v]) := by
  unfold Gone at h ⊢
  obtain ⟨hk, e⟩ := List.getElem?_eq_some_iff.1 hn
  rw [h, List.drop_eq_getElem_cons hk, e, numsP, if_pos hw, hv]
  simp only [Option.map_map]
  congr 1
  funext x
  simp
theorem gone_word {l l' : List UInt8} {ns : List (List UInt8)} {k : Nat} {acc : List Int} {n : List UInt8} (h : Gone l ns k l' acc) (hn : ns[k]? = some n) (hw : wordOf l' ≠ n) : numsP l ns = none := by
  unfold Gone at h
  obtain ⟨hk, e⟩ := List.getElem?_eq_some_iff.1 hn
  rw [h, List.drop_eq_getElem_cons hk, e, numsP, if_neg hw]; rfl
theorem gone_digits {l l' : List UInt8} {ns : List (List UInt8)} {k : Nat} {acc : List Int} {n : List UInt8} (h : Gone l ns k l' acc) (hn : ns[k]? = some n) (hv : atoiO (digOf l') = none) : numsP l ns = none := by
  unfold Gone at h
  obtain ⟨hk, e⟩ := List.getElem?_eq_some_iff.1 hn
  rw [h, List.drop_eq_getElem_cons hk, e, numsP, hv]
  split <;> rfl

def strV (ns : List (List UInt8)) : List Value := ns.map fun b => Value.string (str b)
theorem strV_at {ns : List (List UInt8)} {k : Nat} {n : List UInt8} {u : Value} (h : ns[k]? = some n) (hu : (strV ns)[k]? = some u) : u = .string (str n) := by
  unfold strV at hu; rw [List.getElem?_map, h] at hu; simp at hu; exact hu.symm
theorem strV_append (a b : List (List UInt8)) : strV (a ++ b) = strV a ++ strV b := by simp [strV]
theorem zl_append (l m : List Int) : zints (l ++ m) = zints l ++ zints m := by simp [zints]

/-- a list of numbers, and whether there is one, is handed back -/
def NumsPost (o : Option (List Int)) (w : World) (e : Ending) (w' : World) : Prop :=
  Below w.heap.size w w' ∧ ((∃ zs A c, o = some zs ∧ e = .returned (.tuple #[.slice A zs.length c, .bool true]) ∧ zs.length ≤ c ∧ c ≤ 9223372036854775807 ∧ ∀ g, w'.heap.size ≤ g ∨ g < w.heap.size → Reads w' g A zs.length (zints zs)) ∨ (o = none ∧ e = .returned (.tuple #[.slice none 0 0, .bool false])))

theorem own_below {w w' : World} {base n k : Nat} {e : TypeId} {v : Value} {xs : List Value} (h : w.ownsRow base e n v k xs) (hb : Below w.heap.size w w') : w'.ownsRow base e n v k xs := by
  refine ⟨h.1, ?_⟩
  rcases h.2 with h0 | ⟨g, cap, cur, hv, hg, hh, hr⟩
  · exact .inl h0
  · exact .inr ⟨g, cap, cur, hv, hg, (hb.block g (Array.getElem?_eq_some_iff.1 hh).1).trans hh, hr⟩
set_option maxRecDepth 100000 in
set_option maxHeartbeats 2000000 in
theorem numbers_any (l : List UInt8) (hl : l.length ≤ 4294967200) (ns : List (List UInt8)) (A : Option Addr) (c g : Nat) (w : World) (hE : Env w) (hns : ns.length ≤ 10) (hR : Reads w g A ns.length (strV ns)) :
    Calls Tryz.prog 47 #[.string (str l), .slice A ns.length c] w (NumsPost (numsP l ns) w) := by
  obtain ⟨i0, hi0, hz0, hz1, hz2⟩ := info_parts int_info
  have HI : Hid (Tryz.prog.info? 3 = some i0) := hi0
  have HZ0 := Lib.hid hz0
  have HZ1 := Lib.hid hz1
  have HZ2 := Lib.hid hz2
  have HE := Lib.hid hE
  have HR := Lib.hid hR
  clear hi0 hz0 hz1 hz2 hE hR
  have HG0 := Lib.hid (gone_start l ns)
  have HL0 := Lib.hid hl
  go_enter Tryz.func47, Tryz.ntmps47
  go_wp2
  go_loopw [0, 6, 15] (fun r va i wr => ∃ (k : Nat) (l' : List UInt8) (acc : List Int), k ≤ ns.length ∧ i = .int .i64 k ∧ r = .string (str l') ∧ acc.length = k ∧ Hid (l'.length ≤ 4294967200) ∧ Hid (Gone l ns k l' acc) ∧ Hid (Below w.heap.size w wr) ∧ Hid (wr.ownsRow w.heap.size 3 1 va k (zints acc))) (fun _ _ i _ => ns.length - (intOf i).toNat)
  case atStart => exact ⟨0, l, [], by omega, rfl, rfl, rfl, HL0, HG0, Lib.hid (Below.refl _ _), Lib.hid ⟨rfl, .inl ⟨rfl, rfl⟩⟩⟩
  case round =>
    obtain ⟨k, l', acc, hk, rfl, rfl, hacc, hl', hg, hb, hown⟩ := hrel
    by_cases hlt : k < ns.length
    · obtain ⟨ad, u, rfl, hu, hc⟩ := (HR.out.below hb.out).at_ hlt
      obtain ⟨n, hn⟩ : ∃ n, ns[k]? = some n := ⟨_, List.getElem?_eq_getElem hlt⟩
      obtain rfl := strV_at hn hu
      clear hu
      have HN := Lib.hid hn
      clear hn
      have hl1 := hl'.out
      have l1 := S.cutL_first_le l' 32
      have l2 := S.cutL_rest_le l' 32
      have l3 := S.cutL_first_le (cutL l' 32).2.1 32
      have l4 := S.cutL_rest_le (cutL l' 32).2.1 32
      have HW : Hid ((cutL l' 32).1 = wordOf l') := Lib.hid rfl
      have HD : Hid ((cutL (cutL l' 32).2.1 32).1 = digOf l') := Lib.hid rfl
      have HT : Hid ((cutL (cutL l' 32).2.1 32).2.1 = rest2 l') := Lib.hid rfl
      have HNX : Hid (∀ v, wordOf l' = n → atoiO (digOf l') = some v → Gone l ns (k + 1) (rest2 l') (acc ++ [v])) := Lib.hid fun v h1 h2 => gone_next hg.out HN.out h1 h2
      have HNW : Hid (wordOf l' ≠ n → numsP l ns = none) := Lib.hid fun h => gone_word hg.out HN.out h
      have HND : Hid (atoiO (digOf l') = none → numsP l ns = none) := Lib.hid fun h => gone_digits hg.out HN.out h
      go_wp2_with (fail)
      refine (cut1_any l' 32 (by omega) _).mono ?_
      rintro e w1 ⟨rfl, hb1⟩
      have HB1 := Lib.hid (hb.out.trans (hb1.mono hb.out.size))
      have HO1 := Lib.hid (own_below hown.out hb1)
      clear hb1 hc
      go_wp2_with (fail)
      refine (cut1_any (cutL l' 32).2.1 32 (by omega) _).mono ?_
      rintro e w2 ⟨rfl, hb2⟩
      have HB2 := Lib.hid (HB1.out.trans (hb2.mono HB1.out.size))
      have HO2 := Lib.hid (own_below HO1.out hb2)
      clear hb2 HO1
      rw [HW.out, HD.out, HT.out]
      have hdl : (digOf l').length ≤ 4294967296 := by rw [← HD.out]; omega
      have HTL : Hid ((rest2 l').length ≤ 4294967200) := Lib.hid (by rw [← HT.out]; omega)
      clear l1 l2 l3 l4
      generalize wordOf l' = wd at *
      generalize digOf l' = dd at *
      generalize rest2 l' = rr at *
      go_wp2_with (fail)
      refine (atoi_env dd (by omega) _ (HE.out.below HB2.out)).mono ?_
      rintro e w3 ⟨hb3, hcase⟩
      have HB3 := Lib.hid (HB2.out.trans (hb3.mono HB2.out.size))
      have HO3 := Lib.hid (own_below HO2.out hb3)
      clear hb3 HO2
      by_cases hw : wd = n
      · have hq : ((str wd).toList == (str n).toList) = true := by rw [str_toList, str_toList]; simpa using hw
        have HWQ := Lib.hid hw
        clear hw
        rcases hcase with ⟨v, hv, rfl⟩ | ⟨hv, v, t, p, rfl⟩
        · have HV : Hid (atoiO dd = some v) := Lib.hid (by unfold atoiO; rw [hv])
          have hbs := HB3.out.size
          clear hv
          have hown3 := HO3.out
          go_wp2_with (at_builtin; refine wpList_append_own _ rfl _ _ 53 rfl w.heap.size 3 i0 (.int .i64 0) 1 8 Tryz.underlying53 HI.out HZ0.out HZ1.out HZ2.out rfl (by decide) _ _ _ rfl (HO3.out.alloc _) ⟨w3.heap.size, 0, none⟩ 1 1 [.int .i64 v] rfl rfl (cell_one_new _ _ _) (by simp [Value.oneCell']) (by unfold maxLen; omega) (by omega) (by simp; omega) ?_; intro v' w4 hown' hg3 _)
          have HB4 : Hid (Below w.heap.size w w4) := Lib.hid ((HB3.out.alloc hbs _).grown hg3 (by simp; omega) (fun g e => (HO3.out.lt g e).1))
          go_wp2
          go_roundw
          case rel => exact ⟨k + 1, rr, acc ++ [v], by omega, by go_num, rfl, by simp; omega, HTL, Lib.hid (HNX.out v HWQ.out HV.out), HB4, Lib.hid (by rw [zl_append]; simpa [zints] using hown')⟩
          case measure => simp [intOf]; omega
        · have HV : Hid (atoiO dd = none) := Lib.hid (by unfold atoiO; split; (rename_i v' h; exact absurd h (hv v')); rfl)
          clear hv
          go_wp2
          go_ret2
          exact ⟨HB3.out, .inr ⟨HND.out HV.out, rfl⟩⟩
      · have hq : ((str wd).toList == (str n).toList) = false := by rw [str_toList, str_toList]; simpa using hw
        have HWQ := Lib.hid hw
        clear hw
        rcases hcase with ⟨v, hv, rfl⟩ | ⟨hv, v, t, p, rfl⟩
        · clear hv
          go_wp2
          go_ret2
          exact ⟨HB3.out, .inr ⟨HNW.out HWQ.out, rfl⟩⟩
        · clear hv
          go_wp2
          go_ret2
          exact ⟨HB3.out, .inr ⟨HNW.out HWQ.out, rfl⟩⟩
    · obtain rfl : k = ns.length := by omega
      have HX := Lib.hid (gone_end hg.out)
      obtain ⟨A2, c2, rfl, hnc, hcm, hr⟩ := own_reads hown.out
      have HR2 := Lib.hid hr
      clear hr
      go_wp2
      go_ret2
      exact ⟨hb.out, .inl ⟨acc, A2, c2, HX.out, by rw [hacc]; rfl, by omega, hcm, fun g hg => by rw [hacc]; exact HR2.out g hg⟩⟩
end Go.Proofs.YtmjbacmaafbdlaaGreatDoor
