/-
  WHAT IS PROVED: the contract of (State).with. Conditions: the library's variables hold what is laid there; a line has less than 2^32 bytes; the known ones lie in a row of the reader's own.
-/
import Derived.Test.YtmjbacmaafbdlaaGreatDoorWslots
import Derived.Test.YtmjbacmaafbdlaaGreatDoorNums
import Derived.BigRegion
import Derived.StillTailTactics
import Derived.Deep.RegionHeld3
namespace Go.Proofs.YtmjbacmaafbdlaaGreatDoor
open Go.RowKit C

/-- a State as data -/
structure Dt where
  i : Int
  m : Int
  c : Int
  v : Int
  f : Int
  l : List Kn
  t : Tab
def Dt.zero : Dt := ⟨0, 0, 0, 0, 0, [], Tab.zero⟩
def mkS (d : Dt) (a : Option Addr) (n cap : Nat) : Sv := ⟨d.i, d.m, d.c, d.v, d.f, a, n, cap, d.t⟩
def selfN : List (List UInt8) := [[115, 101, 108, 102], [109, 97, 115, 116, 101, 114], [99, 117, 114, 114, 101, 110, 116], [118, 111, 116, 101], [99, 111, 110, 102, 105, 103]]
def nodeN : List (List UInt8) := [[110, 111, 100, 101], [109, 97, 115, 116, 101, 114], [99, 111, 110, 102, 105, 103]]
def slotsN : List (List UInt8) := [[115, 108, 111, 116, 115], [101, 112, 111, 99, 104]]
/-- a state and what one more line says -/
def withD (d : Dt) (line : List UInt8) : Option Dt := match numsP line selfN with
  | some zs => match zs with
    | [a, b, c, e, f] => some { d with i := a, m := b, c := c, v := e, f := f }
    | _ => none
  | none => match numsP line nodeN with
    | some zs => match zs with
      | [a, b, c] => some { d with l := d.l ++ [⟨a, b, c⟩] }
      | _ => none
    | none => match numsP line slotsN with
      | some zs => match zs with
        | [a, b] => (wsP d.t a b line).map fun T => { d with t := T }
        | _ => none
      | none => none
theorem with_self {d : Dt} {line : List UInt8} {a b c e f : Int} (h : numsP line selfN = some [a, b, c, e, f]) : withD d line = some { d with i := a, m := b, c := c, v := e, f := f } := by unfold withD; rw [h]
theorem with_node {d : Dt} {line : List UInt8} {a b c : Int} (h0 : numsP line selfN = none) (h : numsP line nodeN = some [a, b, c]) : withD d line = some { d with l := d.l ++ [⟨a, b, c⟩] } := by unfold withD; rw [h0, h]
theorem with_slots {d : Dt} {line : List UInt8} {a b : Int} (h0 : numsP line selfN = none) (h1 : numsP line nodeN = none) (h : numsP line slotsN = some [a, b]) : withD d line = (wsP d.t a b line).map fun T => { d with t := T } := by unfold withD; rw [h0, h1, h]
theorem with_none {d : Dt} {line : List UInt8} (h0 : numsP line selfN = none) (h1 : numsP line nodeN = none) (h : numsP line slotsN = none) : withD d line = none := by unfold withD; rw [h0, h1, h]

/-- a State whose known ones lie in a row of one's own, and whether there is one, is handed back -/
def WithD (base : Nat) (o : Option Dt) (w : World) (e : Ending) (w' : World) : Prop :=
  Below base w w' ∧ ((∃ d a n cap, o = some d ∧ e = .returned (.tuple #[.agg (stv (mkS d a n cap)), .bool true]) ∧ w'.ownsRow base 52 3 (.slice a n cap) n (flatK d.l)) ∨ (o = none ∧ e = .returned (.tuple #[.agg (stv Sv.zero), .bool false])))
theorem reads_new (W : World) (t : TypeId) (vs : List Value) (cs : Array Value) (g b n : Nat) (hb : W.heap.size = b) (hn : vs.length = n) (hc : vs.toArray = cs) (hg : g ≠ b) : Reads (W.alloc (.cells cs t)) g (some ⟨b, 0, none⟩) n vs := by
  subst hb; subst hn; subst hc
  exact ⟨rfl, fun _ => ⟨_, rfl, by simp, fun e => hg e.symm, fun j u hu => by
    have hB : Blk (W.alloc (.cells vs.toArray t)) W.heap.size t vs.toArray := Blk.new _ _ _
    rw [S.add_mk, hB.cell j]
    simpa using hu⟩⟩
theorem stv_set0 (s : Sv) (x : Int) : (stv s).setIfInBounds 0 (.int .i64 x) = stv { s with i := x } := by simp [stv, stL]
theorem StAt.set0 {w : World} {b : Nat} {s : Sv} (h : StAt w b s) (x : Int) : StAt (w.setCell ⟨b, 0, none⟩ (.int .i64 x)) b { s with i := x } := by unfold StAt; rw [← stv_set0]; exact Blk.set_ h 0 _
theorem stv_set1 (s : Sv) (x : Int) : (stv s).setIfInBounds 1 (.int .i64 x) = stv { s with m := x } := by simp [stv, stL]
theorem StAt.set1 {w : World} {b : Nat} {s : Sv} (h : StAt w b s) (x : Int) : StAt (w.setCell ⟨b, 1, none⟩ (.int .i64 x)) b { s with m := x } := by unfold StAt; rw [← stv_set1]; exact Blk.set_ h 1 _
theorem stv_set2 (s : Sv) (x : Int) : (stv s).setIfInBounds 2 (.int .i64 x) = stv { s with c := x } := by simp [stv, stL]
theorem StAt.set2 {w : World} {b : Nat} {s : Sv} (h : StAt w b s) (x : Int) : StAt (w.setCell ⟨b, 2, none⟩ (.int .i64 x)) b { s with c := x } := by unfold StAt; rw [← stv_set2]; exact Blk.set_ h 2 _
theorem stv_set3 (s : Sv) (x : Int) : (stv s).setIfInBounds 3 (.int .i64 x) = stv { s with v := x } := by simp [stv, stL]
theorem StAt.set3 {w : World} {b : Nat} {s : Sv} (h : StAt w b s) (x : Int) : StAt (w.setCell ⟨b, 3, none⟩ (.int .i64 x)) b { s with v := x } := by unfold StAt; rw [← stv_set3]; exact Blk.set_ h 3 _
theorem stv_set4 (s : Sv) (x : Int) : (stv s).setIfInBounds 4 (.int .i64 x) = stv { s with f := x } := by simp [stv, stL]
theorem StAt.set4 {w : World} {b : Nat} {s : Sv} (h : StAt w b s) (x : Int) : StAt (w.setCell ⟨b, 4, none⟩ (.int .i64 x)) b { s with f := x } := by unfold StAt; rw [← stv_set4]; exact Blk.set_ h 4 _
theorem stv_set5 (s : Sv) (a : Option Addr) (n c : Nat) : (stv s).setIfInBounds 5 (.slice a n c) = stv { s with a := a, n := n, cap := c } := by simp [stv, stL]
theorem StAt.set5 {w : World} {b : Nat} {s : Sv} (h : StAt w b s) (a : Option Addr) (n c : Nat) : StAt (w.setCell ⟨b, 5, none⟩ (.slice a n c)) b { s with a := a, n := n, cap := c } := by unfold StAt; rw [← stv_set5]; exact Blk.set_ h 5 _
theorem reads_drew {w : World} {g n : Nat} {A : Option Addr} {xs : List Value} (h : Reads w g A n xs) : Reads w.drew g A n xs := h
theorem add_0 (x : Addr) : x.add 0 = x := by unfold Addr.add; rw [if_pos rfl]
theorem cells5 {w : World} {g : Nat} {ad : Addr} {a b c d e : Int} (h : Reads w g (some ad) 5 (zints [a, b, c, d, e])) : w.cell? ad = some (.int .i64 a) ∧ w.cell? ⟨ad.block, ad.off + 1, none⟩ = some (.int .i64 b) ∧ w.cell? ⟨ad.block, ad.off + 2, none⟩ = some (.int .i64 c) ∧ w.cell? ⟨ad.block, ad.off + 3, none⟩ = some (.int .i64 d) ∧ w.cell? ⟨ad.block, ad.off + 4, none⟩ = some (.int .i64 e) := by
  obtain ⟨ad', e0, _, _, hc⟩ := h.2 (by omega)
  cases e0
  have h0 := hc 0 _ rfl
  have h1 := hc 1 _ rfl
  have h2 := hc 2 _ rfl
  have h3 := hc 3 _ rfl
  have h4 := hc 4 _ rfl
  rw [add_0] at h0
  rw [show (1 : Nat) = 0 + 1 from rfl, add_succ] at h1
  rw [show (2 : Nat) = 1 + 1 from rfl, add_succ] at h2
  rw [show (3 : Nat) = 2 + 1 from rfl, add_succ] at h3
  rw [show (4 : Nat) = 3 + 1 from rfl, add_succ] at h4
  exact ⟨h0, h1, h2, h3, h4⟩
theorem cells3 {w : World} {g : Nat} {ad : Addr} {a b c : Int} (h : Reads w g (some ad) 3 (zints [a, b, c])) : w.cell? ad = some (.int .i64 a) ∧ w.cell? ⟨ad.block, ad.off + 1, none⟩ = some (.int .i64 b) ∧ w.cell? ⟨ad.block, ad.off + 2, none⟩ = some (.int .i64 c) := by
  obtain ⟨ad', e0, _, _, hc⟩ := h.2 (by omega)
  cases e0
  have h0 := hc 0 _ rfl
  have h1 := hc 1 _ rfl
  have h2 := hc 2 _ rfl
  rw [add_0] at h0
  rw [show (1 : Nat) = 0 + 1 from rfl, add_succ] at h1
  rw [show (2 : Nat) = 1 + 1 from rfl, add_succ] at h2
  exact ⟨h0, h1, h2⟩
theorem cells2 {w : World} {g : Nat} {ad : Addr} {a b : Int} (h : Reads w g (some ad) 2 (zints [a, b])) : w.cell? ad = some (.int .i64 a) ∧ w.cell? ⟨ad.block, ad.off + 1, none⟩ = some (.int .i64 b) := by
  obtain ⟨ad', e0, _, _, hc⟩ := h.2 (by omega)
  cases e0
  have h0 := hc 0 _ rfl
  have h1 := hc 1 _ rfl
  rw [add_0] at h0
  rw [show (1 : Nat) = 0 + 1 from rfl, add_succ] at h1
  exact ⟨h0, h1⟩
theorem numbers_at (line : List UInt8) (hl : line.length ≤ 4294967200) (ns : List (List UInt8)) (n : Nat) (r : Option (List Int)) (hn : ns.length = n) (hr : numsP line ns = r) (A : Option Addr) (c g : Nat) (w : World) (hE : Env w) (hns : n ≤ 10) (hR : Reads w g A n (strV ns)) :
    Calls Tryz.prog 47 #[.string (str line), .slice A n c] w (NumsPost r w) := by
  subst hn; subst hr
  exact numbers_any line hl ns A c g w hE hns hR
theorem env_three {w : World} {a b c : Obj} (hE : Env w) : Env (((w.alloc a).alloc b).alloc c) := ((hE.alloc a).alloc b).alloc c
theorem three_sts (w : World) (s u : Sv) (o : Obj) :
    StAt (((w.alloc (.cells (stv s) 30)).alloc (.cells (stv u) 30)).alloc o) w.heap.size s ∧ StAt (((w.alloc (.cells (stv s) 30)).alloc (.cells (stv u) 30)).alloc o) (w.heap.size + 1) u ∧
    Below w.heap.size w (((w.alloc (.cells (stv s) 30)).alloc (.cells (stv u) 30)).alloc o) := by
  obtain ⟨h1, h2, h3, _⟩ := two_sts (w := w) (s := s) (u := u) (Below.refl _ _)
  exact ⟨h1.alloc o, h2.alloc o, h3.alloc h3.size o⟩
theorem five {zs : List Int} (h : zs.length = 5) : ∃ a b c d e, zs = [a, b, c, d, e] := match zs, h with
  | [a, b, c, d, e], _ => ⟨a, b, c, d, e, rfl⟩
theorem three {zs : List Int} (h : zs.length = 3) : ∃ a b c, zs = [a, b, c] := match zs, h with
  | [a, b, c], _ => ⟨a, b, c, rfl⟩
theorem two {zs : List Int} (h : zs.length = 2) : ∃ a b, zs = [a, b] := match zs, h with
  | [a, b], _ => ⟨a, b, rfl⟩

set_option maxRecDepth 100000 in
set_option maxHeartbeats 1000000 in
theorem with_1 (zs0 : List Int) (d : Dt) (a : Option Addr) (n cap base : Nat) (line : List UInt8) (hl : line.length ≤ 4294967200) (w : World) (hE : Env w) (hb : base ≤ w.heap.size) (h1 : numsP line selfN = some zs0) (hown : w.ownsRow base 52 3 (.slice a n cap) n (flatK d.l)) :
    Calls Tryz.prog 25 #[.agg (stv (mkS d a n cap)), .string (str line)] w (WithD base (withD d line) w) := by
  have HE := Lib.hid hE
  have HO := Lib.hid hown
  have HB := Lib.hid hb
  clear hE hown hb
  obtain ⟨r1, R1⟩ : ∃ r, Hid (numsP line selfN = r) := ⟨_, Lib.hid rfl⟩
  obtain ⟨r2, R2⟩ : ∃ r, Hid (numsP line nodeN = r) := ⟨_, Lib.hid rfl⟩
  obtain ⟨r3, R3⟩ : ∃ r, Hid (numsP line slotsN = r) := ⟨_, Lib.hid rfl⟩
  obtain ⟨s, HS⟩ : ∃ s, Hid (mkS d a n cap = s) := ⟨_, Lib.hid rfl⟩
  rw [HS.out]
  obtain ⟨j1, j2, j3⟩ := three_sts w s Sv.zero (.cells #[.string ⟨#[115, 101, 108, 102]⟩, .string ⟨#[109, 97, 115, 116, 101, 114]⟩, .string ⟨#[99, 117, 114, 114, 101, 110, 116]⟩, .string ⟨#[118, 111, 116, 101]⟩, .string ⟨#[99, 111, 110, 102, 105, 103]⟩] 9)
  have J1 := Lib.hid j1
  have J2 := Lib.hid j2
  have J3 := Lib.hid j3
  have JR := Lib.hid (reads_new ((w.alloc (.cells (stv s) 30)).alloc (.cells (stv Sv.zero) 30)) 9 (strV selfN) #[.string ⟨#[115, 101, 108, 102]⟩, .string ⟨#[109, 97, 115, 116, 101, 114]⟩, .string ⟨#[99, 117, 114, 114, 101, 110, 116]⟩, .string ⟨#[118, 111, 116, 101]⟩, .string ⟨#[99, 111, 110, 102, 105, 103]⟩] w.heap.size (w.heap.size + 1 + 1) 5 (by simp) rfl rfl (by omega))
  have JE := Lib.hid (env_three (a := .cells (stv s) 30) (b := .cells (stv Sv.zero) 30) (c := .cells #[.string ⟨#[115, 101, 108, 102]⟩, .string ⟨#[109, 97, 115, 116, 101, 114]⟩, .string ⟨#[99, 117, 114, 114, 101, 110, 116]⟩, .string ⟨#[118, 111, 116, 101]⟩, .string ⟨#[99, 111, 110, 102, 105, 103]⟩] 9) HE.out)
  clear j1 j2 j3
  obtain ⟨res, HRES⟩ : ∃ r, Hid (withD d line = r) := ⟨_, Lib.hid rfl⟩
  rw [HRES.out]
  have C1 := Lib.hid (numbers_at line hl selfN 5 r1 rfl R1.out (some ⟨w.heap.size + 1 + 1, 0, none⟩) 5 w.heap.size _ JE.out (by decide) JR.out)
  go_enter Tryz.func25, Tryz.ntmps25
  go_wp2_with (first | refine st_alloc rfl ?_)
  with_reducible refine C1.out.mono ?_
  rintro e w1 ⟨hb1, hcase⟩
  have K1 := Lib.hid (J1.out.later hb1)
  have K2 := Lib.hid (J2.out.later hb1)
  have K3 := Lib.hid (J3.out.trans (hb1.mono J3.out.size))
  have KE := Lib.hid (JE.out.below hb1)
  have KO := Lib.hid (own_below HO.out K3.out)
  have KS : Hid (w.heap.size + 1 < w1.heap.size) := Lib.hid K2.out.lt
  have KG : Hid (w.heap.size < (((w.alloc (.cells (stv s) 30)).alloc (.cells (stv Sv.zero) 30)).alloc (.cells #[.string ⟨#[115, 101, 108, 102]⟩, .string ⟨#[109, 97, 115, 116, 101, 114]⟩, .string ⟨#[99, 117, 114, 114, 101, 110, 116]⟩, .string ⟨#[118, 111, 116, 101]⟩, .string ⟨#[99, 111, 110, 102, 105, 103]⟩] 9)).heap.size) := Lib.hid (by simp; omega)
  clear hb1 C1 JR JE J1 J2 J3
  rcases hcase with ⟨zs, A1, c1, hr1, rfl, hzc, hzm, hrd⟩ | ⟨hr1, rfl⟩
  · obtain ⟨z0, z1, z2, z3, z4, rfl⟩ := five (nums_len (R1.out.trans hr1))
    have HWD : Hid (res = some { d with i := z0, m := z1, c := z2, v := z3, f := z4 }) := Lib.hid (by rw [← HRES.out]; exact with_self (R1.out.trans hr1))
    have hrd0 := hrd w.heap.size (.inr KG.out)
    clear hr1 hrd
    obtain ⟨ad, rfl, _, hne, _⟩ := hrd0.2 (Nat.succ_pos _)
    have HRd : Hid (Reads w1.drew w.heap.size (some ad) 5 (zints [z0, z1, z2, z3, z4])) := Lib.hid hrd0
    have HR1 : Hid (Reads w1 w.heap.size (some ad) 5 (zints [z0, z1, z2, z3, z4])) := Lib.hid hrd0
    clear hrd0
    have HC : Hid (∀ w', Reads w' w.heap.size (some ad) 5 (zints [z0, z1, z2, z3, z4]) → w'.cell? ad = some (.int .i64 z0) ∧ w'.cell? ⟨ad.block, ad.off + 1, none⟩ = some (.int .i64 z1) ∧ w'.cell? ⟨ad.block, ad.off + 2, none⟩ = some (.int .i64 z2) ∧ w'.cell? ⟨ad.block, ad.off + 3, none⟩ = some (.int .i64 z3) ∧ w'.cell? ⟨ad.block, ad.off + 4, none⟩ = some (.int .i64 z4)) := Lib.hid fun _ h => cells5 h
    simp only [List.length_cons, List.length_nil, Nat.zero_add, Nat.reduceAdd] at hzc ⊢
    obtain ⟨b0, b1, b2, b3, b4, b5⟩ := K1.out.box
    have fz := K1.out.fz
    have KW := Lib.hid ((((((K1.out.set0 z0).set1 z1).set2 z2).set3 z3).set4 z4).drew)
    have K2W := Lib.hid ((((((K2.out.far (p := ⟨w.heap.size, 0, none⟩) (by show w.heap.size + 1 ≠ w.heap.size; omega) (.int .i64 z0)).far (p := ⟨w.heap.size, 1, none⟩) (by show w.heap.size + 1 ≠ w.heap.size; omega) (.int .i64 z1)).far (p := ⟨w.heap.size, 2, none⟩) (by show w.heap.size + 1 ≠ w.heap.size; omega) (.int .i64 z2)).far (p := ⟨w.heap.size, 3, none⟩) (by show w.heap.size + 1 ≠ w.heap.size; omega) (.int .i64 z3)).far (p := ⟨w.heap.size, 4, none⟩) (by show w.heap.size + 1 ≠ w.heap.size; omega) (.int .i64 z4)).drew)
    have KB := Lib.hid ((below_set (below_set (below_set (below_set (below_set K3.out (p := ⟨w.heap.size, 0, none⟩) (Nat.le_refl _) (.int .i64 z0)) (p := ⟨w.heap.size, 1, none⟩) (Nat.le_refl _) (.int .i64 z1)) (p := ⟨w.heap.size, 2, none⟩) (Nat.le_refl _) (.int .i64 z2)) (p := ⟨w.heap.size, 3, none⟩) (Nat.le_refl _) (.int .i64 z3)) (p := ⟨w.heap.size, 4, none⟩) (Nat.le_refl _) (.int .i64 z4)).drew)
    have fz0 : ∀ i, w1.drew.frozen? ⟨w.heap.size, i, none⟩ = false := K1.out.fz
    have b0d : w1.drew.cell? ⟨w.heap.size, 0, none⟩ = some (.int .i64 s.i) := b0
    have X1 := K1.out.drew.set0 z0
    have X2 := X1.set1 z1
    obtain ⟨_, x1, _⟩ := X1.box
    obtain ⟨_, _, y2, y3, y4, _⟩ := X2.box
    have fx := X1.fz
    have fy := X2.fz
    clear X1 X2
    obtain ⟨n0, n1, n2, n3, n4⟩ := HC.out _ (show Reads w1 w.heap.size (some ad) 5 (zints [z0, z1, z2, z3, z4]) from HRd.out)
    go_wp2
    refine wp_region_held_drew (S := fun w' => w'.cell? ad = some (.int .i64 z0) ∧ w'.cell? ⟨ad.block, ad.off + 1, none⟩ = some (.int .i64 z1) ∧ w'.cell? ⟨ad.block, ad.off + 2, none⟩ = some (.int .i64 z2) ∧ w'.cell? ⟨ad.block, ad.off + 3, none⟩ = some (.int .i64 z3) ∧ w'.cell? ⟨ad.block, ad.off + 4, none⟩ = some (.int .i64 z4)) (by kernel_rfl) (HC.out _ HRd.out) (fun hHeld => ?_)
    refine wpAnyH_take (i := 0) (oi := ⟨some 19, .move (.tmp 6), 53, "conf.go:166", _, none⟩) (v := .slice (some ad) 5 c1) rfl (by kernel_rfl) (by kernel_rfl) (by kernel_rfl) (fun _ _ _ h => h) (Or.inl ⟨by rfl, ?_⟩) (by assumption) ?_
    · (intro w' hSw; obtain ⟨s0, s1, s2, s3, s4⟩ := hSw; go_simp)
    try simp only [Act.put, List.setIfInBounds_toArray, List.set_cons_zero, List.set_cons_succ]
    refine wpAnyH_take (i := 1) (oi := ⟨some 20, .indexAddr 53 (.tmp 19) (.const (.int .i64 0)), 0, "conf.go:166", _, none⟩) (v := .pointer (some ad)) rfl (by kernel_rfl) (by kernel_rfl) (by kernel_rfl) (fun _ _ _ h => h) (Or.inl ⟨by rfl, ?_⟩) (by assumption) ?_
    · (intro w' hSw; obtain ⟨s0, s1, s2, s3, s4⟩ := hSw; go_simp)
    try simp only [Act.put, List.setIfInBounds_toArray, List.set_cons_zero, List.set_cons_succ]
    refine wpAnyH_take (i := 2) (oi := ⟨some 21, .load 3 (.tmp 20), 3, "conf.go:166", _, none⟩) (v := .int .i64 z0) rfl (by kernel_rfl) (by kernel_rfl) (by kernel_rfl) (fun _ _ _ h => h) (Or.inl ⟨by rfl, ?_⟩) (by assumption) ?_
    · (intro w' hSw; obtain ⟨s0, s1, s2, s3, s4⟩ := hSw; go_simp)
    try simp only [Act.put, List.setIfInBounds_toArray, List.set_cons_zero, List.set_cons_succ]
    refine wpAnyH_take (i := 3) (oi := ⟨some 22, .move (.tmp 6), 53, "conf.go:166", _, none⟩) (v := .slice (some ad) 5 c1) rfl (by kernel_rfl) (by kernel_rfl) (by kernel_rfl) (fun _ _ _ h => h) (Or.inl ⟨by rfl, ?_⟩) (by assumption) ?_
    · (intro w' hSw; obtain ⟨s0, s1, s2, s3, s4⟩ := hSw; go_simp)
    try simp only [Act.put, List.setIfInBounds_toArray, List.set_cons_zero, List.set_cons_succ]
    refine wpAnyH_take (i := 4) (oi := ⟨some 23, .indexAddr 53 (.tmp 22) (.const (.int .i64 1)), 0, "conf.go:166", _, none⟩) (v := .pointer (some ⟨ad.block, ad.off + 1, none⟩)) rfl (by kernel_rfl) (by kernel_rfl) (by kernel_rfl) (fun _ _ _ h => h) (Or.inl ⟨by rfl, ?_⟩) (by assumption) ?_
    · (intro w' hSw; obtain ⟨s0, s1, s2, s3, s4⟩ := hSw; go_simp)
    try simp only [Act.put, List.setIfInBounds_toArray, List.set_cons_zero, List.set_cons_succ]
    refine wpAnyH_take (i := 5) (oi := ⟨some 24, .load 3 (.tmp 23), 3, "conf.go:166", _, none⟩) (v := .int .i64 z1) rfl (by kernel_rfl) (by kernel_rfl) (by kernel_rfl) (fun _ _ _ h => h) (Or.inl ⟨by rfl, ?_⟩) (by assumption) ?_
    · (intro w' hSw; obtain ⟨s0, s1, s2, s3, s4⟩ := hSw; go_simp)
    try simp only [Act.put, List.setIfInBounds_toArray, List.set_cons_zero, List.set_cons_succ]
    refine wpAnyH_take (i := 6) (oi := ⟨some 25, .move (.tmp 6), 53, "conf.go:166", _, none⟩) (v := .slice (some ad) 5 c1) rfl (by kernel_rfl) (by kernel_rfl) (by kernel_rfl) (fun _ _ _ h => h) (Or.inl ⟨by rfl, ?_⟩) (by assumption) ?_
    · (intro w' hSw; obtain ⟨s0, s1, s2, s3, s4⟩ := hSw; go_simp)
    try simp only [Act.put, List.setIfInBounds_toArray, List.set_cons_zero, List.set_cons_succ]
    refine wpAnyH_take (i := 7) (oi := ⟨some 26, .indexAddr 53 (.tmp 25) (.const (.int .i64 2)), 0, "conf.go:166", _, none⟩) (v := .pointer (some ⟨ad.block, ad.off + 2, none⟩)) rfl (by kernel_rfl) (by kernel_rfl) (by kernel_rfl) (fun _ _ _ h => h) (Or.inl ⟨by rfl, ?_⟩) (by assumption) ?_
    · (intro w' hSw; obtain ⟨s0, s1, s2, s3, s4⟩ := hSw; go_simp)
    try simp only [Act.put, List.setIfInBounds_toArray, List.set_cons_zero, List.set_cons_succ]
    refine wpAnyH_take (i := 8) (oi := ⟨some 27, .load 3 (.tmp 26), 3, "conf.go:166", _, none⟩) (v := .int .i64 z2) rfl (by kernel_rfl) (by kernel_rfl) (by kernel_rfl) (fun _ _ _ h => h) (Or.inl ⟨by rfl, ?_⟩) (by assumption) ?_
    · (intro w' hSw; obtain ⟨s0, s1, s2, s3, s4⟩ := hSw; go_simp)
    try simp only [Act.put, List.setIfInBounds_toArray, List.set_cons_zero, List.set_cons_succ]
    refine wpAnyH_take (i := 9) (oi := ⟨some 28, .move (.tmp 6), 53, "conf.go:166", _, none⟩) (v := .slice (some ad) 5 c1) rfl (by kernel_rfl) (by kernel_rfl) (by kernel_rfl) (fun _ _ _ h => h) (Or.inl ⟨by rfl, ?_⟩) (by assumption) ?_
    · (intro w' hSw; obtain ⟨s0, s1, s2, s3, s4⟩ := hSw; go_simp)
    try simp only [Act.put, List.setIfInBounds_toArray, List.set_cons_zero, List.set_cons_succ]
    refine wpAnyH_take (i := 10) (oi := ⟨some 29, .indexAddr 53 (.tmp 28) (.const (.int .i64 3)), 0, "conf.go:166", _, none⟩) (v := .pointer (some ⟨ad.block, ad.off + 3, none⟩)) rfl (by kernel_rfl) (by kernel_rfl) (by kernel_rfl) (fun _ _ _ h => h) (Or.inl ⟨by rfl, ?_⟩) (by assumption) ?_
    · (intro w' hSw; obtain ⟨s0, s1, s2, s3, s4⟩ := hSw; go_simp)
    try simp only [Act.put, List.setIfInBounds_toArray, List.set_cons_zero, List.set_cons_succ]
    refine wpAnyH_take (i := 11) (oi := ⟨some 30, .load 3 (.tmp 29), 3, "conf.go:166", _, none⟩) (v := .int .i64 z3) rfl (by kernel_rfl) (by kernel_rfl) (by kernel_rfl) (fun _ _ _ h => h) (Or.inl ⟨by rfl, ?_⟩) (by assumption) ?_
    · (intro w' hSw; obtain ⟨s0, s1, s2, s3, s4⟩ := hSw; go_simp)
    try simp only [Act.put, List.setIfInBounds_toArray, List.set_cons_zero, List.set_cons_succ]
    refine wpAnyH_take (i := 12) (oi := ⟨some 31, .move (.tmp 6), 53, "conf.go:166", _, none⟩) (v := .slice (some ad) 5 c1) rfl (by kernel_rfl) (by kernel_rfl) (by kernel_rfl) (fun _ _ _ h => h) (Or.inl ⟨by rfl, ?_⟩) (by assumption) ?_
    · (intro w' hSw; obtain ⟨s0, s1, s2, s3, s4⟩ := hSw; go_simp)
    try simp only [Act.put, List.setIfInBounds_toArray, List.set_cons_zero, List.set_cons_succ]
    refine wpAnyH_take (i := 13) (oi := ⟨some 32, .indexAddr 53 (.tmp 31) (.const (.int .i64 4)), 0, "conf.go:166", _, none⟩) (v := .pointer (some ⟨ad.block, ad.off + 4, none⟩)) rfl (by kernel_rfl) (by kernel_rfl) (by kernel_rfl) (fun _ _ _ h => h) (Or.inl ⟨by rfl, ?_⟩) (by assumption) ?_
    · (intro w' hSw; obtain ⟨s0, s1, s2, s3, s4⟩ := hSw; go_simp)
    try simp only [Act.put, List.setIfInBounds_toArray, List.set_cons_zero, List.set_cons_succ]
    refine wpAnyH_take (i := 14) (oi := ⟨some 33, .load 3 (.tmp 32), 3, "conf.go:166", _, none⟩) (v := .int .i64 z4) rfl (by kernel_rfl) (by kernel_rfl) (by kernel_rfl) (fun _ _ _ h => h) (Or.inl ⟨by rfl, ?_⟩) (by assumption) ?_
    · (intro w' hSw; obtain ⟨s0, s1, s2, s3, s4⟩ := hSw; go_simp)
    try simp only [Act.put, List.setIfInBounds_toArray, List.set_cons_zero, List.set_cons_succ]
    refine wpAnyH_take (i := 15) (oi := ⟨some 34, .build 24 #[(0, .tmp 27), (1, .tmp 30), (2, .tmp 33)], 24, "conf.go:166", _, none⟩) (v := .agg #[.int .i64 z2, .int .i64 z3, .int .i64 z4]) rfl (by kernel_rfl) (by kernel_rfl) (by kernel_rfl) (fun _ _ _ h => h) (Or.inl ⟨by rfl, ?_⟩) (by assumption) ?_
    · (intro w' hSw; obtain ⟨s0, s1, s2, s3, s4⟩ := hSw; go_simp)
    try simp only [Act.put, List.setIfInBounds_toArray, List.set_cons_zero, List.set_cons_succ]
    refine wpAnyH_take (i := 16) (oi := ⟨some 35, .fieldAddr 30 (.tmp 2) 0, 0, "conf.go:166", _, none⟩) (v := .pointer (some ⟨w.heap.size, 0, none⟩)) rfl (by kernel_rfl) (by kernel_rfl) (by kernel_rfl) (fun _ _ _ h => h) (Or.inl ⟨by rfl, ?_⟩) (by assumption) ?_
    · (intro w' hSw; obtain ⟨s0, s1, s2, s3, s4⟩ := hSw; go_simp)
    try simp only [Act.put, List.setIfInBounds_toArray, List.set_cons_zero, List.set_cons_succ]
    refine wpAnyH_ready (rs := [17]) (by kernel_rfl) (by simp) ?_
    refine AllReadyH.cons rfl (fun K hK => ?_) AllReadyH.nil
    go_simp
    refine hK.out _ _ (HC.out _ (reads_drew (Reads.set HR1.out _ _))) (fun hHeld => ?_)
    clear hK K
    try simp only [Act.put, List.setIfInBounds_toArray, List.set_cons_zero, List.set_cons_succ]
    refine wpAnyH_take (i := 18) (oi := ⟨some 36, .fieldAddr 30 (.tmp 2) 1, 0, "conf.go:166", _, none⟩) (v := .pointer (some ⟨w.heap.size, 1, none⟩)) rfl (by kernel_rfl) (by kernel_rfl) (by kernel_rfl) (fun _ _ _ h => h) (Or.inl ⟨by rfl, ?_⟩) (by assumption) ?_
    · (intro w' hSw; obtain ⟨s0, s1, s2, s3, s4⟩ := hSw; go_simp)
    try simp only [Act.put, List.setIfInBounds_toArray, List.set_cons_zero, List.set_cons_succ]
    refine wpAnyH_ready (rs := [19]) (by kernel_rfl) (by simp) ?_
    refine AllReadyH.cons rfl (fun K hK => ?_) AllReadyH.nil
    go_simp
    refine hK.out _ _ (HC.out _ (reads_drew (Reads.set (Reads.set HR1.out _ _) _ _))) (fun hHeld => ?_)
    clear hK K
    try simp only [Act.put, List.setIfInBounds_toArray, List.set_cons_zero, List.set_cons_succ]
    refine wpAnyH_take (i := 20) (oi := ⟨some 37, .fieldAddr 30 (.tmp 2) 2, 0, "conf.go:166", _, none⟩) (v := .pointer (some ⟨w.heap.size, 2, none⟩)) rfl (by kernel_rfl) (by kernel_rfl) (by kernel_rfl) (fun _ _ _ h => h) (Or.inl ⟨by rfl, ?_⟩) (by assumption) ?_
    · (intro w' hSw; obtain ⟨s0, s1, s2, s3, s4⟩ := hSw; go_simp)
    try simp only [Act.put, List.setIfInBounds_toArray, List.set_cons_zero, List.set_cons_succ]
    refine wpAnyH_ready (rs := [21]) (by kernel_rfl) (by simp) ?_
    refine AllReadyH.cons rfl (fun K hK => ?_) AllReadyH.nil
    go_simp
    refine hK.out _ _ (HC.out _ (reads_drew (Reads.set (Reads.set (Reads.set (Reads.set (Reads.set HR1.out _ _) _ _) _ _) _ _) _ _))) (fun hHeld => ?_)
    clear hK K
    try simp only [Act.put, List.setIfInBounds_toArray, List.set_cons_zero, List.set_cons_succ]
    refine wpAnyH_done (by kernel_rfl) ?_ _
    clear hHeld
    go_wp2_with (first | (refine st_load rfl KW.out rfl ?_) | (refine st_store rfl rfl K2W.out rfl ?_))
    have HZ : Hid ((⟨z0, z1, z2, z3, z4, s.a, s.n, s.cap, s.t⟩ : Sv) = mkS { d with i := z0, m := z1, c := z2, v := z3, f := z4 } a n cap) := Lib.hid (by rw [← HS.out]; rfl)
    exact bodyPost_ret (results_st rfl _ _ (w.heap.size + 1) _ rfl (K2W.out.store _)) rfl ⟨(below_row KB.out (by omega) _).mono HB.out, .inl ⟨_, a, n, cap, HWD.out, by rw [HZ.out]; rfl, own_below HO.out (below_row KB.out (by omega) _)⟩⟩
  · rw [← R1.out] at hr1; rw [h1] at hr1; cases hr1
end Go.Proofs.YtmjbacmaafbdlaaGreatDoor

/-
  WHAT IS PROVED: the contract of (State).with at a line that isn't a first one. Conditions: as With's.
-/
namespace Go.Proofs.YtmjbacmaafbdlaaGreatDoor
open Go.RowKit C

theorem step_append_kn {P : Program} (w : World) {ops : Array Oper} {o : Oper} {a : Act} {K : Act → World → Prop} {Q : Exit → Act → World → Prop} {E : Prop} (hgd : o.guard = none) (s x : Operand) (t : TypeId)
    (ho : o.op = .call { callee := .builtin .append, args := #[s, x], argTypes := #[t, t] }) (v : Value) (A : Option Addr) (m c : Nat) (hs : a.eval s = v) (hx : a.eval x = .slice A m c) {v' : Value} {w' : World} (hrun : (Builtin.append_ #[t, t] o.type #[v, .slice A m c]).run P w = .ok v' w')
    (h : K (a.put o.dst v') w') :
    if Region.wanted o (yielded ops a.tmps) = true then Oper.wp P o a w K Q else E := by
  have hw : Region.wanted o (yielded ops a.tmps) = true := by simp [Region.wanted, hgd]
  rw [if_pos hw]
  unfold Oper.wp execOp
  simp only [ho, resolve, invoke, builtin, Sem.run_bind, Sem.run_pure, Result.andThen_ok, List.map_toArray, List.map_cons, List.map_nil, hs, hx, hrun]
  exact h
theorem yields_st {ops : Array Oper} {S : World → Prop} {a : Act} {dst : Option Tmp} {ty : TypeId} {pos : String} {after : Array Edge} {x : Operand} {b : Nat} {s : Sv} (hx : a.eval x = .pointer (some ⟨b, 0, none⟩)) (hS : ∀ w, S w → StAt w b s) :
    YieldsIf Tryz.prog ops S ⟨dst, .load 30 x, ty, pos, after, none⟩ (.agg (stv s)) a :=
  .inl ⟨rfl, fun w hw => by
    unfold execOp
    simp only [hx, Instr.loadAt, Instr.sureAddr, Sem.run_bind, Sem.run_pure, Result.andThen_ok, run_loadVar_row w b 30 30 (stv s) (0, 0) _ (hS w hw) Tryz.underlying30 rfl (st_size s)]⟩
theorem cell_row_far {w : World} {p : Addr} {v : Value} (_ : w.cell? p = some v) {g : Nat} {cs : Array Value} (hg : p.block ≠ g) : (w.setRow g cs).cell? p = w.cell? p := World.cell?_of_block (setRow_other w g p.block cs hg)
/-- a row stays behind stores into other blocks -/
theorem own_row6 {w : World} {base n g c : Nat} {A : Option Addr} {xs : List Value} {v : Value} {cs : Array Value} {e : TypeId} (h : w.ownsRow base e 3 (.slice A n c) n xs) (hg : ∀ b, (Value.slice A n c).ownBlock = some b → b ≠ g ∧ b ≠ g + 1) : ((w.setCell ⟨g, 5, none⟩ v).setRow (g + 1) cs).ownsRow base e 3 (.slice A n c) n xs := by
  refine ⟨h.1, ?_⟩
  rcases h.2 with h0 | ⟨b, cap, cur, hv, hb, hh, hr⟩
  · exact .inl h0
  · have hk := hg b (by rw [hv]; rfl)
    exact .inr ⟨b, cap, cur, hv, hb, (setRow_other _ _ _ _ hk.2).trans ((Below.heap_setCell w ⟨g, 5, none⟩ v b hk.1).trans hh), hr⟩

set_option maxRecDepth 100000 in
set_option maxHeartbeats 1000000 in
theorem with_2 (d : Dt) (a : Option Addr) (n cap base : Nat) (line : List UInt8) (hl : line.length ≤ 4294967200) (w : World) (hE : Env w) (hb : base ≤ w.heap.size) (hn : n ≤ 999999) (h1 : numsP line selfN = none) (hown : w.ownsRow base 52 3 (.slice a n cap) n (flatK d.l)) :
    Calls Tryz.prog 25 #[.agg (stv (mkS d a n cap)), .string (str line)] w (WithD base (withD d line) w) := by
  have HE := Lib.hid hE
  have HO := Lib.hid hown
  have HB := Lib.hid hb
  clear hE hown hb
  obtain ⟨r1, R1⟩ : ∃ r, Hid (numsP line selfN = r) := ⟨_, Lib.hid rfl⟩
  obtain ⟨r2, R2⟩ : ∃ r, Hid (numsP line nodeN = r) := ⟨_, Lib.hid rfl⟩
  obtain ⟨r3, R3⟩ : ∃ r, Hid (numsP line slotsN = r) := ⟨_, Lib.hid rfl⟩
  obtain ⟨s, HS⟩ : ∃ s, Hid (mkS d a n cap = s) := ⟨_, Lib.hid rfl⟩
  rw [HS.out]
  obtain ⟨j1, j2, j3⟩ := three_sts w s Sv.zero (.cells #[.string ⟨#[115, 101, 108, 102]⟩, .string ⟨#[109, 97, 115, 116, 101, 114]⟩, .string ⟨#[99, 117, 114, 114, 101, 110, 116]⟩, .string ⟨#[118, 111, 116, 101]⟩, .string ⟨#[99, 111, 110, 102, 105, 103]⟩] 9)
  have J1 := Lib.hid j1
  have J2 := Lib.hid j2
  have J3 := Lib.hid j3
  have JR := Lib.hid (reads_new ((w.alloc (.cells (stv s) 30)).alloc (.cells (stv Sv.zero) 30)) 9 (strV selfN) #[.string ⟨#[115, 101, 108, 102]⟩, .string ⟨#[109, 97, 115, 116, 101, 114]⟩, .string ⟨#[99, 117, 114, 114, 101, 110, 116]⟩, .string ⟨#[118, 111, 116, 101]⟩, .string ⟨#[99, 111, 110, 102, 105, 103]⟩] w.heap.size (w.heap.size + 1 + 1) 5 (by simp) rfl rfl (by omega))
  have JE := Lib.hid (env_three (a := .cells (stv s) 30) (b := .cells (stv Sv.zero) 30) (c := .cells #[.string ⟨#[115, 101, 108, 102]⟩, .string ⟨#[109, 97, 115, 116, 101, 114]⟩, .string ⟨#[99, 117, 114, 114, 101, 110, 116]⟩, .string ⟨#[118, 111, 116, 101]⟩, .string ⟨#[99, 111, 110, 102, 105, 103]⟩] 9) HE.out)
  clear j1 j2 j3
  obtain ⟨res, HRES⟩ : ∃ r, Hid (withD d line = r) := ⟨_, Lib.hid rfl⟩
  rw [HRES.out]
  have C1 := Lib.hid (numbers_at line hl selfN 5 r1 rfl R1.out (some ⟨w.heap.size + 1 + 1, 0, none⟩) 5 w.heap.size _ JE.out (by decide) JR.out)
  go_enter Tryz.func25, Tryz.ntmps25
  go_wp2_with (first | refine st_alloc rfl ?_)
  with_reducible refine C1.out.mono ?_
  rintro e w1 ⟨hb1, hcase⟩
  have K1 := Lib.hid (J1.out.later hb1)
  have K2 := Lib.hid (J2.out.later hb1)
  have K3 := Lib.hid (J3.out.trans (hb1.mono J3.out.size))
  have KE := Lib.hid (JE.out.below hb1)
  have KO := Lib.hid (own_below HO.out K3.out)
  have KS : Hid (w.heap.size + 1 < w1.heap.size) := Lib.hid K2.out.lt
  have KG : Hid (w.heap.size < (((w.alloc (.cells (stv s) 30)).alloc (.cells (stv Sv.zero) 30)).alloc (.cells #[.string ⟨#[115, 101, 108, 102]⟩, .string ⟨#[109, 97, 115, 116, 101, 114]⟩, .string ⟨#[99, 117, 114, 114, 101, 110, 116]⟩, .string ⟨#[118, 111, 116, 101]⟩, .string ⟨#[99, 111, 110, 102, 105, 103]⟩] 9)).heap.size) := Lib.hid (by simp; omega)
  clear hb1 C1 JR JE J1 J2 J3
  rcases hcase with ⟨zs, A1, c1, hr1, rfl, hzc, hzm, hrd⟩ | ⟨hr1, rfl⟩
  · rw [← R1.out] at hr1; rw [h1] at hr1; cases hr1
  · clear hr1 KG
    have J1 := Lib.hid (K1.out.alloc (.cells #[.string ⟨#[110, 111, 100, 101]⟩, .string ⟨#[109, 97, 115, 116, 101, 114]⟩, .string ⟨#[99, 111, 110, 102, 105, 103]⟩] 9))
    have J2 := Lib.hid (K2.out.alloc (.cells #[.string ⟨#[110, 111, 100, 101]⟩, .string ⟨#[109, 97, 115, 116, 101, 114]⟩, .string ⟨#[99, 111, 110, 102, 105, 103]⟩] 9))
    have J3 := Lib.hid (K3.out.alloc K3.out.size (.cells #[.string ⟨#[110, 111, 100, 101]⟩, .string ⟨#[109, 97, 115, 116, 101, 114]⟩, .string ⟨#[99, 111, 110, 102, 105, 103]⟩] 9))
    have JR := Lib.hid (reads_new w1 9 (strV nodeN) #[.string ⟨#[110, 111, 100, 101]⟩, .string ⟨#[109, 97, 115, 116, 101, 114]⟩, .string ⟨#[99, 111, 110, 102, 105, 103]⟩] w.heap.size w1.heap.size 3 rfl rfl rfl (by have := KS.out; omega))
    have JE := Lib.hid (KE.out.alloc (.cells #[.string ⟨#[110, 111, 100, 101]⟩, .string ⟨#[109, 97, 115, 116, 101, 114]⟩, .string ⟨#[99, 111, 110, 102, 105, 103]⟩] 9))
    have C2 := Lib.hid (numbers_at line hl nodeN 3 r2 rfl R2.out (some ⟨w1.heap.size, 0, none⟩) 3 w.heap.size _ JE.out (by decide) JR.out)
    have KG : Hid (w.heap.size < (w1.alloc (.cells #[.string ⟨#[110, 111, 100, 101]⟩, .string ⟨#[109, 97, 115, 116, 101, 114]⟩, .string ⟨#[99, 111, 110, 102, 105, 103]⟩] 9)).heap.size) := Lib.hid (by have := KS.out; simp; omega)
    go_wp2_with (fail)
    with_reducible refine C2.out.mono ?_
    rintro e w2 ⟨hb2, hcase⟩
    have L1 := Lib.hid (J1.out.later hb2)
    have L2 := Lib.hid (J2.out.later hb2)
    have L3 := Lib.hid (J3.out.trans (hb2.mono J3.out.size))
    have LE := Lib.hid (JE.out.below hb2)
    have LS : Hid (w.heap.size + 1 < w2.heap.size) := Lib.hid L2.out.lt
    clear hb2 C2 JR JE J1 J2 J3 K1 K2 K3 KE KO
    rcases hcase with ⟨zs, A1, c1, hr2, rfl, hzc, hzm, hrd⟩ | ⟨hr2, rfl⟩
    · obtain ⟨z0, z1, z2, rfl⟩ := three (nums_len (R2.out.trans hr2))
      have HWD : Hid (res = some { d with l := d.l ++ [⟨z0, z1, z2⟩] }) := Lib.hid (by rw [← HRES.out]; exact with_node h1 (R2.out.trans hr2))
      have hrd0 := hrd w.heap.size (.inr KG.out)
      have hrdne := fun k hk => ((hrd k hk).2 (Nat.succ_pos _))
      clear hr2 hrd
      obtain ⟨ad, rfl, hltad, hne, _⟩ := hrd0.2 (Nat.succ_pos _)
      have HR1 : Hid (Reads w2 w.heap.size (some ad) 3 (zints [z0, z1, z2])) := Lib.hid hrd0
      clear hrd0
      have hrdall : ∀ k, k < (w1.alloc (.cells #[.string ⟨#[110, 111, 100, 101]⟩, .string ⟨#[109, 97, 115, 116, 101, 114]⟩, .string ⟨#[99, 111, 110, 102, 105, 103]⟩] 9)).heap.size → ad.block ≠ k := fun k hk => by obtain ⟨ad', e, _, h, _⟩ := hrdne k (.inr hk); cases e; exact h
      clear hrdne
      simp only [List.length_cons, List.length_nil, Nat.zero_add, Nat.reduceAdd] at hzc ⊢
      have HADN : Hid (∀ k, (Value.slice a n cap).ownBlock = some k → ad.block ≠ k) := Lib.hid fun k hk => (hrdall k (Nat.lt_trans (HO.out.lt k hk).2 KG.out))
      clear hrdall
      have HC : Hid (∀ w', Reads w' w.heap.size (some ad) 3 (zints [z0, z1, z2]) → w'.cell? ad = some (.int .i64 z0) ∧ w'.cell? ⟨ad.block, ad.off + 1, none⟩ = some (.int .i64 z1) ∧ w'.cell? ⟨ad.block, ad.off + 2, none⟩ = some (.int .i64 z2)) := Lib.hid fun _ h => cells3 h
      obtain ⟨i0, hi0, hz0, hz1, hz2⟩ := info_parts kn_info
      have hlow : ∀ b, (Value.slice a n cap).ownBlock = some b → base ≤ b ∧ b < w.heap.size := fun b e => HO.out.lt b e
      have ho5 : (w2.drew.alloc (.cells #[.int .i64 z0, .int .i64 z1, .int .i64 z2] 52)).ownsRow base 52 3 (.slice a n cap) n (flatK d.l) := World.ownsRow.alloc (show w2.drew.ownsRow _ _ _ _ _ _ from own_below HO.out L3.out.drew) _
      have hr5 := KnAt.one w2.drew ⟨z0, z1, z2⟩ 52
      have hs5 : base ≤ (w2.drew.alloc (.cells #[.int .i64 z0, .int .i64 z1, .int .i64 z2] 52)).heap.size := by simp; have := HB.out; have := LS.out; show base ≤ w2.heap.size + 1; omega
      obtain ⟨v6, w6, hrun, ho6, hg6, hob⟩ := run_append_kn (P := Tryz.prog) (w2.drew.alloc (.cells #[.int .i64 z0, .int .i64 z1, .int .i64 z2] 52)) base 25 25 52 i0 _ Tryz.underlying25 hi0 hz0 hz1 hz2 rfl (.slice a n cap) n _ ho5 (some ⟨w2.heap.size, 0, none⟩) 1 1 [⟨z0, z1, z2⟩] hr5 (by omega) hs5
      obtain ⟨A6, c6, rfl, _, _, _⟩ := own_kn ho6
      have HRUN := Lib.hid hrun
      have HBK : Hid (∀ b, (Value.slice A6 (n + 1) c6).ownBlock = some b → b ≠ w.heap.size ∧ b ≠ w.heap.size + 1) := Lib.hid fun b e => by
        have hsz : w.heap.size + 1 < w2.heap.size := LS.out
        rcases hob with h | h
        · rw [h] at e; have := (hlow b e).2; omega
        · rw [h] at e; injection e with e; subst e; simp; omega
      have HO6 := Lib.hid ho6
      have hne0 : some w.heap.size ≠ (Value.slice a n cap).ownBlock := fun e => by have := (hlow _ e.symm).2; omega
      have hne1 : some (w.heap.size + 1) ≠ (Value.slice a n cap).ownBlock := fun e => by have := (hlow _ e.symm).2; omega
      have P1 : StAt w6 w.heap.size s := Blk.grown (L1.out.drew.alloc (.cells #[.int .i64 z0, .int .i64 z1, .int .i64 z2] 52)) hg6 hne0
      have P2 : StAt w6 (w.heap.size + 1) Sv.zero := Blk.grown (L2.out.drew.alloc (.cells #[.int .i64 z0, .int .i64 z1, .int .i64 z2] 52)) hg6 hne1
      have P3 : Below base w w6 := ((L3.out.drew.alloc (Nat.le_of_lt (Nat.lt_trans (Nat.lt_succ_self _) (show w.heap.size + 1 < w2.drew.heap.size from LS.out))) (.cells #[.int .i64 z0, .int .i64 z1, .int .i64 z2] 52)).mono HB.out).grown hg6 hs5 (fun b e => (hlow b e).1)
      have X1 := Lib.hid (P1.set5 A6 (n + 1) c6)
      have X2 := Lib.hid (P2.far (p := ⟨w.heap.size, 5, none⟩) (by show w.heap.size + 1 ≠ w.heap.size; omega) (.slice A6 (n + 1) c6))
      have X3 := Lib.hid (below_set P3 (p := ⟨w.heap.size, 5, none⟩) HB.out (.slice A6 (n + 1) c6))
      have q5 := (P1.box).2.2.2.2.2
      have qf := P1.fz
      have HZ : Hid ((⟨s.i, s.m, s.c, s.v, s.f, A6, n + 1, c6, s.t⟩ : Sv) = mkS { d with l := d.l ++ [⟨z0, z1, z2⟩] } A6 (n + 1) c6) := Lib.hid (by rw [← HS.out]; rfl)
      have d1 : w2.drew.cell? ⟨w.heap.size, 5, none⟩ = some (.slice a n cap) := by have := L1.out.drew.box.2.2.2.2.2; rw [← HS.out] at this; exact this
      have e1 : (w2.drew.alloc (.cells #[.int .i64 z0, .int .i64 z1, .int .i64 z2] 52)).cell? ⟨w.heap.size, 5, none⟩ = some (.slice a n cap) := by have := (L1.out.drew.alloc (.cells #[.int .i64 z0, .int .i64 z1, .int .i64 z2] 52)).box.2.2.2.2.2; rw [← HS.out] at this; exact this
      have e1b : (w2.alloc (.cells #[.int .i64 z0, .int .i64 z1, .int .i64 z2] 52)).drew.cell? ⟨w.heap.size, 5, none⟩ = some (.slice a n cap) := e1
      have d2 := HC.out _ (reads_drew HR1.out)
      have e2 : _ ∧ _ ∧ _ := HC.out (w2.drew.alloc (.cells #[.int .i64 z0, .int .i64 z1, .int .i64 z2] 52)) ((reads_drew HR1.out).below ((Below.refl _ _).alloc (Nat.le_refl _) _))
      have hfar : ∀ p : Addr, p.block = ad.block → w6.cell? p = (w2.drew.alloc (.cells #[.int .i64 z0, .int .i64 z1, .int .i64 z2] 52)).cell? p := fun p hp => World.cell?_of_block (hg6.block p.block (by rw [hp]; simp; exact Nat.lt_succ_of_lt (show ad.block < w2.heap.size from hltad)) (fun e => HADN.out _ (by rw [← e]) hp.symm))
      have g2 : w6.cell? ad = some (.int .i64 z0) ∧ w6.cell? ⟨ad.block, ad.off + 1, none⟩ = some (.int .i64 z1) ∧ w6.cell? ⟨ad.block, ad.off + 2, none⟩ = some (.int .i64 z2) := ⟨(hfar ad rfl).trans e2.1, (hfar ⟨ad.block, ad.off + 1, none⟩ rfl).trans e2.2.1, (hfar ⟨ad.block, ad.off + 2, none⟩ rfl).trans e2.2.2⟩
      have hf2 : ∀ p : Addr, p.block = ad.block → (w6.setCell ⟨w.heap.size, 5, none⟩ (.slice A6 (n + 1) c6)).cell? p = w6.cell? p := fun p hp => World.cell?_setCell_far _ _ _ _ (by rw [hp]; exact fun e => hne e.symm)
      have h2 : (w6.setCell ⟨w.heap.size, 5, none⟩ (.slice A6 (n + 1) c6)).cell? ad = some (.int .i64 z0) ∧ (w6.setCell ⟨w.heap.size, 5, none⟩ (.slice A6 (n + 1) c6)).cell? ⟨ad.block, ad.off + 1, none⟩ = some (.int .i64 z1) ∧ (w6.setCell ⟨w.heap.size, 5, none⟩ (.slice A6 (n + 1) c6)).cell? ⟨ad.block, ad.off + 2, none⟩ = some (.int .i64 z2) := ⟨(hf2 ad rfl).trans g2.1, (hf2 ⟨ad.block, ad.off + 1, none⟩ rfl).trans g2.2.1, (hf2 ⟨ad.block, ad.off + 2, none⟩ rfl).trans g2.2.2⟩
      clear hrun hob ho5 hr5 ho6 hg6 P1 P2 P3 hi0 hz0 hz1 hz2 hfar hf2 hne0 hne1 hlow hs5
      go_wp2
      refine wp_region_held_drew (S := fun w' => w'.cell? ad = some (.int .i64 z0) ∧ w'.cell? ⟨ad.block, ad.off + 1, none⟩ = some (.int .i64 z1) ∧ w'.cell? ⟨ad.block, ad.off + 2, none⟩ = some (.int .i64 z2)) (by kernel_rfl) d2 (fun hHeld => ?_)
      refine wpAnyH_take (i := 0) (oi := ⟨some 46, .fieldAddr 30 (.tmp 2) 3, 0, "conf.go:170", _, none⟩) (v := .pointer (some ⟨w.heap.size, 5, none⟩)) rfl (by kernel_rfl) (by kernel_rfl) (by kernel_rfl) (fun _ _ _ h => h) (Or.inl ⟨by rfl, ?_⟩) (by assumption) ?_
      · (intro w' hSw; obtain ⟨s0, s1, s2⟩ := hSw; go_simp)
      try simp only [Act.put, List.setIfInBounds_toArray, List.set_cons_zero, List.set_cons_succ]
      refine wpAnyH_take (i := 2) (oi := ⟨some 48, .move (.tmp 8), 53, "conf.go:170", _, none⟩) (v := .slice (some ad) 3 c1) rfl (by kernel_rfl) (by kernel_rfl) (by kernel_rfl) (fun _ _ _ h => h) (Or.inl ⟨by rfl, ?_⟩) (by assumption) ?_
      · (intro w' hSw; obtain ⟨s0, s1, s2⟩ := hSw; go_simp)
      try simp only [Act.put, List.setIfInBounds_toArray, List.set_cons_zero, List.set_cons_succ]
      refine wpAnyH_take (i := 3) (oi := ⟨some 49, .indexAddr 53 (.tmp 48) (.const (.int .i64 0)), 0, "conf.go:170", _, none⟩) (v := .pointer (some ad)) rfl (by kernel_rfl) (by kernel_rfl) (by kernel_rfl) (fun _ _ _ h => h) (Or.inl ⟨by rfl, ?_⟩) (by assumption) ?_
      · (intro w' hSw; obtain ⟨s0, s1, s2⟩ := hSw; go_simp)
      try simp only [Act.put, List.setIfInBounds_toArray, List.set_cons_zero, List.set_cons_succ]
      refine wpAnyH_take (i := 4) (oi := ⟨some 50, .load 3 (.tmp 49), 3, "conf.go:170", _, none⟩) (v := .int .i64 z0) rfl (by kernel_rfl) (by kernel_rfl) (by kernel_rfl) (fun _ _ _ h => h) (Or.inl ⟨by rfl, ?_⟩) (by assumption) ?_
      · (intro w' hSw; obtain ⟨s0, s1, s2⟩ := hSw; go_simp)
      try simp only [Act.put, List.setIfInBounds_toArray, List.set_cons_zero, List.set_cons_succ]
      refine wpAnyH_take (i := 5) (oi := ⟨some 51, .move (.tmp 8), 53, "conf.go:170", _, none⟩) (v := .slice (some ad) 3 c1) rfl (by kernel_rfl) (by kernel_rfl) (by kernel_rfl) (fun _ _ _ h => h) (Or.inl ⟨by rfl, ?_⟩) (by assumption) ?_
      · (intro w' hSw; obtain ⟨s0, s1, s2⟩ := hSw; go_simp)
      try simp only [Act.put, List.setIfInBounds_toArray, List.set_cons_zero, List.set_cons_succ]
      refine wpAnyH_take (i := 6) (oi := ⟨some 52, .indexAddr 53 (.tmp 51) (.const (.int .i64 1)), 0, "conf.go:170", _, none⟩) (v := .pointer (some ⟨ad.block, ad.off + 1, none⟩)) rfl (by kernel_rfl) (by kernel_rfl) (by kernel_rfl) (fun _ _ _ h => h) (Or.inl ⟨by rfl, ?_⟩) (by assumption) ?_
      · (intro w' hSw; obtain ⟨s0, s1, s2⟩ := hSw; go_simp)
      try simp only [Act.put, List.setIfInBounds_toArray, List.set_cons_zero, List.set_cons_succ]
      refine wpAnyH_take (i := 7) (oi := ⟨some 53, .load 3 (.tmp 52), 3, "conf.go:170", _, none⟩) (v := .int .i64 z1) rfl (by kernel_rfl) (by kernel_rfl) (by kernel_rfl) (fun _ _ _ h => h) (Or.inl ⟨by rfl, ?_⟩) (by assumption) ?_
      · (intro w' hSw; obtain ⟨s0, s1, s2⟩ := hSw; go_simp)
      try simp only [Act.put, List.setIfInBounds_toArray, List.set_cons_zero, List.set_cons_succ]
      refine wpAnyH_take (i := 8) (oi := ⟨some 54, .move (.tmp 8), 53, "conf.go:170", _, none⟩) (v := .slice (some ad) 3 c1) rfl (by kernel_rfl) (by kernel_rfl) (by kernel_rfl) (fun _ _ _ h => h) (Or.inl ⟨by rfl, ?_⟩) (by assumption) ?_
      · (intro w' hSw; obtain ⟨s0, s1, s2⟩ := hSw; go_simp)
      try simp only [Act.put, List.setIfInBounds_toArray, List.set_cons_zero, List.set_cons_succ]
      refine wpAnyH_take (i := 9) (oi := ⟨some 55, .indexAddr 53 (.tmp 54) (.const (.int .i64 2)), 0, "conf.go:170", _, none⟩) (v := .pointer (some ⟨ad.block, ad.off + 2, none⟩)) rfl (by kernel_rfl) (by kernel_rfl) (by kernel_rfl) (fun _ _ _ h => h) (Or.inl ⟨by rfl, ?_⟩) (by assumption) ?_
      · (intro w' hSw; obtain ⟨s0, s1, s2⟩ := hSw; go_simp)
      try simp only [Act.put, List.setIfInBounds_toArray, List.set_cons_zero, List.set_cons_succ]
      refine wpAnyH_take (i := 10) (oi := ⟨some 56, .load 3 (.tmp 55), 3, "conf.go:170", _, none⟩) (v := .int .i64 z2) rfl (by kernel_rfl) (by kernel_rfl) (by kernel_rfl) (fun _ _ _ h => h) (Or.inl ⟨by rfl, ?_⟩) (by assumption) ?_
      · (intro w' hSw; obtain ⟨s0, s1, s2⟩ := hSw; go_simp)
      try simp only [Act.put, List.setIfInBounds_toArray, List.set_cons_zero, List.set_cons_succ]
      refine wpAnyH_take (i := 11) (oi := ⟨some 57, .build 52 #[(0, .tmp 50), (1, .tmp 53), (2, .tmp 56)], 52, "conf.go:170", _, none⟩) (v := .agg #[.int .i64 z0, .int .i64 z1, .int .i64 z2]) rfl (by kernel_rfl) (by kernel_rfl) (by kernel_rfl) (fun _ _ _ h => h) (Or.inl ⟨by rfl, ?_⟩) (by assumption) ?_
      · (intro w' hSw; obtain ⟨s0, s1, s2⟩ := hSw; go_simp)
      try simp only [Act.put, List.setIfInBounds_toArray, List.set_cons_zero, List.set_cons_succ]
      refine wpAnyH_ready (rs := [1, 12]) (by kernel_rfl) (by simp) ?_
      refine AllReadyH.cons rfl (fun K hK => ?_) (AllReadyH.cons rfl (fun K hK => ?_) AllReadyH.nil)
      · go_simp
        refine hK.out _ _ d2 (fun hHeld => ?_)
        clear hK K
        try simp only [Act.put, List.setIfInBounds_toArray, List.set_cons_zero, List.set_cons_succ]
        refine wpAnyH_ready (rs := [12]) (by kernel_rfl) (by simp) ?_
        refine AllReadyH.cons rfl (fun K hK => ?_) AllReadyH.nil
        go_simp
        refine hK.out _ _ e2 (fun hHeld => ?_)
        clear hK K
        try simp only [Act.put, List.setIfInBounds_toArray, List.set_cons_zero, List.set_cons_succ]
        refine wpAnyH_ready (rs := [13]) (by kernel_rfl) (by simp) ?_
        refine AllReadyH.cons rfl (fun K hK => ?_) AllReadyH.nil
        refine step_append_kn _ (by rfl) (.tmp 47) (.tmp 58) 25 (by rfl) _ _ 1 1 (by rfl) (by rfl) HRUN.out ?_
        refine hK.out _ _ g2 (fun hHeld => ?_)
        clear hK K
        try simp only [Act.put, List.setIfInBounds_toArray]
        refine wpAnyH_take (i := 14) (oi := ⟨some 60, .fieldAddr 30 (.tmp 2) 3, 0, "conf.go:170", _, none⟩) (v := .pointer (some ⟨w.heap.size, 5, none⟩)) rfl (by kernel_rfl) (by kernel_rfl) (by kernel_rfl) (fun _ _ _ h => h) (Or.inl ⟨by rfl, ?_⟩) (by assumption) ?_
        · (intro w' hSw; obtain ⟨s0, s1, s2⟩ := hSw; go_simp)
        try simp only [Act.put]
        refine wpAnyH_ready (rs := [15]) (by kernel_rfl) (by simp) ?_
        refine AllReadyH.cons rfl (fun K hK => ?_) AllReadyH.nil
        go_simp
        refine hK.out _ _ h2 (fun hHeld => ?_)
        clear hK K
        try simp only [Act.put, List.setIfInBounds_toArray, List.set_cons_zero, List.set_cons_succ]
        refine wpAnyH_done (by kernel_rfl) ?_ _
        clear hHeld
        go_wp2_with (first | (refine st_load rfl X1.out rfl ?_) | (refine st_store rfl rfl X2.out rfl ?_))
        exact bodyPost_ret (results_st rfl _ _ (w.heap.size + 1) _ rfl (X2.out.store _)) rfl ⟨below_row X3.out (by have := HB.out; omega) _, .inl ⟨_, A6, n + 1, c6, HWD.out, by rw [HZ.out]; rfl, own_row6 HO6.out HBK.out⟩⟩
      · go_simp
        refine hK.out _ _ e2 (fun hHeld => ?_)
        clear hK K
        try simp only [Act.put, List.setIfInBounds_toArray, List.set_cons_zero, List.set_cons_succ]
        refine wpAnyH_ready (rs := [1]) (by kernel_rfl) (by simp) ?_
        refine AllReadyH.cons rfl (fun K hK => ?_) AllReadyH.nil
        go_simp
        refine hK.out _ _ e2 (fun hHeld => ?_)
        clear hK K
        try simp only [Act.put, List.setIfInBounds_toArray, List.set_cons_zero, List.set_cons_succ]
        refine wpAnyH_ready (rs := [13]) (by kernel_rfl) (by simp) ?_
        refine AllReadyH.cons rfl (fun K hK => ?_) AllReadyH.nil
        refine step_append_kn _ (by rfl) (.tmp 47) (.tmp 58) 25 (by rfl) _ _ 1 1 (by rfl) (by rfl) HRUN.out ?_
        refine hK.out _ _ g2 (fun hHeld => ?_)
        clear hK K
        try simp only [Act.put, List.setIfInBounds_toArray]
        refine wpAnyH_take (i := 14) (oi := ⟨some 60, .fieldAddr 30 (.tmp 2) 3, 0, "conf.go:170", _, none⟩) (v := .pointer (some ⟨w.heap.size, 5, none⟩)) rfl (by kernel_rfl) (by kernel_rfl) (by kernel_rfl) (fun _ _ _ h => h) (Or.inl ⟨by rfl, ?_⟩) (by assumption) ?_
        · (intro w' hSw; obtain ⟨s0, s1, s2⟩ := hSw; go_simp)
        try simp only [Act.put]
        refine wpAnyH_ready (rs := [15]) (by kernel_rfl) (by simp) ?_
        refine AllReadyH.cons rfl (fun K hK => ?_) AllReadyH.nil
        go_simp
        refine hK.out _ _ h2 (fun hHeld => ?_)
        clear hK K
        try simp only [Act.put, List.setIfInBounds_toArray, List.set_cons_zero, List.set_cons_succ]
        refine wpAnyH_done (by kernel_rfl) ?_ _
        clear hHeld
        go_wp2_with (first | (refine st_load rfl X1.out rfl ?_) | (refine st_store rfl rfl X2.out rfl ?_))
        exact bodyPost_ret (results_st rfl _ _ (w.heap.size + 1) _ rfl (X2.out.store _)) rfl ⟨below_row X3.out (by have := HB.out; omega) _, .inl ⟨_, A6, n + 1, c6, HWD.out, by rw [HZ.out]; rfl, own_row6 HO6.out HBK.out⟩⟩
    · have J1 := Lib.hid (L1.out.alloc (.cells #[.string ⟨#[115, 108, 111, 116, 115]⟩, .string ⟨#[101, 112, 111, 99, 104]⟩] 9))
      have J2 := Lib.hid (L2.out.alloc (.cells #[.string ⟨#[115, 108, 111, 116, 115]⟩, .string ⟨#[101, 112, 111, 99, 104]⟩] 9))
      have J3 := Lib.hid (L3.out.alloc L3.out.size (.cells #[.string ⟨#[115, 108, 111, 116, 115]⟩, .string ⟨#[101, 112, 111, 99, 104]⟩] 9))
      have JR := Lib.hid (reads_new w2 9 (strV slotsN) #[.string ⟨#[115, 108, 111, 116, 115]⟩, .string ⟨#[101, 112, 111, 99, 104]⟩] w.heap.size w2.heap.size 2 rfl rfl rfl (by have := LS.out; omega))
      have JE := Lib.hid (LE.out.alloc (.cells #[.string ⟨#[115, 108, 111, 116, 115]⟩, .string ⟨#[101, 112, 111, 99, 104]⟩] 9))
      have C3 := Lib.hid (numbers_at line hl slotsN 2 r3 rfl R3.out (some ⟨w2.heap.size, 0, none⟩) 2 w.heap.size _ JE.out (by decide) JR.out)
      have KG2 : Hid (w.heap.size < (w2.alloc (.cells #[.string ⟨#[115, 108, 111, 116, 115]⟩, .string ⟨#[101, 112, 111, 99, 104]⟩] 9)).heap.size) := Lib.hid (by have := LS.out; simp; omega)
      have hr2' := R2.out.trans hr2
      have LS2 := LS
      go_wp2_with (fail)
      with_reducible refine C3.out.mono ?_
      rintro e w3 ⟨hb3, hcase⟩
      have M1 := Lib.hid (J1.out.later hb3)
      have M2 := Lib.hid (J2.out.later hb3)
      have M3 := Lib.hid (J3.out.trans (hb3.mono J3.out.size))
      have ME := Lib.hid (JE.out.below hb3)
      have MS : Hid (w.heap.size + 1 < w3.heap.size) := Lib.hid M2.out.lt
      clear hb3 C3 JR JE J1 J2 J3 L1 L2 L3 LE
      rcases hcase with ⟨zs, A1, c1, hr3, rfl, hzc, hzm, hrd⟩ | ⟨hr3, rfl⟩
      · obtain ⟨z0, z1, rfl⟩ := two (nums_len (R3.out.trans hr3))
        have HWD : Hid (res = (wsP d.t z0 z1 line).map fun T => { d with t := T }) := Lib.hid (by rw [← HRES.out]; exact with_slots h1 hr2' (R3.out.trans hr3))
        have hrd0 := hrd w.heap.size (.inr KG2.out)
        have hrd1 := hrd (w.heap.size + 1) (.inr (by have := LS2.out; simp; omega))
        clear hr3 hrd hr2 hr2'
        obtain ⟨ad, rfl, hltad, hne, _⟩ := hrd0.2 (Nat.succ_pos _)
        have hne1 : ad.block ≠ w.heap.size + 1 := by obtain ⟨ad', e, _, h, _⟩ := hrd1.2 (Nat.succ_pos _); cases e; exact h
        clear hrd1
        have HR1 : Hid (Reads w3 w.heap.size (some ad) 2 (zints [z0, z1])) := Lib.hid hrd0
        clear hrd0
        have HNB : Hid (ad.block ≠ w.heap.size + 1) := Lib.hid hne1
        simp only [List.length_cons, List.length_nil, Nat.zero_add, Nat.reduceAdd] at hzc ⊢
        have HD2 := cells2 (reads_drew HR1.out)
        have HEd : Hid (Env w3.drew) := Lib.hid (ME.out.drewN 1)
        have HST : Hid (s.t = d.t) := Lib.hid (by rw [← HS.out]; rfl)
        go_wp2
        refine wp_region_held_drew (S := fun w' => (StAt w' w.heap.size s ∧ w'.cell? ad = some (.int .i64 z0) ∧ w'.cell? ⟨ad.block, ad.off + 1, none⟩ = some (.int .i64 z1)) ∧ (∃ u, StAt w' (w.heap.size + 1) u) ∧ Below w.heap.size w w' ∧ ad.block < w'.heap.size) (by kernel_rfl) ⟨⟨M1.out.drew, HD2⟩, ⟨_, M2.out.drew⟩, M3.out.drew, hltad⟩ (fun hHeld => ?_)
        refine wpAnyH_take (i := 0) (oi := ⟨some 69, .load 30 (.tmp 2), 30, "conf.go:174", _, none⟩) (v := .agg (stv s)) rfl (by kernel_rfl) (by kernel_rfl) (by kernel_rfl) (fun _ _ _ h => h) (yields_st rfl fun _ h => h.1.1) (by assumption) ?_
        try simp only [Act.put, List.setIfInBounds_toArray, List.set_cons_zero, List.set_cons_succ]
        refine wpAnyH_take (i := 1) (oi := ⟨some 70, .move (.tmp 10), 53, "conf.go:174", _, none⟩) (v := .slice (some ad) 2 c1) rfl (by kernel_rfl) (by kernel_rfl) (by kernel_rfl) (fun _ _ _ h => h) (Or.inl ⟨by rfl, ?_⟩) (by assumption) ?_
        · (intro w' hSw; obtain ⟨⟨_, s0, s1⟩, _⟩ := hSw; go_simp)
        try simp only [Act.put, List.setIfInBounds_toArray, List.set_cons_zero, List.set_cons_succ]
        refine wpAnyH_take (i := 2) (oi := ⟨some 71, .indexAddr 53 (.tmp 70) (.const (.int .i64 0)), 0, "conf.go:174", _, none⟩) (v := .pointer (some ad)) rfl (by kernel_rfl) (by kernel_rfl) (by kernel_rfl) (fun _ _ _ h => h) (Or.inl ⟨by rfl, ?_⟩) (by assumption) ?_
        · (intro w' hSw; obtain ⟨⟨_, s0, s1⟩, _⟩ := hSw; go_simp)
        try simp only [Act.put, List.setIfInBounds_toArray, List.set_cons_zero, List.set_cons_succ]
        refine wpAnyH_take (i := 3) (oi := ⟨some 72, .load 3 (.tmp 71), 3, "conf.go:174", _, none⟩) (v := .int .i64 z0) rfl (by kernel_rfl) (by kernel_rfl) (by kernel_rfl) (fun _ _ _ h => h) (Or.inl ⟨by rfl, ?_⟩) (by assumption) ?_
        · (intro w' hSw; obtain ⟨⟨_, s0, s1⟩, _⟩ := hSw; go_simp)
        try simp only [Act.put, List.setIfInBounds_toArray, List.set_cons_zero, List.set_cons_succ]
        refine wpAnyH_take (i := 4) (oi := ⟨some 73, .move (.tmp 10), 53, "conf.go:174", _, none⟩) (v := .slice (some ad) 2 c1) rfl (by kernel_rfl) (by kernel_rfl) (by kernel_rfl) (fun _ _ _ h => h) (Or.inl ⟨by rfl, ?_⟩) (by assumption) ?_
        · (intro w' hSw; obtain ⟨⟨_, s0, s1⟩, _⟩ := hSw; go_simp)
        try simp only [Act.put, List.setIfInBounds_toArray, List.set_cons_zero, List.set_cons_succ]
        refine wpAnyH_take (i := 5) (oi := ⟨some 74, .indexAddr 53 (.tmp 73) (.const (.int .i64 1)), 0, "conf.go:174", _, none⟩) (v := .pointer (some ⟨ad.block, ad.off + 1, none⟩)) rfl (by kernel_rfl) (by kernel_rfl) (by kernel_rfl) (fun _ _ _ h => h) (Or.inl ⟨by rfl, ?_⟩) (by assumption) ?_
        · (intro w' hSw; obtain ⟨⟨_, s0, s1⟩, _⟩ := hSw; go_simp)
        try simp only [Act.put, List.setIfInBounds_toArray, List.set_cons_zero, List.set_cons_succ]
        refine wpAnyH_take (i := 6) (oi := ⟨some 75, .load 3 (.tmp 74), 3, "conf.go:174", _, none⟩) (v := .int .i64 z1) rfl (by kernel_rfl) (by kernel_rfl) (by kernel_rfl) (fun _ _ _ h => h) (Or.inl ⟨by rfl, ?_⟩) (by assumption) ?_
        · (intro w' hSw; obtain ⟨⟨_, s0, s1⟩, _⟩ := hSw; go_simp)
        try simp only [Act.put, List.setIfInBounds_toArray, List.set_cons_zero, List.set_cons_succ]
        refine wpAnyH_take (i := 7) (oi := ⟨some 76, .move (.tmp 1), 9, "conf.go:174", _, none⟩) (v := .string (str line)) rfl (by kernel_rfl) (by kernel_rfl) (by kernel_rfl) (fun _ _ _ h => h) (Or.inl ⟨by rfl, ?_⟩) (by assumption) ?_
        · (intro w' hSw; obtain ⟨⟨_, s0, s1⟩, _⟩ := hSw; go_simp)
        try simp only [Act.put, List.setIfInBounds_toArray, List.set_cons_zero, List.set_cons_succ]
        refine wpAnyH_ready (rs := [8]) (by kernel_rfl) (by simp) ?_
        refine AllReadyH.cons rfl (fun K hK => ?_) AllReadyH.nil
        go_simp
        refine (withslots_any s z0 z1 line hl _ HEd.out).mono ?_
        rintro e w4 ⟨hb4, hcase⟩
        obtain ⟨⟨hA, hs0, hs1⟩, ⟨u0, hU⟩, hB, hlad⟩ := hHeld
        have hs0' := (hb4.cell (p := ad) hlad).trans hs0
        have hs1' := (hb4.cell (p := ⟨ad.block, ad.off + 1, none⟩) hlad).trans hs1
        have hA4 := hA.later hb4
        have hU4 := hU.later hb4
        have hB4 := hB.trans (hb4.mono hB.size)
        have hl4 := Nat.lt_of_lt_of_le hlad hb4.size
        clear hA hs0 hs1 hU hB hlad hb4
        rcases hcase with ⟨s2, hs2, rfl⟩ | ⟨hs2, rfl⟩
        · have HW3 : ∃ T, wsP s.t z0 z1 line = some T ∧ s2 = withT s T := by
            cases hq : wsP s.t z0 z1 line with
            | none => rw [hq] at hs2; cases hs2
            | some T => rw [hq] at hs2; simp at hs2; exact ⟨T, rfl, hs2.symm⟩
          obtain ⟨T, hT, rfl⟩ := HW3
          have HW2 : Hid (res = some { d with t := T }) := Lib.hid (by rw [HWD.out, ← HST.out, hT]; rfl)
          have HZ2 : Hid (withT s T = mkS { d with t := T } a n cap) := Lib.hid (by rw [← HS.out]; rfl)
          clear hs2 hT
          refine hK.out _ _ ⟨⟨hA4, hs0', hs1'⟩, ⟨u0, hU4⟩, hB4, hl4⟩ (fun hHeld => ?_)
          clear hK K hA4 hs0' hs1' hU4 hB4 hl4
          try simp only [Act.put, List.setIfInBounds_toArray, List.set_cons_zero, List.set_cons_succ]
          refine wpAnyH_take (i := 9) (oi := ⟨some 78, .extract (.tmp 77) 0, 30, "conf.go:174", _, none⟩) (v := .agg (stv (withT s T))) rfl (by kernel_rfl) (by kernel_rfl) (by kernel_rfl) (fun _ _ _ h => h) (Or.inl ⟨by rfl, ?_⟩) (by assumption) ?_
          · (intro w' hSw; clear hSw; go_simp)
          try simp only [Act.put, List.setIfInBounds_toArray, List.set_cons_zero, List.set_cons_succ]
          refine wpAnyH_take (i := 10) (oi := ⟨some 79, .extract (.tmp 77) 1, 4, "conf.go:174", _, none⟩) (v := .bool true) rfl (by kernel_rfl) (by kernel_rfl) (by kernel_rfl) (fun _ _ _ h => h) (Or.inl ⟨by rfl, ?_⟩) (by assumption) ?_
          · (intro w' hSw; clear hSw; go_simp)
          try simp only [Act.put, List.setIfInBounds_toArray, List.set_cons_zero, List.set_cons_succ]
          refine wpAnyH_ready (rs := [11]) (by kernel_rfl) (by simp) ?_
          refine AllReadyH.cons (o := ⟨none, .store 30 (.tmp 4) (.tmp 78), 0, "conf.go:174", _, none⟩) rfl (fun K hK => ?_) AllReadyH.nil
          rw [if_pos (by rfl)]
          obtain ⟨⟨hA, hs0, hs1⟩, ⟨u1, hU⟩, hB, hlad⟩ := hHeld
          have hb5 := below_row hB (g := w.heap.size + 1) (by omega) (stv (withT s T))
          have hU5 := Lib.hid (hU.store (withT s T))
          have hX := Lib.hid hb5
          refine wp_store_row 30 (.tmp 4) (.tmp 78) rfl (w.heap.size + 1) (stv (withT s T)) rfl rfl _ (stv u1) hU (st_size (withT s T)) (by rw [stv_size, stv_size]) (stv_cells (withT s T)) ?_
          refine hK.out _ _ ⟨⟨hA.row_far (by omega) _, (cell_row_far hs0 (fun e => HNB.out e)).trans hs0, (cell_row_far hs1 (fun e => HNB.out e)).trans hs1⟩, ⟨_, hU.store (withT s T)⟩, hb5, by rw [size_setRow]; exact hlad⟩ (fun hHeld => ?_)
          clear hK K hA hs0 hs1 hU hB hlad
          try simp only [Act.put]
          refine wpAnyH_take (i := 12) (oi := ⟨some 5, .assign (.tmp 79), 4, "conf.go:174", _, none⟩) (v := .bool true) rfl (by kernel_rfl) (by kernel_rfl) (by kernel_rfl) (fun _ _ _ h => h) (Or.inl ⟨by rfl, ?_⟩) (by assumption) ?_
          · (intro w' hSw; clear hSw; go_simp)
          try simp only [Act.put, List.setIfInBounds_toArray, List.set_cons_zero, List.set_cons_succ]
          refine wpAnyH_done (by kernel_rfl) ?_ _
          clear hHeld
          go_wp2
          exact bodyPost_ret (results_st rfl _ _ (w.heap.size + 1) _ rfl hU5.out) rfl ⟨hX.out.mono HB.out, .inl ⟨_, a, n, cap, HW2.out, by rw [HZ2.out]; rfl, own_below HO.out hX.out⟩⟩
        · have HW2 : Hid (res = none) := Lib.hid (by
            rw [HWD.out, ← HST.out]
            cases hq : wsP s.t z0 z1 line with
            | none => rfl
            | some T => rw [hq] at hs2; cases hs2)
          clear hs2
          refine hK.out _ _ ⟨⟨hA4, hs0', hs1'⟩, ⟨u0, hU4⟩, hB4, hl4⟩ (fun hHeld => ?_)
          clear hK K hA4 hs0' hs1' hU4 hB4 hl4
          try simp only [Act.put, List.setIfInBounds_toArray, List.set_cons_zero, List.set_cons_succ]
          refine wpAnyH_take (i := 9) (oi := ⟨some 78, .extract (.tmp 77) 0, 30, "conf.go:174", _, none⟩) (v := .agg (stv Sv.zero)) rfl (by kernel_rfl) (by kernel_rfl) (by kernel_rfl) (fun _ _ _ h => h) (Or.inl ⟨by rfl, ?_⟩) (by assumption) ?_
          · (intro w' hSw; clear hSw; go_simp)
          try simp only [Act.put, List.setIfInBounds_toArray, List.set_cons_zero, List.set_cons_succ]
          refine wpAnyH_take (i := 10) (oi := ⟨some 79, .extract (.tmp 77) 1, 4, "conf.go:174", _, none⟩) (v := .bool false) rfl (by kernel_rfl) (by kernel_rfl) (by kernel_rfl) (fun _ _ _ h => h) (Or.inl ⟨by rfl, ?_⟩) (by assumption) ?_
          · (intro w' hSw; clear hSw; go_simp)
          try simp only [Act.put, List.setIfInBounds_toArray, List.set_cons_zero, List.set_cons_succ]
          refine wpAnyH_ready (rs := [11]) (by kernel_rfl) (by simp) ?_
          refine AllReadyH.cons (o := ⟨none, .store 30 (.tmp 4) (.tmp 78), 0, "conf.go:174", _, none⟩) rfl (fun K hK => ?_) AllReadyH.nil
          rw [if_pos (by rfl)]
          obtain ⟨⟨hA, hs0, hs1⟩, ⟨u1, hU⟩, hB, hlad⟩ := hHeld
          have hb5 := below_row hB (g := w.heap.size + 1) (by omega) (stv Sv.zero)
          have hU5 := Lib.hid (hU.store Sv.zero)
          have hX := Lib.hid hb5
          refine wp_store_row 30 (.tmp 4) (.tmp 78) rfl (w.heap.size + 1) (stv Sv.zero) rfl rfl _ (stv u1) hU (st_size Sv.zero) (by rw [stv_size, stv_size]) (stv_cells Sv.zero) ?_
          refine hK.out _ _ ⟨⟨hA.row_far (by omega) _, (cell_row_far hs0 (fun e => HNB.out e)).trans hs0, (cell_row_far hs1 (fun e => HNB.out e)).trans hs1⟩, ⟨_, hU.store Sv.zero⟩, hb5, by rw [size_setRow]; exact hlad⟩ (fun hHeld => ?_)
          clear hK K hA hs0 hs1 hU hB hlad
          try simp only [Act.put]
          refine wpAnyH_take (i := 12) (oi := ⟨some 5, .assign (.tmp 79), 4, "conf.go:174", _, none⟩) (v := .bool false) rfl (by kernel_rfl) (by kernel_rfl) (by kernel_rfl) (fun _ _ _ h => h) (Or.inl ⟨by rfl, ?_⟩) (by assumption) ?_
          · (intro w' hSw; clear hSw; go_simp)
          try simp only [Act.put, List.setIfInBounds_toArray, List.set_cons_zero, List.set_cons_succ]
          refine wpAnyH_done (by kernel_rfl) ?_ _
          clear hHeld
          go_wp2
          exact bodyPost_ret (results_st rfl _ _ (w.heap.size + 1) _ rfl hU5.out) rfl ⟨hX.out.mono HB.out, .inr ⟨HW2.out, rfl⟩⟩
      · have HWD : Hid (res = none) := Lib.hid (by rw [← HRES.out]; exact with_none h1 hr2' (R3.out.trans hr3))
        clear hr3 hr2 hr2'
        go_wp2_with (first | (refine st_build rfl ?_) | (refine st_store rfl rfl M2.out rfl ?_))
        exact bodyPost_ret (results_st rfl _ _ (w.heap.size + 1) _ rfl (M2.out.store _)) rfl ⟨(below_row M3.out (by omega) _).mono HB.out, .inr ⟨HWD.out, rfl⟩⟩
end Go.Proofs.YtmjbacmaafbdlaaGreatDoor
