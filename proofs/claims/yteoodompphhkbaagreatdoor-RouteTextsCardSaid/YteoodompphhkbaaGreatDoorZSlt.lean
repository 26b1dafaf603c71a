/-
  WHAT IS PROVED: layer 1's contracts: a key's slot. Conditions: each states its own.
-/
import Derived.Test.YteoodompphhkbaaGreatDoorRows
import Derived.WalkKit
import Derived.Deep.AppendLies
import Derived.Deep.Draws
import Derived.Deep.OwnRows
import Derived.Lib.Hide
import Derived.Deep.RegionWith
import Derived.Deep.DrawnRows
import Derived.Deep.QuietTactic
import Derived.BigQuiet
import Derived.Lib.Strings
import Derived.Lib.Bytealg
import Derived.Lib.IndexLaws
/- Base -/
namespace Go.Proofs.YteoodompphhkbaaGreatDoor.Slt
set_option maxRecDepth 100000
open Go.RowKit

theorem block_of_add (a : Addr) (n : Nat) : (a.add n).block = a.block := by unfold Addr.add; split <;> rfl
/-- the slice value '.slice A n c' holds the cells xs, in a block that is there and isn't block g -/
def Reads (w : World) (g : Nat) (A : Option Addr) (n : Nat) (xs : List Value) : Prop :=
  xs.length = n ∧ (0 < n → ∃ ad, A = some ad ∧ ad.block < w.heap.size ∧ ad.block ≠ g ∧ ∀ j u, xs[j]? = some u → w.cell? (ad.add j) = some u)

section
variable {w w' a b c : World} {g g' n : Nat} {A : Option Addr} {xs : List Value}
theorem Reads.at_ {k : Nat} (h : Reads w g A n xs) (hk : k < n) : ∃ ad u, A = some ad ∧ xs[k]? = some u ∧ w.cell? (ad.add k) = some u := by
  obtain ⟨ad, e, _, _, hc⟩ := h.2 (by omega)
  have hl : k < xs.length := by have := h.1; omega
  exact ⟨ad, xs[k], e, List.getElem?_eq_getElem hl, hc k _ (List.getElem?_eq_getElem hl)⟩
theorem Reads.only (h : Reads w g A n xs) (hb : w.grownBy w' (some g)) : Reads w' g A n xs :=
  ⟨h.1, fun hn => by
    obtain ⟨ad, e, hlt, hne, hc⟩ := h.2 hn
    refine ⟨ad, e, Nat.lt_of_lt_of_le hlt hb.size, hne, fun j u hu => ?_⟩
    exact (World.cell?_of_block (hb.block (ad.add j).block (by rw [block_of_add]; exact hlt) (fun e => hne (by rw [block_of_add] at e; injection e)))).trans (hc j u hu)⟩
theorem Reads.take (h : Reads w g A n xs) {k : Nat} (hk : k ≤ n) : Reads w g A k (xs.take k) := by
  refine ⟨by rw [List.length_take, h.1]; omega, fun hn => ?_⟩
  obtain ⟨ad, e, hlt, hb, hcell⟩ := h.2 (by omega)
  exact ⟨ad, e, hlt, hb, fun j u hu => hcell j u (by rw [List.getElem?_take] at hu; split at hu <;> simp_all)⟩
end

/-- block g is just the cells cs of element type t, none frozen -/
def Blk (w : World) (g : Nat) (t : TypeId) (cs : Array Value) : Prop := w.heap[g]? = some (.cells cs t (0, 0))

section
variable {w w' : World} {g : Nat} {t : TypeId} {cs : Array Value}
theorem Blk.lt (h : Blk w g t cs) : g < w.heap.size := by
  rcases Nat.lt_or_ge g w.heap.size with hlt | hge
  · exact hlt
  · unfold Blk at h; rw [Array.getElem?_eq_none hge] at h; cases h
theorem Blk.cell (h : Blk w g t cs) (i : Nat) : w.cell? ⟨g, i, none⟩ = cs[i]? := cell_of_row w g i cs t (0, 0) h
theorem Blk.frozen (h : Blk w g t cs) (i : Nat) : w.frozen? ⟨g, i, none⟩ = false := by
  unfold Blk at h
  simp [World.frozen?, h]
theorem Blk.new (w : World) (t : TypeId) (cs : Array Value) : Blk (w.alloc (.cells cs t)) w.heap.size t cs := heap_alloc_new w _
theorem Blk.drew (h : Blk w g t cs) : Blk w.drew g t cs := h
theorem Blk.alloc (h : Blk w g t cs) (o : Obj) : Blk (w.alloc o) g t cs := (Below.heap_alloc w o g h.lt).trans h
theorem Blk.set_ (h : Blk w g t cs) (i : Nat) (u : Value) : Blk (w.setCell ⟨g, i, none⟩ u) g t (cs.setIfInBounds i u) := by
  unfold Blk at h ⊢
  simp [World.setCell, Array.getElem?_modify, h]
theorem Blk.grown {row : Option Nat} (h : Blk w g t cs) (hb : w.grownBy w' row) (hg : some g ≠ row) : Blk w' g t cs := (hb.block g h.lt hg).trans h
end

theorem only_drew {a w : World} {row : Option Nat} (h : a.grownBy w row) : a.grownBy w.drew row := ⟨h.os, h.tape, h.output, h.size, h.block⟩
theorem only_drewN {a w : World} {row : Option Nat} (h : a.grownBy w row) (n : Nat) : a.grownBy (w.drewN n) row := ⟨h.os, h.tape, h.output, h.size, h.block⟩
theorem only_alloc {a w : World} {row : Option Nat} (h : a.grownBy w row) (o : Obj) : a.grownBy (w.alloc o) row :=
  ⟨h.os, h.tape, h.output, Nat.le_trans h.size (by simp), fun i hi hne => (Below.heap_alloc w o i (Nat.lt_of_lt_of_le hi h.size)).trans (h.block i hi hne)⟩
theorem only_setCell {a w : World} {g : Nat} (h : a.grownBy w (some g)) {p : Addr} (hp : p.block = g ∨ a.heap.size ≤ p.block) (u : Value) : a.grownBy (w.setCell p u) (some g) :=
  ⟨h.os, h.tape, h.output, by simpa [World.setCell] using h.size, fun i hi hne => (Below.heap_setCell w p u i (by
    rintro rfl
    rcases hp with hp | hp
    · exact hne (by rw [hp])
    · omega)).trans (h.block i hi hne)⟩
theorem ret_int {a b : Int} (h : a = b) : Ending.returned (.int .i64 a) = .returned (.int .i64 b) := by rw [h]
end Go.Proofs.YteoodompphhkbaaGreatDoor.Slt

/- Crc -/
namespace Go.Proofs.YteoodompphhkbaaGreatDoor.Slt
set_option maxRecDepth 100000

/-- one shift of sixteen bits -/
def st (s : Nat) : Nat := if 32768 ≤ s then (s * 2 % 65536) ^^^ 4129 else s * 2 % 65536
def stN : Nat → Nat → Nat
  | 0, s => s
  | n + 1, s => stN n (st s)
/-- what a byte in the upper eight bits comes to -/
def tb (i : Nat) : Nat := stN 8 (i * 256)
/-- one byte more, as the document has it -/
def up (s c : Nat) : Nat := stN 8 (s ^^^ c * 256)
def crc (s : Nat) (l : List UInt8) : Nat := l.foldl (fun s c => up s c.toNat) s

theorem xor_lt16 {a b : Nat} (ha : a < 65536) (hb : b < 65536) : a ^^^ b < 65536 := Nat.xor_lt_two_pow (n := 16) ha hb
theorem st_lt (s : Nat) : st s < 65536 := by
  unfold st
  split
  · exact xor_lt16 (by omega) (by omega)
  · omega
theorem stN_lt (n s : Nat) (h : s < 65536) : stN n s < 65536 := by
  induction n generalizing s with
  | zero => exact h
  | succ n ih => exact ih _ (st_lt s)
theorem stN_snoc (n s : Nat) : stN (n + 1) s = st (stN n s) := by
  induction n generalizing s with
  | zero => rfl
  | succ n ih => exact ih (st s)
theorem tb_lt (i : Nat) (h : i < 256) : tb i < 65536 := stN_lt _ _ (by omega)
theorem up_lt (s c : Nat) (hs : s < 65536) (hc : c < 256) : up s c < 65536 := stN_lt _ _ (xor_lt16 hs (by omega))
theorem crc_cons (s : Nat) (c : UInt8) (l : List UInt8) : crc s (c :: l) = crc (up s c.toNat) l := by simp [crc]
theorem crc_lt (s : Nat) (l : List UInt8) (hs : s < 65536) : crc s l < 65536 := by
  induction l generalizing s with
  | nil => exact hs
  | cons c l ih => rw [crc_cons]; exact ih _ (up_lt s _ hs (UInt8.toNat_lt c))
theorem crc_snoc (s : Nat) (l : List UInt8) (c : UInt8) : crc s (l ++ [c]) = up (crc s l) c.toNat := by simp [crc]
/-- bit 15 -/
theorem le_iff_testBit (s : Nat) (h : s < 65536) : 32768 ≤ s ↔ s.testBit 15 = true := by
  rw [Nat.testBit_eq_decide_div_mod_eq]
  simp
  omega
theorem st_eq (s : Nat) (h : s < 65536) : st s = (s * 2 % 65536) ^^^ (if s.testBit 15 then 4129 else 0) := by
  unfold st
  by_cases hs : 32768 ≤ s
  · rw [if_pos hs, if_pos ((le_iff_testBit s h).1 hs)]
  · rw [if_neg hs, if_neg (fun e => hs ((le_iff_testBit s h).2 e))]; simp
theorem dbl_xor (a b : Nat) : (a ^^^ b) * 2 % 65536 = (a * 2 % 65536) ^^^ (b * 2 % 65536) := by
  have h1 : ∀ x : Nat, x * 2 = x <<< 1 := fun x => by rw [Nat.shiftLeft_eq]
  rw [h1, h1, h1, Nat.shiftLeft_xor_distrib, show (65536 : Nat) = 2 ^ 16 from rfl, Nat.xor_mod_two_pow]
theorem st_xor (a b : Nat) (ha : a < 65536) (hb : b < 65536) : st (a ^^^ b) = st a ^^^ st b := by
  rw [st_eq _ (xor_lt16 ha hb), st_eq a ha, st_eq b hb, dbl_xor, Nat.testBit_xor]
  have key : (if (a.testBit 15 ^^ b.testBit 15) = true then 4129 else 0) = (if a.testBit 15 = true then 4129 else 0) ^^^ (if b.testBit 15 = true then 4129 else 0) := by
    cases a.testBit 15 <;> cases b.testBit 15 <;> decide
  rw [key]
  ac_rfl
theorem stN_xor (n a b : Nat) (ha : a < 65536) (hb : b < 65536) : stN n (a ^^^ b) = stN n a ^^^ stN n b := by
  induction n generalizing a b with
  | zero => rfl
  | succ n ih => show stN n (st (a ^^^ b)) = _; rw [st_xor a b ha hb]; exact ih _ _ (st_lt a) (st_lt b)
theorem st_small (s : Nat) (h : s < 32768) : st s = s * 2 := by
  unfold st
  rw [if_neg (by omega)]
  omega
theorem stN8_small (s : Nat) (h : s < 256) : stN 8 s = s * 256 := by
  have e : stN 8 s = st (st (st (st (st (st (st (st s))))))) := by simp [stN]
  have a1 := st_small s (by omega)
  have a2 := st_small (s * 2) (by omega)
  have a3 := st_small (s * 2 * 2) (by omega)
  have a4 := st_small (s * 2 * 2 * 2) (by omega)
  have a5 := st_small (s * 2 * 2 * 2 * 2) (by omega)
  have a6 := st_small (s * 2 * 2 * 2 * 2 * 2) (by omega)
  have a7 := st_small (s * 2 * 2 * 2 * 2 * 2 * 2) (by omega)
  have a8 := st_small (s * 2 * 2 * 2 * 2 * 2 * 2 * 2) (by omega)
  rw [e, a1, a2, a3, a4, a5, a6, a7, a8]
  omega
theorem mul256_xor (a b : Nat) : (a ^^^ b) * 256 = a * 256 ^^^ b * 256 := by
  have h1 : ∀ x : Nat, x * 256 = x <<< 8 := fun x => by rw [Nat.shiftLeft_eq]
  rw [h1, h1, h1, Nat.shiftLeft_xor_distrib]
theorem split256 (s : Nat) : s = (s / 256 * 256) ^^^ (s % 256) := by
  apply Nat.eq_of_testBit_eq
  intro i
  have h : s / 256 * 256 = (s >>> 8) <<< 8 := by rw [Nat.shiftLeft_eq, Nat.shiftRight_eq_div_pow]
  rw [Nat.testBit_xor, h, show s % 256 = s % 2 ^ 8 from rfl, Nat.testBit_mod_two_pow, Nat.testBit_shiftLeft, Nat.testBit_shiftRight]
  by_cases hi : i < 8
  · simp [hi, show ¬ 8 ≤ i by omega]
  · simp [hi, show 8 ≤ i by omega, show 8 + (i - 8) = i by omega]
theorem xor_turn (x y z : Nat) : (x ^^^ y) ^^^ z = (x ^^^ z) ^^^ y := by ac_rfl
/-- ONE LOOK-UP DOES FOR ALL EIGHT SHIFTS -/
theorem up_tab (s c : Nat) (hs : s < 65536) (hc : c < 256) : up s c = (s * 256 % 65536) ^^^ tb (s / 256 ^^^ c) := by
  have h1 : s ^^^ c * 256 = ((s / 256 ^^^ c) * 256) ^^^ (s % 256) := by
    have h0 := xor_turn (s / 256 * 256) (s % 256) (c * 256)
    rw [← split256] at h0
    rw [mul256_xor]
    exact h0
  have hx : s / 256 ^^^ c < 256 := Nat.xor_lt_two_pow (n := 8) (by omega) hc
  have h2 : (s / 256 ^^^ c) * 256 < 65536 := by generalize s / 256 ^^^ c = x at *; omega
  have h3 := stN_xor 8 ((s / 256 ^^^ c) * 256) (s % 256) h2 (by omega)
  have h4 := stN8_small (s % 256) (by omega)
  have h5 : s % 256 * 256 = s * 256 % 65536 := by omega
  unfold up tb
  rw [h1, h3, h4, h5, Nat.xor_comm]
end Go.Proofs.YteoodompphhkbaaGreatDoor.Slt

/- Shift -/
namespace Go.Proofs.YteoodompphhkbaaGreatDoor.Slt
set_option maxRecDepth 100000
open Go.RowKit

theorem u16_and_top (s : Nat) (h : s < 65536) : s &&& 32768 = if 32768 ≤ s then 32768 else 0 := by
  apply Nat.eq_of_testBit_eq
  intro i
  rw [Nat.testBit_and, show (32768 : Nat) = 2 ^ 15 from rfl, Nat.testBit_two_pow]
  have hb := le_iff_testBit s h
  by_cases hi : 15 = i
  · subst hi
    by_cases hs : 2 ^ 15 ≤ s
    · rw [if_pos hs, hb.1 hs]; decide
    · rw [if_neg hs, Bool.eq_false_iff.2 (fun e => hs (hb.2 e))]; simp
  · by_cases hs : 2 ^ 15 ≤ s
    · rw [if_pos hs, Nat.testBit_two_pow]; simp [hi]
    · rw [if_neg hs]; simp [hi]

theorem and_top (s : Nat) (h : s < 65536) : bits .and .u16 (s : Int) 32768 = ((if 32768 ≤ s then 32768 else 0 : Nat) : Int) := by
  have e := u16_and_nat s 32768 h (by omega)
  rw [u16_and_top s h] at e
  exact e
theorem dbl (s : Nat) : IntKind.u16.wrap ((s : Int) * 2) = ((s * 2 % 65536 : Nat) : Int) := by
  rw [IntKind.wrap_u16]; omega
theorem st_hit (s : Nat) (hs : s < 65536) (h : (bits .and .u16 (s : Int) 32768 != 0) = true) : bits .xor .u16 (IntKind.u16.wrap ((s : Int) * 2)) 4129 = (st s : Int) := by
  rw [and_top s hs] at h
  have h1 : 32768 ≤ s := by
    by_cases hh : 32768 ≤ s
    · exact hh
    · rw [if_neg hh] at h; simp at h
  rw [dbl]
  have e := u16_xor_nat (s * 2 % 65536) 4129 (by omega) (by omega)
  unfold st
  rw [if_pos h1]
  exact e
theorem st_miss (s : Nat) (hs : s < 65536) (h : (bits .and .u16 (s : Int) 32768 != 0) = false) : IntKind.u16.wrap ((s : Int) * 2) = (st s : Int) := by
  rw [and_top s hs] at h
  have h1 : ¬ 32768 ≤ s := by
    intro hh
    rw [if_pos hh] at h; simp at h
  rw [dbl]
  unfold st
  rw [if_neg h1]
set_option maxHeartbeats 400000 in
theorem shifted_any (s : Nat) (hs : s < 65536) (w : World) :
    Calls Tryz.prog 244 #[.int .u16 s] w fun e w' => e = .returned (.int .u16 (stN 8 s)) ∧ w = w' := by
  go_enter Tryz.func244, Tryz.ntmps244
  go_wp2
  go_loop [0, 3, 4] (fun a b i => ∃ k : Nat, k ≤ 8 ∧ i = .int .i64 k ∧ a = .int .u16 (stN k s)) (fun _ _ i => 8 - (intOf i).toNat)
  case atStart => exact ⟨0, by omega, rfl, rfl⟩
  case round =>
    obtain ⟨k, hk, rfl, rfl⟩ := hrel
    have hlt := stN_lt k s hs
    have hn := stN_snoc k s
    have HN := Lib.hid hn
    clear hn
    go_wp2
    · go_round
      case rel => exact ⟨k + 1, by omega, by go_num, by rw [HN.out, st_hit _ hlt (by assumption)]⟩
      case measure => simp [intOf]; omega
    · go_round
      case rel => exact ⟨k + 1, by omega, by go_num, by rw [HN.out, st_miss _ hlt (by assumption)]⟩
      case measure => simp [intOf]; omega
    · have hk8 : (8 : Int) ≤ k := by assumption
      obtain rfl : k = 8 := by omega
      go_ret
      exact ⟨rfl, rfl⟩
end Go.Proofs.YteoodompphhkbaaGreatDoor.Slt

/- Once -/
namespace Go.Proofs.YteoodompphhkbaaGreatDoor.Slt
set_option maxRecDepth 100000
open Go.RowKit

/-- block g is a hasher: its Once's word d, its lock's word m, its table f -/
def Hs (w : World) (g : Nat) (d m : Int) (f : Nat → Nat) : Prop :=
  ∃ cs : Array Value, Blk w g 151 cs ∧ cs.size = 259 ∧ cs[0]? = some (.int .u32 d) ∧ cs[1]? = some (.int .i32 m) ∧ ∀ i, i < 256 → cs[3 + i]? = some (.int .u16 (f i : Nat))

section
variable {w w' : World} {g : Nat} {d m : Int} {f : Nat → Nat}
theorem Hs.lt (h : Hs w g d m f) : g < w.heap.size := by obtain ⟨cs, hb, _⟩ := h; exact hb.lt
theorem Hs.c0 (h : Hs w g d m f) : w.cell? ⟨g, 0, none⟩ = some (.int .u32 d) := by obtain ⟨cs, hb, _, h0, _⟩ := h; rw [hb.cell]; exact h0
theorem Hs.c1 (h : Hs w g d m f) : w.cell? ⟨g, 1, none⟩ = some (.int .i32 m) := by obtain ⟨cs, hb, _, _, h1, _⟩ := h; rw [hb.cell]; exact h1
theorem Hs.ct (h : Hs w g d m f) {i : Nat} (hi : i < 256) : w.cell? ⟨g, 3 + i, none⟩ = some (.int .u16 (f i : Nat)) := by obtain ⟨cs, hb, _, _, _, ht⟩ := h; rw [hb.cell]; exact ht i hi
theorem Hs.fz (h : Hs w g d m f) (i : Nat) : w.frozen? ⟨g, i, none⟩ = false := by obtain ⟨cs, hb, _⟩ := h; exact hb.frozen i
theorem Hs.drew (h : Hs w g d m f) : Hs w.drew g d m f := h
theorem Hs.drewN (h : Hs w g d m f) (n : Nat) : Hs (w.drewN n) g d m f := h
theorem Hs.alloc (h : Hs w g d m f) (o : Obj) : Hs (w.alloc o) g d m f := by obtain ⟨cs, hb, r⟩ := h; exact ⟨cs, hb.alloc o, r⟩
theorem Hs.grown {row : Option Nat} (h : Hs w g d m f) (hb : w.grownBy w' row) (hg : some g ≠ row) : Hs w' g d m f := by obtain ⟨cs, hk, r⟩ := h; exact ⟨cs, hk.grown hb hg, r⟩
theorem Hs.set0 (h : Hs w g d m f) (x : Int) : Hs (w.setCell ⟨g, 0, none⟩ (.int .u32 x)) g x m f := by
  obtain ⟨cs, hb, hs, h0, h1, ht⟩ := h
  refine ⟨_, hb.set_ 0 _, by simp [hs], by simp [hs], ?_, fun i hi => ?_⟩
  · rw [Array.getElem?_setIfInBounds_ne (by omega)]; exact h1
  · rw [Array.getElem?_setIfInBounds_ne (by omega)]; exact ht i hi
theorem Hs.set1 (h : Hs w g d m f) (x : Int) : Hs (w.setCell ⟨g, 1, none⟩ (.int .i32 x)) g d x f := by
  obtain ⟨cs, hb, hs, h0, h1, ht⟩ := h
  refine ⟨_, hb.set_ 1 _, by simp [hs], ?_, by simp [hs], fun i hi => ?_⟩
  · rw [Array.getElem?_setIfInBounds_ne (by omega)]; exact h0
  · rw [Array.getElem?_setIfInBounds_ne (by omega)]; exact ht i hi
theorem Hs.sett (h : Hs w g d m f) {k : Nat} (hk : k < 256) (x : Nat) : Hs (w.setCell ⟨g, 3 + k, none⟩ (.int .u16 (x : Nat))) g d m (fun i => if i = k then x else f i) := by
  obtain ⟨cs, hb, hs, h0, h1, ht⟩ := h
  refine ⟨_, hb.set_ (3 + k) _, by simp [hs], ?_, ?_, fun i hi => ?_⟩
  · rw [Array.getElem?_setIfInBounds_ne (by omega)]; exact h0
  · rw [Array.getElem?_setIfInBounds_ne (by omega)]; exact h1
  · show _ = some (Value.int .u16 ((if i = k then x else f i : Nat) : Int))
    by_cases e : i = k
    · subst e
      rw [if_pos rfl, Array.getElem?_setIfInBounds_self_of_lt (by omega)]
    · rw [Array.getElem?_setIfInBounds_ne (by omega), if_neg e]; exact ht i hi
theorem Hs.table (h : Hs w g d m f) {f' : Nat → Nat} (e : ∀ i, i < 256 → f i = f' i) : Hs w g d m f' := by
  obtain ⟨cs, hb, hs, h0, h1, ht⟩ := h
  exact ⟨cs, hb, hs, h0, h1, fun i hi => by rw [← e i hi]; exact ht i hi⟩
end

theorem shifted_int (x : Int) (s : Nat) (hs : s < 65536) (h : x = s) (w : World) :
    Calls Tryz.prog 244 #[.int .u16 x] w fun e w' => e = .returned (.int .u16 (stN 8 s)) ∧ w = w' := by
  subst h
  exact shifted_any s hs w

/-- the hasher's table is filled in; nothing else has turned -/
def Filled (g : Nat) (d m : Int) (w : World) (e : Ending) (w' : World) : Prop := e = .returned (.tuple #[]) ∧ Hs w' g d m tb ∧ w.grownBy w' (some g)

set_option maxRecDepth 100000 in
set_option maxHeartbeats 1000000 in
theorem fill_any (g : Nat) (d m : Int) (f : Nat → Nat) (w : World) (h : Hs w g d m f) :
    Calls Tryz.prog 178 #[.pointer (some ⟨g, 0, none⟩)] w (Filled g d m w) := by
  go_enter Tryz.func178, Tryz.ntmps178
  go_wp2
  go_loopw [2, 3] (fun a i wr => ∃ k : Nat, k ≤ 256 ∧ i = .int .i64 k ∧ Hs wr g d m (fun j => if j < k then tb j else f j) ∧ w.grownBy wr (some g)) (fun _ i _ => 256 - (intOf i).toNat)
  case atStart => exact ⟨0, by omega, rfl, h.table (fun i _ => by simp), World.grownBy.refl _ _⟩
  case round =>
    obtain ⟨k, hk, rfl, hh, hg⟩ := hrel
    by_cases hk2 : k < 256
    · have c := hh.ct hk2
      have z := hh.fz (3 + k)
      have HW : Hid (IntKind.u16.wrap (IntKind.u16.wrap (k : Int) * 256) = ((k * 256 : Nat) : Int)) := by
        show _ = _
        rw [IntKind.wrap_u16, IntKind.wrap_u16]; omega
      go_wp2
      go_region_with (go_at_call 244; refine (shifted_int _ (k * 256) (by omega) HW.out _).mono ?_; rintro e w' ⟨rfl, rfl⟩)
      go_wp2
      go_roundw
      case rel =>
        refine ⟨k + 1, by omega, by go_num, ?_, ?_⟩
        · refine ((hh.drew).sett hk2 (stN 8 (k * 256))).table fun i hi => ?_
          by_cases e : i = k
          · subst e; simp; rfl
          · rw [if_neg e]
            by_cases e2 : i < k
            · rw [if_pos e2, if_pos (by omega)]
            · rw [if_neg e2, if_neg (by omega)]
        · exact only_setCell (only_drew hg) (.inl rfl) _
      case measure => simp [intOf]; omega
    · obtain rfl : k = 256 := by omega
      go_wp2
      go_end0
      exact ⟨rfl, hh.table fun i hi => by rw [if_pos hi], hg⟩
end Go.Proofs.YteoodompphhkbaaGreatDoor.Slt

/- Do -/
namespace Go.Proofs.YteoodompphhkbaaGreatDoor.Slt
set_option maxRecDepth 100000
open Go.RowKit

theorem disable (w : World) : (callFunc 333 #[]).run Tryz.prog w = .ok (.value (.tuple #[])) w := run_call_mark0 Tryz.func333 (by kernel_rfl) (by kernel_rfl) (by kernel_rfl) .disable (by kernel_rfl) w
theorem enable (w : World) : (callFunc 335 #[]).run Tryz.prog w = .ok (.value (.tuple #[])) w := run_call_mark0 Tryz.func335 (by kernel_rfl) (by kernel_rfl) (by kernel_rfl) .enable (by kernel_rfl) w
theorem acquire (a : Addr) (w : World) : (callFunc 336 #[.pointer (some a)]).run Tryz.prog w = .ok (.value (.tuple #[])) w := run_call_marked Tryz.func336 (by kernel_rfl) (by kernel_rfl) (by kernel_rfl) .acquire (by kernel_rfl) a w
theorem releaseMerge (a : Addr) (w : World) : (callFunc 338 #[.pointer (some a)]).run Tryz.prog w = .ok (.value (.tuple #[])) w := run_call_marked Tryz.func338 (by kernel_rfl) (by kernel_rfl) (by kernel_rfl) .releaseMerge (by kernel_rfl) a w

/-- '(*sync/atomic.Bool).Store(true)', ENTERED AS A DEFERRED CALL: the cell holds 1. -/
theorem store_deferred (a : Addr) (x : Value) (u : FrameMode) (w : World) (hc : w.cell? a = some x) (hz : w.frozen? a = false) :
    CallsD Tryz.prog 283 #[.pointer (some a), .bool true] u w fun e u' w' => u' = u ∧ (e = .returned (.tuple #[]) ∧ w' = w.drew.setCell a (.int .u32 1)) := by
  have hc' : w.drew.cell? a = some x := by go_simp
  have hz' : w.drew.frozen? a = false := by go_simp
  have hst := run_call_store (P := Tryz.prog) Tryz.func316 (by kernel_rfl) (by kernel_rfl) (by kernel_rfl) (by kernel_rfl) (k := .u32) (y := 1) hc' hz'
  go_enter_d Tryz.func283, Tryz.ntmps283
  go_wp2
  go_region_calls
  all_goals (go_end0; exact ⟨rfl, rfl⟩)

/-- '(*sync.Mutex).Unlock', ENTERED AS A DEFERRED CALL, the lock held and nobody waiting (state 1): state 0. -/
theorem unlock_deferred (a : Addr) (u : FrameMode) (w : World) (hc : w.cell? a = some (.int .i32 1)) (hz : w.frozen? a = false) :
    CallsD Tryz.prog 282 #[.pointer (some a)] u w fun e u' w' => u' = u ∧ (e = .returned (.tuple #[]) ∧ w' = w.setCell a (.int .i32 0)) := by
  have hd := disable
  have he := enable
  have hr := releaseMerge
  have hadd := run_call_add (P := Tryz.prog) Tryz.func339 (by kernel_rfl) (by kernel_rfl) (by kernel_rfl) .i32 (by kernel_rfl) (y := -1) (s := 0) hc hz (by simp [go_sem]; rfl)
  have hcv := run_convert_to_unsafe (P := Tryz.prog) (src := 350) (dst := 327) Tryz.underlying350 Tryz.underlying327 (by kernel_rfl) hc
  go_enter_d Tryz.func282, Tryz.ntmps282
  go_wp2
  go_end0
  go_wp2
  go_end0
  exact ⟨rfl, rfl⟩

/-- '(*sync.Mutex).Lock', the lock free (state 0): state 1. -/
theorem lock_free (a : Addr) (w : World) (hc : w.cell? a = some (.int .i32 0)) (hz : w.frozen? a = false) :
    Calls Tryz.prog 281 #[.pointer (some a)] w fun e w' => e = .returned (.tuple #[]) ∧ w' = w.setCell a (.int .i32 1) := by
  have hd := disable
  have he := enable
  have ha := acquire
  have hcas := run_call_cas_hit (P := Tryz.prog) Tryz.func334 (by kernel_rfl) (by kernel_rfl) (by kernel_rfl) .i32 (by kernel_rfl) (y := 1) hc hz
  have hc' : (w.setCell a (.int .i32 1)).cell? a = some (.int .i32 1) := World.cell?_setCell_same w a _ hc
  have hcv := run_convert_to_unsafe (P := Tryz.prog) (src := 350) (dst := 327) Tryz.underlying350 Tryz.underlying327 (by kernel_rfl) hc'
  go_enter Tryz.func281, Tryz.ntmps281
  go_wp2
  first | go_end0 | (simp only [Exit.inBlock, Exit.then]; refine bodyPost_ret (results_none rfl _ _ _) rfl ?_) | refine bodyPost_ret (results_none rfl _ _ _) rfl ?_
  go_wp2
  go_end0
  exact ⟨rfl, rfl⟩

set_option maxRecDepth 100000 in
set_option maxHeartbeats 1600000 in
theorem slow_any (g : Nat) (f : Nat → Nat) (w : World) (h : Hs w g 0 0 f) :
    Calls Tryz.prog 243 #[.pointer (some ⟨g, 0, none⟩), .func (.func 178) #[.pointer (some ⟨g, 0, none⟩)] #[]] w (Filled g 1 0 w) := by
  have h1 := h.set1 1
  have hl := run_call_load (P := Tryz.prog) Tryz.func280 (by kernel_rfl) (by kernel_rfl) (by kernel_rfl) .u32 (by kernel_rfl) h1.c0
  have hnot : ∀ (x : Bool) (w : World), (Op.unary .not (.bool x)).run Tryz.prog w = .ok (.bool (!x)) w := fun _ _ => rfl
  go_enter_defers Tryz.func243, Tryz.ntmps243
  go_wp2_with (first | (go_at_call 281; refine (lock_free ⟨g, 1, none⟩ _ h.c1 (h.fz 1)).mono ?_; rintro e w' ⟨rfl, rfl⟩) | (go_at_call 242; go_in) | (go_at_call 178; refine (fill_any g 0 1 f _ h1).mono ?_; rintro e w1 ⟨rfl, h2, hg2⟩))
  have hg1 : w.grownBy w1 (some g) := (only_setCell (World.grownBy.refl w (some g)) (p := ⟨g, 1, none⟩) (.inl rfl) _).trans hg2
  refine leaves_cons (f := 283) (args := #[.pointer (some ⟨g, 0, none⟩), .bool true]) (by simp) (by simp [go_sem]) ?_
  refine (store_deferred ⟨g, 0, none⟩ (.int .u32 0) .returning _ h2.c0 (h2.fz 0)).mono ?_
  rintro e u' w'' ⟨rfl, rfl, rfl⟩
  have h3 := (h2.drew).set0 1
  refine leaves_cons (f := 282) (args := #[.pointer (some ⟨g, 1, none⟩)]) (by simp [settle]) (by simp [go_sem]) ?_
  refine (unlock_deferred ⟨g, 1, none⟩ _ _ h3.c1 (h3.fz 1)).mono ?_
  rintro e u' w'' ⟨rfl, rfl, rfl⟩
  have hfin : Filled g 1 0 w (.returned (.tuple #[])) ((w1.drew.setCell ⟨g, 0, none⟩ (.int .u32 1)).setCell ⟨g, 1, none⟩ (.int .i32 0)) :=
    ⟨rfl, h3.set1 0, only_setCell (only_setCell (only_drew hg1) (.inl rfl) _) (.inl rfl) _⟩
  simpa [Leaves, settle, results, Tryz.results243] using hfin

/-- '(*sync.Once).Do', not yet done, the lock free: the table is filled in. -/
theorem do_first (g : Nat) (f : Nat → Nat) (w : World) (h : Hs w g 0 0 f) :
    Calls Tryz.prog 177 #[.pointer (some ⟨g, 0, none⟩), .func (.func 178) #[.pointer (some ⟨g, 0, none⟩)] #[]] w (Filled g 1 0 w) := by
  have hl := run_call_load (P := Tryz.prog) Tryz.func280 (by kernel_rfl) (by kernel_rfl) (by kernel_rfl) .u32 (by kernel_rfl) h.c0
  have hnot : ∀ (x : Bool) (w : World), (Op.unary .not (.bool x)).run Tryz.prog w = .ok (.bool (!x)) w := fun _ _ => rfl
  go_enter Tryz.func177, Tryz.ntmps177
  go_wp2_with (first | (go_at_call 243; refine (slow_any g f _ h).mono ?_; rintro e w1 ⟨rfl, h2, hg2⟩) | (go_at_call 242; go_in))
  go_end0
  exact ⟨rfl, h2, hg2⟩

/-- '(*sync.Once).Do', done already: the function is not called. -/
theorem do_done (g : Nat) (m : Int) (f : Nat → Nat) (fv : Value) (w : World) (h : Hs w g 1 m f) :
    Calls Tryz.prog 177 #[.pointer (some ⟨g, 0, none⟩), fv] w fun e w' => e = .returned (.tuple #[]) ∧ w = w' := by
  have hl := run_call_load (P := Tryz.prog) Tryz.func280 (by kernel_rfl) (by kernel_rfl) (by kernel_rfl) .u32 (by kernel_rfl) h.c0
  have hnot : ∀ (x : Bool) (w : World), (Op.unary .not (.bool x)).run Tryz.prog w = .ok (.bool (!x)) w := fun _ _ => rfl
  go_enter Tryz.func177, Tryz.ntmps177
  go_wp2
  go_end0
  exact ⟨rfl, rfl⟩
end Go.Proofs.YteoodompphhkbaaGreatDoor.Slt

/- Bytes -/
namespace Go.Proofs.YteoodompphhkbaaGreatDoor.Slt
set_option maxRecDepth 100000
open Go.RowKit

/-- bytes as cells -/
def bs (l : List UInt8) : List Value := l.map fun c => .int .u8 (c.toNat : Int)
theorem bs_at {l : List UInt8} {k : Nat} {u : Value} (h : (bs l)[k]? = some u) : ∃ c, l[k]? = some c ∧ u = .int .u8 (c.toNat : Int) := by
  unfold bs at h
  rw [List.getElem?_map] at h
  cases e : l[k]? with
  | none => rw [e] at h; cases h
  | some c => rw [e] at h; injection h with h; exact ⟨c, rfl, h.symm⟩
theorem take_snoc {l : List UInt8} {k : Nat} {c : UInt8} (h : l[k]? = some c) : l.take (k + 1) = l.take k ++ [c] := by
  rw [List.take_add_one, h]; rfl

/-- a string of these bytes -/
def str (l : List UInt8) : ByteArray := ⟨l.toArray⟩

theorem str_toList (l : List UInt8) : (str l).toList = l := by rw [Lib.toList_data]; rfl
theorem str_ext0 (l : List UInt8) (i : Nat) : (str l).extract 0 i = str (l.take i) := by rw [Lib.extract_eq]; simp [str]
theorem str_ext (l : List UInt8) (i : Nat) : (str l).extract i l.length = str (l.drop i) := by
  rw [Lib.extract_eq]
  simp only [str]
  rw [List.take_of_length_le (by simp)]
end Go.Proofs.YteoodompphhkbaaGreatDoor.Slt

/- Ref -/
namespace Go.Proofs.YteoodompphhkbaaGreatDoor.Slt
set_option maxRecDepth 100000
open Go.RowKit

end Go.Proofs.YteoodompphhkbaaGreatDoor.Slt

/- More -/
namespace Go.Proofs.YteoodompphhkbaaGreatDoor.Slt
set_option maxRecDepth 100000
open Go.RowKit

/-- block g is a hasher, not used yet or used -/
def Hx (w : World) (g : Nat) : Prop := (∃ f, Hs w g 0 0 f) ∨ Hs w g 1 0 tb
theorem Hx.lt {w : World} {g : Nat} (h : Hx w g) : g < w.heap.size := by
  rcases h with ⟨f, h⟩ | h
  · exact h.lt
  · exact h.lt
theorem Hx.grown {w w' : World} {g : Nat} {row : Option Nat} (h : Hx w g) (hb : w.grownBy w' row) (hg : some g ≠ row) : Hx w' g := by
  rcases h with ⟨f, h⟩ | h
  · exact .inl ⟨f, h.grown hb hg⟩
  · exact .inr (h.grown hb hg)
theorem do_any (g : Nat) (w : World) (h : Hx w g) :
    Calls Tryz.prog 177 #[.pointer (some ⟨g, 0, none⟩), .func (.func 178) #[.pointer (some ⟨g, 0, none⟩)] #[]] w (Filled g 1 0 w) := by
  rcases h with ⟨f, h⟩ | h
  · exact do_first g f w h
  · refine (do_done g 0 tb _ w h).mono ?_
    rintro e w' ⟨rfl, rfl⟩
    exact ⟨rfl, h, World.grownBy.refl _ _⟩

/-- a new hasher lies in the next block -/
def Newly (w : World) (e : Ending) (w' : World) : Prop := e = .returned (.pointer (some ⟨w.heap.size, 0, none⟩)) ∧ Hx w' w.heap.size ∧ Below w.heap.size w w'

def zcs : Array Value := ⟨.int .u32 0 :: .int .i32 0 :: .int .u32 0 :: List.replicate 256 (.int .u16 0)⟩
theorem app3 (a b c v : Value) (n i : Nat) (h : i < n) : (a :: b :: c :: List.replicate n v)[3 + i]? = some v := by
  rw [show 3 + i = i + 1 + 1 + 1 from by omega]
  simp [h]
theorem app3_len (a b c v : Value) (n : Nat) : (a :: b :: c :: List.replicate n v).length = n + 3 := by simp
theorem zcs_at (i : Nat) (hi : i < 256) : zcs[3 + i]? = some (.int .u16 ((0 : Nat) : Int)) := by
  unfold zcs
  rw [List.getElem?_toArray]
  exact app3 _ _ _ _ 256 i hi
theorem zero_hasher (w : World) : (zeroValue 151).run Tryz.prog w = .ok (.agg zcs) w := by kernel_rfl

set_option maxRecDepth 100000 in
theorem new_any (w : World) : Calls Tryz.prog 37 #[] w (Newly w) := by
  have hz := zero_hasher
  go_enter Tryz.func37, Tryz.ntmps37
  go_wp2
  have hnew := Blk.new w 151 zcs
  go_ret
  exact ⟨rfl, .inl ⟨fun _ => 0, zcs, hnew, app3_len _ _ _ _ 256, rfl, rfl, fun i hi => zcs_at i hi⟩, (Below.refl _ _).alloc (Nat.le_refl _) _⟩

/-- what More and Sum come to -/
def Summed (g : Nat) (r : Nat) (w : World) (e : Ending) (w' : World) : Prop := e = .returned (.int .i64 (r : Nat)) ∧ Hs w' g 1 0 tb ∧ w.grownBy w' (some g)

theorem more_step (s c : Nat) (hs : s < 65536) (hc : c < 256) :
    ∃ x : Nat, x < 256 ∧ bits .xor .u8 ((s : Int) / 256) (c : Int) = (x : Int) ∧ Hid (bits .xor .u16 (IntKind.u16.wrap ((s : Int) * 256)) (tb x : Int) = (up s c : Int)) := by
  refine ⟨s / 256 ^^^ c, Nat.xor_lt_two_pow (n := 8) (by omega) hc, ?_, ?_⟩
  · have e := u8_xor_nat (s / 256) c (by omega) hc
    rw [← e]
    rfl
  · have e := u16_xor_nat (s * 256 % 65536) (tb (s / 256 ^^^ c)) (by omega) (tb_lt _ (Nat.xor_lt_two_pow (n := 8) (by omega) hc))
    show _ = _
    rw [up_tab s c hs hc, ← e]
    congr 1

set_option maxRecDepth 100000 in
set_option maxHeartbeats 1000000 in
theorem more_any (A : Option Addr) (n cap g : Nat) (l : List UInt8) (s : Nat) (hs : s < 65536) (w : World) (hn : n ≤ 9223372036854775807) (hr : Reads w g A n (bs l)) (hh : Hx w g) :
    Calls Tryz.prog 101 #[.pointer (some ⟨g, 0, none⟩), .int .i64 s, .slice A n cap] w (Summed g (crc s l) w) := by
  have hl : l.length = n := by have := hr.1; simpa [bs] using this
  have HL := Lib.hid hl
  clear hl
  have hmf : ∀ (fn : Fn) (first cap : Array Value) (w : World), (Instr.makeFunc fn first cap).run Tryz.prog w = .ok (.func fn first cap) w := fun _ _ _ _ => rfl
  go_enter Tryz.func101, Tryz.ntmps101
  go_wp2_with (go_at_call 177; refine (do_any g _ hh).mono ?_; rintro e w1 ⟨rfl, h1, hg1⟩)
  have hr1 := hr.only hg1
  go_loopw [7, 9, 20] (fun a c i wr => ∃ k : Nat, k ≤ n ∧ i = .int .i64 k ∧ a = .int .u16 (crc s (l.take k)) ∧ Hs wr g 1 0 tb ∧ w.grownBy wr (some g) ∧ Reads wr g A n (bs l)) (fun _ _ i _ => n - (intOf i).toNat)
  case atStart => exact ⟨0, by omega, rfl, rfl, h1, hg1, hr1⟩
  case round =>
    obtain ⟨k, hk, rfl, rfl, hh1, hgr, hrr⟩ := hrel
    have hlt := crc_lt s (l.take k) hs
    by_cases hkn : k < n
    · obtain ⟨ad, u, rfl, hx, hc⟩ := hrr.at_ hkn
      obtain ⟨c, hlc, rfl⟩ := bs_at hx
      obtain ⟨x, hx256, hxe, HT⟩ := more_step (crc s (l.take k)) c.toNat hlt (UInt8.toNat_lt c)
      have hcell := hh1.ct hx256
      have HN : Hid (crc s (l.take (k + 1)) = up (crc s (l.take k)) c.toNat) := by rw [take_snoc hlc, crc_snoc]; rfl
      clear hx hlc
      go_wp2
      go_roundw
      case rel => exact ⟨k + 1, by omega, by go_num, by rw [HN.out, HT.out], hh1, hgr, hrr⟩
      case measure => simp [intOf]; omega
    · obtain rfl : k = n := by omega
      go_wp2
      go_ret
      exact ⟨ret_int (by rw [List.take_of_length_le (by rw [HL.out]; exact Nat.le_refl _)]), hh1, hgr⟩

theorem sum_any (A : Option Addr) (n cap g : Nat) (l : List UInt8) (w : World) (hn : n ≤ 9223372036854775807) (hr : Reads w g A n (bs l)) (hh : Hx w g) :
    Calls Tryz.prog 54 #[.pointer (some ⟨g, 0, none⟩), .slice A n cap] w (Summed g (crc 0 l) w) := by
  go_enter Tryz.func54, Tryz.ntmps54
  go_wp2_with (go_at_call 101; refine (more_any A n cap g l 0 (by omega) _ hn hr hh).mono ?_; rintro e w1 ⟨rfl, h1, hg1⟩)
  go_ret
  exact ⟨rfl, h1, hg1⟩
end Go.Proofs.YteoodompphhkbaaGreatDoor.Slt

/- Tag -/
namespace Go.Proofs.YteoodompphhkbaaGreatDoor.Slt
set_option maxRecDepth 100000
open Go.RowKit

theorem ixb (l : List UInt8) (c : UInt8) (w : World) :
    (callFunc 326 #[.string (str l), .int .u8 (c.toNat : Int)]).run Tryz.prog w = .ok (.value (.int .i64 (Lib.indexByte l c))) w := by
  rw [run_callFunc_extern Tryz.func326 (by kernel_rfl) (by kernel_rfl) (by kernel_rfl) (e := Extern.BytealgIndexByte.indexByte) (by kernel_rfl), Lib.run_indexByteString]
  have e : (str l).data.toList = l := rfl
  rw [e]
  simp [Result.andThen]

set_option maxRecDepth 100000 in
theorem indexbyte_any (l : List UInt8) (c : UInt8) (w : World) :
    Calls Tryz.prog 302 #[.string (str l), .int .u8 (c.toNat : Int)] w fun e w' => e = .returned (.int .i64 (Lib.indexByte l c)) ∧ w = w' := by
  have hx := ixb l c
  go_enter Tryz.func302, Tryz.ntmps302
  go_wp2
  go_ret
  exact ⟨rfl, rfl⟩

set_option maxRecDepth 100000 in
theorem index_any (l : List UInt8) (c : UInt8) (w : World) :
    Calls Tryz.prog 269 #[.string (str l), .string (str [c])] w fun e w' => e = .returned (.int .i64 (Lib.indexByte l c)) ∧ w = w' := by
  have hsz1 : (str [c]).size = 1 := rfl
  have hc0 : (str [c])[0]'(by rw [hsz1]; omega) = c := rfl
  by_cases hl : [c] = l
  · have hq : ((str [c]).toList == (str l).toList) = true := by rw [str_toList, str_toList]; simpa using hl
    have HF : Hid (Lib.indexByte l c = 0) := by subst hl; show _ = _; simp [Lib.indexByte]
    clear hl
    go_enter Tryz.func269, Tryz.ntmps269
    go_wp2
    go_ret
    exact ⟨by rw [HF.out]; rfl, rfl⟩
  · have hq : ((str [c]).toList == (str l).toList) = false := by rw [str_toList, str_toList]; simpa using hl
    clear hl
    go_enter Tryz.func269, Tryz.ntmps269
    go_wp2_with (go_at_call 302; refine (indexbyte_any l c _).mono ?_; rintro e w' ⟨rfl, rfl⟩)
    go_ret
    exact ⟨rfl, rfl⟩

/-- what a cut at one byte comes to -/
def cutL (l : List UInt8) (c : UInt8) : List UInt8 × List UInt8 × Bool :=
  if 0 ≤ Lib.indexByte l c then (l.take (Lib.indexByte l c).toNat, l.drop ((Lib.indexByte l c).toNat + 1), true) else (l, [], false)

set_option maxRecDepth 100000 in
set_option maxHeartbeats 1000000 in
theorem slcut_any (l : List UInt8) (c : UInt8) (w : World) (hs : l.length ≤ 4611686018427387904) :
    Calls Tryz.prog 223 #[.string (str l), .string (str [c])] w fun e w' => e = .returned (.tuple #[.string (str (cutL l c).1), .string (str (cutL l c).2.1), .bool (cutL l c).2.2]) ∧ ∃ n, w' = w.drewN n := by
  have hsz1 : (str [c]).size = 1 := rfl
  have hsz : (str l).size = l.length := rfl
  by_cases hi : 0 ≤ Lib.indexByte l c
  · obtain ⟨i, hie⟩ := Int.eq_ofNat_of_zero_le hi
    have hlt : i < l.length := by
      have := (Lib.indexByte_some hie).1
      rcases Nat.lt_or_ge i l.length with h | h
      · exact h
      · rw [List.getElem?_eq_none h] at this; cases this
    have HC : Hid (cutL l c = (l.take i, l.drop (i + 1), true)) := by
      show _ = _
      unfold cutL
      rw [if_pos hi, hie]
      simp
    have hx := str_ext0 l i
    have hy := str_ext l (i + 1)
    have HI := Lib.hid hie
    clear hi hie
    go_enter Tryz.func223, Tryz.ntmps223
    go_wp2_with (go_at_call 269; refine (index_any l c _).mono ?_; rintro e w' ⟨rfl, rfl⟩; rw [HI.out])
    go_region
    go_wp2
    go_ret3
    exact ⟨by rw [HC.out]; rfl, 1, rfl⟩
  · have HC : Hid (cutL l c = (l, [], false)) := by
      show _ = _
      unfold cutL
      rw [if_neg hi]
    have hneg : (Lib.indexByte l c) < 0 := by omega
    go_enter Tryz.func223, Tryz.ntmps223
    go_wp2_with (go_at_call 269; refine (index_any l c _).mono ?_; rintro e w' ⟨rfl, rfl⟩)
    go_ret3
    exact ⟨by rw [HC.out]; rfl, 0, rfl⟩

theorem cut_any (l : List UInt8) (c : UInt8) (w : World) (hs : l.length ≤ 4611686018427387904) :
    Calls Tryz.prog 151 #[.string (str l), .string (str [c])] w fun e w' => e = .returned (.tuple #[.string (str (cutL l c).1), .string (str (cutL l c).2.1), .bool (cutL l c).2.2]) ∧ ∃ n, w' = w.drewN n := by
  go_enter Tryz.func151, Tryz.ntmps151
  go_wp2_with (go_at_call 223; refine (slcut_any l c _ hs).mono ?_; rintro e w' ⟨rfl, n, rfl⟩)
  go_ret3
  exact ⟨rfl, n, rfl⟩

/-- what counts of a key -/
def tagL (l : List UInt8) : List UInt8 := if (cutL (cutL l 123).2.1 125).2.2 && !(cutL (cutL l 123).2.1 125).1.isEmpty then (cutL (cutL l 123).2.1 125).1 else l
theorem cut_behind_le (l : List UInt8) (c : UInt8) : (cutL l c).2.1.length ≤ l.length := by
  unfold cutL
  split
  · simp
  · simp

set_option maxRecDepth 100000 in
set_option maxHeartbeats 1000000 in
theorem tag_any (l : List UInt8) (w : World) (hs : l.length ≤ 4611686018427387904) :
    Calls Tryz.prog 82 #[.string (str l)] w fun e w' => e = .returned (.string (str (tagL l))) ∧ ∃ n, w' = w.drewN n := by
  have hle := cut_behind_le l 123
  obtain ⟨b, hb⟩ : ∃ b, b = (cutL l 123).2.1 := ⟨_, rfl⟩
  obtain ⟨t, ht⟩ : ∃ t, t = cutL b 125 := ⟨_, rfl⟩
  have HB := Lib.hid hb
  have hbl : b.length ≤ 4611686018427387904 := by rw [hb]; omega
  have HT := Lib.hid ht
  have HX : Hid (tagL l = if t.2.2 && !t.1.isEmpty then t.1 else l) := by
    show _ = _
    unfold tagL
    rw [← hb, ← ht]
  clear hb ht
  obtain ⟨t1, t2, t3⟩ := t
  cases t3 with
  | false =>
    have HY : Hid (tagL l = l) := by show _ = _; rw [HX.out]; rfl
    clear HX
    go_enter Tryz.func82, Tryz.ntmps82
    go_wp2_with (fail)
    refine (cut_any l 123 _ hs).mono ?_
    rintro e w' ⟨rfl, n, rfl⟩
    rw [← HB.out]
    go_wp2_with (fail)
    refine (cut_any b 125 _ hbl).mono ?_
    rintro e w' ⟨rfl, m, rfl⟩
    rw [← HT.out]
    go_wp2
    go_ret
    exact ⟨by rw [HY.out]; rfl, _, rfl⟩
  | true =>
    cases t1 with
    | nil =>
      have HY : Hid (tagL l = l) := by show _ = _; rw [HX.out]; rfl
      have he : (str []).toList.isEmpty = true := by rw [str_toList]; rfl
      clear HX
      go_enter Tryz.func82, Tryz.ntmps82
      go_wp2_with (fail)
      refine (cut_any l 123 _ hs).mono ?_
      rintro e w' ⟨rfl, n, rfl⟩
      rw [← HB.out]
      go_wp2_with (fail)
      refine (cut_any b 125 _ hbl).mono ?_
      rintro e w' ⟨rfl, m, rfl⟩
      rw [← HT.out]
      go_wp2
      go_ret
      exact ⟨by rw [HY.out]; rfl, _, rfl⟩
    | cons c0 r =>
      have HY : Hid (tagL l = c0 :: r) := by show _ = _; rw [HX.out]; rfl
      generalize hg : c0 :: r = t1 at *
      have he : (str t1).toList.isEmpty = false := by rw [str_toList, ← hg]; rfl
      clear HX hg
      go_enter Tryz.func82, Tryz.ntmps82
      go_wp2_with (fail)
      refine (cut_any l 123 _ hs).mono ?_
      rintro e w' ⟨rfl, n, rfl⟩
      rw [← HB.out]
      go_wp2_with (fail)
      refine (cut_any b 125 _ hbl).mono ?_
      rintro e w' ⟨rfl, m, rfl⟩
      rw [← HT.out]
      go_wp2
      go_ret
      exact ⟨by rw [HY.out]; rfl, _, rfl⟩
end Go.Proofs.YteoodompphhkbaaGreatDoor.Slt

/- Slot -/
namespace Go.Proofs.YteoodompphhkbaaGreatDoor.Slt
set_option maxRecDepth 100000
open Go.RowKit

/-- what '[]byte(s)' lays -/
def bobj (l : List UInt8) (c : Nat) : Obj := .cells (bytesRow (str l) c) 5 ((bytesRow (str l) c).size, (bytesRow (str l) c).size + 1)
def bcap (l : List UInt8) (w : World) : Nat := grownCap w l.length 0 5
theorem to_bytes (l : List UInt8) (w : World) : (convert 9 41 (.string (str l))).run Tryz.prog w = .ok (.slice (some ⟨w.heap.size, 0, none⟩) l.length (bcap l w)) (w.drew.alloc (bobj l (bcap l w))) :=
  run_bytes_of_string w 9 41 5 (str l) Tryz.underlying9 Tryz.underlying41 Tryz.underlying5
theorem bytes_read (l : List UInt8) (c g : Nat) (w : World) (hg : g ≠ w.heap.size) : Reads (w.alloc (bobj l c)) g (some ⟨w.heap.size, 0, none⟩) l.length (bs l) := by
  refine ⟨by simp [bs], fun _ => ⟨_, rfl, by simp, fun e => hg e.symm, fun j u hu => ?_⟩⟩
  obtain ⟨b, hb, rfl⟩ := bs_at hu
  have hj : j < l.length := by
    rcases Nat.lt_or_ge j l.length with h | h
    · exact h
    · rw [List.getElem?_eq_none h] at hb; cases hb
  have e : (⟨w.heap.size, 0, none⟩ : Addr).add j = ⟨w.heap.size, j, none⟩ := by
    unfold Addr.add
    by_cases h : j = 0
    · subst h; rfl
    · simp [h]
  rw [e]
  unfold bobj
  rw [World.cell?_alloc_mark, bytesRow_at (str l) c j hj]
  rw [List.getElem?_eq_getElem hj] at hb
  injection hb with hb
  subst hb
  rfl

theorem cut_ahead_le (l : List UInt8) (c : UInt8) : (cutL l c).1.length ≤ l.length := by
  unfold cutL
  by_cases h : 0 ≤ Lib.indexByte l c
  · rw [if_pos h]; simp only [List.length_take]; omega
  · rw [if_neg h]; exact Nat.le_refl _
theorem tagL_le (l : List UInt8) : (tagL l).length ≤ l.length := by
  unfold tagL
  split
  · have h1 := cut_behind_le l 123
    have h2 := cut_ahead_le (cutL l 123).2.1 125
    omega
  · exact Nat.le_refl _

set_option maxRecDepth 100000 in
set_option maxHeartbeats 1000000 in
theorem slot_any (g : Nat) (l : List UInt8) (w : World) (hs : l.length ≤ 4611686018427387904) (hh : Hx w g) :
    Calls Tryz.prog 38 #[.pointer (some ⟨g, 0, none⟩), .string (str l)] w (Summed g (crc 0 (tagL l) % 64) w) := by
  have hcv := to_bytes (tagL l)
  have hle := tagL_le l
  have hlt := hh.lt
  have hlc := crc_lt 0 (tagL l) (by omega)
  go_enter Tryz.func38, Tryz.ntmps38
  go_wp2_with (go_at_call 82; refine (tag_any l _ hs).mono ?_; rintro e w' ⟨rfl, n, rfl⟩)
  have hg1 : w.grownBy ((w.drewN (n + 1)).alloc (bobj (tagL l) (bcap (tagL l) (w.drewN n)))) (some g) := only_alloc (only_drewN (World.grownBy.refl _ _) _) _
  have hg2 : w.grownBy ((w.drewN (n + 1)).alloc (bobj (tagL l) (bcap (tagL l) (w.drewN n)))) none := only_alloc (only_drewN (World.grownBy.refl _ _) _) _
  refine (sum_any _ _ _ g (tagL l) _ (by omega) (bytes_read (tagL l) _ g (w.drewN (n + 1)) (by show g ≠ w.heap.size; omega)) (hh.grown hg2 (by simp))).mono ?_
  rintro e w1 ⟨rfl, h1, hg3⟩
  go_wp2
  go_ret
  exact ⟨by rfl, h1, hg1.trans hg3⟩

end Go.Proofs.YteoodompphhkbaaGreatDoor.Slt
