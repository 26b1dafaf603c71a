/-
  WHAT IS PROVED: contracts of the hasher's calls New, More, Sum: the sum is the document's, the table is full behind it, nothing but the hasher's block has turned. Condition: block g is a hasher; the slice's cells are there, in another block.
-/
import Derived.Test.YtneanlffllejnaaDo
import Derived.Test.YtneanlffllejnaaRef
namespace Go.Proofs.Ytneanlffllejnaa
open Go.RowKit

/-- block g is a hasher, not used yet or used -/
def Hx (w : World) (g : Nat) : Prop := (∃ f, Hs w g 0 0 f) ∨ Hs w g 1 0 tb
theorem Hx.lt {w : World} {g : Nat} (h : Hx w g) : g < w.heap.size := by
  rcases h with ⟨f, h⟩ | h
  · exact h.lt
  · exact h.lt
theorem Hx.used {w : World} {g : Nat} (h : Hs w g 1 0 tb) : Hx w g := .inr h
theorem Hx.grown {w w' : World} {g : Nat} {row : Option Nat} (h : Hx w g) (hb : w.grownBy w' row) (hg : some g ≠ row) : Hx w' g := by
  rcases h with ⟨f, h⟩ | h
  · exact .inl ⟨f, h.grown hb hg⟩
  · exact .inr (h.grown hb hg)
theorem Hx.below {w w' : World} {g B : Nat} (h : Hx w g) (hb : Below B w w') (hg : g < B) : Hx w' g := by
  rcases h with ⟨f, h⟩ | h
  · exact .inl ⟨f, h.below hb hg⟩
  · exact .inr (h.below hb hg)

theorem do_any (g : Nat) (w : World) (h : Hx w g) :
    Calls Try.prog 49 #[.pointer (some ⟨g, 0, none⟩), .func (.func 50) #[.pointer (some ⟨g, 0, none⟩)] #[]] w (Filled g 1 0 w) := by
  rcases h with ⟨f, h⟩ | h
  · exact do_first g f w h
  · refine (do_done g 0 tb _ w h).mono ?_
    rintro e w' ⟨rfl, rfl⟩
    exact ⟨rfl, h, World.grownBy.refl _ _⟩

/-- a new hasher lies in the next block -/
def Newly (w : World) (e : Ending) (w' : World) : Prop := e = .returned (.pointer (some ⟨w.heap.size, 0, none⟩)) ∧ Hx w' w.heap.size ∧ Below w.heap.size w w'

def zcs : Array Value := ⟨.int .u32 0 :: .int .i32 0 :: .int .u32 0 :: List.replicate 256 (.int .u16 0)⟩
theorem app3 (a b c v : Value) (n i : Nat) (h : i < n) : (a :: b :: c :: List.replicate n v)[3 + i]? = some v := by
  rw [show 3 + i = i + 1 + 1 + 1 from by omega]
  simp [h]
theorem app3_len (a b c v : Value) (n : Nat) : (a :: b :: c :: List.replicate n v).length = n + 3 := by simp
theorem zcs_at (i : Nat) (hi : i < 256) : zcs[3 + i]? = some (.int .u16 ((0 : Nat) : Int)) := by
  unfold zcs
  rw [List.getElem?_toArray]
  exact app3 _ _ _ _ 256 i hi
theorem zero_hasher (w : World) : (zeroValue 87).run Try.prog w = .ok (.agg zcs) w := by kernel_rfl

set_option maxRecDepth 100000 in
theorem new_any (w : World) : Calls Try.prog 40 #[] w (Newly w) := by
  have hz := zero_hasher
  go_enter Try.func40, Try.ntmps40
  go_wp2
  have hnew := Blk.new w 87 zcs
  go_ret
  exact ⟨rfl, .inl ⟨fun _ => 0, zcs, hnew, app3_len _ _ _ _ 256, rfl, rfl, fun i hi => zcs_at i hi⟩, (Below.refl _ _).alloc (Nat.le_refl _) _⟩

/-- what More and Sum come to -/
def Summed (g : Nat) (r : Nat) (w : World) (e : Ending) (w' : World) : Prop := e = .returned (.int .i64 (r : Nat)) ∧ Hs w' g 1 0 tb ∧ w.grownBy w' (some g)

theorem more_step (s c : Nat) (hs : s < 65536) (hc : c < 256) :
    ∃ x : Nat, x < 256 ∧ bits .xor .u8 ((s : Int) / 256) (c : Int) = (x : Int) ∧ Hid (bits .xor .u16 (IntKind.u16.wrap ((s : Int) * 256)) (tb x : Int) = (up s c : Int)) := by
  refine ⟨s / 256 ^^^ c, Nat.xor_lt_two_pow (n := 8) (by omega) hc, ?_, ?_⟩
  · have e := u8_xor_nat (s / 256) c (by omega) hc
    rw [← e]
    rfl
  · have e := u16_xor_nat (s * 256 % 65536) (tb (s / 256 ^^^ c)) (by omega) (tb_lt _ (Nat.xor_lt_two_pow (n := 8) (by omega) hc))
    show _ = _
    rw [up_tab s c hs hc, ← e]
    congr 1

set_option maxRecDepth 100000 in
set_option maxHeartbeats 1000000 in
theorem more_any (A : Option Addr) (n cap g : Nat) (l : List UInt8) (s : Nat) (hs : s < 65536) (w : World) (hn : n ≤ 9223372036854775807) (hr : Reads w g A n (bs l)) (hh : Hx w g) :
    Calls Try.prog 46 #[.pointer (some ⟨g, 0, none⟩), .int .i64 s, .slice A n cap] w (Summed g (crc s l) w) := by
  have hl : l.length = n := by have := hr.1; simpa [bs] using this
  have HL := Lib.hid hl
  clear hl
  have hmf : ∀ (fn : Fn) (first cap : Array Value) (w : World), (Instr.makeFunc fn first cap).run Try.prog w = .ok (.func fn first cap) w := fun _ _ _ _ => rfl
  go_enter Try.func46, Try.ntmps46
  go_wp2_with (go_at_call 49; refine (do_any g _ hh).mono ?_; rintro e w1 ⟨rfl, h1, hg1⟩)
  have hr1 := hr.only hg1
  go_loopw [7, 9, 20] (fun a c i wr => ∃ k : Nat, k ≤ n ∧ i = .int .i64 k ∧ a = .int .u16 (crc s (l.take k)) ∧ Hs wr g 1 0 tb ∧ w.grownBy wr (some g) ∧ Reads wr g A n (bs l)) (fun _ _ i _ => n - (intOf i).toNat)
  case atStart => exact ⟨0, by omega, rfl, rfl, h1, hg1, hr1⟩
  case round =>
    obtain ⟨k, hk, rfl, rfl, hh1, hgr, hrr⟩ := hrel
    have hlt := crc_lt s (l.take k) hs
    by_cases hkn : k < n
    · obtain ⟨ad, u, rfl, hx, hc⟩ := hrr.at_ hkn
      obtain ⟨c, hlc, rfl⟩ := bs_at hx
      obtain ⟨x, hx256, hxe, HT⟩ := more_step (crc s (l.take k)) c.toNat hlt (UInt8.toNat_lt c)
      have hcell := hh1.ct hx256
      have HN : Hid (crc s (l.take (k + 1)) = up (crc s (l.take k)) c.toNat) := by rw [take_snoc hlc, crc_snoc]; rfl
      clear hx hlc
      go_wp2
      go_roundw
      case rel => exact ⟨k + 1, by omega, by go_num, by rw [HN.out, HT.out], hh1, hgr, hrr⟩
      case measure => simp [intOf]; omega
    · obtain rfl : k = n := by omega
      go_wp2
      go_ret
      exact ⟨ret_int (by rw [List.take_of_length_le (by rw [HL.out]; exact Nat.le_refl _)]), hh1, hgr⟩

theorem sum_any (A : Option Addr) (n cap g : Nat) (l : List UInt8) (w : World) (hn : n ≤ 9223372036854775807) (hr : Reads w g A n (bs l)) (hh : Hx w g) :
    Calls Try.prog 41 #[.pointer (some ⟨g, 0, none⟩), .slice A n cap] w (Summed g (crc 0 l) w) := by
  go_enter Try.func41, Try.ntmps41
  go_wp2_with (go_at_call 46; refine (more_any A n cap g l 0 (by omega) _ hn hr hh).mono ?_; rintro e w1 ⟨rfl, h1, hg1⟩)
  go_ret
  exact ⟨rfl, h1, hg1⟩
end Go.Proofs.Ytneanlffllejnaa
