/-
  WHAT IS PROVED: contracts of the document's eight bytes of a number (a new slice), and of the two bytes of the sum. Condition: the bytes summed are there.
-/
import Derived.Test.YtneanlffllejnaaWrite
import Derived.Test.YtneanlffllejnaaMore
namespace Go.Proofs.Ytneanlffllejnaa
open Go.RowKit Go.Lib

def zobj (n : Nat) : Obj := .cells (bs (List.replicate n 0)).toArray 5
theorem made_eq (n : Nat) : madeCells (Value.cells (.int .u8 0)) n = (bs (List.replicate n 0)).toArray := by
  apply Array.ext
  · simp [madeCells, bs]
  · intro i h1 h2
    simp [madeCells, bs, Value.cells, Nat.mod_one]
theorem run_mk (n : Nat) (hn : n ≤ 4096) (w : World) : (Instr.makeSlice 32 (.int .i64 (n : Int)) (.int .i64 (n : Int))).run Try.prog w = .ok (.slice (some ⟨w.heap.size, 0, none⟩) n n) (w.alloc (zobj n)) := by
  obtain ⟨i0, hi0, hz0, hz1, hz2⟩ := info_parts u8_info
  have hr := run_make (P := Try.prog) w 32 5 i0 _ Try.underlying32 hi0 hz0 .i64 .i64 n n (by omega) (Int.le_refl _) (by rw [hz2]; omega) (by omega)
  simp only [Int.toNat_natCast, hz1, Nat.mul_one] at hr
  rw [hr, made_eq]
  rfl
theorem blk_reads {w : World} {g b n : Nat} {l : List UInt8} (h : Blk w b 5 (bs l).toArray) (hl : l.length = n) (hne : b ≠ g) : Reads w g (some ⟨b, 0, none⟩) n (bs l) := by
  refine ⟨by simp [bs, hl], fun _ => ⟨_, rfl, h.lt, hne, fun j u hu => ?_⟩⟩
  have e : (⟨b, 0, none⟩ : Addr).add j = ⟨b, j, none⟩ := by
    unfold Addr.add
    by_cases h : j = 0
    · subst h; rfl
    · simp [h]
  rw [e, h.cell j, List.getElem?_toArray]
  exact hu

/-- the bytes when k are written, the last first -/
def part (n k : Nat) : List UInt8 := List.replicate (8 - k) 0 ++ (eight n).drop (8 - k)
theorem part_len (n k : Nat) (hk : k ≤ 8) : (part n k).length = 8 := by unfold part; rw [List.length_append, List.length_replicate, List.length_drop, eight_len]; omega
theorem part_step (n k r : Nat) (hk : k < 8) (hr : r = 7 - k) : (bs (part n k)).toArray.setIfInBounds r (.int .u8 ((n / 256 ^ k : Nat) % 256 : Int)) = (bs (part n (k + 1))).toArray := by
  subst hr
  match k, hk with
  | 0, _ => simp [part, eight, bs, b8_nat, List.replicate]
  | 1, _ => simp [part, eight, bs, b8_nat, List.replicate]
  | 2, _ => simp [part, eight, bs, b8_nat, List.replicate]
  | 3, _ => simp [part, eight, bs, b8_nat, List.replicate]
  | 4, _ => simp [part, eight, bs, b8_nat, List.replicate]
  | 5, _ => simp [part, eight, bs, b8_nat, List.replicate]
  | 6, _ => simp [part, eight, bs, b8_nat, List.replicate]
  | 7, _ => simp [part, eight, bs, b8_nat]

set_option maxRecDepth 100000 in
set_option maxHeartbeats 1000000 in
theorem eight_any (n : Nat) (hn : n < 18446744073709551616) (w : World) :
    Calls Try.prog 36 #[.int .u64 (n : Int)] w fun e w' => e = .returned (.slice (some ⟨w.heap.size, 0, none⟩) 8 8) ∧ Blk w' w.heap.size 5 (bs (eight n)).toArray ∧ Below w.heap.size w w' := by
  have hmk : ∀ w : World, (Instr.makeSlice 32 (.int .i64 8) (.int .i64 8)).run Try.prog w = .ok (.slice (some ⟨w.heap.size, 0, none⟩) 8 8) (w.alloc (zobj 8)) := run_mk 8 (by omega)
  have hnew := Blk.new w 5 (bs (List.replicate 8 0)).toArray
  go_enter Try.func36, Try.ntmps36
  go_wp2
  go_loopw [0, 4] (fun x i wr => ∃ (k : Nat) (z : Int), k ≤ 8 ∧ z = 7 - (k : Int) ∧ i = .int .i64 z ∧ x = .int .u64 ((n / 256 ^ k : Nat) : Int) ∧ Blk wr w.heap.size 5 (bs (part n k)).toArray ∧ Below w.heap.size w wr) (fun _ i _ => (intOf i + 1).toNat)
  case atStart => exact ⟨0, 7, by omega, by omega, rfl, by simp, hnew, (Below.refl _ _).alloc (Nat.le_refl _) _⟩
  case round =>
    obtain ⟨k, z, hk, hz, rfl, rfl, hbk, hbw⟩ := hrel
    by_cases hk8 : k < 8
    · obtain ⟨r, rfl⟩ := Int.eq_ofNat_of_zero_le (show 0 ≤ z by omega)
      have HR : Hid (r = 7 - k) := by show _ = _; omega
      have hr8 : r < 8 := by have := HR.out; omega
      have HP := Lib.hid (part_step n k r hk8 HR.out)
      have hlt : n / 256 ^ k < 18446744073709551616 := Nat.lt_of_le_of_lt (Nat.div_le_self _ _) hn
      have HD : Hid (((n / 256 ^ k : Nat) : Int) / 256 = ((n / 256 ^ (k + 1) : Nat) : Int)) := by show _ = _; rw [Nat.pow_succ, ← Nat.div_div_eq_div_mul]; rfl
      obtain ⟨q, hq⟩ : ∃ q, n / 256 ^ k = q := ⟨_, rfl⟩
      rw [hq] at HP HD hlt ⊢
      have hfz := hbk.frozen r
      have hce : wr.cell? ⟨w.heap.size, r, none⟩ = some (.int .u8 0) := by
        rw [hbk.cell, List.getElem?_toArray]
        have h0 : r < (List.replicate (8 - k) (0 : UInt8)).length := by rw [List.length_replicate]; have := HR.out; omega
        unfold part bs
        rw [List.map_append, List.getElem?_append_left (by simpa using h0), List.getElem?_map, List.getElem?_replicate, if_pos (by simpa using h0)]
        rfl
      clear hz hq
      go_wp2
      go_roundw
      case rel => exact ⟨k + 1, (r : Int) - 1, by omega, by have := HR.out; omega, by go_num, by rw [← HD.out], by rw [← HP.out]; exact hbk.set_ _ _, hbw.setCell (Nat.le_refl _) _⟩
      case measure => simp [intOf]
    · obtain rfl : k = 8 := by omega
      obtain rfl : z = -1 := by omega
      go_wp2
      go_ret
      exact ⟨rfl, hbk, hbw⟩

set_option maxRecDepth 100000 in
set_option maxHeartbeats 1000000 in
theorem wsum_any (A : Option Addr) (n cap : Nat) (l : List UInt8) (w : World) (hn : n ≤ 1000000) (hr : Reads w w.heap.size A n (bs l)) :
    Calls Try.prog 22 #[.slice A n cap] w fun e w' => ∃ b, e = .returned (.slice (some ⟨b, 0, none⟩) 2 2) ∧ Reads w' w'.heap.size (some ⟨b, 0, none⟩) 2 (bs (two (crc 0 l))) ∧ Below w.heap.size w w' := by
  go_enter Try.func22, Try.ntmps22
  go_wp2_with (fail)
  refine (new_any w).mono ?_
  rintro e w1 ⟨rfl, hx, hb⟩
  go_wp2_with (fail)
  refine (sum_any A n cap w.heap.size l _ (by omega) (hr.below hb) hx).mono ?_
  rintro e w2 ⟨rfl, h2, hg2⟩
  have hb2 : Below w.heap.size w w2 := hb.trans (below_of_only hg2 hb.size (Nat.le_refl _))
  have hlit := lit_reads (l := two (crc 0 l)) w2 #[.int .u8 ((crc 0 l : Int) / 256 % 256), .int .u8 ((crc 0 l : Int) % 256)] (by simp [two, bs, b8_nat]) 2 rfl
  clear hx hb hg2 h2
  go_wp2
  go_ret
  exact ⟨_, rfl, by simpa using hlit, hb2.alloc hb2.size _⟩
end Go.Proofs.Ytneanlffllejnaa
