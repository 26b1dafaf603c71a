/-
  WHAT IS PROVED: contracts of the functions that write a number's eight bytes (the program's: append; the document's: a new slice), and read them. Conditions: the number fits in 64 bits; the bytes are there.
-/
import Derived.Test.YtneanlffllejnaaOwn
import Derived.Deep.RegionWith
import Derived.BigQuiet
namespace Go.Proofs.Ytneanlffllejnaa
open Go.RowKit Go.Lib

theorem eight_snoc (n k : Nat) (hk : k < 8) : (eight n).take (k + 1) = (eight n).take k ++ [b8 (n / 2 ^ (56 - 8 * k))] := by
  match k, hk with
  | 0, _ => rfl
  | 1, _ => rfl
  | 2, _ => rfl
  | 3, _ => rfl
  | 4, _ => rfl
  | 5, _ => rfl
  | 6, _ => rfl
  | 7, _ => simp [eight]
theorem wrap_b8 (n : Nat) : IntKind.u8.wrap (n : Int) = ((b8 n).toNat : Int) := by rw [IntKind.wrap_u8, b8_nat]; omega

set_option maxRecDepth 100000 in
set_option maxHeartbeats 1000000 in
theorem write_any (B : Nat) (v : Value) (l : List UInt8) (n : Nat) (w : World) (hown : OwnB w B v l) (hB : B ≤ w.heap.size) (hl : l.length ≤ 1000) :
    Calls Try.prog 21 #[v, .int .u64 (n : Int)] w fun e w' => ∃ v', e = .returned v' ∧ OwnB w' B v' (l ++ eight n) ∧ Grew w v w' v' := by
  go_enter Try.func21, Try.ntmps21
  go_wp2
  go_loopw [0, 5] (fun x i wr => ∃ (k : Nat) (z : Int), k ≤ 8 ∧ z = 56 - 8 * (k : Int) ∧ i = .int .i64 z ∧ OwnB wr B x (l ++ (eight n).take k) ∧ Grew w v wr x) (fun _ i _ => (intOf i + 8).toNat)
  case atStart => exact ⟨0, 56, by omega, by omega, rfl, by simpa using hown, Grew.refl _ _⟩
  case round =>
    obtain ⟨k, z, hk, hz, rfl, ho, hg⟩ := hrel
    by_cases hk8 : k < 8
    · obtain ⟨r, rfl⟩ := Int.eq_ofNat_of_zero_le (show 0 ≤ z by omega)
      have HR56 : Hid (r = 56 - 8 * k) := by show _ = _; omega
      have hm64 : min r 64 = r := by have := HR56.out; omega
      have HB : Hid ((n : Int) / 2 ^ r % 256 = ((b8 (n / 2 ^ r)).toNat : Int)) := by
        show _ = _
        rw [b8_nat]
        simp
      have hr1 := lit_reads wr #[.int .u8 ((b8 (n / 2 ^ r)).toNat : Int)] (l := [b8 (n / 2 ^ r)]) rfl 1 rfl
      have ho1 := ho.alloc (.cells #[.int .u8 ((b8 (n / 2 ^ r)).toNat : Int)] 5)
      have hBr : B ≤ wr.heap.size := Nat.le_trans hB hg.size
      have hlen : (l ++ (eight n).take k).length ≤ 1008 := by rw [List.length_append, List.length_take, eight_len]; omega
      have HG := Lib.hid hg
      have HZ := Lib.hid hz
      clear hg hz
      rw [← HB.out] at hr1 ho1
      go_wp2_with (at_builtin; refine wpList_push rfl (.tmp 10) (.tmp 15) rfl B _ _ rfl ho1 _ _ 1 1 [b8 (n / 2 ^ r)] rfl hr1 (by omega) (by simp; omega) ?_; intro v3 w3 ho3 hg3)
      go_roundw
      case rel => exact ⟨k + 1, (r : Int) - 8, by omega, by have := HR56.out; omega, by go_num, by rw [eight_snoc n k hk8, ← HR56.out, ← List.append_assoc]; exact ho3, HG.out.trans (hg3.after ((Below.refl _ _).alloc (Nat.le_refl _) _))⟩
      case measure => simp [intOf]; omega
    · obtain rfl : k = 8 := by omega
      obtain rfl : z = -8 := by omega
      go_wp2
      go_ret
      exact ⟨_, rfl, by simpa [eight] using ho, hg⟩

theorem or_low (a c : Nat) (ha : a < 72057594037927936) (hc : c < 256) : bits .or .u64 (IntKind.u64.wrap ((a : Int) * 256)) (c : Int) = ((a * 256 + c : Nat) : Int) := by
  have e : ∀ x : Nat, x < 18446744073709551616 → (BitVec.ofInt 64 (x : Int)).toNat = x := fun x hx => by
    rw [BitVec.ofInt_natCast, BitVec.toNat_ofNat]; exact Nat.mod_eq_of_lt (by omega)
  have hw : IntKind.u64.wrap ((a : Int) * 256) = ((a * 256 : Nat) : Int) := by rw [IntKind.wrap_u64]; omega
  have ho : a * 256 ||| c = a * 256 + c := by
    have := Nat.two_pow_add_eq_or_of_lt (i := 8) (b := c) (by omega) a
    rw [show a * 256 = 2 ^ 8 * a by omega]
    exact this.symm
  rw [hw]
  show IntKind.u64.wrap ((BitVec.ofInt 64 ((a * 256 : Nat) : Int) ||| BitVec.ofInt 64 (c : Int)).toNat : Int) = _
  rw [BitVec.toNat_or, e _ (by omega), e _ (by omega), ho, IntKind.wrap_u64]
  omega
theorem num_take (l : List UInt8) (k : Nat) (c : UInt8) (h : l[k]? = some c) : num (l.take (k + 1)) = num (l.take k) * 256 + c.toNat := by rw [take_snoc h, num_snoc]
theorem num_small (l : List UInt8) (k : Nat) (hk : k < 8) : num (l.take k) < 72057594037927936 := by
  have h := num_lt (l.take k)
  have : 256 ^ (l.take k).length ≤ 256 ^ 7 := Nat.pow_le_pow_right (by omega) (by rw [List.length_take]; omega)
  omega

set_option maxRecDepth 100000 in
set_option maxHeartbeats 1000000 in
theorem read_any (A : Option Addr) (n cap g : Nat) (l : List UInt8) (w : World) (hn : 8 ≤ n) (hc : n ≤ cap) (hcm : cap ≤ 9223372036854775807) (hr : Reads w g A n (bs l)) :
    Calls Try.prog 33 #[.slice A n cap] w fun e w' => e = .returned (.int .u64 ((num (l.take 8) : Nat) : Int)) ∧ w = w' := by
  have hr8 : Reads w g A 8 (bs (l.take 8)) := by
    have := hr.take (k := 8) hn
    rwa [show (bs l).take 8 = bs (l.take 8) by unfold bs; rw [List.map_take]] at this
  go_enter Try.func33, Try.ntmps33
  go_wp2
  go_loop [3, 5, 9] (fun a _ i => ∃ k : Nat, k ≤ 8 ∧ i = .int .i64 k ∧ a = .int .u64 ((num (l.take k) : Nat) : Int)) (fun _ _ i => 8 - (intOf i).toNat)
  case atStart => exact ⟨0, by omega, rfl, rfl⟩
  case round =>
    obtain ⟨k, hk, rfl, rfl⟩ := hrel
    by_cases hk8 : k < 8
    · obtain ⟨ad, u, rfl, hx, hce⟩ := hr8.at_ hk8
      obtain ⟨c, hlc, rfl⟩ := bs_at hx
      have hlc' : l[k]? = some c := by rwa [List.getElem?_take, if_pos hk8] at hlc
      have HT : Hid (bits .or .u64 (IntKind.u64.wrap ((num (l.take k) : Int) * 256)) (IntKind.u64.wrap (c.toNat : Int)) = ((num (l.take (k + 1)) : Nat) : Int)) := by
        show _ = _
        have hcl := UInt8.toNat_lt c
        rw [show IntKind.u64.wrap (c.toNat : Int) = (c.toNat : Int) by rw [IntKind.wrap_u64]; omega, or_low _ _ (num_small l k hk8) (UInt8.toNat_lt c), num_take l k c hlc']
      clear hx hlc hlc'
      go_wp2
      go_round
      case rel => exact ⟨k + 1, by omega, by go_num, by rw [← HT.out]⟩
      case measure => simp [intOf]; omega
    · obtain rfl : k = 8 := by omega
      go_wp2
      go_ret
      exact ⟨rfl, rfl⟩

set_option maxRecDepth 100000 in
set_option maxHeartbeats 1000000 in
theorem number_any (A : Option Addr) (n cap g : Nat) (l : List UInt8) (at0 : Nat) (w : World) (hn : at0 + 8 ≤ n) (hnm : n ≤ 1000000) (hr : Reads w g A n (bs l)) :
    Calls Try.prog 39 #[.slice A n cap, .int .i64 (at0 : Int)] w fun e w' => e = .returned (.int .u64 ((numAt l at0 : Nat) : Int)) ∧ w = w' := by
  go_enter Try.func39, Try.ntmps39
  go_wp2
  go_loop [5, 6] (fun a i => ∃ k : Nat, k ≤ 8 ∧ i = .int .i64 ((at0 + k : Nat) : Int) ∧ a = .int .u64 ((num ((l.drop at0).take k) : Nat) : Int)) (fun _ i => at0 + 8 - (intOf i).toNat)
  case atStart => exact ⟨0, by omega, rfl, rfl⟩
  case round =>
    obtain ⟨k, hk, rfl, rfl⟩ := hrel
    by_cases hk8 : k < 8
    · obtain ⟨ad, u, rfl, hx, hce⟩ := hr.at_ (show at0 + k < n by omega)
      obtain ⟨c, hlc, rfl⟩ := bs_at hx
      have hlc' : (l.drop at0)[k]? = some c := by rw [List.getElem?_drop]; exact hlc
      have hsm := num_small (l.drop at0) k hk8
      have hcl := UInt8.toNat_lt c
      have HT := Lib.hid (num_take (l.drop at0) k c hlc')
      clear hx hlc hlc'
      go_wp2
      go_round
      case rel => exact ⟨k + 1, by omega, by go_num, by rw [HT.out]; go_num⟩
      case measure => simp [intOf]; omega
    · obtain rfl : k = 8 := by omega
      go_wp2
      go_ret
      exact ⟨rfl, rfl⟩
end Go.Proofs.Ytneanlffllejnaa
