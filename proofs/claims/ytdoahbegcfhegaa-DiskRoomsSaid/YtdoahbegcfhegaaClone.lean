/-
  WHAT IS PROVED: contracts of slices.Clone at bytes, and of the function that cuts bytes. Conditions: the bytes are there, at most a million.
-/
import Derived.Test.YtdoahbegcfhegaaDisk
import Derived.Test.YtdoahbegcfhegaaAppend
namespace Go.Proofs.Ytdoahbegcfhegaa
open Go.RowKit Go.Lib

theorem Rd.reads {w : World} {F : Nat → Prop} {n : Nat} {A : Option Addr} {xs : List Value} (h : Rd w F 1 A n xs) : Reads w w.heap.size A n xs := by
  refine ⟨by have := h.1; omega, fun hn => ?_⟩
  obtain ⟨ad, e, hlt, _, hc⟩ := h.2 hn
  exact ⟨ad, e, hlt, by omega, hc⟩
theorem Rd.of_reads {w : World} {g n : Nat} {A : Option Addr} {xs : List Value} (h : Reads w g A n xs) : Rd w no 1 A n xs := by
  refine ⟨by have := h.1; omega, fun hn => ?_⟩
  obtain ⟨ad, e, hlt, _, hc⟩ := h.2 hn
  exact ⟨ad, e, hlt, fun f => f, hc⟩
theorem bs_one (l : List UInt8) : ∀ u ∈ bs l, u.oneCell' = true := by
  intro u hu
  unfold bs at hu
  obtain ⟨c, _, rfl⟩ := List.mem_map.1 hu
  rfl
theorem bs_len (l : List UInt8) : (bs l).length = l.length := by unfold bs; simp
theorem u8_info : (Try.prog.info? 5).map (fun i => (i.zero, i.size, i.bytes)) = some (some (.int .u8 0), 1, 1) := by kernel_rfl
theorem info_parts {P : Program} {t : TypeId} {z : Option Value} {s b : Nat} (h : (P.info? t).map (fun i => (i.zero, i.size, i.bytes)) = some (z, s, b)) : ∃ i, P.info? t = some i ∧ i.zero = z ∧ i.size = s ∧ i.bytes = b := by
  cases hi : P.info? t with
  | none => rw [hi] at h; cases h
  | some i => rw [hi] at h; simp at h; exact ⟨i, rfl, h.1, h.2.1, h.2.2⟩
/-- what a clone is -/
def Clo (w : World) (b : List UInt8) (e : Ending) (w' : World) : Prop := ∃ A n c, e = .returned (.slice A n c) ∧ b.length = n ∧ n ≤ c ∧ c ≤ 9223372036854775807 ∧ w'.ownsRow w.heap.size 5 1 (.slice A n c) n (bs b) ∧ Below w.heap.size w w'
theorem Clo.rd {w w' : World} {b : List UInt8} {A : Option Addr} {n c : Nat} (h : w'.ownsRow w.heap.size 5 1 (.slice A n c) n (bs b)) {F : Nat → Prop} (hF : ∀ i, F i → i < w.heap.size) : Rd w' F 1 A n (bs b) :=
  Rd.of_own h rfl (fun k hk f => by have := (World.ownsRow.lt h k hk).1; have := hF k f; omega)
set_option maxRecDepth 100000 in
set_option maxHeartbeats 4000000 in
theorem clone_any (A : Option Addr) (n c : Nat) (b : List UInt8) (w : World) (F : Nat → Prop) (hr : Rd w F 1 A n (bs b)) (hn : n ≤ 1000000) :
    Calls Try.prog 21 #[.slice A n c] w (Clo w b) := by
  have hl : b.length = n := by have := hr.1; rw [bs_len] at this; omega
  obtain ⟨i0, hi0, hz0, hz1, hz2⟩ := info_parts u8_info
  cases A with
  | none =>
    obtain rfl : n = 0 := by
      rcases Nat.eq_zero_or_pos n with h | h
      · exact h
      · obtain ⟨ad, e, _⟩ := hr.2 h; cases e
    obtain rfl : b = [] := List.eq_nil_of_length_eq_zero hl
    have hq : ∀ w : World, (binOp BinOp.eql 22 (.slice none 0 c) (.slice none 0 0)).run Try.prog w = .ok (.bool true) w := fun _ => rfl
    clear hr hl
    go_enter Try.func21, Try.ntmps21
    go_wp2
    go_ret
    exact ⟨none, 0, 0, rfl, rfl, Nat.le_refl _, by omega, World.ownsRow_nil _ _ _ _, Below.refl _ _⟩
  | some ad =>
    have HR := Lib.hid hr
    have HL := Lib.hid hl
    have hq : ∀ w : World, (binOp BinOp.eql 22 (.slice (some ad) n c) (.slice none 0 0)).run Try.prog w = .ok (.bool false) w := fun _ => rfl
    clear hr hl
    go_enter Try.func21, Try.ntmps21
    have hown : (w.alloc (.cells #[] 5)).ownsRow w.heap.size 5 1 (.slice (some ⟨w.heap.size, 0, none⟩) 0 0) 0 [] := ⟨rfl, .inr ⟨w.heap.size, 0, #[], rfl, Nat.le_refl _, heap_alloc_new w _, Nat.le_refl _, by decide, rfl, rfl⟩⟩
    have hB1 : Below w.heap.size w (w.alloc (.cells #[] 5)) := (Below.refl _ _).alloc (Nat.le_refl _) _
    have hrd : Reads (w.alloc (.cells #[] 5)) w.heap.size (some ad) n (bs b) := HR.out.reads.below hB1
    have hn0 : 0 + n ≤ maxLen := by unfold maxLen; omega
    have hn1 : (0 + n) * 1 ≤ 140737488355328 := by omega
    have HOW := Lib.hid hown
    have HRD := Lib.hid hrd
    have HB1 := Lib.hid hB1
    clear hown hrd hB1
    go_wp2_with (at_builtin; refine wpList_append_cells _ rfl (.tmp 5) (.tmp 6) 22 rfl w.heap.size 5 i0 _ 1 Try.underlying22 hi0 hz0 hz1 hz2 rfl (.slice (some ⟨w.heap.size, 0, none⟩) 0 0) 0 [] rfl HOW.out w.heap.size (some ad) n c (bs b) rfl HRD.out (bs_one b) hn0 hn1 (by simp) ?_; intro v' w' ho hg _; obtain ⟨A', c', rfl, hc1, hc2⟩ := own_form ho)
    go_ret
    rw [Nat.zero_add, List.nil_append] at ho
    refine ⟨A', n, c', by simp, HL.out, by omega, hc2, ho, HB1.out.trans ?_⟩
    exact ⟨hg.os, hg.tape, hg.output, hg.size, fun i hi => hg.block i (by simp; omega) (fun e => by simp [Value.ownBlock] at e; omega)⟩
set_option maxRecDepth 100000 in
set_option maxHeartbeats 4000000 in
theorem begun_any (A : Option Addr) (n c : Nat) (k : Int) (w : World) (hn : n ≤ 1000000) (hc : n ≤ c) (hcm : c ≤ 9223372036854775807) :
    Calls Try.prog 24 #[.slice A n c, .int .i64 k] w fun e w' => e = .returned (.slice A (min k.toNat n) (min k.toNat n)) ∧ w' = w := by
  obtain ⟨m, hm⟩ : ∃ m, min k.toNat n = m := ⟨_, rfl⟩
  have hk : min (max k 0) (n : Int) = (m : Int) := by omega
  have hmn : m ≤ n := by omega
  rw [hm]
  have h1 : (0 : Int) ≤ (m : Int) := by omega
  have h2 : (m : Int) ≤ (c : Int) := by omega
  clear hm
  go_enter Try.func24, Try.ntmps24
  go_wp2
  all_goals first
    | (obtain rfl : m = n := by (first | omega | (split at * <;> omega))
       go_ret
       exact ⟨rfl, rfl⟩)
    | (obtain rfl : m = 0 := by (first | omega | (split at * <;> omega))
       go_ret
       exact ⟨rfl, rfl⟩)
    | (obtain rfl : m = k.toNat := by (first | omega | (split at * <;> omega))
       go_ret
       exact ⟨rfl, rfl⟩)
end Go.Proofs.Ytdoahbegcfhegaa
