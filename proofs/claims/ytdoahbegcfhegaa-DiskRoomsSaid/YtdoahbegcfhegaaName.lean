/-
  WHAT IS PROVED: contract of the function that tells whether a text may be a file's name. No condition beyond the text's length.
-/
import Derived.Test.YtdoahbegcfhegaaDisk
import Derived.Lib.OthersKept
namespace Go.Proofs.Ytdoahbegcfhegaa
open Go.RowKit Go.Lib

def low (c : UInt8) : Bool := decide (97 ≤ c.toNat) && decide (c.toNat ≤ 122)
theorem nameB_no {s : List UInt8} {pos : Nat} {c : UInt8} (h : s[pos]? = some c) (hc : low c = false) : nameB s = false := by
  unfold nameB
  cases hh : s.all (fun c => decide (97 ≤ c.toNat) && decide (c.toNat ≤ 122)) with
  | false => simp
  | true =>
    have := List.all_eq_true.1 hh c (List.mem_of_getElem? h)
    unfold low at hc
    rw [hc] at this; cases this
theorem nameB_yes {s : List UInt8} (h1 : 1 ≤ s.length) (h2 : s.length ≤ 16) (h : ∀ (i : Nat) (c : UInt8), s[i]? = some c → low c = true) : nameB s = true := by
  unfold nameB
  have : s.all (fun c => decide (97 ≤ c.toNat) && decide (c.toNat ≤ 122)) = true := List.all_eq_true.2 fun c hc => by
    obtain ⟨i, hi, e⟩ := List.mem_iff_getElem.1 hc
    exact h i c (by rw [List.getElem?_eq_getElem hi, e])
  rw [this]; simp [h1, h2]
theorem nameB_len {s : List UInt8} (h : s.length = 0 ∨ 16 < s.length) : nameB s = false := by
  unfold nameB
  rcases h with h | h
  · simp [h]
  · have : ¬ s.length ≤ 16 := by omega
    simp [this]

set_option maxRecDepth 100000 in
set_option maxHeartbeats 4000000 in
theorem name_any (s : List UInt8) (w : World) (hs : s.length ≤ 1000) :
    Calls Try.prog 19 #[.string (str s)] w (Says (nameB s) w) := by
  obtain ⟨n, hn⟩ : ∃ n, (str s).size = n := ⟨_, rfl⟩
  have hl : s.length = n := by rw [← hn, str_size]
  by_cases h0 : n = 0
  · rw [nameB_len (.inl (by omega))]
    have e0 : ((n : Int) == 0) = true := by rw [h0]; rfl
    clear hl
    subst h0
    go_enter Try.func19, Try.ntmps19
    go_wp2
    go_ret
    exact ⟨rfl, Below.refl _ _⟩
  have e0 : ((n : Int) == 0) = false := by rw [beq_eq_false_iff_ne]; omega
  have e0' : ¬ ((n : Int) = 0) := by omega
  by_cases h1 : (16 : Int) < (n : Int)
  · rw [nameB_len (.inr (by omega))]
    clear hl
    go_enter Try.func19, Try.ntmps19
    go_wp2
    go_ret
    exact ⟨rfl, Below.refl _ _⟩
  have HN := Lib.hid hn
  have HL := Lib.hid hl
  have hs0 := World.iter_heap w (str s) 0
  have HB0 : Below w.heap.size w (w.iter (str s) 0) := (Below.refl _ w).alloc (Nat.le_refl _) _
  clear hl
  go_enter Try.func19, Try.ntmps19
  go_wp2
  go_loopw [] (fun wr => ∃ pos : Nat, wr.heap[w.heap.size]? = some (.stringIter (str s) pos) ∧ Below w.heap.size w wr ∧ (∀ (i : Nat) (c : UInt8), i < pos → s[i]? = some c → low c = true) ∧ pos ≤ n) (fun wr => n - wr.iterPos w.heap.size)
  case atStart => exact ⟨0, hs0, HB0, fun i c h => absurd h (by omega), by omega⟩
  case round =>
    obtain ⟨pos, hit, hb, hlow, hpn⟩ := hrel
    have HB := Lib.hid hb
    have HIT := Lib.hid hit
    have HLOW := Lib.hid hlow
    clear hb hlow
    by_cases hp : pos < (str s).size
    · have hpl : pos < s.length := by have := HL.out; have := HN.out; omega
      obtain ⟨c, hc⟩ : ∃ c, s[pos]? = some c := ⟨_, List.getElem?_eq_getElem hpl⟩
      have hcs : (str s)[pos]'hp = c := by
        have := List.getElem?_eq_some_iff.1 hc
        obtain ⟨h, e⟩ := this
        rw [← e]; rfl
      have HC := Lib.hid hc
      by_cases ha : c.toNat < 128
      · have hnx := fun ty => run_next_ascii_at (P := Try.prog) wr w.heap.size (str s) pos ty hit hp (by rw [hcs]; exact ha)
        rw [hcs] at hnx
        obtain ⟨z, hz⟩ : ∃ z : Int, (c.toNat : Int) = z := ⟨_, rfl⟩
        have hit2 := iterAt_heap wr w.heap.size (str s) pos (pos + 1) hit
        have hb2 := below_iterAt HB.out (Nat.le_refl _) (str s) (pos + 1)
        obtain ⟨w2, hw2⟩ : ∃ x, wr.iterAt w.heap.size (str s) (pos + 1) = x := ⟨_, rfl⟩
        rw [hw2] at hnx hit2 hb2
        rw [hz] at hnx
        have HZ := Lib.hid hz
        have HB2 := Lib.hid hb2
        have HI2 := Lib.hid hit2
        clear hc hcs hz hit hw2 hb2 hit2 ha hp
        by_cases z0 : z < 97
        · have hno : nameB s = false := nameB_no HC.out (by have := HZ.out; unfold low; simp; omega)
          rw [hno]
          clear hno
          go_wp2
          go_ret
          exact ⟨rfl, HB2.out⟩
        · by_cases z1 : 122 < z
          · have hno : nameB s = false := nameB_no HC.out (by have := HZ.out; unfold low; simp; omega)
            rw [hno]
            clear hno
            go_wp2
            go_ret
            exact ⟨rfl, HB2.out⟩
          · go_wp2
            go_roundw
            case rel =>
              refine ⟨pos + 1, HI2.out, HB2.out, fun i c' hi hc' => ?_, by have := HL.out; omega⟩
              rcases Nat.lt_or_ge i pos with h | h
              · exact HLOW.out i c' h hc'
              · obtain rfl : i = pos := by omega
                rw [HC.out] at hc'
                injection hc' with hc'
                subst hc'
                have := HZ.out
                unfold low
                simp
                omega
            case measure =>
              simp only [World.iterPos, HIT.out, HI2.out]
              have := HL.out
              omega
      · have hnx := fun ty => run_next_any_at (P := Try.prog) wr w.heap.size (str s) pos ty hit hp
        have hd := (decode_high (str s) pos hp (by rw [hcs]; omega)).1
        have hb2 := below_iterAt HB.out (Nat.le_refl _) (str s) (pos + (Utf8.decode (str s) pos).2)
        obtain ⟨w2, hw2⟩ : ∃ x, wr.iterAt w.heap.size (str s) (pos + (Utf8.decode (str s) pos).2) = x := ⟨_, rfl⟩
        obtain ⟨z, hz⟩ : ∃ z : Int, ((Utf8.decode (str s) pos).1 : Int) = z := ⟨_, rfl⟩
        rw [hw2] at hnx hb2
        rw [hz] at hnx
        have z0 : ¬ z < 97 := by omega
        have z1 : 122 < z := by omega
        have hno : nameB s = false := nameB_no HC.out (by unfold low; simp; omega)
        rw [hno]
        have HB2 := Lib.hid hb2
        clear hc hcs hz hit hw2 hb2 ha hp hd hno
        go_wp2
        go_ret
        exact ⟨rfl, HB2.out⟩
    · have hnx := fun ty => run_next_end_at (P := Try.prog) wr w.heap.size (str s) pos ty hit hp
      have hyes : nameB s = true := nameB_yes (by have := HL.out; omega) (by have := HL.out; omega) (fun i c hc => HLOW.out i c (by
        have h1 := (List.getElem?_eq_some_iff.1 hc).1
        have := HL.out
        have := HN.out
        omega) hc)
      have HY := Lib.hid hyes
      clear hyes hit hp
      go_wp2
      go_ret
      exact ⟨by rw [HY.out]; rfl, HB.out⟩
end Go.Proofs.Ytdoahbegcfhegaa
