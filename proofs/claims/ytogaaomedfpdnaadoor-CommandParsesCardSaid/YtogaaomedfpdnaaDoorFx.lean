/-
  WHAT IS PROVED: contracts of command.big and command.firstIn. Condition: the variable firsts holds what is laid there.
-/
import Derived.Test.YtogaaomedfpdnaaDoorFw
import Derived.Lib.ConvBytes
namespace Go.Proofs.YtogaaomedfpdnaaDoor
open Go.RowKit

/-! ### a row of bytes that a text was turned to -/
def Bys (w : World) (g : Nat) (l : List UInt8) : Prop := ∃ C : Array Value, w.heap[g]? = some (.cells C 5 (C.size, C.size + 1)) ∧ l.length ≤ C.size ∧ ∀ (i : Nat) (c : UInt8), l[i]? = some c → C[i]? = some (Value.int .u8 (c.toNat : Int))
theorem Bys.lt {w : World} {g : Nat} {l : List UInt8} (h : Bys w g l) : g < w.heap.size := by
  obtain ⟨C, h, _⟩ := h
  exact (Array.getElem?_eq_some_iff.1 h).1
theorem Bys.cell {w : World} {g i : Nat} {l : List UInt8} {c : UInt8} (h : Bys w g l) (hi : l[i]? = some c) : w.cell? ⟨g, i, none⟩ = some (.int .u8 (c.toNat : Int)) := by
  obtain ⟨C, h, _, hc⟩ := h
  exact (cell_of_row w g i C 5 _ h).trans (hc i c hi)
theorem Bys.frozen {w : World} {g i : Nat} {l : List UInt8} (h : Bys w g l) (hi : i < l.length) : w.frozen? ⟨g, i, none⟩ = false := by
  obtain ⟨C, h, hl, _⟩ := h
  unfold World.frozen?
  simp only [h]
  simp
  omega
theorem Bys.set_ {w : World} {g i : Nat} {l : List UInt8} (h : Bys w g l) {z : Int} {c : UInt8} (hz : z = (c.toNat : Int)) (hi : i < l.length) : Bys (w.setCell ⟨g, i, none⟩ (.int .u8 z)) g (l.set i c) := by
  subst hz
  obtain ⟨C, h, hl, hc⟩ := h
  refine ⟨C.setIfInBounds i (.int .u8 (c.toNat : Int)), ?_, by simpa using hl, fun j d hj => ?_⟩
  · unfold World.setCell
    simp [h, Array.getElem?_modify]
  · rw [List.getElem?_set] at hj
    rw [Array.getElem?_setIfInBounds]
    by_cases e : i = j
    · subst e
      rw [if_pos rfl] at hj ⊢
      rw [if_pos (by omega)] at hj ⊢
      injection hj with hj
      rw [hj]
    · rw [if_neg e] at hj ⊢
      exact hc j d hj
theorem Bys.below {B : Nat} {w w' : World} {g : Nat} {l : List UInt8} (h : Bys w g l) (hb : Below B w w') (hg : g < B) : Bys w' g l := by
  obtain ⟨C, h, hc⟩ := h
  exact ⟨C, (hb.block g hg).trans h, hc⟩
theorem Bys.reads {w : World} {g g' : Nat} {l : List UInt8} (h : Bys w g l) (hg : g ≠ g') : Reads w g' (some ⟨g, 0, none⟩) l.length (bs l) := by
  refine ⟨by simp [bs], fun _ => ⟨_, rfl, h.lt, hg, fun j u hu => ?_⟩⟩
  obtain ⟨c, hc, rfl⟩ := bs_at hu
  rw [Go.WideShapes.add_plain, Nat.zero_add]
  exact h.cell hc
/-- a text turned to bytes -/
theorem bytes_of (w : World) (l : List UInt8) : ∃ cap w1, (convert 9 42 (.string (str l))).run Tryd.prog w = .ok (.slice (some ⟨w.heap.size, 0, none⟩) l.length cap) w1 ∧ Bys w1 w.heap.size l ∧ Below w.heap.size w w1 := by
  have h1 := Lib.run_convert_string_bytes (P := Tryd.prog) w 9 42 5 (str l) Tryd.underlying9 Tryd.underlying42 Tryd.underlying5
  have h2 : Bys (Lib.bytesWorld w 5 (str l)) w.heap.size l := ⟨_, Lib.bytesWorld_at_new w _ _, by simp [Lib.bytesCells, str], fun i c hc => by
    have hi := (List.getElem?_eq_some_iff.1 hc).1
    unfold Lib.bytesCells
    rw [Array.getElem?_append_left (by simpa [str] using hi)]
    simp [str, hc]⟩
  have h3 : Below w.heap.size w (Lib.bytesWorld w 5 (str l)) := ⟨rfl, rfl, rfl, by rw [Lib.bytesWorld_size]; omega, fun i hi => Lib.bytesWorld_at_old w _ _ i hi⟩
  exact ⟨_, _, h1, h2, h3⟩

/-- a text with big letters, as far as place k -/
def upTo (l : List UInt8) (k : Nat) : List UInt8 := up (l.take k) ++ l.drop k
theorem upTo_len (l : List UInt8) (k : Nat) : (upTo l k).length = l.length := by unfold upTo up; simp; omega
theorem upTo_zero (l : List UInt8) : upTo l 0 = l := by simp [upTo, up]
theorem upTo_all (l : List UInt8) : upTo l l.length = up l := by simp [upTo]
theorem upTo_at {l : List UInt8} {k : Nat} {c : UInt8} (h : l[k]? = some c) : (upTo l k)[k]? = some c := by
  have hk := (List.getElem?_eq_some_iff.1 h).1
  unfold upTo up
  rw [List.getElem?_append_right (by simp; omega)]
  simp [Nat.min_eq_left (Nat.le_of_lt hk), List.getElem?_drop, h]
theorem upTo_succ {l : List UInt8} {k : Nat} {c : UInt8} (h : l[k]? = some c) : upTo l (k + 1) = (upTo l k).set k (upB c) := by
  obtain ⟨hk, hc⟩ := List.getElem?_eq_some_iff.1 h
  unfold upTo up
  rw [take_snoc h, List.map_append, List.drop_eq_getElem_cons hk, hc]
  have : ((l.take k).map upB).length = k := by simp; omega
  rw [List.set_append_right _ _ (by omega), this]
  simp
theorem upTo_same {l : List UInt8} {k : Nat} {c : UInt8} (h : l[k]? = some c) (hu : upB c = c) : upTo l (k + 1) = upTo l k := by
  rw [upTo_succ h, hu]
  obtain ⟨h1, h2⟩ := List.getElem?_eq_some_iff.1 (upTo_at h)
  rw [← h2, List.set_getElem_self]
theorem up_yes {c : UInt8} (h : 97 ≤ c.toNat ∧ c.toNat ≤ 122) : ((upB c).toNat : Int) = (c.toNat : Int) - 97 + 65 := by
  have : ∀ n : Fin 256, 97 ≤ n.val → n.val ≤ 122 → (upB (UInt8.ofNat n.val)).toNat + 32 = n.val := by decide +kernel
  have h1 := this ⟨c.toNat, UInt8.toNat_lt c⟩ h.1 h.2
  simp at h1
  omega
theorem up_no {c : UInt8} (h : ¬ (97 ≤ c.toNat ∧ c.toNat ≤ 122)) : upB c = c := by unfold upB; rw [if_neg h]

set_option maxRecDepth 100000 in
set_option maxHeartbeats 1000000 in
theorem big_any (l : List UInt8) (hl : l.length ≤ 4294967296) (w : World) : Calls Tryd.prog 26 #[.string (str l)] w (fun e w' => e = .returned (.string (str (up l))) ∧ Below w.heap.size w w') := by
  obtain ⟨cap, w1, hcv, hby, hb0⟩ := bytes_of w l
  have H0 : Hid (Bys w1 w.heap.size (upTo l 0)) := Lib.hid (by rw [upTo_zero]; exact hby)
  have HB0 := Lib.hid hb0
  have hs1 : w.heap.size < w1.heap.size := hby.lt
  clear hby hb0
  go_enter Tryd.func26, Tryd.ntmps26
  go_wp2
  go_loopw [4, 5, 10] (fun _ _ i wr => ∃ k : Nat, k ≤ l.length ∧ i = .int .i64 k ∧ Hid (Bys wr w.heap.size (upTo l k)) ∧ Hid (Below w.heap.size w wr)) (fun _ _ i _ => l.length - (intOf i).toNat)
  case atStart => exact ⟨0, by omega, rfl, H0, HB0⟩
  case round =>
    obtain ⟨k, hk, rfl, hy, hb⟩ := hrel
    by_cases hlt : k < l.length
    · have hk0 : (0 : Int) ≤ k := by omega
      have hk1 : (k : Int) < l.length := by omega
      obtain ⟨c, hc⟩ : ∃ c, l[k]? = some c := ⟨_, List.getElem?_eq_getElem hlt⟩
      have hcell := hy.out.cell (upTo_at hc)
      have hfz := hy.out.frozen (i := k) (by rw [upTo_len]; exact hlt)
      have h256 : c.toNat < 256 := UInt8.toNat_lt c
      by_cases hu : 97 ≤ c.toNat ∧ c.toNat ≤ 122
      · have HS : Hid (∀ z : Int, z = (c.toNat : Int) - 97 + 65 → Bys (wr.setCell ⟨w.heap.size, k, none⟩ (.int .u8 z)) w.heap.size (upTo l (k + 1))) := Lib.hid fun z hz => by
          rw [upTo_succ hc]
          exact hy.out.set_ (hz.trans (up_yes hu).symm) (by rw [upTo_len]; exact hlt)
        have HBS : Hid (∀ z : Int, Below w.heap.size w (wr.setCell ⟨w.heap.size, k, none⟩ (.int .u8 z))) := Lib.hid fun z => hb.out.setCell (p := ⟨w.heap.size, k, none⟩) (Nat.le_refl _) _
        clear hc hy
        obtain ⟨h97, h122⟩ := hu
        have q1 : (97 : Int) ≤ c.toNat := by omega
        have q2 : (c.toNat : Int) ≤ 122 := by omega
        generalize c.toNat = m at *
        go_wp2
        go_roundw
        case rel => exact ⟨k + 1, by omega, by go_num, Lib.hid (HS.out _ (by omega)), Lib.hid (HBS.out _)⟩
        case measure => simp [intOf]; omega
      · have HS : Hid (Bys wr w.heap.size (upTo l (k + 1))) := Lib.hid (by rw [upTo_same hc (up_no hu)]; exact hy.out)
        clear hc hy
        have hu2 : c.toNat < 97 ∨ 122 < c.toNat := by omega
        clear hu
        generalize c.toNat = m at *
        rcases hu2 with hu2 | hu2
        · have q1 : (m : Int) < 97 := by omega
          have q1' : decide ((97 : Int) ≤ m) = false := by simp; omega
          go_wp2
          go_roundw
          case rel => exact ⟨k + 1, by omega, by go_num, HS, hb⟩
          case measure => simp [intOf]; omega
        · have q1 : (97 : Int) ≤ m := by omega
          have q2' : decide ((m : Int) ≤ 122) = false := by simp; omega
          go_wp2
          go_roundw
          case rel => exact ⟨k + 1, by omega, by go_num, HS, hb⟩
          case measure => simp [intOf]; omega
    · obtain rfl : k = l.length := by omega
      have HR : Hid ((convert 42 9 (.slice (some ⟨w.heap.size, 0, none⟩) l.length cap)).run Tryd.prog wr = .ok (.string (str (up l))) wr) := Lib.hid (by
        have h1 := hy.out
        rw [upTo_all] at h1
        have h2 := bytes_back (h1.reads (g' := w.heap.size + 1) (by omega)) (c := cap)
        rw [up_len] at h2
        exact h2)
      have hr := HR.out
      go_wp2
      go_ret
      exact ⟨rfl, hb.out⟩
end Go.Proofs.YtogaaomedfpdnaaDoor
