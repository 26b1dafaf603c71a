/-
  WHAT IS PROVED: contracts of (*slot.Hasher).Slot, and of the document's own find, Tag and Slot. Condition: block g is a hasher; the string is shorter than 2^62 bytes.
-/
import Derived.Test.YtaaibjibnonlaaaMore
import Derived.Test.YtaaibjibnonlaaaTag
namespace Go.Proofs.Ytaaibjibnonlaaa
open Go.RowKit

/-- what '[]byte(s)' lays -/
def bobj (l : List UInt8) (c : Nat) : Obj := .cells (bytesRow (str l) c) 5 ((bytesRow (str l) c).size, (bytesRow (str l) c).size + 1)
def bcap (l : List UInt8) (w : World) : Nat := grownCap w l.length 0 5
theorem to_bytes (l : List UInt8) (w : World) : (convert 9 22 (.string (str l))).run Try.prog w = .ok (.slice (some ⟨w.heap.size, 0, none⟩) l.length (bcap l w)) (w.drew.alloc (bobj l (bcap l w))) :=
  run_bytes_of_string w 9 22 5 (str l) Try.underlying9 Try.underlying22 Try.underlying5
theorem bytes_read (l : List UInt8) (c g : Nat) (w : World) (hg : g ≠ w.heap.size) : Reads (w.alloc (bobj l c)) g (some ⟨w.heap.size, 0, none⟩) l.length (bs l) := by
  refine ⟨by simp [bs], fun _ => ⟨_, rfl, by simp, fun e => hg e.symm, fun j u hu => ?_⟩⟩
  obtain ⟨b, hb, rfl⟩ := bs_at hu
  have hj : j < l.length := by
    rcases Nat.lt_or_ge j l.length with h | h
    · exact h
    · rw [List.getElem?_eq_none h] at hb; cases hb
  have e : (⟨w.heap.size, 0, none⟩ : Addr).add j = ⟨w.heap.size, j, none⟩ := by
    unfold Addr.add
    by_cases h : j = 0
    · subst h; rfl
    · simp [h]
  rw [e]
  unfold bobj
  rw [World.cell?_alloc_mark, bytesRow_at (str l) c j hj]
  rw [List.getElem?_eq_getElem hj] at hb
  injection hb with hb
  subst hb
  rfl

theorem cut_ahead_le (l : List UInt8) (c : UInt8) : (cutL l c).1.length ≤ l.length := by
  unfold cutL
  by_cases h : 0 ≤ Lib.indexByte l c
  · rw [if_pos h]; simp only [List.length_take]; omega
  · rw [if_neg h]; exact Nat.le_refl _
theorem tagL_le (l : List UInt8) : (tagL l).length ≤ l.length := by
  unfold tagL
  split
  · have h1 := cut_behind_le l 123
    have h2 := cut_ahead_le (cutL l 123).2.1 125
    omega
  · exact Nat.le_refl _

set_option maxRecDepth 100000 in
set_option maxHeartbeats 1000000 in
theorem slot_any (g : Nat) (l : List UInt8) (w : World) (hs : l.length ≤ 4611686018427387904) (hh : Hx w g) :
    Calls Try.prog 18 #[.pointer (some ⟨g, 0, none⟩), .string (str l)] w (Summed g (crc 0 (tagL l) % 64) w) := by
  have hcv := to_bytes (tagL l)
  have hle := tagL_le l
  have hlt := hh.lt
  have hlc := crc_lt 0 (tagL l) (by omega)
  go_enter Try.func18, Try.ntmps18
  go_wp2_with (go_at_call 16; refine (tag_any l _ hs).mono ?_; rintro e w' ⟨rfl, n, rfl⟩)
  have hg1 : w.grownBy ((w.drewN (n + 1)).alloc (bobj (tagL l) (bcap (tagL l) (w.drewN n)))) (some g) := only_alloc (only_drewN (World.grownBy.refl _ _) _) _
  have hg2 : w.grownBy ((w.drewN (n + 1)).alloc (bobj (tagL l) (bcap (tagL l) (w.drewN n)))) none := only_alloc (only_drewN (World.grownBy.refl _ _) _) _
  refine (sum_any _ _ _ g (tagL l) _ (by omega) (bytes_read (tagL l) _ g (w.drewN (n + 1)) (by show g ≠ w.heap.size; omega)) (hh.grown hg2 (by simp))).mono ?_
  rintro e w1 ⟨rfl, h1, hg3⟩
  go_wp2
  go_ret
  exact ⟨by rfl, h1, hg1.trans hg3⟩

/-- the document's find: the first place of a byte from a place on, or -1 -/
def findL (l : List UInt8) (c : UInt8) (k : Nat) : Int := if Lib.indexByte (l.drop k) c < 0 then -1 else (k : Int) + Lib.indexByte (l.drop k) c

theorem indexByte_cons (b c : UInt8) (l : List UInt8) : Lib.indexByte (b :: l) c = if b = c then 0 else if Lib.indexByte l c = -1 then -1 else Lib.indexByte l c + 1 := by
  simp [Lib.indexByte]
theorem indexByte_lo (l : List UInt8) (c : UInt8) : -1 ≤ Lib.indexByte l c := by
  induction l with
  | nil => simp [Lib.indexByte]
  | cons b l ih =>
    rw [indexByte_cons]
    split
    · omega
    · split
      · omega
      · omega
theorem findL_hit {l : List UInt8} {c : UInt8} {k : Nat} (h : l[k]? = some c) : findL l c k = k := by
  have hk : k < l.length := by
    rcases Nat.lt_or_ge k l.length with h' | h'
    · exact h'
    · rw [List.getElem?_eq_none h'] at h; cases h
  have e : l.drop k = c :: l.drop (k + 1) := by
    rw [List.drop_eq_getElem_cons hk]
    rw [List.getElem?_eq_getElem hk] at h
    injection h with h
    rw [h]
  unfold findL
  rw [e, indexByte_cons, if_pos rfl]
  simp
theorem findL_miss {l : List UInt8} {b c : UInt8} {k : Nat} (h : l[k]? = some b) (hne : b ≠ c) : findL l c k = findL l c (k + 1) := by
  have hk : k < l.length := by
    rcases Nat.lt_or_ge k l.length with h' | h'
    · exact h'
    · rw [List.getElem?_eq_none h'] at h; cases h
  have e : l.drop k = b :: l.drop (k + 1) := by
    rw [List.drop_eq_getElem_cons hk]
    rw [List.getElem?_eq_getElem hk] at h
    injection h with h
    rw [h]
  have hlo := indexByte_lo (l.drop (k + 1)) c
  unfold findL
  rw [e, indexByte_cons, if_neg hne]
  by_cases h1 : Lib.indexByte (l.drop (k + 1)) c = -1
  · rw [if_pos h1, h1]; rfl
  · rw [if_neg h1, if_neg (by omega), if_neg (by omega)]
    omega
theorem findL_end {l : List UInt8} {c : UInt8} {k : Nat} (h : l.length ≤ k) : findL l c k = -1 := by
  unfold findL
  rw [List.drop_of_length_le h]
  rfl

set_option maxRecDepth 100000 in
set_option maxHeartbeats 1000000 in
theorem find_any (l : List UInt8) (c : UInt8) (k : Nat) (w : World) (hs : l.length ≤ 4611686018427387904) :
    Calls Try.prog 23 #[.string (str l), .int .u8 (c.toNat : Int), .int .i64 k] w fun e w' => e = .returned (.int .i64 (findL l c k)) ∧ w = w' := by
  have hsz : (str l).size = l.length := rfl
  go_enter Try.func23, Try.ntmps23
  go_wp2
  go_loop [7] (fun i => ∃ j : Nat, i = .int .i64 j ∧ Hid (findL l c k = findL l c j)) (fun i => l.length - (intOf i).toNat)
  case atStart => exact ⟨k, rfl, by show _ = _; rfl⟩
  case round =>
    obtain ⟨j, rfl, HJ⟩ := hrel
    by_cases hj : j < l.length
    · obtain ⟨b, hb, hidx⟩ : ∃ b, l[j]? = some b ∧ ∀ h, (str l)[j]'h = b := ⟨l[j], List.getElem?_eq_getElem hj, fun _ => rfl⟩
      by_cases e : b = c
      · subst e
        have HF := Lib.hid (findL_hit hb)
        clear hb
        go_wp2
        go_ret
        exact ⟨by rw [HJ.out, HF.out]; rfl, rfl⟩
      · have HF := Lib.hid (findL_miss hb e)
        have hne : ((b.toNat : Int) == (c.toNat : Int)) = false := by
          rw [beq_eq_false_iff_ne]
          intro h
          exact e (UInt8.toNat_inj.1 (by omega))
        clear hb e
        go_wp2
        go_round
        case rel => exact ⟨j + 1, by go_num, by show _ = _; rw [HJ.out, HF.out]⟩
        case measure => simp [intOf]; omega
    · go_wp2
      go_ret
      exact ⟨by rw [HJ.out, findL_end (by omega)]; rfl, rfl⟩
theorem find_at (l : List UInt8) (c : UInt8) (k : Nat) (x y : Int) (hx : x = c.toNat) (hy : y = k) (w : World) (hs : l.length ≤ 4611686018427387904) :
    Calls Try.prog 23 #[.string (str l), .int .u8 x, .int .i64 y] w fun e w' => e = .returned (.int .i64 (findL l c k)) ∧ w = w' := by
  subst hx hy
  exact find_any l c k w hs

/-- the document's Tag -/
def rtagL (l : List UInt8) : List UInt8 :=
  if findL l 123 0 < 0 then l
  else if findL l 125 ((findL l 123 0).toNat + 1) < 0 ∨ findL l 125 ((findL l 123 0).toNat + 1) = findL l 123 0 + 1 then l
  else (l.drop ((findL l 123 0).toNat + 1)).take ((findL l 125 ((findL l 123 0).toNat + 1)).toNat - ((findL l 123 0).toNat + 1))

theorem indexByte_lt (l : List UInt8) (c : UInt8) (h : 0 ≤ Lib.indexByte l c) : Lib.indexByte l c < l.length := by
  induction l with
  | nil => simp [Lib.indexByte] at h
  | cons b l ih =>
    rw [indexByte_cons] at h ⊢
    by_cases e : b = c
    · rw [if_pos e]; simp
    · rw [if_neg e] at h ⊢
      by_cases e2 : Lib.indexByte l c = -1
      · rw [if_pos e2] at h; omega
      · rw [if_neg e2] at h ⊢
        have := indexByte_lo l c
        have := ih (by omega)
        simp only [List.length_cons]
        omega

/-- THE CODE's AND THE DOCUMENT's ANSWERS ARE ONE -/
theorem rtagL_eq (l : List UInt8) : rtagL l = tagL l := by
  unfold rtagL tagL
  have h0 : findL l 123 0 = Lib.indexByte l 123 := by
    have := indexByte_lo l 123
    unfold findL
    simp only [List.drop_zero]
    split
    · omega
    · simp
  rw [h0]
  have hlo := indexByte_lo l 123
  by_cases ha : Lib.indexByte l 123 < 0
  · rw [if_pos ha]
    have e : (cutL l 123).2.1 = [] := by unfold cutL; rw [if_neg (by omega)]
    rw [e]
    simp [cutL, Lib.indexByte]
  · rw [if_neg ha]
    obtain ⟨a, hae⟩ := Int.eq_ofNat_of_zero_le (show 0 ≤ Lib.indexByte l 123 by omega)
    have e : (cutL l 123).2.1 = l.drop (a + 1) := by unfold cutL; rw [if_pos (by omega), hae]; rfl
    rw [e, hae]
    simp only [Int.toNat_natCast]
    have hlo2 := indexByte_lo (l.drop (a + 1)) 125
    have hf : findL l 125 (a + 1) = if Lib.indexByte (l.drop (a + 1)) 125 < 0 then -1 else ((a + 1 : Nat) : Int) + Lib.indexByte (l.drop (a + 1)) 125 := rfl
    by_cases hb : Lib.indexByte (l.drop (a + 1)) 125 < 0
    · rw [if_pos hb] at hf
      rw [hf, if_pos (.inl (by omega))]
      have e2 : (cutL (l.drop (a + 1)) 125).2.2 = false := by unfold cutL; rw [if_neg (by omega)]
      rw [e2]
      rfl
    · rw [if_neg hb] at hf
      obtain ⟨b, hbe⟩ := Int.eq_ofNat_of_zero_le (show 0 ≤ Lib.indexByte (l.drop (a + 1)) 125 by omega)
      have hlt := indexByte_lt (l.drop (a + 1)) 125 (by omega)
      rw [hbe] at hf hlt
      have e2 : cutL (l.drop (a + 1)) 125 = ((l.drop (a + 1)).take b, (l.drop (a + 1)).drop (b + 1), true) := by unfold cutL; rw [if_pos (by omega), hbe]; rfl
      rw [e2, hf]
      by_cases hz : b = 0
      · subst hz
        rw [if_pos (.inr (by omega))]
        simp
      · rw [if_neg (by omega)]
        have hne : ((l.drop (a + 1)).take b).isEmpty = false := by
          have hl : ((l.drop (a + 1)).take b).length = b := by rw [List.length_take]; omega
          cases hh : (l.drop (a + 1)).take b with
          | nil => rw [hh] at hl; simp at hl; omega
          | cons _ _ => rfl
        simp only [hne, Bool.not_false, Bool.and_self, if_true]
        congr 1
        omega

theorem findL_lt (l : List UInt8) (c : UInt8) (k : Nat) (h : 0 ≤ findL l c k) : (k : Int) ≤ findL l c k ∧ findL l c k < l.length := by
  unfold findL at h ⊢
  by_cases e : Lib.indexByte (l.drop k) c < 0
  · rw [if_pos e] at h; omega
  · rw [if_neg e] at h ⊢
    have := indexByte_lt (l.drop k) c (by omega)
    rw [List.length_drop] at this
    omega

set_option maxRecDepth 100000 in
set_option maxHeartbeats 1000000 in
theorem reftag_any (l : List UInt8) (w : World) (hs : l.length ≤ 4611686018427387904) :
    Calls Try.prog 17 #[.string (str l)] w fun e w' => e = .returned (.string (str (tagL l))) ∧ w = w' := by
  have HR : Hid (tagL l = rtagL l) := (rtagL_eq l).symm
  by_cases ha : findL l 123 0 < 0
  · have HF : Hid (rtagL l = l) := by show _ = _; unfold rtagL; rw [if_pos ha]
    go_enter Try.func17, Try.ntmps17
    go_wp2_with (fail)
    refine (find_at l 123 0 _ _ rfl rfl _ hs).mono ?_
    rintro e w' ⟨rfl, rfl⟩
    go_wp2
    go_ret
    exact ⟨by rw [HR.out, HF.out]; rfl, rfl⟩
  · have hl1 := findL_lt l 123 0 (by omega)
    obtain ⟨a, hae⟩ := Int.eq_ofNat_of_zero_le (show 0 ≤ findL l 123 0 by omega)
    have hal : a < l.length := by omega
    by_cases hb : findL l 125 (a + 1) < 0
    · have HF : Hid (rtagL l = l) := by
        show _ = _
        unfold rtagL
        rw [hae, if_neg (by omega), if_pos (.inl (by rw [Int.toNat_natCast]; exact hb))]
      have HA := Lib.hid hae
      clear hae ha hl1
      go_enter Try.func17, Try.ntmps17
      go_wp2_with (fail)
      refine (find_at l 123 0 _ _ rfl rfl _ hs).mono ?_
      rintro e w' ⟨rfl, rfl⟩
      rw [HA.out]
      go_wp2_with (fail)
      refine (find_at l 125 (a + 1) _ _ rfl (by omega) _ hs).mono ?_
      rintro e w' ⟨rfl, rfl⟩
      go_wp2
      go_ret
      exact ⟨by rw [HR.out, HF.out]; rfl, rfl⟩
    · have hl2 := findL_lt l 125 (a + 1) (by omega)
      obtain ⟨b, hbe⟩ := Int.eq_ofNat_of_zero_le (show 0 ≤ findL l 125 (a + 1) by omega)
      by_cases hab : b = a + 1
      · subst hab
        have HF : Hid (rtagL l = l) := by
          show _ = _
          unfold rtagL
          rw [hae, if_neg (by omega), if_pos (.inr (by rw [Int.toNat_natCast, hbe]; omega))]
        have HA := Lib.hid hae
        have HB := Lib.hid hbe
        have hq : (((a : Int) + 1) == ((a : Int) + 1)) = true := by simp
        clear hae ha hl1 hbe hb hl2
        go_enter Try.func17, Try.ntmps17
        go_wp2_with (fail)
        refine (find_at l 123 0 _ _ rfl rfl _ hs).mono ?_
        rintro e w' ⟨rfl, rfl⟩
        rw [HA.out]
        go_wp2_with (fail)
        refine (find_at l 125 (a + 1) _ _ rfl (by omega) _ hs).mono ?_
        rintro e w' ⟨rfl, rfl⟩
        rw [HB.out]
        go_wp2
        go_ret
        exact ⟨by rw [HR.out, HF.out]; rfl, rfl⟩
      · have HF : Hid (rtagL l = (l.drop (a + 1)).take (b - (a + 1))) := by
          show _ = _
          unfold rtagL
          rw [hae, if_neg (by omega), if_neg (by rw [Int.toNat_natCast, hbe]; omega), Int.toNat_natCast, hbe, Int.toNat_natCast]
        have c1 : (a : Int) + 1 ≤ b := by omega
        have c2 : (b : Int) ≤ l.length := by omega
        have hsz : (str l).size = l.length := rfl
        have hq : ((b : Int) == ((a : Int) + 1)) = false := by rw [beq_eq_false_iff_ne]; omega
        have hsl : ∀ w : World, (Instr.slice 9 (.string (str l)) (some (.int .i64 ((a : Int) + 1))) (some (.int .i64 (b : Int))) none).run Try.prog w = .ok (.string (str ((l.drop (a + 1)).take (b - (a + 1))))) w := fun w => by
          rw [run_slice_string _ _ _ _ _ _ _ Try.underlying9 (by omega) (by omega) (by rw [hsz]; omega)]
          rw [← str_ext2, Int.toNat_natCast, show ((a : Int) + 1).toNat = a + 1 by omega]
        have HA := Lib.hid hae
        have HB := Lib.hid hbe
        clear hae ha hl1 hbe hb hl2 hab
        go_enter Try.func17, Try.ntmps17
        go_wp2_with (fail)
        refine (find_at l 123 0 _ _ rfl rfl _ hs).mono ?_
        rintro e w' ⟨rfl, rfl⟩
        rw [HA.out]
        go_wp2_with (fail)
        refine (find_at l 125 (a + 1) _ _ rfl (by omega) _ hs).mono ?_
        rintro e w' ⟨rfl, rfl⟩
        rw [HB.out]
        go_wp2
        go_ret
        exact ⟨by rw [HR.out, HF.out]; rfl, rfl⟩

set_option maxRecDepth 100000 in
set_option maxHeartbeats 1000000 in
theorem refslot_any (l : List UInt8) (w : World) (hs : l.length ≤ 4611686018427387904) :
    Calls Try.prog 19 #[.string (str l)] w fun e w' => e = .returned (.int .i64 ((crc 0 (tagL l) % 64 : Nat) : Int)) ∧ Below w.heap.size w w' := by
  have hcv := to_bytes (tagL l)
  have hle := tagL_le l
  have hlc := crc_lt 0 (tagL l) (by omega)
  go_enter Try.func19, Try.ntmps19
  go_wp2_with (go_at_call 17; refine (reftag_any l _ hs).mono ?_; rintro e w' ⟨rfl, rfl⟩)
  refine (refsum_any _ _ _ (w.heap.size + 1) (tagL l) _ (by omega) (bytes_read (tagL l) _ (w.heap.size + 1) w.drew (by show w.heap.size + 1 ≠ w.heap.size; omega))).mono ?_
  rintro e w' ⟨rfl, rfl⟩
  go_wp2
  go_ret
  exact ⟨by rfl, ((Below.refl _ _).drew).alloc (Nat.le_refl _) _⟩
end Go.Proofs.Ytaaibjibnonlaaa
