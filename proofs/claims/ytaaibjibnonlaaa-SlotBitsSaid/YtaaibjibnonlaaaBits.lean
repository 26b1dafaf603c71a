/-
  WHAT IS PROVED: the law SlotBits answers true for every byte slice and every two ints, and they read behind the call as before it: one bit that is turned in a text, or sixteen bits in a row of which at least one is, give another sum. Condition: none.
-/
import Derived.Test.YtaaibjibnonlaaaLinear
namespace Go.Proofs.Ytaaibjibnonlaaa
open Go.RowKit Go.ChangeShapes Go.WideShapes Go.ChangeAt Go.WideElems

theorem st_ne (s : Nat) (h : s < 65536) (hn : s ≠ 0) : st s ≠ 0 := by
  unfold st
  by_cases hs : 32768 ≤ s
  · rw [if_pos hs]
    intro e
    have e2 : s * 2 % 65536 = 4129 := by
      have := congrArg (fun x => x ^^^ 4129) e
      simpa [Nat.xor_assoc] using this
    omega
  · rw [if_neg hs]; omega
theorem stN_ne (n s : Nat) (h : s < 65536) (hn : s ≠ 0) : stN n s ≠ 0 := by
  induction n generalizing s with
  | zero => exact hn
  | succ n ih => exact ih _ (st_lt s) (st_ne s h hn)
theorem top_shift (r : Nat) (h : r ≤ 15) : stN r (32768 / 2 ^ r) = 32768 := by
  have : ∀ r, r ≤ 15 → stN r (32768 / 2 ^ r) = 32768 := by decide +kernel
  exact this r h
theorem crc_zeros (s m : Nat) : crc s (List.replicate m 0) = stN (8 * m) s := by
  induction m generalizing s with
  | zero => rfl
  | succ m ih =>
    rw [List.replicate_succ, crc_cons, ih]
    have e : up s (0 : UInt8).toNat = stN 8 s := by
      unfold up
      have : s ^^^ (0 : UInt8).toNat * 256 = s := by simp
      rw [this]
    rw [e, ← stN_add, show 8 + 8 * m = 8 * (m + 1) by omega]
/-- the sum of a text of noughts with one bit -/
theorem crc_bit (n j r : Nat) (c : UInt8) (hj : j < n) (hr : r < 8) (hc : c.toNat = 128 / 2 ^ r) :
    crc 0 (List.replicate j 0 ++ c :: List.replicate (n - 1 - j) 0) = stN (8 * n - (8 * j + r)) 32768 := by
  rw [crc_append, crc_zeros, stN_zero, crc_cons, crc_zeros]
  have e1 : up 0 c.toNat = stN (8 - r) 32768 := by
    have : ∀ r, r < 8 → up 0 (128 / 2 ^ r) = stN (8 - r) 32768 := by decide +kernel
    rw [hc]; exact this r hr
  rw [e1, ← stN_add, show 8 - r + 8 * (n - 1 - j) = 8 * n - (8 * j + r) by omega]
theorem zip_noughts (l : List UInt8) : ∀ (n : Nat), l.length = n → List.zipWith (· ^^^ ·) l (List.replicate n 0) = l := by
  induction l with
  | nil => intro n _; simp
  | cons x l ih =>
    intro n hn
    cases n with
    | zero => simp at hn
    | succ n => rw [List.replicate_succ, List.zipWith_cons_cons, ih n (by simpa using hn)]; simp
theorem zip_bit (l : List UInt8) (n j : Nat) (c x : UInt8) (hl : l.length = n) (hx : l[j]? = some x) :
    List.zipWith (· ^^^ ·) l (List.replicate j 0 ++ c :: List.replicate (n - 1 - j) 0) = l.set j (x ^^^ c) := by
  induction l generalizing n j with
  | nil => simp at hx
  | cons y l ih =>
    cases n with
    | zero => simp at hl
    | succ n =>
      cases j with
      | zero =>
        simp only [List.getElem?_cons_zero, Option.some.injEq] at hx
        subst hx
        simp only [List.replicate_zero, List.nil_append, List.zipWith_cons_cons, List.set_cons_zero]
        rw [show n + 1 - 1 - 0 = n by omega, zip_noughts l n (by simpa using hl)]
      | succ j =>
        have h := ih n j (by simpa using hl) (by simpa using hx)
        rw [List.replicate_succ, List.cons_append, List.zipWith_cons_cons, List.set_cons_succ, show n + 1 - 1 - (j + 1) = n - 1 - j by omega, h]
        simp
/-- one bit turned -/
theorem crc_turn (l : List UInt8) (n j r : Nat) (c x : UInt8) (hl : l.length = n) (hr : r < 8) (hc : c.toNat = 128 / 2 ^ r) (hx : l[j]? = some x) :
    crc 0 (l.set j (x ^^^ c)) = crc 0 l ^^^ stN (8 * n - (8 * j + r)) 32768 := by
  have hj : j < n := by have := (List.getElem?_eq_some_iff.1 hx).1; omega
  rw [← zip_bit l n j c x hl hx, ← crc_bit n j r c hj hr hc]
  exact crc_xor n l _ 0 0 hl (by simp; omega) (by omega) (by omega)

/-- the turned bits, the first one as the highest -/
def vb (x : Nat) : Nat → Nat
  | 0 => 0
  | k + 1 => vb x k ^^^ (if x.testBit k then 32768 / 2 ^ k else 0)
theorem vb_lt (x k : Nat) : vb x k < 65536 := by
  induction k with
  | zero => show 0 < 65536; omega
  | succ k ih =>
    have : 32768 / 2 ^ k ≤ 32768 := Nat.div_le_self _ _
    exact xor_lt16 ih (by split <;> omega)
theorem vb_bit (x : Nat) : ∀ k, k ≤ 16 → ∀ m, m < 16 → (vb x k).testBit (15 - m) = (decide (m < k) && x.testBit m) := by
  intro k
  induction k with
  | zero => intro _ m _; simp [vb]
  | succ k ih =>
    intro hk m hm
    have h := ih (by omega) m hm
    show (vb x k ^^^ _).testBit _ = _
    rw [Nat.testBit_xor, h]
    have e : (32768 / 2 ^ k).testBit (15 - m) = decide (m = k) := by
      have : ∀ k, k < 16 → ∀ m, m < 16 → (32768 / 2 ^ k).testBit (15 - m) = decide (m = k) := by decide +kernel
      exact this k (by omega) m hm
    by_cases hx : x.testBit k = true
    · rw [if_pos hx, e]
      by_cases hmk : m = k
      · subst hmk; simp [hx]
      · by_cases h2 : m < k
        · simp [h2, hmk, show m < k + 1 by omega]
        · simp [h2, hmk, show ¬ m < k + 1 by omega]
    · rw [if_neg hx]
      by_cases hmk : m = k
      · subst hmk; simp [Bool.eq_false_iff.2 hx]
      · by_cases h2 : m < k
        · simp [h2, show m < k + 1 by omega]
        · simp [h2, show ¬ m < k + 1 by omega]
theorem vb_ne (x : Nat) (h1 : 1 ≤ x) (h2 : x ≤ 65535) : vb x 16 ≠ 0 := by
  intro e
  have : ∃ m, x.testBit m = true := Nat.exists_testBit_of_ne_zero (by omega)
  obtain ⟨m, hm⟩ := this
  have hm16 : m < 16 := by
    rcases Nat.lt_or_ge m 16 with h | h
    · exact h
    · have hlt : x < 2 ^ m := Nat.lt_of_lt_of_le (show x < 2 ^ 16 by omega) (Nat.pow_le_pow_right (by omega) h)
      rw [Nat.testBit_lt_two_pow hlt] at hm; cases hm
  have := vb_bit x 16 (by omega) m hm16
  rw [e, hm] at this
  simp [hm16] at this

/-- a step of the loop, in the text's sum: bit k of x is set, and turns bit a + k of the text -/
theorem bit_step (b l : List UInt8) (n a k x : Nat) (c y : UInt8) (hl : l.length = n) (ha : a + k < 8 * n) (hk : k < 16) (hx : x.testBit k = true) (hc : c.toNat = 128 / 2 ^ ((a + k) % 8)) (hy : l[(a + k) / 8]? = some y)
    (h : crc 0 l = crc 0 b ^^^ stN (8 * n - a) (vb x k)) : crc 0 (l.set ((a + k) / 8) (y ^^^ c)) = crc 0 b ^^^ stN (8 * n - a) (vb x (k + 1)) := by
  rw [crc_turn l n ((a + k) / 8) ((a + k) % 8) c y hl (by omega) hc hy, h]
  have e1 : 8 * n - (8 * ((a + k) / 8) + (a + k) % 8) = 8 * n - a - k := by omega
  have e2 : stN (8 * n - a) (32768 / 2 ^ k) = stN (8 * n - a - k) 32768 := by
    conv => lhs; rw [show 8 * n - a = k + (8 * n - a - k) by omega]
    rw [stN_add, top_shift k (by omega)]
  have hd : 32768 / 2 ^ k < 65536 := by have : 32768 / 2 ^ k ≤ 32768 := Nat.div_le_self _ _; omega
  have e3 : vb x (k + 1) = vb x k ^^^ (32768 / 2 ^ k) := by simp [vb, hx]
  rw [e1, e3, stN_xor _ _ _ (vb_lt x k) hd, e2]
  ac_rfl
theorem bit_skip (x k : Nat) (hx : x.testBit k = false) : vb x (k + 1) = vb x k := by simp [vb, hx]
theorem bit_end (b l : List UInt8) (m x : Nat) (h1 : 1 ≤ x) (h2 : x ≤ 65535) (h : crc 0 l = crc 0 b ^^^ stN m (vb x 16)) : crc 0 b ≠ crc 0 l := by
  intro e
  have hne := stN_ne m (vb x 16) (vb_lt x 16) (vb_ne x h1 h2)
  apply hne
  have : crc 0 b ^^^ (crc 0 b ^^^ stN m (vb x 16)) = crc 0 b ^^^ crc 0 b := by rw [← h, ← e]
  rwa [← Nat.xor_assoc, Nat.xor_self, Nat.zero_xor] at this

theorem and_one (x k : Nat) (hx : x ≤ 65535) : bits .and .i64 ((x : Int) / 2 ^ k) 1 = ((if x.testBit k then 1 else 0 : Nat) : Int) := by
  have hd : x / 2 ^ k ≤ x := Nat.div_le_self _ _
  have e0 : ((x : Int) / 2 ^ k) = ((x / 2 ^ k : Nat) : Int) := by simp
  have e : ∀ x : Nat, x < 16777216 → (BitVec.ofInt 64 (x : Int)).toNat = x := fun x hx => by
    rw [BitVec.ofInt_natCast, BitVec.toNat_ofNat]; exact Nat.mod_eq_of_lt (by omega)
  have hv : (x / 2 ^ k) &&& 1 = if x.testBit k then 1 else 0 := by
    rw [Nat.and_one_is_mod, Nat.testBit_eq_decide_div_mod_eq]
    by_cases h : x / 2 ^ k % 2 = 1
    · simp [h]
    · simp [h]; omega
  rw [e0]
  show IntKind.i64.wrap ((BitVec.ofInt 64 ((x / 2 ^ k : Nat) : Int) &&& BitVec.ofInt 64 ((1 : Nat) : Int)).toNat : Int) = _
  rw [BitVec.toNat_and, e _ (by omega), e 1 (by omega), hv]
  split
  · exact IntWalk.i64_in _ (by omega)
  · exact IntWalk.i64_in _ (by omega)
theorem mask_xor (y : UInt8) (r : Nat) : ∃ c : UInt8, c.toNat = 128 / 2 ^ r ∧ bits .xor .u8 (y.toNat : Int) ((128 : Int) / 2 ^ r) = ((y ^^^ c).toNat : Int) := by
  have hd : 128 / 2 ^ r ≤ 128 := Nat.div_le_self _ _
  have hc : (UInt8.ofNat (128 / 2 ^ r)).toNat = 128 / 2 ^ r := by
    rw [UInt8.toNat_ofNat']
    exact Nat.mod_eq_of_lt (by omega)
  refine ⟨UInt8.ofNat (128 / 2 ^ r), hc, ?_⟩
  have e0 : ((128 : Int) / 2 ^ r) = ((128 / 2 ^ r : Nat) : Int) := by simp
  rw [e0, UInt8.toNat_xor, u8_xor_nat _ _ (UInt8.toNat_lt y) (by omega), hc]

set_option maxRecDepth 100000 in
set_option maxHeartbeats 4000000 in
theorem bits_in (A : Option Addr) (n ca a x : Nat) (lb : List UInt8) (w : World) (hlb : lb.length = n) (hn : n ≤ 4000) (ha : a < 8 * n) (h1 : 1 ≤ x) (h2 : x ≤ 65535) (hrb : Reads w w.heap.size A n (bs lb)) :
    Calls Try.prog 9 #[.slice A n ca, .int .i64 a, .int .i64 x] w (Says true w) := by
  obtain ⟨i0, hi0, hz0, hz1, hz2⟩ := info_parts u8_info
  have HI : Hid (Try.prog.info? 5 = some i0) := hi0
  have HZ0 := Lib.hid hz0
  have HZ1 := Lib.hid hz1
  have HZ2 := Lib.hid hz2
  clear hi0 hz0 hz1 hz2
  have HB := Lib.hid hlb
  clear hlb
  go_enter Try.func9, Try.ntmps9
  go_wp2_with (first
    | (go_at_call 11; refine (anchor_any _).mono ?_; rintro e w1 ⟨rfl, hb1⟩
       have hown0 : (w1.alloc (.cells #[] 5)).ownsRow w.heap.size 5 1 (.slice (some ⟨w1.heap.size, 0, none⟩) 0 0) 0 [] := World.ownsRow_lit w1 #[] 0 hb1.size (by decide) rfl
       have hba : Below w.heap.size w (w1.alloc (.cells #[] 5)) := hb1.alloc hb1.size _)
    | (at_builtin; refine wpList_append_bytes _ rfl (.tmp 34) (.tmp 35) _ rfl w.heap.size 5 i0 _ 1 Try.underlying22 HI.out HZ0.out HZ1.out HZ2.out rfl _ 0 [] rfl hown0 w.heap.size A n ca (bs lb) rfl (hrb.below hba) (bs_oneCell lb) (by unfold maxLen; omega) (by omega) hba.size ?_; intro v1 w3 hown1 hg3 hat))
  have hb3 : Below w.heap.size w w3 := hba.grown hg3 hba.size (fun k e => (hown0.lt k e).1)
  obtain ⟨g, cap, rfl, hgb, hgl⟩ := hown1.form (by omega)
  rw [Nat.zero_add, List.nil_append] at hown1
  rw [Nat.zero_add]
  clear hown0 hg3 hba hb1 hgl hat
  go_loopw [8, 9, 37] (fun _ _ i wr => ∃ (k : Nat) (lc : List UInt8), k ≤ 16 ∧ i = .int .i64 k ∧ wr.ownsRow w.heap.size 5 1 (.slice (some ⟨g, 0, none⟩) n cap) n (bs lc) ∧ Below w.heap.size w wr ∧ Hid (crc 0 lc = crc 0 lb ^^^ stN (8 * n - a) (vb x k))) (fun _ _ i _ => 16 - (intOf i).toNat)
  case atStart => exact ⟨0, lb, by omega, rfl, hown1, hb3, by show _ = _; rw [vb, stN_zero, Nat.xor_zero]⟩
  case round =>
    obtain ⟨k, lc, hk, rfl, hown, hbr, HK⟩ := hrel
    clear hown1
    by_cases hkn : k < 16
    · have hand := and_one x k h2
      cases ht : x.testBit k with
      | false =>
        have hT : (bits .and .i64 ((x : Int) / 2 ^ k) 1 == 0) = true := by rw [hand, ht]; rfl
        have HV := Lib.hid (bit_skip x k ht)
        clear hand ht
        go_wp2
        go_roundw
        case rel => exact ⟨k + 1, lc, by omega, by go_num, hown, hbr, by show _ = _; rw [HV.out, HK.out]⟩
        case measure => simp [intOf]; omega
      | true =>
        have hT : (bits .and .i64 ((x : Int) / 2 ^ k) 1 == 0) = false := by rw [hand, ht]; rfl
        have HT := Lib.hid ht
        clear hand ht
        by_cases hin : (a + k) / 8 < n
        · have hlc : lc.length = n := by have := hown.1; simpa [bs] using this
          obtain ⟨j, hj⟩ : ∃ j, j = (a + k) / 8 := ⟨_, rfl⟩
          obtain ⟨r, hr⟩ : ∃ r, r = (a + k) % 8 := ⟨_, rfl⟩
          have ej : ((a : Int) + (k : Int)) / 8 = (j : Int) := by omega
          have er : ((a : Int) + (k : Int)) % 8 = (r : Int) := by omega
          have hj2 : j < lc.length := by omega
          obtain ⟨y, hy⟩ : ∃ y, lc[j]? = some y := ⟨_, List.getElem?_eq_getElem hj2⟩
          obtain ⟨c, hc, hxor⟩ := mask_xor y r
          have hcell : wr.cell? ⟨g, j, none⟩ = some (.int .u8 (y.toNat : Int)) := by
            rw [hown.cellAt j (by omega)]
            simp [bs, hy]
          have hz := hown.frozenAt j
          have HS := Lib.hid (bit_step lb lc n a k x c y hlc (by omega) hkn HT.out (by rw [hc, hr]) (by rw [← hj]; exact hy) HK.out)
          have HJ := Lib.hid hj
          have c1 : (0 : Int) ≤ (j : Int) := by omega
          have c2 : (j : Int) < (n : Int) := by omega
          have c3 : (0 : Int) ≤ (r : Int) := by omega
          have c4 : (r : Int) ≤ 7 := by omega
          have HC := Lib.hid hc
          clear hj hr hc hy hlc
          go_wp2
          go_region
          go_wp2
          go_roundw
          case rel =>
            refine ⟨k + 1, lc.set j (y ^^^ c), by omega, by go_num, ?_, ?_, ?_⟩
            · have h := (hown.stored j (.int .u8 ((y ^^^ c).toNat : Int))).1
              rw [show (bs lc).set j (.int .u8 ((y ^^^ c).toNat : Int)) = bs (lc.set j (y ^^^ c)) by simp [bs, List.map_set]] at h
              exact h.drew
            · exact (hbr.setCell hgb _).drew
            · show _ = _
              rw [HJ.out]; exact HS.out
          case measure => simp [intOf]; omega
        · go_wp2
          go_ret
          exact ⟨rfl, hbr⟩
    · obtain rfl : k = 16 := by omega
      have hlc : lc.length = n := by have := hown.1; simpa [bs] using this
      have HE := bit_end lb lc (8 * n - a) x h1 h2 HK.out
      have HQ : ((crc 0 lb : Int) != (crc 0 lc : Int)) = true := by rw [bne_iff_ne]; omega
      have hcR : ∀ h : Nat, wr.heap.size ≤ h → Reads wr h (some ⟨g, 0, none⟩) n (bs lc) := fun h hh => by
        obtain ⟨A2, cap2, e, _, hr2⟩ := own_reads hown (g := h) (fun e => by
          have := (hown.lt h e).2
          omega)
        injection e with e1 e2 e3
        rw [e1]; exact hr2
      clear HE hlc
      go_wp2_with (fail)
      refine (new_any _).mono ?_
      rintro e w4 ⟨rfl, hx4, hb4⟩
      have hg4 := hx4.lt
      have hs4 : w.heap.size ≤ wr.heap.size := hbr.size
      have hb5 : Below w.heap.size w w4 := hbr.trans (hb4.mono hs4)
      have hrc4 : Reads w4 wr.heap.size (some ⟨g, 0, none⟩) n (bs lc) := (hcR _ (Nat.le_refl _)).below hb4
      generalize wr.heap.size = ga at *
      go_wp2_with (fail)
      refine (sum_any A n ca ga lb _ (by omega) (hrb.old hb5 hs4) hx4).mono ?_
      rintro e w5 ⟨rfl, h5, hg5⟩
      have hb6 : Below w.heap.size w w5 := hb5.trans (below_of_only hg5 hb5.size hs4)
      have hrc5 := hrc4.only hg5
      go_wp2_with (fail)
      refine (new_any _).mono ?_
      rintro e w6 ⟨rfl, hx6, hb7⟩
      have hb8 : Below w.heap.size w w6 := hb6.trans (hb7.mono hb6.size)
      have hrc6 : Reads w6 w5.heap.size (some ⟨g, 0, none⟩) n (bs lc) := (hrc5.other (Nat.le_refl _)).below hb7
      have hs6 := hb6.size
      generalize w5.heap.size = gb at *
      go_wp2_with (fail)
      refine (sum_any _ n cap gb lc _ (by omega) hrc6 hx6).mono ?_
      rintro e w7 ⟨rfl, h7, hg7⟩
      go_wp2
      go_ret
      exact ⟨rfl, hb8.trans (below_of_only hg7 hb8.size hs6)⟩

set_option maxRecDepth 100000 in
set_option maxHeartbeats 1000000 in
theorem bits_out (A : Option Addr) (n ca : Nat) (a x : Int) (w : World) (h : 4000 < n ∨ (n ≤ 4000 ∧ a < 0) ∨ (n ≤ 4000 ∧ 0 ≤ a ∧ 8 * (n : Int) ≤ a) ∨ (n ≤ 4000 ∧ 0 ≤ a ∧ a < 8 * (n : Int) ∧ x < 1) ∨ (n ≤ 4000 ∧ 0 ≤ a ∧ a < 8 * (n : Int) ∧ 1 ≤ x ∧ 65535 < x)) :
    Calls Try.prog 9 #[.slice A n ca, .int .i64 a, .int .i64 x] w (Says true w) := by
  rcases h with h | ⟨h1, h⟩ | ⟨h1, h2, h⟩ | ⟨h1, h2, h3, h⟩ | ⟨h1, h2, h3, h4, h⟩
  all_goals
    go_enter Try.func9, Try.ntmps9
    go_wp2_with (go_at_call 11; refine (anchor_any _).mono ?_; rintro e w1 ⟨rfl, hb1⟩)
    go_ret
    exact ⟨rfl, hb1⟩

theorem bits_walk (A : Option Addr) (n ca : Nat) (a x : Int) (lb : List UInt8) (w : World) (hlb : lb.length = n) (hrb : Reads w w.heap.size A n (bs lb)) :
    Calls Try.prog 9 #[.slice A n ca, .int .i64 a, .int .i64 x] w (Says true w) := by
  by_cases h : 4000 < n ∨ (n ≤ 4000 ∧ a < 0) ∨ (n ≤ 4000 ∧ 0 ≤ a ∧ 8 * (n : Int) ≤ a) ∨ (n ≤ 4000 ∧ 0 ≤ a ∧ a < 8 * (n : Int) ∧ x < 1) ∨ (n ≤ 4000 ∧ 0 ≤ a ∧ a < 8 * (n : Int) ∧ 1 ≤ x ∧ 65535 < x)
  · exact bits_out A n ca a x w h
  · obtain ⟨p, rfl⟩ := Int.eq_ofNat_of_zero_le (show 0 ≤ a by omega)
    obtain ⟨q, rfl⟩ := Int.eq_ofNat_of_zero_le (show 0 ≤ x by omega)
    exact bits_in A n ca p q lb w hlb (by omega) (by omega) (by omega) (by omega) hrb

theorem bits_lifted (os : Os) (started : os.Started) (H : Type) (enc : TypeId × Value → H) :
    ReturnsInHanded {} Try.checked os 9 .any (Rows.slotBitsSpec.pre6 enc Try.prog Try.f9 Rows.slotBitsRow.domain false) (Rows.slotBitsSpec.post enc Try.prog Try.f9 false true false false) := by
  refine returnsInHanded_of_change (C := Try.checked) own started (by kernel_rfl) Try.func9
    (ChangeSpec.witness6 (enc := enc) (C := Try.checked) false ⟨#[], #[.slice none 0 0, .int .i64 0, .int .i64 0], []⟩ 8 (by kernel_rfl) (by kernel_rfl) (by kernel_rfl) (by kernel_rfl)) ?_
  intro W base args ds gs before hval0 hW _ _
  have hval : ∀ (j : Nat) t v, Try.f9.params[j]? = some t → args[j]? = some v → Value.okWide Try.prog W .any base t v := hval0
  have hW' := hW
  obtain ⟨p, q, hA0, hV, rfl, _, _⟩ := hW
  have hA : DataW.TrodAll enc Try.prog W 0 (fun _ => true) true Try.f9.params.toList args.toList ds p := hA0
  rw [Try.params9] at hA hval
  obtain ⟨v0, vs0, d0, ds0, p0, q0, hargs, rfl, rfl, h0, r0⟩ := trodAll_cons hA
  obtain ⟨v1, vs1, d1, ds1, p1, q1, rfl, rfl, rfl, h1, r1⟩ := trodAll_cons r0
  obtain ⟨v2, vs2, d2, ds2, p2, q2, rfl, rfl, rfl, h2, r2⟩ := trodAll_cons r1
  obtain ⟨rfl, rfl, rfl⟩ := trodAll_nil r2
  obtain rfl : args = #[v0, v1, v2] := by cases args; simp_all
  obtain ⟨rfl, rfl⟩ := trodVars_none hV
  obtain ⟨A0, n0, c0, l0, rfl, hl0, hc0, hm0, hr0⟩ := open_bytes Try.underlying22 Try.underlying5 cells_u8 (hval 0 22 v0 rfl rfl) h0
  obtain ⟨z1, rfl, rfl, rfl, wz1⟩ := open_int Try.underlying3 (hval 1 3 v1 rfl rfl) h1
  obtain ⟨z2, rfl, rfl, rfl, wz2⟩ := open_int Try.underlying3 (hval 2 3 v2 rfl rfl) h2
  clear hA0
  have hk := bits_walk A0 n0 c0 z1 z2 l0 W hl0 (hr0 _ (Nat.le_refl _))
  exact hk.mono fun e W' ⟨he, hb⟩ => ⟨_, he, law_post laid_ok (by kernel_rfl) rfl Try.underlying4 rfl hW' rfl hb⟩

theorem bits_holds : Rows.SlotBitsSaid :=
  OpenClaim.holds_of_wide 9 Try.f9 rfl rfl rfl rfl rfl rfl rfl ⟨rfl, rfl, rfl, rfl, rfl⟩ rfl rfl rfl rfl rfl (by kernel_rfl) Try.func9 (by kernel_rfl)
    (of_decide_eq_true (by kernel_rfl)) (by unfold Func.isWrapper; first | (rw [if_pos (by decide +kernel)]; kernel_rfl) | (rw [if_neg (by decide +kernel)]; exact ⟨rfl, rfl⟩))
    (fun os started H enc _ => bits_lifted os started H enc)

end Go.Proofs.Ytaaibjibnonlaaa
