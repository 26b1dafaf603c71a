/-
  WHAT IS PROVED: the law SlotLinear answers true for every two byte slices, which read behind the call as before it: what two texts of one length are xored together has the sum that theirs are xored together; noughts have the sum 0. Condition: none.
-/
import Derived.Test.YtaaibjibnonlaaaParts
import Derived.Deep.DeepCutAuto
namespace Go.Proofs.Ytaaibjibnonlaaa
open Go.RowKit Go.ChangeShapes Go.WideShapes Go.ChangeAt Go.WideElems

theorem up_xor (s t : Nat) (x y : UInt8) (hs : s < 65536) (ht : t < 65536) : up (s ^^^ t) (x ^^^ y).toNat = up s x.toNat ^^^ up t y.toNat := by
  have hx := UInt8.toNat_lt x
  have hy := UInt8.toNat_lt y
  have e : (s ^^^ t) ^^^ (x ^^^ y).toNat * 256 = (s ^^^ x.toNat * 256) ^^^ (t ^^^ y.toNat * 256) := by
    rw [UInt8.toNat_xor, mul256_xor]
    ac_rfl
  have h := stN_xor 8 (s ^^^ x.toNat * 256) (t ^^^ y.toNat * 256) (xor_lt16 hs (by omega)) (xor_lt16 ht (by omega))
  unfold up
  rw [e, h]
theorem crc_xor (n : Nat) : ∀ (a b : List UInt8) (s t : Nat), a.length = n → b.length = n → s < 65536 → t < 65536 → crc (s ^^^ t) (List.zipWith (· ^^^ ·) a b) = crc s a ^^^ crc t b := by
  induction n with
  | zero =>
    intro a b s t ha hb _ _
    obtain rfl : a = [] := List.eq_nil_of_length_eq_zero ha
    obtain rfl : b = [] := List.eq_nil_of_length_eq_zero hb
    simp [crc]
  | succ n ih =>
    intro a b s t ha hb hs ht
    cases a with
    | nil => simp at ha
    | cons x a => cases b with
      | nil => simp at hb
      | cons y b =>
        have h := ih a b (up s x.toNat) (up t y.toNat) (by simpa using ha) (by simpa using hb) (up_lt s _ hs (UInt8.toNat_lt x)) (up_lt t _ ht (UInt8.toNat_lt y))
        rw [List.zipWith_cons_cons, crc_cons, crc_cons, crc_cons, up_xor s t x y hs ht]
        exact h
theorem crc_noughts (n : Nat) : crc 0 (List.replicate n 0) = 0 := by
  induction n with
  | zero => rfl
  | succ n ih =>
    rw [List.replicate_succ, crc_cons]
    have e : up 0 (0 : UInt8).toNat = 0 := by decide +kernel
    rw [e]; exact ih

/-- the xored text, as far as it has come -/
def lx (a b : List UInt8) (n k : Nat) : List UInt8 := (List.range n).map fun j => if j < k then a.getD j 0 ^^^ b.getD j 0 else 0
theorem lx_zero (a b : List UInt8) (n : Nat) : lx a b n 0 = List.replicate n 0 := by
  unfold lx
  apply List.ext_getElem
  · simp
  · intro i h1 h2; simp
theorem lx_full (a b : List UInt8) (n : Nat) (ha : a.length = n) (hb : b.length = n) : lx a b n n = List.zipWith (· ^^^ ·) a b := by
  unfold lx
  apply List.ext_getElem
  · simp; omega
  · intro i h1 h2
    have hi : i < n := by simpa using h1
    simp [hi, List.getD, List.getElem?_eq_getElem (show i < a.length by omega), List.getElem?_eq_getElem (show i < b.length by omega)]
theorem lx_len (a b : List UInt8) (n k : Nat) : (lx a b n k).length = n := by simp [lx]
theorem lx_step (a b : List UInt8) (n k : Nat) (x y : UInt8) (hx : a[k]? = some x) (hy : b[k]? = some y) :
    (bs (lx a b n k)).toArray.setIfInBounds k (.int .u8 ((x ^^^ y).toNat : Int)) = (bs (lx a b n (k + 1))).toArray := by
  apply Array.ext
  · simp [bs, lx]
  · intro i h1 h2
    have hi : i < n := by simpa [bs, lx] using h2
    by_cases e : k = i
    · subst e
      simp [bs, lx, List.getD, hx, hy]
    · rw [Array.getElem_setIfInBounds_ne (by simpa [bs, lx] using hi) e]
      simp only [bs, lx, List.getElem_toArray, List.getElem_map, List.getElem_range]
      by_cases e2 : i < k
      · rw [if_pos e2, if_pos (by omega)]
      · rw [if_neg e2, if_neg (by omega)]

def zobj (n : Nat) : Obj := .cells (bs (List.replicate n 0)).toArray 5
theorem made_eq (n : Nat) : madeCells (Value.cells (.int .u8 0)) n = (bs (List.replicate n 0)).toArray := by
  apply Array.ext
  · simp [madeCells, bs]
  · intro i h1 h2
    simp [madeCells, bs, Value.cells, Nat.mod_one]
theorem run_mk (n : Nat) (hn : n ≤ 4096) (w : World) : (Instr.makeSlice 22 (.int .i64 (n : Int)) (.int .i64 (n : Int))).run Try.prog w = .ok (.slice (some ⟨w.heap.size, 0, none⟩) n n) (w.alloc (zobj n)) := by
  obtain ⟨i0, hi0, hz0, hz1, hz2⟩ := info_parts u8_info
  have hr := run_make (P := Try.prog) w 22 5 i0 _ Try.underlying22 hi0 hz0 .i64 .i64 n n (by omega) (Int.le_refl _) (by rw [hz2]; omega) (by omega)
  simp only [Int.toNat_natCast, hz1, Nat.mul_one] at hr
  rw [hr, made_eq]
  rfl

theorem blk_reads {w : World} {g b n : Nat} {l : List UInt8} (h : Blk w b 5 (bs l).toArray) (hl : l.length = n) (hne : b ≠ g) : Reads w g (some ⟨b, 0, none⟩) n (bs l) := by
  refine ⟨by simp [bs, hl], fun _ => ⟨_, rfl, h.lt, hne, fun j u hu => ?_⟩⟩
  have e : (⟨b, 0, none⟩ : Addr).add j = ⟨b, j, none⟩ := by
    unfold Addr.add
    by_cases h : j = 0
    · subst h; rfl
    · simp [h]
  rw [e, h.cell j, List.getElem?_toArray]
  exact hu

/-- the two rows that were made -/
def Two (w0 : World) (n gc gz : Nat) (l : List UInt8) (w : World) : Prop :=
  gc ≠ gz ∧ w0.heap.size ≤ gc ∧ w0.heap.size ≤ gz ∧ Blk w gc 5 (bs l).toArray ∧ Blk w gz 5 (bs (List.replicate n 0)).toArray ∧ Below w0.heap.size w0 w

theorem two_made (w w1 : World) (n : Nat) (hb : Below w.heap.size w w1) : Two w n w1.heap.size (w1.heap.size + 1) (List.replicate n 0) ((w1.alloc (zobj n)).alloc (zobj n)) := by
  have h1 := Blk.new w1 5 (bs (List.replicate n 0)).toArray
  have h2 := Blk.new (w1.alloc (zobj n)) 5 (bs (List.replicate n 0)).toArray
  have hs : (w1.alloc (zobj n)).heap.size = w1.heap.size + 1 := by simp
  rw [hs] at h2
  exact ⟨by omega, hb.size, by have := hb.size; omega, h1.alloc _, h2, (hb.alloc hb.size _).alloc (by rw [hs]; have := hb.size; omega) _⟩
theorem Two.swap {w0 w : World} {n gc gz : Nat} (h : Two w0 n gc gz (List.replicate n 0) w) : Two w0 n gz gc (List.replicate n 0) w :=
  ⟨fun e => h.1 e.symm, h.2.2.1, h.2.1, h.2.2.2.2.1, h.2.2.2.1, h.2.2.2.2.2⟩
theorem Two.drew {w0 w : World} {n gc gz : Nat} {l : List UInt8} (h : Two w0 n gc gz l w) : Two w0 n gc gz l w.drew :=
  ⟨h.1, h.2.1, h.2.2.1, h.2.2.2.1, h.2.2.2.2.1, h.2.2.2.2.2.drew⟩

theorem Two.set {w0 w : World} {n gc gz k : Nat} {l l' : List UInt8} {v : Value} (h : Two w0 n gc gz l w) (e : (bs l).toArray.setIfInBounds k v = (bs l').toArray) : Two w0 n gc gz l' (w.setCell ⟨gc, k, none⟩ v) :=
  ⟨h.1, h.2.1, h.2.2.1, by rw [← e]; exact h.2.2.2.1.set_ k v, h.2.2.2.2.1.far (fun e => h.1 e.symm) v, h.2.2.2.2.2.setCell h.2.1 v⟩
theorem i64_xor16 (a b : Nat) (ha : a < 65536) (hb : b < 65536) : bits .xor .i64 (a : Int) (b : Int) = ((a ^^^ b : Nat) : Int) := i64_xor_nat a b (by omega) (by omega)

set_option maxRecDepth 100000 in
set_option maxHeartbeats 4000000 in
theorem linear_in (A B : Option Addr) (n ca cb : Nat) (la lb : List UInt8) (w : World) (hla : la.length = n) (hlb : lb.length = n) (hn : n ≤ 1000) (hra : Reads w w.heap.size A n (bs la)) (hrb : Reads w w.heap.size B n (bs lb)) :
    Calls Try.prog 7 #[.slice A n ca, .slice B n cb] w (Says true w) := by
  have hmk := run_mk n (by omega)
  have HA := Lib.hid hla
  have HB := Lib.hid hlb
  clear hla hlb
  go_enter Try.func7, Try.ntmps7
  go_upto_region 5 with (first | (go_at_call 11; refine (anchor_any _).mono ?_; rintro e w1 ⟨rfl, hb1⟩))
  go_cut [5, 6] (fun vc vz wx => ∃ gc gz, vc = .slice (some ⟨gc, 0, none⟩) n n ∧ vz = .slice (some ⟨gz, 0, none⟩) n n ∧ Two w n gc gz (List.replicate n 0) wx)
  case first =>
    go_region
    · go_wp2_with fail
      go_meet
      exact ⟨_, _, rfl, rfl, (two_made w w1 n hb1).drew⟩
    · go_wp2_with fail
      go_meet
      exact ⟨_, _, rfl, rfl, (two_made w w1 n hb1).swap.drew⟩
  case rest =>
    obtain ⟨gc, gz, rfl, rfl, h2⟩ := hcut
    clear hb1 hmk
    go_wp2
    go_loopw [7, 29] (fun _ i wr => ∃ k : Nat, k ≤ n ∧ i = .int .i64 k ∧ Two w n gc gz (lx la lb n k) wr) (fun _ i _ => n - (intOf i).toNat)
    case atStart => exact ⟨0, by omega, rfl, by rw [lx_zero]; exact h2⟩
    case round =>
      obtain ⟨k, hk, rfl, h3⟩ := hrel
      clear h2
      by_cases hkn : k < n
      · have hra' := hra.below h3.2.2.2.2.2
        have hrb' := hrb.below h3.2.2.2.2.2
        obtain ⟨ada, ua, rfl, hxa, hca⟩ := hra'.at_ hkn
        obtain ⟨adb, ub, rfl, hxb, hcb⟩ := hrb'.at_ hkn
        have na : ∀ v : Value, (wr.setCell ⟨gc, k, none⟩ v).cell? (ada.add k) = wr.cell? (ada.add k) := fun v => World.cell?_setCell_other _ _ _ _ (fun e => by
          obtain ⟨ad, e2, hlt, _, _⟩ := hra.2 (by omega)
          injection e2 with e2
          subst e2
          have := congrArg Addr.block e
          rw [block_of_add] at this
          have hgc := h3.2.1
          simp at this
          omega)
        have nb : ∀ v : Value, (wr.setCell ⟨gc, k, none⟩ v).cell? (adb.add k) = wr.cell? (adb.add k) := fun v => World.cell?_setCell_other _ _ _ _ (fun e => by
          obtain ⟨ad, e2, hlt, _, _⟩ := hrb.2 (by omega)
          injection e2 with e2
          subst e2
          have := congrArg Addr.block e
          rw [block_of_add] at this
          have hgc := h3.2.1
          simp at this
          omega)
        clear hra' hrb'
        obtain ⟨x, hx, rfl⟩ := bs_at hxa
        obtain ⟨y, hy, rfl⟩ := bs_at hxb
        have hcell : wr.cell? ⟨gc, k, none⟩ = some (.int .u8 (((lx la lb n k).getD k 0).toNat : Int)) := by
          rw [h3.2.2.2.1.cell k, List.getElem?_toArray]
          have := lx_len la lb n k
          simp [bs, List.getD, List.getElem?_eq_getElem (show k < (lx la lb n k).length by omega)]
        have hz := h3.2.2.2.1.frozen k
        have hxy : bits .xor .u8 (x.toNat : Int) (y.toNat : Int) = ((x ^^^ y).toNat : Int) := by
          rw [UInt8.toNat_xor]; exact u8_xor_nat _ _ (UInt8.toNat_lt x) (UInt8.toNat_lt y)
        have HS := Lib.hid (lx_step la lb n k x y hx hy)
        have c1 : (0 : Int) ≤ (k : Int) := by omega
        have c2 : (k : Int) < (n : Int) := by omega
        clear hxa hxb hx hy hra hrb
        go_wp2
        go_region_held3 (fun w' => w'.cell? (ada.add k) = some (.int .u8 (x.toNat : Int)) ∧ w'.cell? (adb.add k) = some (.int .u8 (y.toNat : Int))) (first | exact ⟨hca, hcb⟩ | exact ⟨(na _).trans hca, (nb _).trans hcb⟩) (first | fail)
        go_wp2
        go_roundw
        case rel => exact ⟨k + 1, by omega, by go_num, (h3.set HS.out).drew⟩
        case measure => simp [intOf]; omega
      · obtain rfl : k = n := by omega
        rw [lx_full la lb k HA.out HB.out] at h3
        have HC : Hid (crc 0 (List.zipWith (· ^^^ ·) la lb) = crc 0 la ^^^ crc 0 lb) := crc_xor k la lb 0 0 HA.out HB.out (by omega) (by omega)
        have hlz : (List.zipWith (· ^^^ ·) la lb).length = k := by rw [List.length_zipWith, HA.out, HB.out]; omega
        have HZ := Lib.hid hlz
        have hlA := crc_lt 0 la (by omega)
        have hlB := crc_lt 0 lb (by omega)
        have hbx := i64_xor16 (crc 0 la) (crc 0 lb) hlA hlB
        generalize List.zipWith (· ^^^ ·) la lb = lc at *
        clear hlz
        go_wp2_with (fail)
        refine (new_any _).mono ?_
        rintro e w4 ⟨rfl, hx4, hb4⟩
        have hgc := h3.2.2.2.1.lt
        have hgz := h3.2.2.2.2.1.lt
        have hag : Ag w wr.heap.size w4 := ⟨h3.2.2.2.2.2.size, h3.2.2.2.2.2.trans (hb4.mono h3.2.2.2.2.2.size), hx4⟩
        have hrc := blk_reads (g := wr.heap.size) (h3.2.2.2.1.below hb4 hgc) HZ.out (by omega)
        have hrz := blk_reads (g := wr.heap.size) (h3.2.2.2.2.1.below hb4 hgz) (show (List.replicate k 0).length = k by simp) (by omega)
        generalize wr.heap.size = g at *
        go_wp2_with (fail)
        refine (ag_sumr hag (by omega) hrc).mono ?_
        rintro e w5 ⟨rfl, ha5, hg5⟩
        rw [HC.out]
        go_wp2_with (fail)
        refine (ag_sum ha5 (by omega) hra).mono ?_
        rintro e w6 ⟨rfl, ha6, hg6⟩
        go_wp2_with (fail)
        refine (ag_sum ha6 (by omega) hrb).mono ?_
        rintro e w7 ⟨rfl, ha7, hg7⟩
        go_wp2_with (fail)
        refine (ag_sumr ha7 (by omega) (((hrz.only hg5).only hg6).only hg7)).mono ?_
        rintro e w8 ⟨rfl, ha8, hg8⟩
        rw [crc_noughts]
        go_wp2
        go_ret
        exact ⟨rfl, ha8.2.1⟩

set_option maxRecDepth 100000 in
set_option maxHeartbeats 1000000 in
theorem linear_out (A B : Option Addr) (n m ca cb : Nat) (w : World) (h : 1000 < n ∨ (n ≤ 1000 ∧ m ≠ n)) :
    Calls Try.prog 7 #[.slice A n ca, .slice B m cb] w (Says true w) := by
  rcases h with h | ⟨h1, h⟩
  · go_enter Try.func7, Try.ntmps7
    go_wp2_with (go_at_call 11; refine (anchor_any _).mono ?_; rintro e w1 ⟨rfl, hb1⟩)
    go_ret
    exact ⟨rfl, hb1⟩
  · have hq : ((m : Int) != (n : Int)) = true := by rw [bne_iff_ne]; omega
    clear h
    go_enter Try.func7, Try.ntmps7
    go_wp2_with (go_at_call 11; refine (anchor_any _).mono ?_; rintro e w1 ⟨rfl, hb1⟩)
    go_ret
    exact ⟨rfl, hb1⟩

theorem linear_walk (A B : Option Addr) (n m ca cb : Nat) (la lb : List UInt8) (w : World) (hla : la.length = n) (hlb : lb.length = m) (hra : Reads w w.heap.size A n (bs la)) (hrb : Reads w w.heap.size B m (bs lb)) :
    Calls Try.prog 7 #[.slice A n ca, .slice B m cb] w (Says true w) := by
  by_cases h : 1000 < n ∨ (n ≤ 1000 ∧ m ≠ n)
  · exact linear_out A B n m ca cb w h
  · obtain rfl : m = n := by omega
    exact linear_in A B m ca cb la lb w hla hlb (by omega) hra hrb

theorem linear_lifted (os : Os) (started : os.Started) (H : Type) (enc : TypeId × Value → H) :
    ReturnsInHanded {} Try.checked os 7 .any (Rows.slotLinearSpec.pre6 enc Try.prog Try.f7 Rows.slotLinearRow.domain false) (Rows.slotLinearSpec.post enc Try.prog Try.f7 false true false false) := by
  refine returnsInHanded_of_change (C := Try.checked) own started (by kernel_rfl) Try.func7
    (ChangeSpec.witness6 (enc := enc) (C := Try.checked) false ⟨#[], #[.slice none 0 0, .slice none 0 0], []⟩ 8 (by kernel_rfl) (by kernel_rfl) (by kernel_rfl) (by kernel_rfl)) ?_
  intro W base args ds gs before hval0 hW _ _
  have hval : ∀ (j : Nat) t v, Try.f7.params[j]? = some t → args[j]? = some v → Value.okWide Try.prog W .any base t v := hval0
  have hW' := hW
  obtain ⟨p, q, hA0, hV, rfl, _, _⟩ := hW
  have hA : DataW.TrodAll enc Try.prog W 0 (fun _ => true) true Try.f7.params.toList args.toList ds p := hA0
  rw [Try.params7] at hA hval
  obtain ⟨v0, vs0, d0, ds0, p0, q0, hargs, rfl, rfl, h0, r0⟩ := trodAll_cons hA
  obtain ⟨v1, vs1, d1, ds1, p1, q1, rfl, rfl, rfl, h1, r1⟩ := trodAll_cons r0
  obtain ⟨rfl, rfl, rfl⟩ := trodAll_nil r1
  obtain rfl : args = #[v0, v1] := by cases args; simp_all
  obtain ⟨rfl, rfl⟩ := trodVars_none hV
  obtain ⟨A0, n0, c0, l0, rfl, hl0, hc0, hm0, hr0⟩ := open_bytes Try.underlying22 Try.underlying5 cells_u8 (hval 0 22 v0 rfl rfl) h0
  obtain ⟨A1, n1, c1, l1, rfl, hl1, hc1, hm1, hr1⟩ := open_bytes Try.underlying22 Try.underlying5 cells_u8 (hval 1 22 v1 rfl rfl) h1
  clear hA0
  have hk := linear_walk A0 A1 n0 n1 c0 c1 l0 l1 W hl0 hl1 (hr0 _ (Nat.le_refl _)) (hr1 _ (Nat.le_refl _))
  exact hk.mono fun e W' ⟨he, hb⟩ => ⟨_, he, law_post laid_ok (by kernel_rfl) rfl Try.underlying4 rfl hW' rfl hb⟩

theorem linear_holds : Rows.SlotLinearSaid :=
  OpenClaim.holds_of_wide 7 Try.f7 rfl rfl rfl rfl rfl rfl rfl ⟨rfl, rfl, rfl, rfl, rfl⟩ rfl rfl rfl rfl rfl (by kernel_rfl) Try.func7 (by kernel_rfl)
    (of_decide_eq_true (by kernel_rfl)) (by unfold Func.isWrapper; first | (rw [if_pos (by decide +kernel)]; kernel_rfl) | (rw [if_neg (by decide +kernel)]; exact ⟨rfl, rfl⟩))
    (fun os started H enc _ => linear_lifted os started H enc)

end Go.Proofs.Ytaaibjibnonlaaa
