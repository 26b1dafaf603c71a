/-
  WHAT IS PROVED: the text of a list of numbers. Conditions: the numbers are there, at most 1000; the library's table of powers is laid.
-/
import Derived.Test.YtemokbggchodgaaDoorEvm
import Derived.Test.YtemokbggchodgaaDoorNum
import Derived.Test.YtemokbggchodgaaDoorBack
import Derived.Test.YtemokbggchodgaaDoorShelf
namespace Go.Proofs.YtemokbggchodgaaDoor
open Go.RowKit Go.Lib
set_option maxRecDepth 100000

/-- what the library's variables must hold -/
def Env (w : World) : Prop := Lib.TabBelow Tryd.prog w.heap.size w "internal/strconv.uint64pow10" .u64 Lib.pow10Tab
theorem Env.below {w w' : World} (h : Env w) (hb : Below w.heap.size w w') : Env w' := fun w2 h2 => h w2 (hb.trans (h2.mono hb.size))
theorem Env.on {w w' : World} (h : Env w) (hb : Below w.heap.size w w') : Lib.TabBelow Tryd.prog w.heap.size w' "internal/strconv.uint64pow10" .u64 Lib.pow10Tab := Lib.TabBelow.on h hb
theorem bs_len (l : List UInt8) : (bs l).length = l.length := by unfold bs; simp
theorem bs_one (l : List UInt8) : ∀ u ∈ bs l, u.oneCell' = true := by
  intro u hu
  unfold bs at hu
  obtain ⟨c, _, rfl⟩ := List.mem_map.1 hu
  rfl
theorem bs_app (l m : List UInt8) : bs (l ++ m) = bs l ++ bs m := by unfold bs; rw [List.map_append]
theorem u8_info : (Tryd.prog.info? 5).map (fun i => (i.zero, i.size, i.bytes)) = some (some (.int .u8 0), 1, 1) := by kernel_rfl
theorem Rd.reads {w : World} {F : Nat → Prop} {n : Nat} {A : Option Addr} {xs : List Value} (h : Rd w F 1 A n xs) : Reads w w.heap.size A n xs := by
  refine ⟨by have := h.1; omega, fun hn => ?_⟩
  obtain ⟨ad, e, hlt, _, hc⟩ := h.2 hn
  exact ⟨ad, e, hlt, by omega, hc⟩
theorem own_lo {w : World} {base s n : Nat} {e : TypeId} {v : Value} {xs : List Value} (h : w.ownsRow base e s v n xs) {k : Nat} (hk : v.ownBlock = some k) : base ≤ k := by
  rcases h.2 with ⟨rfl, _⟩ | ⟨b, cap, cur, rfl, hb, _⟩
  · simp [Value.ownBlock] at hk
  · simp [Value.ownBlock] at hk; omega
set_option maxHeartbeats 4000000 in
theorem textof_any (w : World) (F : Nat → Prop) (A : Option Addr) (n c : Nat) (l : List Int) (hr : Rd w F 1 A n (zints l)) (hi : ∀ v ∈ l, inI v) (hn : n ≤ 1000) (hE : Env w) :
    Calls Tryd.prog 13 #[.slice A n c] w fun e w' => e = .returned (.string (str (tx l))) ∧ Below w.heap.size w w' := by
  obtain ⟨i0, hi0, hz0, hz1, hz2⟩ := info_parts u8_info
  have HI0 := Lib.hid hi0
  have HZ0 := Lib.hid hz0
  have HZ1 := Lib.hid hz1
  have HZ2 := Lib.hid hz2
  have HR := Lib.hid hr
  have HI := Lib.hid hi
  have HE := Lib.hid hE
  have HL := Lib.hid hr.lenZ
  clear hr hi hE hi0 hz0 hz1 hz2
  go_enter Tryd.func13, Tryd.ntmps13
  go_wp2
  go_loopw [3, 8] (fun v i wr => ∃ (k m : Nat), k ≤ n ∧ i = .int .i64 k ∧ (tx (l.take k)).length = m ∧ wr.ownsRow w.heap.size 5 1 v m (bs (tx (l.take k))) ∧ Below w.heap.size w wr) (fun _ i _ => n - (RowKit.intOf i).toNat)
  case atStart => exact ⟨0, 0, by omega, rfl, rfl, World.ownsRow_nil _ _ _ _, Below.refl _ _⟩
  case round =>
    rename_i v0 _
    obtain ⟨w3, rfl⟩ : ∃ w3, w3 = wr := ⟨_, rfl⟩
    obtain ⟨k, m, hk, rfl, hm, hown, hb3⟩ := hrel
    have HM := Lib.hid hm
    have HO := Lib.hid hown
    have HB3 := Lib.hid hb3
    by_cases hlt : k < n
    · obtain ⟨ad, z, rfl, hz, hbl, _, c0⟩ := (HR.out.below hb3).atZ hlt
      have hzi := HI.out z (List.mem_of_getElem? hz)
      have HT := Lib.hid (tx_more hz)
      have hml : m ≤ 22000 := by
        have h1 := tx_len (l := l.take k) (fun x hx => HI.out x (List.mem_of_mem_take hx))
        rw [List.length_take] at h1
        omega
      have HLZ : Hid ((itoa z).length ≤ 21) := Lib.hid (Lib.itoa_length_le z hzi.1 hzi.2)
      have HZI := Lib.hid hzi
      clear hm hown hb3 hz hbl hzi
      go_wp2_with (fail)
      refine (Tryd.strconv_AppendInt_10 w.heap.size m z HZI.out.1 HZI.out.2 _ _ w3 HO.out HB3.out.size (by omega) (HE.out.on HB3.out)).mono ?_
      rintro e w4 ⟨v4, rfl, ho4, hb4, _⟩
      have HO4 := Lib.hid ho4
      have HB4 := Lib.hid (HB3.out.trans hb4)
      obtain ⟨w5, hw5⟩ : ∃ x, w4.alloc (.cells #[.int .u8 32] 5) = x := ⟨_, rfl⟩
      have hb5 : Below w4.heap.size w4 w5 := by rw [← hw5]; exact (Below.refl _ _).alloc (Nat.le_refl _) _
      have hx5 : Blk w5 w4.heap.size 5 #[.int .u8 32] := by rw [← hw5]; exact Blk.new _ _ _
      have HO5 := Lib.hid (own_below ho4 hb5)
      have HB5 := Lib.hid (HB4.out.trans (hb5.mono HB4.out.size))
      have HR5 : Hid (Rd w5 no 1 (some ⟨w4.heap.size, 0, none⟩) 1 (bs [32])) := Lib.hid ⟨rfl, fun _ => ⟨_, rfl, hx5.lt, fun f => f, fun j u hu => by
        rw [Go.WideShapes.add_plain, Nat.zero_add, hx5.cell j]
        simpa [bs] using hu⟩⟩
      clear ho4 hb4 hb5 hx5
      go_wp2_with (at_builtin; refine wpList_append_rd _ rfl (.tmp 14) (.tmp 15) 55 rfl w.heap.size 5 i0 _ 1 1 Tryd.underlying55 HI0.out HZ0.out HZ1.out HZ2.out rfl (by omega) _ _ _ rfl HO5.out no _ 1 1 (bs [32]) rfl HR5.out (bs_one _) (by have := HLZ.out; unfold maxLen; omega) (by have := HLZ.out; omega) HB5.out.size ?_; intro v6 w6 ho6 hg6 _; have HO6 := Lib.hid ho6; have HB6 : Hid (Below w.heap.size w w6) := Lib.hid (HB5.out.grown hg6 HB5.out.size (fun b hb => own_lo HO5.out hb)); clear ho6 hg6)
      go_roundw
      case rel => exact ⟨k + 1, m + (itoa z).length + 1, by omega, by go_num, by rw [HT.out, List.length_append, List.length_append, HM.out]; rfl, by rw [HT.out, bs_app, bs_app]; exact HO6.out, HB6.out⟩
      case measure => simp [RowKit.intOf]; omega
    · obtain rfl : k = n := by omega
      obtain ⟨A9, c9, rfl, _, _⟩ := own_form hown
      have hT : l.take k = l := List.take_of_length_le (by rw [HL.out]; exact Nat.le_refl _)
      rw [hT] at hown
      have q1 := bytes_back (c := c9) (Rd.of_own (F := no) hown rfl (fun _ _ f => f)).reads
      clear hm hown hb3 hT
      go_wp2
      go_ret
      exact ⟨rfl, HB3.out⟩
end Go.Proofs.YtemokbggchodgaaDoor
