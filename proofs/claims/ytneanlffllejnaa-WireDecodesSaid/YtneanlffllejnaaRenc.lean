/-
  WHAT IS PROVED: contract of the document's Encode: the bytes of a right packet. Condition: the section's cells are there; the sets are no negative numbers.
-/
import Derived.Test.YtneanlffllejnaaEncode
import Derived.Test.YtneanlffllejnaaRef
namespace Go.Proofs.Ytneanlffllejnaa
open Go.RowKit Go.Lib

set_option maxRecDepth 100000 in
set_option maxHeartbeats 8000000 in
theorem renc_any (p : Pk) (A : Option Addr) (n cap : Nat) (w : World) (hl : p.sec.length = n) (hE : EsAt w A n p.sec) (hok : okP p = true) (hs : p.sets) :
    Calls Try.prog 17 #[vP p (.slice A n cap)] w fun e w' => ∃ v, e = .returned v ∧ OwnB w' w.heap.size v (enc p) ∧ Below w.heap.size w w' := by
  obtain ⟨hk, g1, g2, g3, g4, g5, g6, g7, hn3, hes⟩ := ok_parts hok
  obtain ⟨⟨hsl, hsl2⟩, ⟨hsa, hsa2⟩⟩ := hs
  obtain ⟨kind, frm, ep, cf, ma, sl, off, ab, ac, as_, sec⟩ := p
  dsimp only at hl hE hk g1 g2 g3 g4 g5 g6 g7 hn3 hes hsl hsl2 hsa hsa2
  obtain ⟨kind, rfl⟩ := Int.eq_ofNat_of_zero_le (show 0 ≤ kind by omega)
  obtain ⟨frm, rfl⟩ := Int.eq_ofNat_of_zero_le (show 0 ≤ frm by omega)
  obtain ⟨ep, rfl⟩ := Int.eq_ofNat_of_zero_le (show 0 ≤ ep by omega)
  obtain ⟨cf, rfl⟩ := Int.eq_ofNat_of_zero_le (show 0 ≤ cf by omega)
  obtain ⟨ma, rfl⟩ := Int.eq_ofNat_of_zero_le (show 0 ≤ ma by omega)
  obtain ⟨sl, rfl⟩ := Int.eq_ofNat_of_zero_le (show 0 ≤ sl by omega)
  obtain ⟨off, rfl⟩ := Int.eq_ofNat_of_zero_le (show 0 ≤ off by omega)
  obtain ⟨ab, rfl⟩ := Int.eq_ofNat_of_zero_le (show 0 ≤ ab by omega)
  obtain ⟨ac, rfl⟩ := Int.eq_ofNat_of_zero_le (show 0 ≤ ac by omega)
  obtain ⟨as_, rfl⟩ := Int.eq_ofNat_of_zero_le (show 0 ≤ as_ by omega)
  have w_frm : IntKind.u64.wrap (frm : Int) = (frm : Int) := by rw [IntKind.wrap_u64]; omega
  have w_ep : IntKind.u64.wrap (ep : Int) = (ep : Int) := by rw [IntKind.wrap_u64]; omega
  have w_cf : IntKind.u64.wrap (cf : Int) = (cf : Int) := by rw [IntKind.wrap_u64]; omega
  have w_ma : IntKind.u64.wrap (ma : Int) = (ma : Int) := by rw [IntKind.wrap_u64]; omega
  have w_off : IntKind.u64.wrap (off : Int) = (off : Int) := by rw [IntKind.wrap_u64]; omega
  have w_ab : IntKind.u64.wrap (ab : Int) = (ab : Int) := by rw [IntKind.wrap_u64]; omega
  have w_ac : IntKind.u64.wrap (ac : Int) = (ac : Int) := by rw [IntKind.wrap_u64]; omega
  have h_frm : frm < 18446744073709551616 := by omega
  have h_ep : ep < 18446744073709551616 := by omega
  have h_cf : cf < 18446744073709551616 := by omega
  have h_ma : ma < 18446744073709551616 := by omega
  have h_sl : sl < 18446744073709551616 := by omega
  have h_off : off < 18446744073709551616 := by omega
  have h_ab : ab < 18446744073709551616 := by omega
  have h_ac : ac < 18446744073709551616 := by omega
  have h_as_ : as_ < 18446744073709551616 := by omega
  have HKD : Hid ((kind : Int) % 256 = ((b8 kind).toNat : Int)) := by show _ = _; rw [b8_nat]; omega
  have hn3' : n ≤ 3 := by omega
  have HLN : Hid ((n : Int) = ((b8 sec.length).toNat : Int)) := by show _ = _; rw [b8_nat]; omega
  have HL := Lib.hid hl
  have HES := Lib.hid hes
  clear hok hl hes hk g1 g2 g3 g4 g5 g6 g7 hn3 hsl hsl2 hsa hsa2
  simp only [vP]
  have BK0 := Lib.hid (Blk.new w 30 #[.int .i64 (kind : Int), .int .i64 (frm : Int), .int .i64 (ep : Int), .int .i64 (cf : Int), .int .i64 (ma : Int), .int .u64 (sl : Int), .int .i64 (off : Int), .int .i64 (ab : Int), .int .i64 (ac : Int), .int .u64 (as_ : Int), .slice A n cap])
  have HB0 : Hid (Below w.heap.size w (w.alloc (.cells #[.int .i64 (kind : Int), .int .i64 (frm : Int), .int .i64 (ep : Int), .int .i64 (cf : Int), .int .i64 (ma : Int), .int .u64 (sl : Int), .int .i64 (off : Int), .int .i64 (ab : Int), .int .i64 (ac : Int), .int .u64 (as_ : Int), .slice A n cap] 30))) := (Below.refl _ _).alloc (Nat.le_refl _) _
  have c0 := BK0.out.cell 0
  have HEE := Lib.hid hE
  clear hE
  go_enter Try.func17, Try.ntmps17
  go_upto_region 2 with (fail)
  obtain ⟨w0, hw0⟩ : ∃ x, w.alloc (.cells #[.int .i64 (kind : Int), .int .i64 (frm : Int), .int .i64 (ep : Int), .int .i64 (cf : Int), .int .i64 (ma : Int), .int .u64 (sl : Int), .int .i64 (off : Int), .int .i64 (ab : Int), .int .i64 (ac : Int), .int .u64 (as_ : Int), .slice A n cap] 30) = x := ⟨_, rfl⟩
  have hs0 : w0.heap.size = w.heap.size + 1 := by rw [← hw0]; simp
  rw [hw0] at BK0 HB0 ⊢
  have ho : OwnB (w0.alloc (.cells #[.int .u8 71, .int .u8 86, .int .u8 1, .int .u8 ((kind : Int) % 256)] 5)) (w.heap.size + 1) (.slice (some ⟨w.heap.size + 1, 0, none⟩) 4 4) [71, 86, 1, b8 kind] := by
    rw [← hs0]
    exact OwnB.lit w0 (Nat.le_refl _) (by simp) _ (by rw [HKD.out]; rfl) 4 rfl
  have bk := BK0.out.alloc (.cells #[.int .u8 71, .int .u8 86, .int .u8 1, .int .u8 ((kind : Int) % 256)] 5)
  have hb : Below (w.heap.size + 1) w0 (w0.alloc (.cells #[.int .u8 71, .int .u8 86, .int .u8 1, .int .u8 ((kind : Int) % 256)] 5)) := (Below.refl _ _).alloc (Nat.le_of_eq hs0.symm) _
  obtain ⟨wa, hwa⟩ : ∃ x, w0.alloc (.cells #[.int .u8 71, .int .u8 86, .int .u8 1, .int .u8 ((kind : Int) % 256)] 5) = x := ⟨_, rfl⟩
  rw [hwa] at ho bk hb ⊢
  clear c0 hw0 hwa
  have HS0 := Lib.hid hs0
  clear hs0
  obtain ⟨l0, hl0⟩ : ∃ l : List UInt8, [71, 86, 1, b8 kind] = l := ⟨_, rfl⟩
  have n0 : l0.length = 4 := by rw [← hl0]; rfl
  rw [hl0] at ho
  have HL0 := Lib.hid hl0
  clear hl0
  have HO := Lib.hid ho
  have BK := Lib.hid bk
  have HB := Lib.hid hb
  clear ho bk hb
  have hc := BK.out.cell 1
  go_upto_region 3 with (first | (go_at_call 36; refine (eight_any frm h_frm _).mono ?_; rintro e w' ⟨rfl, hbk, hbe⟩; have hre := blk_reads (g := w'.heap.size) hbk (eight_len frm) (Nat.ne_of_lt hbk.lt); have hoe := HO.out.kept hbe; have bke := BK.out.below hbe BK.out.lt; have hbb := HB.out.trans (hbe.mono (Nat.le_trans (Nat.le_of_eq HS0.out.symm) HB.out.size)); have hze := Nat.le_trans (Nat.le_of_eq HS0.out.symm) hbb.size; have hne := hoe.ne (b := w.heap.size) (.inl (Nat.lt_succ_self _))) | (at_builtin; go_loud (refine wpList_push rfl (.tmp 10) (.tmp 14) rfl (w.heap.size + 1) _ _ rfl hoe _ _ 8 8 (eight frm) rfl hre (by omega) hze ?_; intro v1 w1 ho' hg'; have bk' := bke.grown hg'.1 hne.symm; have hb' := hbb.trans (hg'.below hoe hze))))
  obtain ⟨l1, hl1⟩ : ∃ l, l0 ++ eight frm = l := ⟨_, rfl⟩
  have n1 : l1.length = 12 := by rw [← hl1, List.length_append, n0, eight_len]
  rw [hl1] at ho'
  have HL1 := Lib.hid hl1
  clear hl1 n0 hc hre hoe bke hbb hze hne hbk hbe hg' HO BK HB
  have HO := Lib.hid ho'
  have BK := Lib.hid bk'
  have HB := Lib.hid hb'
  clear ho' bk' hb' w_frm h_frm
  have hc := BK.out.cell 2
  go_upto_region 4 with (first | (go_at_call 36; refine (eight_any ep h_ep _).mono ?_; rintro e w' ⟨rfl, hbk, hbe⟩; have hre := blk_reads (g := w'.heap.size) hbk (eight_len ep) (Nat.ne_of_lt hbk.lt); have hoe := HO.out.kept hbe; have bke := BK.out.below hbe BK.out.lt; have hbb := HB.out.trans (hbe.mono (Nat.le_trans (Nat.le_of_eq HS0.out.symm) HB.out.size)); have hze := Nat.le_trans (Nat.le_of_eq HS0.out.symm) hbb.size; have hne := hoe.ne (b := w.heap.size) (.inl (Nat.lt_succ_self _))) | (at_builtin; go_loud (refine wpList_push rfl (.tmp 16) (.tmp 20) rfl (w.heap.size + 1) _ _ rfl hoe _ _ 8 8 (eight ep) rfl hre (by omega) hze ?_; intro v2 w2 ho' hg'; have bk' := bke.grown hg'.1 hne.symm; have hb' := hbb.trans (hg'.below hoe hze))))
  obtain ⟨l2, hl2⟩ : ∃ l, l1 ++ eight ep = l := ⟨_, rfl⟩
  have n2 : l2.length = 20 := by rw [← hl2, List.length_append, n1, eight_len]
  rw [hl2] at ho'
  have HL2 := Lib.hid hl2
  clear hl2 n1 hc hre hoe bke hbb hze hne hbk hbe hg' HO BK HB
  have HO := Lib.hid ho'
  have BK := Lib.hid bk'
  have HB := Lib.hid hb'
  clear ho' bk' hb' w_ep h_ep
  have hc := BK.out.cell 3
  go_upto_region 5 with (first | (go_at_call 36; refine (eight_any cf h_cf _).mono ?_; rintro e w' ⟨rfl, hbk, hbe⟩; have hre := blk_reads (g := w'.heap.size) hbk (eight_len cf) (Nat.ne_of_lt hbk.lt); have hoe := HO.out.kept hbe; have bke := BK.out.below hbe BK.out.lt; have hbb := HB.out.trans (hbe.mono (Nat.le_trans (Nat.le_of_eq HS0.out.symm) HB.out.size)); have hze := Nat.le_trans (Nat.le_of_eq HS0.out.symm) hbb.size; have hne := hoe.ne (b := w.heap.size) (.inl (Nat.lt_succ_self _))) | (at_builtin; go_loud (refine wpList_push rfl (.tmp 22) (.tmp 26) rfl (w.heap.size + 1) _ _ rfl hoe _ _ 8 8 (eight cf) rfl hre (by omega) hze ?_; intro v3 w3 ho' hg'; have bk' := bke.grown hg'.1 hne.symm; have hb' := hbb.trans (hg'.below hoe hze))))
  obtain ⟨l3, hl3⟩ : ∃ l, l2 ++ eight cf = l := ⟨_, rfl⟩
  have n3 : l3.length = 28 := by rw [← hl3, List.length_append, n2, eight_len]
  rw [hl3] at ho'
  have HL3 := Lib.hid hl3
  clear hl3 n2 hc hre hoe bke hbb hze hne hbk hbe hg' HO BK HB
  have HO := Lib.hid ho'
  have BK := Lib.hid bk'
  have HB := Lib.hid hb'
  clear ho' bk' hb' w_cf h_cf
  have hc := BK.out.cell 4
  go_upto_region 6 with (first | (go_at_call 36; refine (eight_any ma h_ma _).mono ?_; rintro e w' ⟨rfl, hbk, hbe⟩; have hre := blk_reads (g := w'.heap.size) hbk (eight_len ma) (Nat.ne_of_lt hbk.lt); have hoe := HO.out.kept hbe; have bke := BK.out.below hbe BK.out.lt; have hbb := HB.out.trans (hbe.mono (Nat.le_trans (Nat.le_of_eq HS0.out.symm) HB.out.size)); have hze := Nat.le_trans (Nat.le_of_eq HS0.out.symm) hbb.size; have hne := hoe.ne (b := w.heap.size) (.inl (Nat.lt_succ_self _))) | (at_builtin; go_loud (refine wpList_push rfl (.tmp 28) (.tmp 32) rfl (w.heap.size + 1) _ _ rfl hoe _ _ 8 8 (eight ma) rfl hre (by omega) hze ?_; intro v4 w4 ho' hg'; have bk' := bke.grown hg'.1 hne.symm; have hb' := hbb.trans (hg'.below hoe hze))))
  obtain ⟨l4, hl4⟩ : ∃ l, l3 ++ eight ma = l := ⟨_, rfl⟩
  have n4 : l4.length = 36 := by rw [← hl4, List.length_append, n3, eight_len]
  rw [hl4] at ho'
  have HL4 := Lib.hid hl4
  clear hl4 n3 hc hre hoe bke hbb hze hne hbk hbe hg' HO BK HB
  have HO := Lib.hid ho'
  have BK := Lib.hid bk'
  have HB := Lib.hid hb'
  clear ho' bk' hb' w_ma h_ma
  have hc := BK.out.cell 5
  go_upto_region 7 with (first | (go_at_call 36; refine (eight_any sl h_sl _).mono ?_; rintro e w' ⟨rfl, hbk, hbe⟩; have hre := blk_reads (g := w'.heap.size) hbk (eight_len sl) (Nat.ne_of_lt hbk.lt); have hoe := HO.out.kept hbe; have bke := BK.out.below hbe BK.out.lt; have hbb := HB.out.trans (hbe.mono (Nat.le_trans (Nat.le_of_eq HS0.out.symm) HB.out.size)); have hze := Nat.le_trans (Nat.le_of_eq HS0.out.symm) hbb.size; have hne := hoe.ne (b := w.heap.size) (.inl (Nat.lt_succ_self _))) | (at_builtin; go_loud (refine wpList_push rfl (.tmp 34) (.tmp 37) rfl (w.heap.size + 1) _ _ rfl hoe _ _ 8 8 (eight sl) rfl hre (by omega) hze ?_; intro v5 w5 ho' hg'; have bk' := bke.grown hg'.1 hne.symm; have hb' := hbb.trans (hg'.below hoe hze))))
  obtain ⟨l5, hl5⟩ : ∃ l, l4 ++ eight sl = l := ⟨_, rfl⟩
  have n5 : l5.length = 44 := by rw [← hl5, List.length_append, n4, eight_len]
  rw [hl5] at ho'
  have HL5 := Lib.hid hl5
  clear hl5 n4 hc hre hoe bke hbb hze hne hbk hbe hg' HO BK HB
  have HO := Lib.hid ho'
  have BK := Lib.hid bk'
  have HB := Lib.hid hb'
  clear ho' bk' hb' h_sl
  have hc := BK.out.cell 6
  go_upto_region 8 with (first | (go_at_call 36; refine (eight_any off h_off _).mono ?_; rintro e w' ⟨rfl, hbk, hbe⟩; have hre := blk_reads (g := w'.heap.size) hbk (eight_len off) (Nat.ne_of_lt hbk.lt); have hoe := HO.out.kept hbe; have bke := BK.out.below hbe BK.out.lt; have hbb := HB.out.trans (hbe.mono (Nat.le_trans (Nat.le_of_eq HS0.out.symm) HB.out.size)); have hze := Nat.le_trans (Nat.le_of_eq HS0.out.symm) hbb.size; have hne := hoe.ne (b := w.heap.size) (.inl (Nat.lt_succ_self _))) | (at_builtin; go_loud (refine wpList_push rfl (.tmp 39) (.tmp 43) rfl (w.heap.size + 1) _ _ rfl hoe _ _ 8 8 (eight off) rfl hre (by omega) hze ?_; intro v6 w6 ho' hg'; have bk' := bke.grown hg'.1 hne.symm; have hb' := hbb.trans (hg'.below hoe hze))))
  obtain ⟨l6, hl6⟩ : ∃ l, l5 ++ eight off = l := ⟨_, rfl⟩
  have n6 : l6.length = 52 := by rw [← hl6, List.length_append, n5, eight_len]
  rw [hl6] at ho'
  have HL6 := Lib.hid hl6
  clear hl6 n5 hc hre hoe bke hbb hze hne hbk hbe hg' HO BK HB
  have HO := Lib.hid ho'
  have BK := Lib.hid bk'
  have HB := Lib.hid hb'
  clear ho' bk' hb' w_off h_off
  have hc := BK.out.cell 7
  go_upto_region 9 with (first | (go_at_call 36; refine (eight_any ab h_ab _).mono ?_; rintro e w' ⟨rfl, hbk, hbe⟩; have hre := blk_reads (g := w'.heap.size) hbk (eight_len ab) (Nat.ne_of_lt hbk.lt); have hoe := HO.out.kept hbe; have bke := BK.out.below hbe BK.out.lt; have hbb := HB.out.trans (hbe.mono (Nat.le_trans (Nat.le_of_eq HS0.out.symm) HB.out.size)); have hze := Nat.le_trans (Nat.le_of_eq HS0.out.symm) hbb.size; have hne := hoe.ne (b := w.heap.size) (.inl (Nat.lt_succ_self _))) | (at_builtin; go_loud (refine wpList_push rfl (.tmp 45) (.tmp 49) rfl (w.heap.size + 1) _ _ rfl hoe _ _ 8 8 (eight ab) rfl hre (by omega) hze ?_; intro v7 w7 ho' hg'; have bk' := bke.grown hg'.1 hne.symm; have hb' := hbb.trans (hg'.below hoe hze))))
  obtain ⟨l7, hl7⟩ : ∃ l, l6 ++ eight ab = l := ⟨_, rfl⟩
  have n7 : l7.length = 60 := by rw [← hl7, List.length_append, n6, eight_len]
  rw [hl7] at ho'
  have HL7 := Lib.hid hl7
  clear hl7 n6 hc hre hoe bke hbb hze hne hbk hbe hg' HO BK HB
  have HO := Lib.hid ho'
  have BK := Lib.hid bk'
  have HB := Lib.hid hb'
  clear ho' bk' hb' w_ab h_ab
  have hc := BK.out.cell 8
  go_upto_region 10 with (first | (go_at_call 36; refine (eight_any ac h_ac _).mono ?_; rintro e w' ⟨rfl, hbk, hbe⟩; have hre := blk_reads (g := w'.heap.size) hbk (eight_len ac) (Nat.ne_of_lt hbk.lt); have hoe := HO.out.kept hbe; have bke := BK.out.below hbe BK.out.lt; have hbb := HB.out.trans (hbe.mono (Nat.le_trans (Nat.le_of_eq HS0.out.symm) HB.out.size)); have hze := Nat.le_trans (Nat.le_of_eq HS0.out.symm) hbb.size; have hne := hoe.ne (b := w.heap.size) (.inl (Nat.lt_succ_self _))) | (at_builtin; go_loud (refine wpList_push rfl (.tmp 51) (.tmp 55) rfl (w.heap.size + 1) _ _ rfl hoe _ _ 8 8 (eight ac) rfl hre (by omega) hze ?_; intro v8 w8 ho' hg'; have bk' := bke.grown hg'.1 hne.symm; have hb' := hbb.trans (hg'.below hoe hze))))
  obtain ⟨l8, hl8⟩ : ∃ l, l7 ++ eight ac = l := ⟨_, rfl⟩
  have n8 : l8.length = 68 := by rw [← hl8, List.length_append, n7, eight_len]
  rw [hl8] at ho'
  have HL8 := Lib.hid hl8
  clear hl8 n7 hc hre hoe bke hbb hze hne hbk hbe hg' HO BK HB
  have HO := Lib.hid ho'
  have BK := Lib.hid bk'
  have HB := Lib.hid hb'
  clear ho' bk' hb' w_ac h_ac
  have hc := BK.out.cell 9
  go_upto_region 11 with (first | (go_at_call 36; refine (eight_any as_ h_as_ _).mono ?_; rintro e w' ⟨rfl, hbk, hbe⟩; have hre := blk_reads (g := w'.heap.size) hbk (eight_len as_) (Nat.ne_of_lt hbk.lt); have hoe := HO.out.kept hbe; have bke := BK.out.below hbe BK.out.lt; have hbb := HB.out.trans (hbe.mono (Nat.le_trans (Nat.le_of_eq HS0.out.symm) HB.out.size)); have hze := Nat.le_trans (Nat.le_of_eq HS0.out.symm) hbb.size; have hne := hoe.ne (b := w.heap.size) (.inl (Nat.lt_succ_self _))) | (at_builtin; go_loud (refine wpList_push rfl (.tmp 57) (.tmp 60) rfl (w.heap.size + 1) _ _ rfl hoe _ _ 8 8 (eight as_) rfl hre (by omega) hze ?_; intro v9 w9 ho' hg'; have bk' := bke.grown hg'.1 hne.symm; have hb' := hbb.trans (hg'.below hoe hze))))
  obtain ⟨l9, hl9⟩ : ∃ l, l8 ++ eight as_ = l := ⟨_, rfl⟩
  have n9 : l9.length = 76 := by rw [← hl9, List.length_append, n8, eight_len]
  rw [hl9] at ho'
  have HL9 := Lib.hid hl9
  clear hl9 n8 hc hre hoe bke hbb hze hne hbk hbe hg' HO BK HB
  have HO := Lib.hid ho'
  have BK := Lib.hid bk'
  have HB := Lib.hid hb'
  clear ho' bk' hb' h_as_
  have hr4 := lit_reads w9 #[.int .u8 ((b8 sec.length).toNat : Int)] (l := [b8 sec.length]) rfl 1 rfl
  have hsz9 : w.heap.size + 1 ≤ w9.heap.size := Nat.le_trans (Nat.le_of_eq HS0.out.symm) HB.out.size
  have ho4 := HO.out.alloc (.cells #[.int .u8 ((b8 sec.length).toNat : Int)] 5)
  rw [← HLN.out] at hr4 ho4
  have hbA := HB.out.alloc hsz9 (.cells #[.int .u8 (n : Int)] 5)
  have c10 := BK.out.cell 10
  have hz4 : w.heap.size + 1 ≤ (w9.alloc (.cells #[.int .u8 (n : Int)] 5)).heap.size := by simp; omega
  have BKA := Lib.hid (BK.out.alloc (.cells #[.int .u8 (n : Int)] 5))
  have hne9 := ho4.ne (b := w.heap.size) (.inl (Nat.lt_succ_self _))
  have hl9s : l9.length + 1 ≤ 1000000 := by omega
  go_wp2_with (at_builtin; refine wpList_push rfl (.tmp 62) (.tmp 67) rfl (w.heap.size + 1) _ _ rfl ho4 _ _ 1 1 [b8 sec.length] rfl hr4 hl9s hz4 ?_; intro v10 w10 ho10 hg10; have bk10 := BKA.out.grown hg10.1 hne9.symm; have hb10 := hbA.trans (hg10.below ho4 hz4))
  have hEH : l9 ++ [b8 sec.length] = encH ⟨(kind : Int), (frm : Int), (ep : Int), (cf : Int), (ma : Int), (sl : Int), (off : Int), (ab : Int), (ac : Int), (as_ : Int), sec⟩ := by
    rw [← HL9.out, ← HL8.out, ← HL7.out, ← HL6.out, ← HL5.out, ← HL4.out, ← HL3.out, ← HL2.out, ← HL1.out, ← HL0.out]
    rfl
  rw [hEH] at ho10
  have HO10 := Lib.hid ho10
  have BK10 := Lib.hid bk10
  have HB10 := Lib.hid hb10
  clear hr4 hsz9 ho4 hbA c10 hz4 BKA hne9 hl9s hg10 bk10 hb10 ho10 hEH HO BK HB n9 HL0 HL1 HL2 HL3 HL4 HL5 HL6 HL7 HL8 HL9
  go_loopw [3, 4] (fun b i wr => ∃ k : Nat, k ≤ n ∧ i = .int .i64 k ∧ OwnB wr (w.heap.size + 1) b (encH ⟨(kind : Int), (frm : Int), (ep : Int), (cf : Int), (ma : Int), (sl : Int), (off : Int), (ab : Int), (ac : Int), (as_ : Int), sec⟩ ++ (sec.take k).flatMap encE) ∧ Below (w.heap.size + 1) w0 wr) (fun _ i _ => n - (intOf i).toNat)
  case atStart => exact ⟨0, by omega, rfl, by simpa using HO10.out, HB10.out⟩
  case round =>
    obtain ⟨wr, rfl⟩ : ∃ x, x = wr := ⟨_, rfl⟩
    obtain ⟨k, hk, rfl, ho, hb⟩ := hrel
    clear HO10 BK10 HB10
    have hsz : w.heap.size + 1 ≤ wr.heap.size := Nat.le_trans (Nat.le_of_eq HS0.out.symm) hb.size
    have hbk : Blk wr w.heap.size 30 #[.int .i64 (kind : Int), .int .i64 (frm : Int), .int .i64 (ep : Int), .int .i64 (cf : Int), .int .i64 (ma : Int), .int .u64 (sl : Int), .int .i64 (off : Int), .int .i64 (ab : Int), .int .i64 (ac : Int), .int .u64 (as_ : Int), .slice A n cap] := BK0.out.below hb (Nat.lt_succ_self _)
    have HBK := Lib.hid hbk
    have HO := Lib.hid ho
    have HB := Lib.hid hb
    have c10 := hbk.cell 10
    have hlen : (encH ⟨(kind : Int), (frm : Int), (ep : Int), (cf : Int), (ma : Int), (sl : Int), (off : Int), (ab : Int), (ac : Int), (as_ : Int), sec⟩ ++ (sec.take k).flatMap encE).length = 77 + 9 * k := by rw [List.length_append, encH_len, secs_len, List.length_take, HL.out]; omega
    clear hbk ho hb
    by_cases hkn : k < n
    · obtain ⟨ad, e, rfl, he, hlt, d0, d1⟩ := (HEE.out.below (HB0.out.trans (HB.out.mono (Nat.le_succ _)))).at_ hkn
      have HM := Lib.hid (fe_snoc he)
      have hev := HES.out e (List.mem_of_getElem? he)
      obtain ⟨id, st⟩ := e
      dsimp only at d0 d1 HM hev
      obtain ⟨m, rfl⟩ := Int.eq_ofNat_of_zero_le (show 0 ≤ id by omega)
      obtain ⟨s, rfl⟩ := Int.eq_ofNat_of_zero_le hev.2.2.1
      rw [Int.toNat_natCast, Int.toNat_natCast] at HM
      have hwm : IntKind.u64.wrap (m : Int) = (m : Int) := by rw [IntKind.wrap_u64]; omega
      have hws : IntKind.u8.wrap (s : Int) = ((b8 s).toNat : Int) := by rw [IntKind.wrap_u8, b8_nat]; omega
      have hmm : m < 18446744073709551616 := by omega
      have hlt0 : ad.block < w.heap.size := by
        obtain ⟨ad0, ea, hlt0, _⟩ := HEE.out.2 (by omega)
        injection ea with ea
        rw [ea]; exact hlt0
      have HD1 := Lib.hid d1
      have HWS := Lib.hid hws
      clear he hev d1 hws
      go_upto_region 16 with (first | (go_at_call 36; refine (eight_any m hmm _).mono ?_; rintro e w' ⟨rfl, hbe', hbe⟩; have hre := blk_reads (g := w'.heap.size) hbe' (eight_len m) (Nat.ne_of_lt hbe'.lt); have hoe := HO.out.kept hbe; have bke := HBK.out.below hbe HBK.out.lt; have hbx := (hbe.mono hsz); have hze := Nat.le_trans hsz hbx.size; have hne := hoe.ne (b := w.heap.size) (.inl (Nat.lt_succ_self _))) | (at_builtin; refine wpList_push rfl (.tmp 76) (.tmp 84) rfl (w.heap.size + 1) _ _ rfl hoe _ _ 8 8 (eight m) rfl hre (by omega) hze ?_; intro v11 w11 ho11 hg11; have bk11 := bke.grown hg11.1 hne.symm; have hb11 := hbx.trans (hg11.below hoe hze)))
      have e1 : w11.cell? ⟨(ad.add (k * 2)).block, (ad.add (k * 2)).off + 1, none⟩ = some (.int .i64 (s : Int)) := (hb11.cell (p := ⟨(ad.add (k * 2)).block, (ad.add (k * 2)).off + 1, none⟩) (by show (ad.add (k * 2)).block < _; rw [block_of_add]; omega)).trans HD1.out
      have hz11 := Nat.le_trans hsz hb11.size
      have c11 := bk11.cell 10
      have hws := HWS.out
      have hr12 := lit_reads w11 #[.int .u8 ((b8 s).toNat : Int)] (l := [b8 s]) rfl 1 rfl
      have ho12 := ho11.alloc (.cells #[.int .u8 ((b8 s).toNat : Int)] 5)
      have hb12 := hb11.alloc hz11 (.cells #[.int .u8 ((b8 s).toNat : Int)] 5)
      have hz12 : w.heap.size + 1 ≤ (w11.alloc (.cells #[.int .u8 ((b8 s).toNat : Int)] 5)).heap.size := by simp; omega
      have hln12 : (encH ⟨(kind : Int), (frm : Int), (ep : Int), (cf : Int), (ma : Int), (sl : Int), (off : Int), (ab : Int), (ac : Int), (as_ : Int), sec⟩ ++ (sec.take k).flatMap encE ++ eight m).length + 1 ≤ 1000000 := by rw [List.length_append, hlen, eight_len]; omega
      clear ho11 hre hoe bke hbx hze hne hbe hbe' hg11 c10 d0
      go_wp2_with (at_builtin; refine wpList_push rfl (.tmp 86) (.tmp 94) rfl (w.heap.size + 1) _ _ rfl ho12 _ _ 1 1 [b8 s] rfl hr12 hln12 hz12 ?_; intro v13 w13 ho13 hg13; have hb13 := hb12.trans (hg13.below ho12 hz12))
      go_roundw
      case rel => exact ⟨k + 1, by omega, by go_num, by rw [HM.out, ← List.append_assoc, ← List.append_assoc]; exact ho13, HB.out.trans hb13⟩
      case measure => simp [intOf]; omega
    · obtain rfl : n = k := by omega
      have ho := HO.out
      rw [List.take_of_length_le (by rw [HL.out]; exact Nat.le_refl _)] at ho hlen
      rw [show encH ⟨(kind : Int), (frm : Int), (ep : Int), (cf : Int), (ma : Int), (sl : Int), (off : Int), (ab : Int), (ac : Int), (as_ : Int), sec⟩ ++ sec.flatMap encE = encB ⟨(kind : Int), (frm : Int), (ep : Int), (cf : Int), (ma : Int), (sl : Int), (off : Int), (ab : Int), (ac : Int), (as_ : Int), sec⟩ from rfl] at ho hlen
      obtain ⟨A7, c7, rfl, hc7, hcm7, hr7⟩ := ho.reads
      rw [hlen] at hc7 hr7 ⊢
      obtain ⟨M, hM⟩ : ∃ M, M = 77 + 9 * n := ⟨_, rfl⟩
      rw [← hM] at hc7 hr7 hlen ⊢
      have hMl : M ≤ 104 := by omega
      obtain ⟨s, hs⟩ : ∃ s, crc 0 (encB ⟨(kind : Int), (frm : Int), (ep : Int), (cf : Int), (ma : Int), (sl : Int), (off : Int), (ab : Int), (ac : Int), (as_ : Int), sec⟩) = s := ⟨_, rfl⟩
      have hs16 : s < 65536 := by rw [← hs]; exact crc_lt 0 _ (by omega)
      have HSS := Lib.hid hs
      have HO7 := Lib.hid ho
      have HLE := Lib.hid hlen
      clear hs hM ho hlen HO
      have e1 : IntKind.u8.wrap ((s : Int) / 256) = ((b8 (s / 256)).toNat : Int) := by rw [IntKind.wrap_u8, b8_nat]; omega
      have e2 : IntKind.u8.wrap ((s : Int) % 256) = ((b8 s).toNat : Int) := by rw [IntKind.wrap_u8, b8_nat]; omega
      have ho8 := HO7.out.alloc (.cells #[.int .u8 ((b8 (s / 256)).toNat : Int), .int .u8 ((b8 s).toNat : Int)] 5)
      rw [HLE.out] at ho8
      have hr8 := lit_reads wr #[.int .u8 ((b8 (s / 256)).toNat : Int), .int .u8 ((b8 s).toNat : Int)] (l := two s) rfl 2 rfl
      have hz8 : w.heap.size + 1 ≤ (wr.alloc (.cells #[.int .u8 ((b8 (s / 256)).toNat : Int), .int .u8 ((b8 s).toNat : Int)] 5)).heap.size := by simp; omega
      have hln8 : (encB ⟨(kind : Int), (frm : Int), (ep : Int), (cf : Int), (ma : Int), (sl : Int), (off : Int), (ab : Int), (ac : Int), (as_ : Int), sec⟩).length + 2 ≤ 1000000 := by rw [HLE.out]; omega
      have hb8 := HB.out.alloc hsz (.cells #[.int .u8 ((b8 (s / 256)).toNat : Int), .int .u8 ((b8 s).toNat : Int)] 5)
      have HR7 := Lib.hid (hr7 wr.heap.size (Nat.le_refl _))
      clear hr7
      go_wp2_with (first | (go_at_call 37; refine (refsum_any A7 M c7 wr.heap.size (encB ⟨(kind : Int), (frm : Int), (ep : Int), (cf : Int), (ma : Int), (sl : Int), (off : Int), (ab : Int), (ac : Int), (as_ : Int), sec⟩) wr (by omega) HR7.out).mono ?_; rintro e w8 ⟨rfl, rfl⟩; rw [HSS.out]) | (at_builtin; refine wpList_push rfl (.tmp 98) (.tmp 105) rfl (w.heap.size + 1) _ _ rfl ho8 _ _ 2 2 (two s) rfl hr8 hln8 hz8 ?_; intro v9 w9 ho9 hg9; have hb9 := hb8.trans (hg9.below ho8 hz8)))
      go_ret
      have he : encB ⟨(kind : Int), (frm : Int), (ep : Int), (cf : Int), (ma : Int), (sl : Int), (off : Int), (ab : Int), (ac : Int), (as_ : Int), sec⟩ ++ two s = enc ⟨(kind : Int), (frm : Int), (ep : Int), (cf : Int), (ma : Int), (sl : Int), (off : Int), (ab : Int), (ac : Int), (as_ : Int), sec⟩ := by rw [← HSS.out]; rfl
      rw [he] at ho9
      exact ⟨_, rfl, ownB_mono ho9 (Nat.le_succ _), HB0.out.trans (hb9.mono (Nat.le_succ _))⟩
end Go.Proofs.Ytneanlffllejnaa
