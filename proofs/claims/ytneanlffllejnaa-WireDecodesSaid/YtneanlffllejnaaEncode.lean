/-
  WHAT IS PROVED: contract of Encode: a packet that isn't right is refused; the bytes of one that is are the document's. Conditions: the section's cells are there, the sets fit.
-/
import Derived.Test.YtneanlffllejnaaNums
import Derived.Test.YtneanlffllejnaaEight
import Derived.Deep.RegionHeld3
import Derived.Deep.DeepCutAuto
namespace Go.Proofs.Ytneanlffllejnaa
open Go.RowKit Go.Lib

theorem fm_len (l : List Nat) : (l.flatMap eight).length = 8 * l.length := by
  induction l with
  | nil => rfl
  | cons a l ih => rw [List.flatMap_cons, List.length_append, ih, eight_len, List.length_cons]; omega
theorem fm_snoc {l : List Nat} {k n : Nat} (h : l[k]? = some n) : (l.take (k + 1)).flatMap eight = (l.take k).flatMap eight ++ eight n := by
  rw [List.take_add_one, h, List.flatMap_append]; simp
theorem fe_snoc {l : List En} {k : Nat} {e : En} (h : l[k]? = some e) : (l.take (k + 1)).flatMap encE = (l.take k).flatMap encE ++ (eight e.id.toNat ++ [b8 e.st.toNat]) := by
  rw [List.take_add_one, h, List.flatMap_append]; simp [encE]
theorem Grew.ne {w w' : World} {v v' : Value} (h : Grew w v w' v') {b : Nat} (hb : b < w.heap.size) (hne : v.ownBlock ≠ some b) : v'.ownBlock ≠ some b := by
  rcases h.2 with e | ⟨c, e, hc⟩
  · rw [e]; exact hne
  · rw [e]; intro h; injection h with h; omega
theorem ownB_mono {w : World} {B B' : Nat} {v : Value} {l : List UInt8} (h : OwnB w B v l) (hB : B' ≤ B) : OwnB w B' v l := by
  refine ⟨h.1, ?_⟩
  rcases h.2 with e | ⟨g, cap, cur, hv, hb, r⟩
  · exact .inl e
  · exact .inr ⟨g, cap, cur, hv, Nat.le_trans hB hb, r⟩
theorem lit_grew {w w' : World} {v v' : Value} {l : List UInt8} (cs : Array Value) (hc : cs = (bs l).toArray) (n : Nat) (hl : l.length = n) (hg : Grew (w.alloc (.cells cs 5)) v w' v') (hne : v.ownBlock ≠ some w.heap.size) : Reads w' w'.heap.size (some ⟨w.heap.size, 0, none⟩) n (bs l) := by
  subst hc
  have h := (Blk.new w 5 (bs l).toArray).grown hg.1 (fun e => hne e.symm)
  exact blk_reads h hl (Nat.ne_of_lt h.lt)
theorem ent_cells {w : World} {b : Nat} {t : TypeId} {x y : Value} (h : Blk w b t #[x, y]) : w.cell? ⟨b, 0, none⟩ = some x ∧ w.cell? ⟨b, 1, none⟩ = some y := ⟨h.cell 0, h.cell 1⟩

set_option maxRecDepth 100000 in
set_option maxHeartbeats 1000000 in
theorem encode_no (p : Pk) (A : Option Addr) (n cap : Nat) (w : World) (hl : p.sec.length = n) (hE : EsAt w A n p.sec) (hok : okP p = false) :
    Calls Try.prog 12 #[vP p (.slice A n cap)] w fun e w' => e = .returned (.tuple #[.slice none 0 0, .int .i64 10]) ∧ Below w.heap.size w w' := by
  obtain ⟨kind, frm, ep, cf, ma, sl, off, ab, ac, as_, sec⟩ := p
  dsimp only at hl hE
  have HOK := Lib.hid hok
  clear hok
  simp only [vP]
  have hB0 : Below w.heap.size w (w.alloc (.cells #[.int .i64 kind, .int .i64 frm, .int .i64 ep, .int .i64 cf, .int .i64 ma, .int .u64 sl, .int .i64 off, .int .i64 ab, .int .i64 ac, .int .u64 as_, .slice A n cap] 26)) := (Below.refl _ _).alloc (Nat.le_refl _) _
  go_enter Try.func12, Try.ntmps12
  go_wp2_with (fail)
  refine (right_any ⟨kind, frm, ep, cf, ma, sl, off, ab, ac, as_, sec⟩ A n cap _ hl (hE.below hB0)).mono ?_
  rintro e w1 ⟨rfl, hb1⟩
  rw [HOK.out]
  have hB1 := hB0.trans (hb1.mono hB0.size)
  clear hb1 hB0 hE
  go_wp2
  go_ret2
  exact ⟨rfl, hB1⟩

set_option maxRecDepth 100000 in
set_option maxHeartbeats 2000000 in
theorem encode_yes (p : Pk) (A : Option Addr) (n cap : Nat) (w : World) (hl : p.sec.length = n) (hE : EsAt w A n p.sec) (hok : okP p = true) (hs : p.sets) :
    Calls Try.prog 12 #[vP p (.slice A n cap)] w fun e w' => ∃ v, e = .returned (.tuple #[v, .int .i64 0]) ∧ OwnB w' w.heap.size v (enc p) ∧ Below w.heap.size w w' := by
  obtain ⟨hk, _, _, _, _, _, _, _, hn3, hes⟩ := ok_parts hok
  obtain ⟨kind, frm, ep, cf, ma, sl, off, ab, ac, as_, sec⟩ := p
  dsimp only at hl hE hk hn3 hes
  have HOK := Lib.hid hok
  have HES := Lib.hid hes
  have HS := Lib.hid hs
  have HKD : Hid (kind % 256 = ((b8 kind.toNat).toNat : Int)) := by show _ = _; rw [b8_nat]; omega
  have hn3' : n ≤ 3 := by omega
  have HLN : Hid ((n : Int) = ((b8 sec.length).toNat : Int)) := by show _ = _; rw [b8_nat]; omega
  have HL := Lib.hid hl
  clear hok hes hs hk hn3 hl
  simp only [vP]
  have bk0 := Blk.new w 26 #[.int .i64 kind, .int .i64 frm, .int .i64 ep, .int .i64 cf, .int .i64 ma, .int .u64 sl, .int .i64 off, .int .i64 ab, .int .i64 ac, .int .u64 as_, .slice A n cap]
  have hB0 : Below w.heap.size w (w.alloc (.cells #[.int .i64 kind, .int .i64 frm, .int .i64 ep, .int .i64 cf, .int .i64 ma, .int .u64 sl, .int .i64 off, .int .i64 ab, .int .i64 ac, .int .u64 as_, .slice A n cap] 26)) := (Below.refl _ _).alloc (Nat.le_refl _) _
  go_enter Try.func12, Try.ntmps12
  go_wp2_with (fail)
  refine (right_any ⟨kind, frm, ep, cf, ma, sl, off, ab, ac, as_, sec⟩ A n cap _ HL.out (hE.below hB0)).mono ?_
  rintro e w1 ⟨rfl, hb1⟩
  rw [HOK.out]
  have bk1 := bk0.below hb1 bk0.lt
  have hB1 := hB0.trans (hb1.mono hB0.size)
  have hs1 : w.heap.size + 1 ≤ w1.heap.size := by have := hb1.size; simpa using this
  obtain ⟨k0, k1, k2, k3, k4, k5, k6, k7, k8, k9, k10⟩ := pk_cells bk1
  clear hb1 bk0 hB0
  have ho1 : OwnB (w1.alloc (.cells #[.int .u8 71, .int .u8 86, .int .u8 1, .int .u8 (kind % 256)] 5)) (w.heap.size + 1) (.slice (some ⟨w1.heap.size, 0, none⟩) 4 4) [71, 86, 1, b8 kind.toNat] :=
    OwnB.lit w1 hs1 (by simp) _ (by rw [HKD.out]; rfl) 4 rfl
  have bk1' := bk1.alloc (.cells #[.int .u8 71, .int .u8 86, .int .u8 1, .int .u8 (kind % 256)] 5)
  obtain ⟨j0, j1, j2, j3, j4, j5, j6, j7, j8, j9, j10⟩ := pk_cells bk1'
  go_wp2_with (fail)
  refine (numbers_any ⟨kind, frm, ep, cf, ma, sl, off, ab, ac, as_, sec⟩ (.slice A n cap) _ HOK.out HS.out).mono ?_
  rintro e w2 ⟨rfl, hb2⟩
  have ho2 := ho1.kept hb2
  have hB2 : Below (w.heap.size + 1) w1 w2 := ((Below.refl _ _).alloc hs1 _).trans (hb2.mono (by simp; omega))
  clear ho1 bk1' j0 j1 j2 j3 j4 j5 j6 j7 j8 j9 j10 k0 k1 k2 k3 k4 k5 k6 k7 k8 k9 k10 hb2
  have BK := Lib.hid bk1
  have HB1 := Lib.hid hB1
  clear bk1 hB1
  have HEE := Lib.hid hE
  clear hE
  go_wp2
  go_loopw [4, 6, 18] (fun b _ i wr => ∃ k : Nat, k ≤ 9 ∧ i = .int .i64 k ∧ OwnB wr (w.heap.size + 1) b ([71, 86, 1, b8 kind.toNat] ++ ((nums ⟨kind, frm, ep, cf, ma, sl, off, ab, ac, as_, sec⟩).take k).flatMap eight) ∧ Below (w.heap.size + 1) w1 wr) (fun _ _ i _ => 9 - (intOf i).toNat)
  case atStart => exact ⟨0, by omega, rfl, by simpa using ho2, hB2⟩
  case round =>
    obtain ⟨k, hk, rfl, ho, hb⟩ := hrel
    clear ho2 hB2
    have hsz : w.heap.size + 1 ≤ wr.heap.size := Nat.le_trans hs1 hb.size
    have HB := Lib.hid hb
    by_cases hk9 : k < 9
    · obtain ⟨m, hm1, hm2⟩ := nv_at ⟨kind, frm, ep, cf, ma, sl, off, ab, ac, as_, sec⟩ hk9
      have HM := Lib.hid (fm_snoc hm1)
      have hix := index_nums ⟨kind, frm, ep, cf, ma, sl, off, ab, ac, as_, sec⟩ hk9 hm2
      have hlen : ([71, 86, 1, b8 kind.toNat] ++ ((nums ⟨kind, frm, ep, cf, ma, sl, off, ab, ac, as_, sec⟩).take k).flatMap eight).length ≤ 1000 := by
        rw [List.length_append, fm_len, List.length_take]
        have : (nums ⟨kind, frm, ep, cf, ma, sl, off, ab, ac, as_, sec⟩).length = 9 := rfl
        rw [this]
        show 4 + _ ≤ _
        omega
      clear hm1 hm2 hb
      go_wp2_with (fail)
      refine (write_any (w.heap.size + 1) _ _ m _ ho hsz hlen).mono ?_
      rintro e w3 ⟨v3, rfl, ho3, hg3⟩
      have hb3 := HB.out.trans (hg3.below ho hsz)
      go_wp2
      go_roundw
      case rel => exact ⟨k + 1, by omega, by go_num, by rw [HM.out, ← List.append_assoc]; exact ho3, hb3⟩
      case measure => simp [intOf]; omega
    · obtain rfl : k = 9 := by omega
      have bkr := BK.out.below hb (Nat.lt_succ_self _)
      obtain ⟨k0, k1, k2, k3, k4, k5, k6, k7, k8, k9, k10⟩ := pk_cells bkr
      have hlen9 : ([71, 86, 1, b8 kind.toNat] ++ ((nums ⟨kind, frm, ep, cf, ma, sl, off, ab, ac, as_, sec⟩).take 9).flatMap eight).length = 76 := rfl
      have hr4 := lit_reads wr #[.int .u8 ((b8 sec.length).toNat : Int)] (l := [b8 sec.length]) rfl 1 rfl
      have ho4 := ho.alloc (.cells #[.int .u8 ((b8 sec.length).toNat : Int)] 5)
      rw [← HLN.out] at hr4 ho4
      clear k0 k1 k2 k3 k4 k5 k6 k7 k8 k9 hb
      go_wp2_with (at_builtin; refine wpList_push rfl (.tmp 25) (.tmp 30) rfl (w.heap.size + 1) _ _ rfl ho4 _ _ 1 1 [b8 sec.length] rfl hr4 (by rw [hlen9]; omega) (by simp; omega) ?_; intro v5 w5 ho5 hg5; have hB5 := (HB.out.alloc hsz _).trans (hg5.below ho4 (by simp; omega)); have c10 := (BK.out.below hB5 (Nat.lt_succ_self _)).cell 10)
      clear hg5 ho4 hr4 k10 bkr ho
      rw [show ([71, 86, 1, b8 kind.toNat] ++ ((nums ⟨kind, frm, ep, cf, ma, sl, off, ab, ac, as_, sec⟩).take 9).flatMap eight) ++ [b8 sec.length] = encH ⟨kind, frm, ep, cf, ma, sl, off, ab, ac, as_, sec⟩ from rfl] at ho5
      go_loopw [4, 8, 35] (fun b _ i wr => ∃ k : Nat, k ≤ n ∧ i = .int .i64 k ∧ OwnB wr (w.heap.size + 1) b (encH ⟨kind, frm, ep, cf, ma, sl, off, ab, ac, as_, sec⟩ ++ (sec.take k).flatMap encE) ∧ Below (w.heap.size + 1) w1 wr) (fun _ _ i _ => n - (intOf i).toNat)
      case atStart => exact ⟨0, by omega, rfl, by simpa using ho5, hB5⟩
      case round =>
        obtain ⟨k, hk, rfl, ho, hb⟩ := hrel
        clear ho5 hB5 HB hsz
        obtain ⟨w6, rfl⟩ : ∃ w6, w6 = wr := ⟨_, rfl⟩
        have hsz : w.heap.size + 1 ≤ w6.heap.size := Nat.le_trans hs1 hb.size
        have HB := Lib.hid hb
        have hlen : (encH ⟨kind, frm, ep, cf, ma, sl, off, ab, ac, as_, sec⟩ ++ (sec.take k).flatMap encE).length = 77 + 9 * k := by rw [List.length_append, encH_len, secs_len, List.length_take, HL.out]; omega
        by_cases hkn : k < n
        · obtain ⟨ad, e, rfl, he, hlt, d0, d1⟩ := (HEE.out.below (HB1.out.trans (hb.mono (Nat.le_succ _)))).at_ hkn
          have HM := Lib.hid (fe_snoc he)
          have hev := HES.out e (List.mem_of_getElem? he)
          obtain ⟨id, st⟩ := e
          dsimp only at d0 d1 HM hev
          obtain ⟨m, rfl⟩ := Int.eq_ofNat_of_zero_le (show 0 ≤ id by omega)
          obtain ⟨s, rfl⟩ := Int.eq_ofNat_of_zero_le hev.2.2.1
          rw [Int.toNat_natCast, Int.toNat_natCast] at HM
          have hwm : IntKind.u64.wrap (m : Int) = (m : Int) := by rw [IntKind.wrap_u64]; omega
          have hws : IntKind.u8.wrap (s : Int) = ((b8 s).toNat : Int) := by rw [IntKind.wrap_u8, b8_nat]; omega
          have bke := (Blk.new w6 48 #[.int .i64 (m : Int), .int .i64 (s : Int)])
          have ho7 := ho.alloc (.cells #[.int .i64 (m : Int), .int .i64 (s : Int)] 48)
          have hb7 := HB.out.alloc hsz (.cells #[.int .i64 (m : Int), .int .i64 (s : Int)] 48)
          have hs7 : w.heap.size + 1 ≤ (w6.alloc (.cells #[.int .i64 (m : Int), .int .i64 (s : Int)] 48)).heap.size := by simp; omega
          have hne : ∀ b, ∀ l, OwnB w6 (w.heap.size + 1) b l → b.ownBlock ≠ some w6.heap.size := fun b l h => h.ne (.inr (Nat.le_refl _))
          clear he hev hb
          go_upto_region 13 with (fail)
          obtain ⟨W7, hW7⟩ : ∃ W, w6.alloc (.cells #[.int .i64 (m : Int), .int .i64 (s : Int)] 48) = W := ⟨_, rfl⟩
          have hW7s : W7.heap.size = w6.heap.size + 1 := by rw [← hW7]; simp
          have hne1 := (hne _ _ ho)
          have hbe : w6.heap.size < W7.drew.heap.size := by show _ < W7.heap.size; omega
          have hbe1 : w6.heap.size < (W7.drew.alloc (.cells #[.int .u8 ((b8 s).toNat : Int)] 5)).heap.size := by simp; omega
          rw [hW7] at bke ho7 hb7 hs7 ⊢
          have ho7 := show OwnB W7.drew (w.heap.size + 1) _ _ from ho7
          have hs7 : w.heap.size + 1 ≤ W7.drew.heap.size := hs7
          have bke := bke.drew
          have hb7 := hb7.drew
          have hne2 := ho7.ne (.inr (Nat.le_refl _))
          have hlen1 : (encH ⟨kind, frm, ep, cf, ma, sl, off, ab, ac, as_, sec⟩ ++ (sec.take k).flatMap encE).length ≤ 1000 := by omega
          clear ho hne d0 d1 hW7s hW7
          go_region_held3 (fun w' => w'.cell? ⟨w6.heap.size, 0, none⟩ = some (.int .i64 (m : Int)) ∧ w'.cell? ⟨w6.heap.size, 1, none⟩ = some (.int .i64 (s : Int))) ((refine ent_cells (t := 48) ?_; first | exact bke | exact bke.alloc _ | exact K8.out | exact K8.out.alloc _ | exact K9.out | exact K10.out)) (first | (go_at_call 21; refine (write_any (w.heap.size + 1) _ _ m W7.drew ho7 hs7 hlen1).mono ?_; rintro e w8 ⟨v8, rfl, ho8, hg8⟩; have K8 := Lib.hid (bke.grown hg8.1 hne1.symm); have hs8 := Nat.le_trans hs7 hg8.size; have hb8 := hb7.trans (hg8.below ho7 hs7)) | (go_at_call 21; refine (write_any (w.heap.size + 1) _ _ m (W7.drew.alloc (.cells #[.int .u8 ((b8 s).toNat : Int)] 5)) (ho7.alloc _) (Nat.le_trans hs7 (by simp)) hlen1).mono ?_; rintro e w9 ⟨v9, rfl, ho9, hg9⟩; have K9 := Lib.hid ((bke.alloc _).grown hg9.1 hne1.symm); have hs9 : w.heap.size + 1 ≤ w9.heap.size := Nat.le_trans (Nat.le_trans hs7 (by simp)) hg9.size; have hb9 := (hb7.alloc hs7 _).trans (hg9.below (ho7.alloc _) (Nat.le_trans hs7 (by simp))); have hr9 := lit_grew (l := [b8 s]) #[.int .u8 ((b8 s).toNat : Int)] rfl 1 rfl hg9 hne2) | ((refine step_push (by rfl) (.tmp 43) (.tmp 47) (by rfl) (w.heap.size + 1) v8 _ (by rfl) (ho8.alloc (.cells #[.int .u8 ((b8 s).toNat : Int)] 5)) _ _ 1 1 [b8 s] (by rfl) (lit_reads w8 #[.int .u8 ((b8 s).toNat : Int)] (l := [b8 s]) rfl 1 rfl) (by rw [List.length_append, eight_len]; omega) (Nat.le_trans hs8 (by simp)) ?_; intro v10 w10 ho10 hg10; have K10 := Lib.hid ((K8.out.alloc _).grown hg10.1 (hg8.ne hbe hne1).symm); have HB10 := (hb8.alloc hs8 _).trans (hg10.below (ho8.alloc _) (Nat.le_trans hs8 (by simp))))) | ((refine step_push (by rfl) (.tmp 43) (.tmp 47) (by rfl) (w.heap.size + 1) v9 _ (by rfl) ho9 _ _ 1 1 [b8 s] (by rfl) hr9 (by rw [List.length_append, eight_len]; omega) hs9 ?_; intro v10 w10 ho10 hg10; have K10 := Lib.hid (K9.out.grown hg10.1 (hg9.ne hbe1 hne1).symm); have HB10 := hb9.trans (hg10.below ho9 hs9))) | fail)
          all_goals
            have HO10 : OwnB w10 (w.heap.size + 1) v10 (encH ⟨kind, frm, ep, cf, ma, sl, off, ab, ac, as_, sec⟩ ++ (sec.take (k + 1)).flatMap encE) := by rw [HM.out, ← List.append_assoc, ← List.append_assoc]; exact ho10
            go_wp2
            go_roundw
            case rel => exact ⟨k + 1, by omega, by go_num, HO10, HB10⟩
            case measure => simp [intOf]; omega
        · obtain rfl : k = n := by omega
          rw [List.take_of_length_le (by rw [HL.out]; exact Nat.le_refl _)] at ho hlen
          rw [show encH ⟨kind, frm, ep, cf, ma, sl, off, ab, ac, as_, sec⟩ ++ sec.flatMap encE = encB ⟨kind, frm, ep, cf, ma, sl, off, ab, ac, as_, sec⟩ from rfl] at ho hlen
          obtain ⟨A7, c7, rfl, hc7, hcm7, hr7⟩ := ho.reads
          rw [hlen] at hc7 hr7
          rw [hlen]
          clear hcm7 hb
          go_wp2_with (first | (go_at_call 22; refine (wsum_any A7 _ c7 (encB ⟨kind, frm, ep, cf, ma, sl, off, ab, ac, as_, sec⟩) _ (by omega) (hr7 _ (Nat.le_refl _))).mono ?_; rintro e w8 ⟨b8', rfl, hr8, hb8⟩; have ho8 := ho.kept hb8; rw [hlen] at ho8; have hB8 := HB.out.trans (hb8.mono hsz); have hs8 := Nat.le_trans hsz hb8.size) | (at_builtin; refine wpList_push rfl (.tmp 50) (.tmp 52) rfl (w.heap.size + 1) _ _ rfl ho8 _ _ 2 2 (two (crc 0 (encB ⟨kind, frm, ep, cf, ma, sl, off, ab, ac, as_, sec⟩))) rfl hr8 (by omega) hs8 ?_; intro v9 w9 ho9 hg9; have hB9 := hB8.trans (hg9.below ho8 hs8)))
          go_ret2
          exact ⟨v9, rfl, ownB_mono ho9 (Nat.le_succ _), HB1.out.trans (hB9.mono (Nat.le_succ _))⟩
end Go.Proofs.Ytneanlffllejnaa
