/-
  WHAT IS PROVED: the contract of conf.Text. Conditions: the library's variables hold what is laid there; the known ones lie in memory.
-/
import Derived.Test.YtmjbacmaafbdlaaGreatDoorTxt
import Derived.Test.YtmjbacmaafbdlaaGreatDoorWitha
namespace Go.Proofs.YtmjbacmaafbdlaaGreatDoor
open Go.RowKit C

/-- what lies beside a row of one's own that grows -/
def RdF (v : Value) (w : World) (A : Option Addr) (n : Nat) (xs : List Value) : Prop := ∀ g, (v.ownBlock = some g ∨ w.heap.size ≤ g) → Reads w g A n xs
section
variable {v v' : Value} {w w' : World} {A : Option Addr} {n : Nat} {xs : List Value}
theorem RdF.below (h : RdF v w A n xs) (hb : Below w.heap.size w w') : RdF v w' A n xs := fun g hg => by
  rcases hg with hg | hg
  · exact (h g (.inl hg)).below hb
  · exact ((h w.heap.size (.inr (Nat.le_refl _))).below hb).other hg
theorem RdF.push (h : RdF v w A n xs) (hg : w.grownBy w' v.ownBlock) (hv : v'.ownBlock = v.ownBlock ∨ v'.ownBlock = some w.heap.size) : RdF v' w' A n xs := fun g hgg => by
  have h0 := h w.heap.size (.inr (Nat.le_refl _))
  refine ⟨h0.1, fun hn => ?_⟩
  obtain ⟨ad, e, hlt, _, hc⟩ := h0.2 hn
  have hne : some ad.block ≠ v.ownBlock := fun e2 => by
    obtain ⟨ad', e3, _, h4, _⟩ := (h ad.block (.inl e2.symm)).2 hn
    rw [e] at e3; injection e3 with e3; subst e3; exact h4 rfl
  refine ⟨ad, e, Nat.lt_of_lt_of_le hlt hg.size, fun e2 => ?_, fun j u hu => (World.cell?_of_block (hg.block (ad.add j).block (by rw [block_of_add]; exact hlt) (by rw [block_of_add]; exact hne))).trans (hc j u hu)⟩
  subst e2
  rcases hgg with hgg | hgg
  · rcases hv with hv | hv
    · exact hne (hgg.symm.trans hv)
    · rw [hv] at hgg; injection hgg with hgg; omega
  · have := hg.size; omega
theorem RdF.alloc (h : RdF v w A n xs) (o : Obj) : RdF v (w.alloc o) A n xs := h.below ((Below.refl _ _).alloc (Nat.le_refl _) o)
end
theorem rdF_of {v : Value} {w w' : World} {A : Option Addr} {n : Nat} {xs : List Value} (h : ∀ g, w'.heap.size ≤ g ∨ g < w.heap.size → Reads w' g A n xs) (hv : ∀ g, v.ownBlock = some g → g < w.heap.size) : RdF v w' A n xs := fun g hg => by
  rcases hg with hg | hg
  · exact h g (.inr (hv g hg))
  · exact h g (.inl hg)
/-- a row of one cell that was just made -/
theorem own_one (w : World) (t : TypeId) (v : Value) : (w.alloc (.cells #[v] t)).ownsRow w.heap.size t 1 (.slice (some ⟨w.heap.size, 0, none⟩) 1 1) 1 [v] :=
  ⟨rfl, .inr ⟨w.heap.size, 1, #[v], rfl, Nat.le_refl _, Blk.new w t #[v], Nat.le_refl _, by unfold maxLen; omega, rfl, rfl⟩⟩
theorem lineof_at (P : List Pt) (n : Nat) (hn : P.length = n) (A : Option Addr) (c g : Nat) (w : World) (hE : Env w) (hP : n ≤ 20) (hok : ∀ p ∈ P, p.ok) (hj : (Lib.join (P.map Pt.out) [32]).length ≤ 4294967295) (hR : Reads w g A n (P.map Pt.val)) :
    Calls Tryz.prog 16 #[.slice A n c] w (AStr (lineP P) w) := by
  subst hn
  exact lineof_any P A c g w hE hP hok hj hR
/-- a text and an error are handed back -/
def TextPost (b : List UInt8) (f : Int) (w : World) (e : Ending) (w' : World) : Prop := e = .returned (.tuple #[.string (str b), .int .i64 f]) ∧ Below w.heap.size w w'
theorem text_no (s : Sv) (l : List Kn) (w : World) (hl : KnAt w s.a s.n l) (hN : s.n ≤ 9223372036854775807) (h : okS s l = false) : Calls Tryz.prog 7 #[.agg (stv s)] w (TextPost [] 10 w) := by
  have HS : Hid (StAt (w.alloc (.cells (stv s) 30)) w.heap.size s) := Lib.hid (StAt.new w s)
  have HB0 : Hid (Below w.heap.size w (w.alloc (.cells (stv s) 30))) := Lib.hid ((Below.refl _ w).alloc (Nat.le_refl _) _)
  have HL := Lib.hid (hl.up HB0.out)
  have HX := Lib.hid h
  clear hl h
  go_enter Tryz.func7, Tryz.ntmps7
  go_wp2_with (first | refine st_load rfl HS.out rfl ?_)
  refine (sright_any s l _ HL.out hN).mono ?_
  rintro e w1 ⟨rfl, hb1⟩
  rw [HX.out]
  go_wp2
  go_ret2
  exact ⟨rfl, HB0.out.trans (hb1.mono HB0.out.size)⟩

theorem take_kn {l : List Kn} {k : Nat} {r : Kn} (h : l[k]? = some r) : (l.take (k + 1)).map (fun k => lineP (nodeP k)) = (l.take k).map (fun k => lineP (nodeP k)) ++ [lineP (nodeP r)] := by
  rw [List.take_add_one, h]; simp
theorem take_ow {t : Tab} {L : List Int} {k : Nat} {o : Int} (h : L[k]? = some o) : (L.take (k + 1)).flatMap (epLines t) = (L.take k).flatMap (epLines t) ++ epLines t o := by
  rw [List.take_add_one, h]; simp
theorem take_ep {t : Tab} {o : Int} {L : List Int} {k : Nat} {e : Int} (h : L[k]? = some e) : (L.take (k + 1)).map (fun e => lineP (slotsP t o e)) = (L.take k).map (fun e => lineP (slotsP t o e)) ++ [lineP (slotsP t o e)] := by
  rw [List.take_add_one, h]; simp
/-- lines in a row of one's own -/
def Ls (base : Nat) (w : World) (v : Value) (L : List (List UInt8)) : Prop := w.ownsRow base 9 1 v L.length (strV L) ∧ v.ownBlock ≠ none
theorem Ls.push {base : Nat} {w w' : World} {v v' : Value} {L : List (List UInt8)} {b : List UInt8} (h : w'.ownsRow base 9 1 v' (L.length + 1) (strV L ++ [Value.string (str b)])) (hv : v'.ownBlock = v.ownBlock ∨ v'.ownBlock = some w.heap.size) (h0 : v.ownBlock ≠ none) : Ls base w' v' (L ++ [b]) := by
  refine ⟨?_, ?_⟩
  · rw [strV_append, List.length_append]; exact h
  · rcases hv with hv | hv <;> rw [hv]
    · exact h0
    · simp
theorem Ls.below {base : Nat} {w w' : World} {v : Value} {L : List (List UInt8)} (h : Ls base w v L) (hb : Below w.heap.size w w') : Ls base w' v L := ⟨own_below h.1 hb, h.2⟩

set_option maxRecDepth 100000 in
set_option maxHeartbeats 1500000 in
theorem text_yes (s : Sv) (l : List Kn) (w : World) (hE : Env w) (hl : KnAt w s.a s.n l) (h : okS s l = true) : Calls Tryz.prog 7 #[.agg (stv s)] w (TextPost (txS s l) 0 w) := by
  obtain ⟨i0, hi0, hz0, hz1, hz2⟩ := info_parts str_info
  have HI : Hid (Tryz.prog.info? 9 = some i0) := hi0
  have HZ0 := Lib.hid hz0
  have HZ1 := Lib.hid hz1
  have HZ2 := Lib.hid hz2
  have HS : Hid (StAt (w.alloc (.cells (stv s) 30)) w.heap.size s) := Lib.hid (StAt.new w s)
  have HB0 : Hid (Below w.heap.size w (w.alloc (.cells (stv s) 30))) := Lib.hid ((Below.refl _ w).alloc (Nat.le_refl _) _)
  have HE := Lib.hid (hE.below HB0.out)
  have HL := Lib.hid (hl.up HB0.out)
  have HX := Lib.hid h
  have hln := hl.1
  have hparts := ok_parts h
  have HSL := Lib.hid (self_len h)
  have HSO := Lib.hid (self_ok h)
  have HNL : Hid (∀ k, k ∈ l → (Lib.join ((nodeP k).map Pt.out) [32]).length ≤ 200) := Lib.hid fun k hk => node_len hparts.2.2.2.2.2.2.1 hk
  have HNO : Hid (∀ k, k ∈ l → ∀ p ∈ nodeP k, p.ok) := Lib.hid fun k hk => node_ok hparts.2.2.2.2.2.2.1 hk
  have HTL : Hid (∀ o e, o ∈ ownersL s.t → e ∈ epsL s.t o → (Lib.join ((slotsP s.t o e).map Pt.out) [32]).length ≤ 500) := Lib.hid fun o e ho he => slots_len hparts.2.2.2.2.2.2.2.1 ho he
  have HTO : Hid (∀ o e, o ∈ ownersL s.t → e ∈ epsL s.t o → ∀ p ∈ slotsP s.t o e, p.ok) := Lib.hid fun o e ho he => slots_ok hparts.2.2.2.2.2.2.2.1 ho he
  have HLN := Lib.hid (lines_len h hln)
  have HTX := Lib.hid (txS_len h hln)
  have hn15 : s.n ≤ 15 := hparts.2.2.2.2.2.1
  have HOW := Lib.hid (owners_len s.t)
  have HEL : Hid (∀ o, (epsL s.t o).length ≤ 64) := Lib.hid fun o => eps_len s.t o
  have HLI : Hid (linesS s l = (lineP (selfP s) :: l.map fun k => lineP (nodeP k)) ++ (ownersL s.t).flatMap (epLines s.t)) := Lib.hid rfl
  have HTS : Hid (txS s l = Lib.join (linesS s l) []) := Lib.hid rfl
  obtain ⟨TX, HT2⟩ : ∃ x, Hid (txS s l = x) := ⟨_, Lib.hid rfl⟩
  rw [HT2.out] at HTX HTS ⊢
  generalize linesS s l = LN at *
  clear hi0 hz0 hz1 hz2 hE hl h hparts HT2
  obtain ⟨si, sm, sc, sv, sf, A, n, cap, T⟩ := s
  simp only at HL HSL HSO HTL HTO hn15 hln HOW HEL HLI
  go_enter Tryz.func7, Tryz.ntmps7
  go_wp2_with (first | refine st_load rfl HS.out rfl ?_)
  refine (sright_any _ l _ HL.out (by show n ≤ _; omega)).mono ?_
  rintro e w1 ⟨rfl, hb1⟩
  rw [HX.out]
  have K1 := Lib.hid (HS.out.later hb1)
  have KB := Lib.hid (HB0.out.trans (hb1.mono HB0.out.size))
  have KL := Lib.hid (HL.out.below hb1)
  have KE := Lib.hid (HE.out.below hb1)
  clear hb1 HS HB0 HL HE
  obtain ⟨c0, c1, c2, c3, c4, c5⟩ := K1.out.box
  simp only at c0 c1 c2 c3 c4 c5
  have JR := Lib.hid (reads_new w1 20 ((selfP ⟨si, sm, sc, sv, sf, A, n, cap, T⟩).map Pt.val) #[.iface 9 (.string ⟨#[115, 101, 108, 102]⟩), .iface 3 (.int .i64 si), .iface 9 (.string ⟨#[109, 97, 115, 116, 101, 114]⟩), .iface 3 (.int .i64 sm), .iface 9 (.string ⟨#[99, 117, 114, 114, 101, 110, 116]⟩), .iface 3 (.int .i64 sc), .iface 9 (.string ⟨#[118, 111, 116, 101]⟩), .iface 3 (.int .i64 sv), .iface 9 (.string ⟨#[99, 111, 110, 102, 105, 103]⟩), .iface 3 (.int .i64 sf)] w.heap.size w1.heap.size 10 rfl rfl rfl (by have := K1.out.lt; omega))
  have JE := Lib.hid (KE.out.alloc (.cells #[.iface 9 (.string ⟨#[115, 101, 108, 102]⟩), .iface 3 (.int .i64 si), .iface 9 (.string ⟨#[109, 97, 115, 116, 101, 114]⟩), .iface 3 (.int .i64 sm), .iface 9 (.string ⟨#[99, 117, 114, 114, 101, 110, 116]⟩), .iface 3 (.int .i64 sc), .iface 9 (.string ⟨#[118, 111, 116, 101]⟩), .iface 3 (.int .i64 sv), .iface 9 (.string ⟨#[99, 111, 110, 102, 105, 103]⟩), .iface 3 (.int .i64 sf)] 20))
  have C1 := Lib.hid (lineof_at (selfP ⟨si, sm, sc, sv, sf, A, n, cap, T⟩) 10 rfl (some ⟨w1.heap.size, 0, none⟩) 10 w.heap.size _ JE.out (by decide) HSO.out (by have := HSL.out; omega) JR.out)
  have J1 := Lib.hid (K1.out.alloc (.cells #[.iface 9 (.string ⟨#[115, 101, 108, 102]⟩), .iface 3 (.int .i64 si), .iface 9 (.string ⟨#[109, 97, 115, 116, 101, 114]⟩), .iface 3 (.int .i64 sm), .iface 9 (.string ⟨#[99, 117, 114, 114, 101, 110, 116]⟩), .iface 3 (.int .i64 sc), .iface 9 (.string ⟨#[118, 111, 116, 101]⟩), .iface 3 (.int .i64 sv), .iface 9 (.string ⟨#[99, 111, 110, 102, 105, 103]⟩), .iface 3 (.int .i64 sf)] 20))
  have J3 := Lib.hid (KB.out.alloc KB.out.size (.cells #[.iface 9 (.string ⟨#[115, 101, 108, 102]⟩), .iface 3 (.int .i64 si), .iface 9 (.string ⟨#[109, 97, 115, 116, 101, 114]⟩), .iface 3 (.int .i64 sm), .iface 9 (.string ⟨#[99, 117, 114, 114, 101, 110, 116]⟩), .iface 3 (.int .i64 sc), .iface 9 (.string ⟨#[118, 111, 116, 101]⟩), .iface 3 (.int .i64 sv), .iface 9 (.string ⟨#[99, 111, 110, 102, 105, 103]⟩), .iface 3 (.int .i64 sf)] 20))
  have JL := Lib.hid (KL.out.below ((Below.refl _ w1).alloc (Nat.le_refl _) (.cells #[.iface 9 (.string ⟨#[115, 101, 108, 102]⟩), .iface 3 (.int .i64 si), .iface 9 (.string ⟨#[109, 97, 115, 116, 101, 114]⟩), .iface 3 (.int .i64 sm), .iface 9 (.string ⟨#[99, 117, 114, 114, 101, 110, 116]⟩), .iface 3 (.int .i64 sc), .iface 9 (.string ⟨#[118, 111, 116, 101]⟩), .iface 3 (.int .i64 sv), .iface 9 (.string ⟨#[99, 111, 110, 102, 105, 103]⟩), .iface 3 (.int .i64 sf)] 20)))
  go_wp2_with (fail)
  with_reducible refine C1.out.mono ?_
  rintro e w2 ⟨rfl, hb2⟩
  have L1 := Lib.hid (J1.out.later hb2)
  have LB := Lib.hid (J3.out.trans (hb2.mono J3.out.size))
  have LE := Lib.hid (JE.out.below hb2)
  have LL := Lib.hid (JL.out.below hb2)
  clear hb2 C1 JR JE J1 J3 JL K1 KB KE KL c0 c1 c2 c3 c4 c5
  obtain ⟨line1, HL1⟩ : ∃ x, Hid (lineP (selfP ⟨si, sm, sc, sv, sf, A, n, cap, T⟩) = x) := ⟨_, Lib.hid rfl⟩
  rw [HL1.out] at HLI ⊢
  have MO := Lib.hid (own_one w2 9 (.string (str line1)))
  have hw2 : w.heap.size < w2.heap.size := L1.out.lt
  obtain ⟨_, _, _, _, _, c5⟩ := (L1.out.alloc (.cells #[.string (str line1)] 9)).box
  simp only at c5
  go_wp2
  go_loopw [4, 43] (fun va i wr => ∃ k : Nat, k ≤ n ∧ i = .int .i64 k ∧ Hid (Below w2.heap.size w2 wr) ∧ Hid (Ls w2.heap.size wr va (line1 :: (l.take k).map fun k => lineP (nodeP k)))) (fun _ i _ => n - (intOf i).toNat)
  case atStart => exact ⟨0, by omega, rfl, Lib.hid ((Below.refl _ _).alloc (Nat.le_refl _) _), Lib.hid ⟨MO.out, fun h => by cases h⟩⟩
  case round =>
    obtain ⟨k, hk, rfl, hb, hls⟩ := hrel
    by_cases hlt : k < n
    · obtain ⟨ad, r, hA, hr, hlt2, d0, d1, d2⟩ := (LL.out.below hb.out).at_ hlt
      subst hA
      have HTK := Lib.hid (take_kn hr)
      have HRL := Lib.hid (HNL.out r (List.mem_of_getElem? hr))
      have HRO := Lib.hid (HNO.out r (List.mem_of_getElem? hr))
      obtain ⟨ri, rm, rc⟩ := r
      simp only at d0 d1 d2
      have hbs := hb.out.size
      have HK := Lib.hid (KBx.new wr ⟨ri, rm, rc⟩)
      obtain ⟨g0, g1, g2⟩ := HK.out.box
      simp only at g0 g1 g2
      have JR := Lib.hid (reads_new (wr.alloc (.cells #[.int .i64 ri, .int .i64 rm, .int .i64 rc] 52)) 20 ((nodeP ⟨ri, rm, rc⟩).map Pt.val) #[.iface 9 (.string ⟨#[110, 111, 100, 101]⟩), .iface 3 (.int .i64 ri), .iface 9 (.string ⟨#[109, 97, 115, 116, 101, 114]⟩), .iface 3 (.int .i64 rm), .iface 9 (.string ⟨#[99, 111, 110, 102, 105, 103]⟩), .iface 3 (.int .i64 rc)] w.heap.size (wr.heap.size + 1) 6 (by simp) rfl rfl (by omega))
      have JE := Lib.hid (((LE.out.below hb.out).alloc (.cells #[.int .i64 ri, .int .i64 rm, .int .i64 rc] 52)).alloc (.cells #[.iface 9 (.string ⟨#[110, 111, 100, 101]⟩), .iface 3 (.int .i64 ri), .iface 9 (.string ⟨#[109, 97, 115, 116, 101, 114]⟩), .iface 3 (.int .i64 rm), .iface 9 (.string ⟨#[99, 111, 110, 102, 105, 103]⟩), .iface 3 (.int .i64 rc)] 20))
      have C1 := Lib.hid (lineof_at (nodeP ⟨ri, rm, rc⟩) 6 rfl (some ⟨wr.heap.size + 1, 0, none⟩) 6 w.heap.size _ JE.out (by decide) HRO.out (by have := HRL.out; omega) JR.out)
      have JB : Hid (Below wr.heap.size wr ((wr.alloc (.cells #[.int .i64 ri, .int .i64 rm, .int .i64 rc] 52)).alloc (.cells #[.iface 9 (.string ⟨#[110, 111, 100, 101]⟩), .iface 3 (.int .i64 ri), .iface 9 (.string ⟨#[109, 97, 115, 116, 101, 114]⟩), .iface 3 (.int .i64 rm), .iface 9 (.string ⟨#[99, 111, 110, 102, 105, 103]⟩), .iface 3 (.int .i64 rc)] 20))) := Lib.hid (((Below.refl _ _).alloc (Nat.le_refl _) _).alloc (by simp) _)
      go_wp2_with (fail)
      with_reducible refine C1.out.mono ?_
      rintro e w4 ⟨rfl, hb4⟩
      have PB := Lib.hid (JB.out.trans (hb4.mono JB.out.size))
      have QB := Lib.hid (hb.out.trans (PB.out.mono hbs))
      have QL := Lib.hid (hls.out.below PB.out)
      have QO := Lib.hid QL.out.1
      have hql : (line1 :: (l.take k).map fun k => lineP (nodeP k)).length ≤ 17 := by simp; omega
      obtain ⟨line2, HL2⟩ : ∃ x, Hid (lineP (nodeP ⟨ri, rm, rc⟩) = x) := ⟨_, Lib.hid rfl⟩
      rw [HL2.out] at HTK ⊢
      have hqs := QB.out.size
      clear hb4 C1 JR JE JB HK d0 d1 d2 g0 g1 g2 hr
      obtain ⟨LA, HLA⟩ : ∃ x, Hid ((line1 :: (l.take k).map fun k => lineP (nodeP k)) = x) := ⟨_, Lib.hid rfl⟩
      rw [HLA.out] at QL QO hql
      have HRN := Lib.hid (reads_new w4 9 [.string (str line2)] #[.string (str line2)] w.heap.size w4.heap.size 1 rfl rfl rfl (by omega))
      go_wp2_with (at_builtin; refine wpList_append_cells _ rfl (.tmp 47) (.tmp 62) 50 rfl w2.heap.size 9 i0 _ 16 Tryz.underlying50 HI.out HZ0.out HZ1.out HZ2.out rfl _ _ _ rfl (QO.out.alloc _) _ _ 1 1 [.string (str (line2))] rfl HRN.out (fun u hu => by simp at hu; subst hu; rfl) (by unfold maxLen; omega) (by omega) (by simp; omega) ?_; intro v' w6 hown' hg3 hob)
      have HB6 : Hid (Below w2.heap.size w2 w6) := Lib.hid ((QB.out.alloc hqs _).grown hg3 (by simp; omega) (fun g e => (QO.out.lt g e).1))
      have HP := Lib.hid (Ls.push hown' hob QL.out.2)
      go_wp2
      go_roundw
      case rel => exact ⟨k + 1, by omega, by go_num, HB6, Lib.hid (by rw [HTK.out, ← List.cons_append, HLA.out]; exact HP.out)⟩
      case measure => simp [intOf]; omega
    · obtain rfl : n = k := by omega
      have HLS : Hid (Ls w2.heap.size wr u4 (line1 :: l.map fun k => lineP (nodeP k))) := Lib.hid (by
        have := hls.out
        rw [List.take_of_length_le (by omega)] at this
        exact this)
      have HAL : Hid ((line1 :: l.map fun k => lineP (nodeP k)).length ≤ 16) := Lib.hid (by simp; omega)
      generalize (line1 :: l.map fun k => lineP (nodeP k)) = LA at *
      have N1 := Lib.hid (L1.out.later hb.out)
      clear hls MO
      go_wp2_with (first | refine st_table rfl N1.out rfl ?_)
      refine (owners_any T _).mono ?_
      rintro e w3 ⟨hb3, A2, c2, rfl, hnc, hcm, hrd⟩
      have OB := Lib.hid (hb.out.trans (hb3.mono hb.out.size))
      have OL := Lib.hid (HLS.out.below hb3)
      have OR := Lib.hid (rdF_of (v := u4) hrd fun g e => (HLS.out.1.lt g e).2)
      clear hb3 hrd N1 HLS
      obtain ⟨LW, HLW⟩ : ∃ x, Hid (ownersL T = x) := ⟨_, Lib.hid rfl⟩
      rw [HLW.out] at hnc HOW HLI HTL HTO OR ⊢
      go_wp2
      go_loopw [4, 69] (fun va i wr => ∃ k : Nat, k ≤ LW.length ∧ i = .int .i64 k ∧ Hid (Below w2.heap.size w2 wr) ∧ Hid (Ls w2.heap.size wr va (LA ++ (LW.take k).flatMap (epLines T))) ∧ Hid (RdF va wr A2 LW.length (zints LW))) (fun _ i _ => LW.length - (intOf i).toNat)
      case atStart => exact ⟨0, by omega, rfl, OB, Lib.hid (by simpa using OL.out), OR⟩
      case round =>
        obtain ⟨k, hk, rfl, hb, hls, hrf⟩ := hrel
        obtain ⟨w8, rfl⟩ : ∃ x, x = wr := ⟨_, rfl⟩
        by_cases hlt : k < LW.length
        · obtain ⟨ad, u, rfl, hu, hc⟩ := (hrf.out w8.heap.size (.inr (Nat.le_refl _))).at_ hlt
          obtain ⟨o, ho, rfl⟩ := zints_at hu
          clear hu
          have HOM := Lib.hid (List.mem_of_getElem? ho)
          have HTK := Lib.hid (take_ow (t := T) ho)
          have HEN := HEL.out o
          have HKL : Hid ((LA ++ (LW.take k).flatMap (epLines T)).length ≤ 16 + 4096) := Lib.hid (by
            have h1 := flat_le (epLines T) 64 (LW.take k) fun o _ => by unfold epLines; rw [List.length_map]; exact HEL.out o
            have h2 : (LW.take k).length ≤ 64 := by rw [List.length_take]; have := HOW.out; omega
            have h3 := HAL.out
            rw [List.length_append]; omega)
          clear ho
          have N1 := Lib.hid (L1.out.later hb.out)
          go_wp2_with (first | refine st_table rfl N1.out rfl ?_)
          refine (epochsof_any T o _).mono ?_
          rintro e w9 ⟨hb9, A3, c3, rfl, hnc3, hcm3, hrd3⟩
          have PB := Lib.hid (hb.out.trans (hb9.mono hb.out.size))
          have PL := Lib.hid (hls.out.below hb9)
          have PR := Lib.hid (hrf.out.below hb9)
          have P3 := Lib.hid (rdF_of (v := u4) hrd3 fun g e => (hls.out.1.lt g e).2)
          have HEP : Hid (epLines T o = (epsL T o).map fun e => lineP (slotsP T o e)) := Lib.hid rfl
          clear hb9 hrd3 N1 hc hls hrf
          obtain ⟨LE3, HLE⟩ : ∃ x, Hid (epsL T o = x) := ⟨_, Lib.hid rfl⟩
          have HT1 : Hid (∀ e, e ∈ LE3 → (Lib.join ((slotsP T o e).map Pt.out) [32]).length ≤ 500) := Lib.hid fun e he => HTL.out o e HOM.out (by rw [HLE.out]; exact he)
          have HT2 : Hid (∀ e, e ∈ LE3 → ∀ p ∈ slotsP T o e, p.ok) := Lib.hid fun e he => HTO.out o e HOM.out (by rw [HLE.out]; exact he)
          rw [HLE.out] at hnc3 HEN HEP P3 ⊢
          obtain ⟨LB2, HLB⟩ : ∃ x, Hid (LA ++ (LW.take k).flatMap (epLines T) = x) := ⟨_, Lib.hid rfl⟩
          rw [HLB.out] at PL HKL
          go_wp2
          go_loopw [4, 78] (fun va i wr => ∃ j : Nat, j ≤ LE3.length ∧ i = .int .i64 j ∧ Hid (Below w2.heap.size w2 wr) ∧ Hid (Ls w2.heap.size wr va (LB2 ++ (LE3.take j).map fun e => lineP (slotsP T o e))) ∧ Hid (RdF va wr (some ad) LW.length (zints LW)) ∧ Hid (RdF va wr A3 LE3.length (zints LE3))) (fun _ i _ => LE3.length - (intOf i).toNat)
          case atStart => exact ⟨0, by omega, rfl, PB, Lib.hid (by simpa using PL.out), PR, P3⟩
          case round =>
            obtain ⟨j, hj, rfl, hb, hls, hrf, hr3⟩ := hrel
            by_cases hlt3 : j < LE3.length
            · obtain ⟨ad3, u, rfl, hu, hc⟩ := (hr3.out wr.heap.size (.inr (Nat.le_refl _))).at_ hlt3
              obtain ⟨e, he, rfl⟩ := zints_at hu
              clear hu
              have HTE := Lib.hid (take_ep (t := T) (o := o) he)
              have HX1 := Lib.hid (HT1.out e (List.mem_of_getElem? he))
              have HX2 := Lib.hid (HT2.out e (List.mem_of_getElem? he))
              have hbs := hb.out.size
              have N1 := Lib.hid (L1.out.later hb.out)
              have HKK : Hid ((LB2 ++ (LE3.take j).map fun e => lineP (slotsP T o e)).length ≤ 5000) := Lib.hid (by
                have h1 := HKL.out
                rw [List.length_append, List.length_map, List.length_take]; omega)
              clear he
              go_wp2_with (first | refine st_table rfl N1.out rfl ?_)
              refine (slotswith_any T o e _).mono ?_
              rintro e1 w4 ⟨rfl, hb4⟩
              have QB := Lib.hid (hb.out.trans (hb4.mono hbs))
              have QE := Lib.hid (LE.out.below QB.out)
              have JR := Lib.hid (reads_new w4 20 ((slotsP T o e).map Pt.val) #[.iface 9 (.string ⟨#[115, 108, 111, 116, 115]⟩), .iface 3 (.int .i64 o), .iface 9 (.string ⟨#[101, 112, 111, 99, 104]⟩), .iface 3 (.int .i64 e), .iface 9 (.string ⟨#[58]⟩), .iface 57 (.int .u64 ((setOE T o e : Nat) : Int))] w.heap.size w4.heap.size 6 rfl rfl rfl (by have := QB.out.size; omega))
              have JE := Lib.hid (QE.out.alloc (.cells #[.iface 9 (.string ⟨#[115, 108, 111, 116, 115]⟩), .iface 3 (.int .i64 o), .iface 9 (.string ⟨#[101, 112, 111, 99, 104]⟩), .iface 3 (.int .i64 e), .iface 9 (.string ⟨#[58]⟩), .iface 57 (.int .u64 ((setOE T o e : Nat) : Int))] 20))
              have C1 := Lib.hid (lineof_at (slotsP T o e) 6 rfl (some ⟨w4.heap.size, 0, none⟩) 6 w.heap.size _ JE.out (by decide) HX2.out (by have := HX1.out; omega) JR.out)
              have JB : Hid (Below wr.heap.size wr (w4.alloc (.cells #[.iface 9 (.string ⟨#[115, 108, 111, 116, 115]⟩), .iface 3 (.int .i64 o), .iface 9 (.string ⟨#[101, 112, 111, 99, 104]⟩), .iface 3 (.int .i64 e), .iface 9 (.string ⟨#[58]⟩), .iface 57 (.int .u64 ((setOE T o e : Nat) : Int))] 20))) := Lib.hid (hb4.alloc hb4.size _)
              clear hb4 hc N1
              go_wp2_with (fail)
              with_reducible refine C1.out.mono ?_
              rintro e1 w5 ⟨rfl, hb5⟩
              have PB5 := Lib.hid (JB.out.trans (hb5.mono JB.out.size))
              have RB := Lib.hid (hb.out.trans (PB5.out.mono hbs))
              have RL := Lib.hid (hls.out.below PB5.out)
              have RO := Lib.hid RL.out.1
              have R2 := Lib.hid ((hrf.out.below PB5.out).alloc (.cells #[.string (str (lineP (slotsP T o e)))] 9))
              have R3 := Lib.hid ((hr3.out.below PB5.out).alloc (.cells #[.string (str (lineP (slotsP T o e)))] 9))
              obtain ⟨line2, HL2⟩ : ∃ x, Hid (lineP (slotsP T o e) = x) := ⟨_, Lib.hid rfl⟩
              rw [HL2.out] at HTE R2 R3 ⊢
              have hqs := RB.out.size
              have hkk := HKK.out
              clear hb5 C1 JR JE JB hls hrf hr3
              obtain ⟨LC, HLC⟩ : ∃ x, Hid ((LB2 ++ (LE3.take j).map fun e => lineP (slotsP T o e)) = x) := ⟨_, Lib.hid rfl⟩
              rw [HLC.out] at RL RO hkk
              have HRN := Lib.hid (reads_new w5 9 [.string (str line2)] #[.string (str line2)] w.heap.size w5.heap.size 1 rfl rfl rfl (by omega))
              go_wp2_with (at_builtin; refine wpList_append_cells _ rfl (.tmp 82) (.tmp 98) 50 rfl w2.heap.size 9 i0 _ 16 Tryz.underlying50 HI.out HZ0.out HZ1.out HZ2.out rfl _ _ _ rfl (RO.out.alloc _) _ _ 1 1 [.string (str (line2))] rfl HRN.out (fun u hu => by simp at hu; subst hu; rfl) (by unfold maxLen; omega) (by omega) (by simp; omega) ?_; intro v' w6 hown' hg3 hob)
              have HB6 : Hid (Below w2.heap.size w2 w6) := Lib.hid ((RB.out.alloc hqs _).grown hg3 (by simp; omega) (fun g e => (RO.out.lt g e).1))
              have HP := Lib.hid (Ls.push hown' hob RL.out.2)
              have HF2 := Lib.hid (R2.out.push hg3 hob)
              have HF3 := Lib.hid (R3.out.push hg3 hob)
              go_wp2
              go_roundw
              case rel => exact ⟨j + 1, by omega, by go_num, HB6, Lib.hid (by rw [HTE.out, ← List.append_assoc, HLC.out]; exact HP.out), HF2, HF3⟩
              case measure => simp [intOf]; omega
            · obtain rfl : j = LE3.length := by omega
              go_wp2
              go_roundw
              case rel => exact ⟨k + 1, by omega, by go_num, hb, Lib.hid (by
                have := hls.out
                rw [List.take_length, ← HEP.out] at this
                rw [HTK.out, ← List.append_assoc, HLB.out]; exact this), hrf⟩
              case measure => simp [intOf]; omega
        · obtain rfl : k = LW.length := by omega
          have HLS : Hid (Ls w2.heap.size w8 u4 LN) := Lib.hid (by
            have := hls.out
            rw [List.take_length] at this
            rw [HLI.out]; exact this)
          have hln4 := HLN.out
          have htx := HTX.out
          go_wp2_with (fail)
          refine (join_strs LN [] w2.heap.size _ _ HLS.out.1 (by omega) (by rw [← HTS.out]; omega)).mono ?_
          rintro e w9 ⟨rfl, hb9⟩
          have ZB := Lib.hid (hb.out.trans (hb9.mono hb.out.size))
          clear hb9
          go_wp2
          go_ret2
          exact ⟨by rw [HTS.out]; rfl, LB.out.trans (ZB.out.mono LB.out.size)⟩
end Go.Proofs.YtmjbacmaafbdlaaGreatDoor
