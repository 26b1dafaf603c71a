/-
  WHAT IS PROVED: contracts of Get, idsBut and Next. Condition: the object is a roster.
-/
import Derived.Test.YtfchhlibjhblmaaRo
import Derived.Laws.MakeOwn
namespace Go.Proofs.Ytfchhlibjhblmaa
open Go.RowKit Go.Lib Go.Maps

/-- a variable of type Member -/
def Bx (w : World) (b : Nat) (r : Mb) : Prop := Blk w b 34 (rowM r)
section
variable {w w' : World} {b : Nat} {r : Mb}
theorem Bx.new (w : World) (r : Mb) {b : Nat} (hb : b = w.heap.size) : Bx (w.alloc (.cells #[.int .i64 r.id, .int .i64 r.ma, .int .i64 r.co, .int .i64 r.of_, .int .i64 r.fa] 34)) b r := by subst hb; exact Blk.new _ _ _
theorem Bx.lt (h : Bx w b r) : b < w.heap.size := Blk.lt h
theorem Bx.later (h : Bx w b r) (hb : Below w.heap.size w w') : Bx w' b r := Blk.below h hb h.lt
theorem Bx.turn {F : Nat → Prop} (h : Bx w b r) (hb : Turn w w' F) (hF : ¬ F b) : Bx w' b r := Blk.turn h hb hF
theorem Bx.cells (h : Bx w b r) : w.cell? ⟨b, 0, none⟩ = some (.int .i64 r.id) ∧ w.cell? ⟨b, 1, none⟩ = some (.int .i64 r.ma) ∧ w.cell? ⟨b, 2, none⟩ = some (.int .i64 r.co) ∧ w.cell? ⟨b, 3, none⟩ = some (.int .i64 r.of_) ∧ w.cell? ⟨b, 4, none⟩ = some (.int .i64 r.fa) :=
  ⟨Blk.cell h 0, Blk.cell h 1, Blk.cell h 2, Blk.cell h 3, Blk.cell h 4⟩
theorem Bx.fz (h : Bx w b r) (i : Nat) : w.frozen? ⟨b, i, none⟩ = false := Blk.frozen h i
theorem Bx.store (h : Bx w b r) (s : Mb) : Bx (((((w.setCell ⟨b, 0, none⟩ (.int .i64 s.id)).setCell ⟨b, 1, none⟩ (.int .i64 s.ma)).setCell ⟨b, 2, none⟩ (.int .i64 s.co)).setCell ⟨b, 3, none⟩ (.int .i64 s.of_)).setCell ⟨b, 4, none⟩ (.int .i64 s.fa)) b s := by
  have h3 := ((((Blk.set_ h 0 (.int .i64 s.id)).set_ 1 (.int .i64 s.ma)).set_ 2 (.int .i64 s.co)).set_ 3 (.int .i64 s.of_)).set_ 4 (.int .i64 s.fa)
  exact h3
end
theorem below_set {B : Nat} {w w' : World} (h : Below B w w') {p : Addr} (hp : B ≤ p.block) (u : Value) : Below B w (w'.setCell p u) :=
  ⟨h.os, h.tape, h.output, by simpa [World.setCell] using h.size, fun i hi => (Below.heap_setCell w' p u i (by omega)).trans (h.block i hi)⟩
theorem below5 {B : Nat} {w w' : World} (h : Below B w w') {c : Nat} (hc : B ≤ c) (i j k l m : Nat) (x y z u v : Value) : Below B w (((((w'.setCell ⟨c, i, none⟩ x).setCell ⟨c, j, none⟩ y).setCell ⟨c, k, none⟩ z).setCell ⟨c, l, none⟩ u).setCell ⟨c, m, none⟩ v) :=
  below_set (below_set (below_set (below_set (below_set h (p := ⟨c, i, none⟩) hc x) (p := ⟨c, j, none⟩) hc y) (p := ⟨c, k, none⟩) hc z) (p := ⟨c, l, none⟩) hc u) (p := ⟨c, m, none⟩) hc v
theorem results_box {fn : Func} {p u : Tmp} (h : fn.results = #[.cell p 34, .tmp u]) (tmps : Array Value) (w : World) (b : Nat) (r : Mb)
    (hp : tmps.getD p undef = .pointer (some ⟨b, 0, none⟩)) (hb : Bx w b r) : (results fn tmps).run Try.prog w = .ok (.tuple #[vM r, tmps.getD u undef]) w := by
  rw [results_cell_tmp h, hp]
  have hs : (Try.prog.info? 34).map (·.size) = some (rowM r).size := by
    rw [show (rowM r).size = 5 from rfl]; kernel_rfl
  simp [asAddr, run_loadVar_row w b 34 34 (rowM r) (0, 0) _ hb Try.underlying34 rfl hs, Result.andThen]

set_option maxHeartbeats 1000000 in
theorem get_any (C g : Nat) (F : Nat → Prop) (R : Ro) (w : World) (h : Rs w C g F R) (x : Int) :
    Calls Try.prog 25 #[.pointer (some ⟨g, 0, none⟩), .int .i64 x] w fun e w' => e = .returned (.tuple #[vM (getL R.L x), .bool (hasL R.L x)]) ∧ Below w.heap.size w w' := by
  have HA := Lib.hid (h.alloc (.cells #[.int .i64 0, .int .i64 0, .int .i64 0, .int .i64 0, .int .i64 0] 34))
  have HBA : Hid (Below w.heap.size w (w.alloc (.cells #[.int .i64 0, .int .i64 0, .int .i64 0, .int .i64 0, .int .i64 0] 34))) := Lib.hid ((Below.refl _ _).alloc (Nat.le_refl _) _)
  have HX : Hid (Bx (w.alloc (.cells #[.int .i64 0, .int .i64 0, .int .i64 0, .int .i64 0, .int .i64 0] 34)) w.heap.size ⟨0, 0, 0, 0, 0⟩) := Lib.hid (Bx.new w ⟨0, 0, 0, 0, 0⟩ rfl)
  obtain ⟨q, HQ⟩ : ∃ q, Hid (hasL R.L x = q) := ⟨_, Lib.hid rfl⟩
  cases q
  · have HG := Lib.hid (get_no HQ.out)
    rw [HQ.out, HG.out]
    clear h
    go_enter Try.func25, Try.ntmps25
    go_wp2_with (fail)
    refine (place_any C g F R _ HA.out x).mono ?_
    rintro e w1 ⟨rfl, hb1⟩
    rw [HQ.out]
    have K1 := HX.out.later hb1
    obtain ⟨a0, a1, a2, a3, a4⟩ := K1.cells
    have f0 := K1.fz 0
    have f1 := K1.fz 1
    have f2 := K1.fz 2
    have f3 := K1.fz 3
    have f4 := K1.fz 4
    have HK := Lib.hid K1
    have HB := Lib.hid (HBA.out.trans (hb1.mono HBA.out.size))
    clear hb1 K1
    go_wp2
    exact bodyPost_ret (results_box (p := 4) (u := 5) rfl _ _ w.heap.size _ rfl (HK.out.store ⟨0, 0, 0, 0, 0⟩)) rfl ⟨rfl, below5 HB.out (Nat.le_refl _) 0 1 2 3 4 _ _ _ _ _⟩
  · obtain ⟨p, hp, he⟩ := has_at h.good.up HQ.out
    have HG := Lib.hid (get_at h.good.up hp he)
    rw [HQ.out, HG.out]
    have HP := Lib.hid hp
    clear h hp he
    go_enter Try.func25, Try.ntmps25
    go_wp2_with (fail)
    refine (place_any C g F R _ HA.out x).mono ?_
    rintro e w1 ⟨rfl, hb1⟩
    rw [HQ.out]
    have hp := HP.out
    obtain ⟨k, hk⟩ : ∃ k, posL R.L x = k := ⟨_, rfl⟩
    rw [hk] at hp ⊢
    obtain ⟨b, A, n, c, hblk, _, _, hn, hnc, hcm, h15, _, _, _, hr⟩ := (HA.out.below hb1).open_
    have c1 := hblk.cell 1
    simp at c1
    have hkn : k < n := by rw [← hn]; exact (List.getElem?_eq_some_iff.1 hp).1
    obtain ⟨ad, p', rfl, hp', hbl, _, d0, d1, d2, d3, d4⟩ := hr.atM hkn
    rw [hp] at hp'
    injection hp' with hp'
    subst hp'
    have K1 := HX.out.later hb1
    obtain ⟨a0, a1, a2, a3, a4⟩ := K1.cells
    have f0 := K1.fz 0
    have f1 := K1.fz 1
    have f2 := K1.fz 2
    have f3 := K1.fz 3
    have f4 := K1.fz 4
    have HK := Lib.hid K1
    have HB := Lib.hid (HBA.out.trans (hb1.mono HBA.out.size))
    clear hb1 K1 hblk hr hp hk hn
    go_wp2
    exact bodyPost_ret (results_box (p := 4) (u := 5) rfl _ _ w.heap.size _ rfl (HK.out.store p)) rfl ⟨rfl, below5 HB.out (Nat.le_refl _) 0 1 2 3 4 _ _ _ _ _⟩

/-! ### idsBut -/
/-- a list of numbers is handed back, in memory of its own -/
def Lists (l : List Int) (w : World) (e : Ending) (w' : World) : Prop :=
  Below w.heap.size w w' ∧ ∃ v, e = .returned v ∧ w'.ownsRow w.heap.size 3 1 v l.length (zints l)
theorem but_yes {L : List Mb} {k : Nat} {x : Int} {p : Mb} (hp : L[k]? = some p) (h : p.id ≠ x) : butL (L.take (k + 1)) x = butL (L.take k) x ++ [p.id] := by
  rw [List.take_add_one, hp]
  unfold butL
  simp [List.filter_append, h]
theorem but_no {L : List Mb} {k : Nat} {x : Int} {p : Mb} (hp : L[k]? = some p) (h : p.id = x) : butL (L.take (k + 1)) x = butL (L.take k) x := by
  rw [List.take_add_one, hp]
  unfold butL
  simp [List.filter_append, h]
theorem rd_one (w : World) (z : Int) : Rd (w.alloc (.cells #[.int .i64 z] 3)) no 1 (some ⟨w.heap.size, 0, none⟩) 1 (zints [z]) := Rd.new w no (fun _ f => f.elim) 1 1 #[.int .i64 z] _ rfl

set_option maxHeartbeats 2000000 in
theorem but_any (C g : Nat) (F : Nat → Prop) (R : Ro) (w : World) (h : Rs w C g F R) (x : Int) :
    Calls Try.prog 37 #[.pointer (some ⟨g, 0, none⟩), .int .i64 x] w (Lists (butL R.L x) w) := by
  obtain ⟨i0, hi0, hz0, hz1, hz2⟩ := info_parts int_info
  obtain ⟨b, A, n, c, hblk, _, _, hn, hnc, hcm, h15, _, _, _, hr⟩ := h.open_
  have c1 := hblk.cell 1
  simp at c1
  have HR := Lib.hid hr
  have HN := Lib.hid hn
  clear h hblk hr hn
  go_enter Try.func37, Try.ntmps37
  go_wp2
  go_loopw [5, 13] (fun v i wr => ∃ (k m : Nat) (Av : Option Addr) (cv : Nat), k ≤ n ∧ m ≤ k ∧ i = .int .i64 k ∧ v = .slice Av m cv ∧ (butL (R.L.take k) x).length = m ∧ wr.ownsRow w.heap.size 3 1 (.slice Av m cv) m (zints (butL (R.L.take k) x)) ∧ Below w.heap.size w wr) (fun _ i _ => n - (intOf i).toNat)
  case atStart => exact ⟨0, 0, none, 0, by omega, by omega, rfl, rfl, rfl, World.ownsRow_nil _ _ _ _, Below.refl _ _⟩
  case round =>
    obtain ⟨w3, rfl⟩ : ∃ w3, w3 = wr := ⟨_, rfl⟩
    obtain ⟨k, m, Av, cv, hk, hmk, rfl, rfl, hlm, hown, hb⟩ := hrel
    have HB := Lib.hid hb
    have HO := Lib.hid hown
    have HM := Lib.hid hlm
    have HR3 := Lib.hid (HR.out.below hb)
    clear hb hown hlm
    by_cases hlt : k < n
    · obtain ⟨ad, p, rfl, hp, hbl, _, d0, d1, d2, d3, d4⟩ := HR3.out.atM hlt
      have e0 := (Bx.new w3 p rfl).cells.1
      have HBA : Hid (Below w.heap.size w (w3.alloc (.cells #[.int .i64 p.id, .int .i64 p.ma, .int .i64 p.co, .int .i64 p.of_, .int .i64 p.fa] 34))) := Lib.hid (HB.out.alloc HB.out.size _)
      by_cases hx : p.id = x
      · have HE := Lib.hid (but_no hp hx)
        have HOA := Lib.hid (HO.out.alloc (.cells #[.int .i64 p.id, .int .i64 p.ma, .int .i64 p.co, .int .i64 p.of_, .int .i64 p.fa] 34))
        obtain ⟨pi, pm, pc, po, pf⟩ := p
        simp only at hx e0 d0 d1 d2 d3 d4 HBA HOA
        subst hx
        clear hp
        go_wp2
        go_roundw
        case rel => exact ⟨k + 1, m, Av, cv, by omega, by omega, by go_num, rfl, by rw [HE.out]; exact HM.out, by rw [HE.out]; exact HOA.out, HBA.out⟩
        case measure => simp [intOf]; omega
      · have HE := Lib.hid (but_yes hp hx)
        have t1 : (p.id != x) = true := by simpa using hx
        have HBB : Hid (Below w.heap.size w ((w3.alloc (.cells #[.int .i64 p.id, .int .i64 p.ma, .int .i64 p.co, .int .i64 p.of_, .int .i64 p.fa] 34)).alloc (.cells #[.int .i64 p.id] 3))) := Lib.hid (HBA.out.alloc HBA.out.size _)
        have HOB := Lib.hid ((HO.out.alloc (.cells #[.int .i64 p.id, .int .i64 p.ma, .int .i64 p.co, .int .i64 p.of_, .int .i64 p.fa] 34)).alloc (.cells #[.int .i64 p.id] 3))
        have HON := Lib.hid (rd_one (w3.alloc (.cells #[.int .i64 p.id, .int .i64 p.ma, .int .i64 p.co, .int .i64 p.of_, .int .i64 p.fa] 34)) p.id)
        simp only [World.size_alloc] at HON
        have HS := HBB.out.size
        clear hp hx
        go_wp2_with (at_builtin; refine wpList_append_rd _ rfl _ _ 43 rfl w.heap.size 3 i0 _ 1 8 Try.underlying43 hi0 hz0 hz1 hz2 rfl (by omega) (.slice Av m cv) m (zints (butL (R.L.take k) x)) rfl HOB.out no (some ⟨w3.heap.size + 1, 0, none⟩) 1 1 (zints [p.id]) rfl HON.out (zints_one _) (by unfold maxLen; omega) (by omega) HS ?_; intro v4 w4 hown4 hg4 hat4; obtain ⟨A4, c4, rfl, _, _⟩ := own_form hown4; have H4 := Lib.hid hown4; have HB4 := Lib.hid (HBB.out.grown hg4 HBB.out.size (fun k hk => (HOB.out.lt k hk).1)); clear hown4 hg4 hat4)
        go_roundw
        case rel => exact ⟨k + 1, m + 1, A4, c4, by omega, by omega, by go_num, rfl, by rw [HE.out, List.length_append, HM.out]; rfl, by rw [HE.out, zints_append]; exact H4.out, HB4.out⟩
        case measure => simp [intOf]; omega
    · obtain rfl : k = n := by omega
      have HT : Hid (R.L.take k = R.L) := Lib.hid (List.take_of_length_le (by rw [HN.out]; exact Nat.le_refl _))
      go_wp2
      go_ret
      refine ⟨HB.out, _, rfl, ?_⟩
      have h1 := HO.out
      have h2 := HM.out
      rw [HT.out] at h1 h2
      rw [h2]
      exact h1

/-! ### Next -/
theorem num_cast (l : List Int) (n : Int) : (numN l n : Int) = max 0 (min n (l.length : Int)) := by unfold numN; omega
theorem turn_set (w : World) (p : Addr) (u : Value) : Turn w (w.setCell p u) (fun i => i = p.block) := ⟨rfl, rfl, rfl, by simp [World.setCell], fun i _ hn => Below.heap_setCell w p u i hn⟩
/-- the cursor is written -/
theorem Rs.cursor {w : World} {C g : Nat} {F : Nat → Prop} {R : Ro} (h : Rs w C g F R) {m : Nat} (hm : m ≤ 1000000) : Rs (w.setCell ⟨g, 3, none⟩ (.int .i64 (m : Int))) C g F ⟨R.s, R.L, R.B, m⟩ := by
  obtain ⟨b, A, n, c, h1, h2, h3, hn, _, _, _, h4, h5, hgb, _⟩ := h.open_
  have ht := turn_set w ⟨g, 3, none⟩ (.int .i64 (m : Int))
  refine ⟨⟨b, .slice A n c, h1.set_ 3 _, h2.turn ht (fun e => hgb e.symm), ?_, h4, fun k hk => (h5 k hk).1⟩, h.fg, ⟨h.good.up, h.good.ok, h.good.len, h.good.upB, h.good.okB, h.good.fit⟩, fun i hi => Nat.lt_of_lt_of_le (h.lt i hi) ht.size, h.lo, hm⟩
  rw [hn]
  exact own_turn h3 ht (fun k hk e => (h5 k hk).2.1 e)
theorem pick_rem (c k n : Nat) : Int.tmod ((c : Int) + (k : Int)) (n : Int) = (((c + k) % n : Nat) : Int) := by
  rw [Int.tmod_eq_emod_of_nonneg (by omega), Int.natCast_emod, Int.natCast_add]
set_option maxHeartbeats 4000000 in
theorem next_any (C g : Nat) (F : Nat → Prop) (R : Ro) (w : World) (h : Rs w C g F R) (hc : R.c ≤ 900000) (q x : Int) :
    Calls Try.prog 21 #[.pointer (some ⟨g, 0, none⟩), .int .i64 q, .int .i64 x] w fun e w' =>
      (∃ v, e = .returned v ∧ w'.ownsRow w.heap.size 3 1 v (nextL R q x).length (zints (nextL R q x))) ∧ Rs w' C g F (nextR R q x) ∧ Turn w w' F := by
  obtain ⟨i0, hi0, hz0, hz1, hz2⟩ := info_parts int_info
  obtain ⟨l7, HL7⟩ : ∃ l, Hid (butL R.L x = l) := ⟨_, Lib.hid rfl⟩
  have h15 : l7.length ≤ 15 := by rw [← HL7.out]; exact Nat.le_trans (but_len _ _) h.good.len
  obtain ⟨N, HN⟩ : ∃ N, Hid (numN l7 q = N) := ⟨_, Lib.hid rfl⟩
  have hNl : N ≤ l7.length := by rw [← HN.out]; exact num_le _ _
  have HNC := Lib.hid (num_cast l7 q)
  obtain ⟨n7, hn7⟩ : ∃ n7, l7.length = n7 := ⟨_, rfl⟩
  have HLN : Hid (nextL R q x = pickL l7 R.c N) := Lib.hid (by unfold nextL; rw [HL7.out, HN.out])
  have HRN : Hid (nextR R q x = ⟨R.s, R.L, R.B, R.c + N⟩) := Lib.hid (by unfold nextR; rw [HL7.out, HN.out])
  have HPL : Hid ((pickL l7 R.c N).length = N) := Lib.hid (pick_len _ _ _)
  rw [HLN.out, HRN.out, HPL.out]
  rw [HN.out, hn7] at HNC
  have HH := Lib.hid h
  obtain ⟨cu, hcu⟩ : ∃ cu, R.c = cu := ⟨_, rfl⟩
  have HGL := Lib.hid h.glt
  have HN7 := Lib.hid hn7
  have hn15 : n7 ≤ 15 := by omega
  have hN15 : N ≤ n7 := by omega
  have HLT := Lib.hid h.lt
  rw [hcu] at hc ⊢
  have HCU := Lib.hid hcu
  have hway : (q ≤ (n7 : Int) ∧ (∀ k : Nat, k < N → (k : Int) < q) ∧ (∀ k : Nat, N ≤ k → ¬ (k : Int) < q)) ∨ ((n7 : Int) < q ∧ n7 = N) := by
    have := HNC.out
    rcases (by omega : q ≤ (n7 : Int) ∨ (n7 : Int) < q) with h1 | h1
    · exact .inl ⟨h1, fun k hk => by omega, fun k hk => by omega⟩
    · exact .inr ⟨h1, by omega⟩
  clear h hNl hn7 h15 hcu
  rcases hway with ⟨hq1, hk1, hk2⟩ | ⟨hq1, rfl⟩
  · have HM1 := Lib.hid hk1
    have HM2 := Lib.hid hk2
    clear hk1 hk2
    go_enter Try.func21, Try.ntmps21
    go_wp2_with (fail)
    refine (but_any C g F R _ HH.out x).mono ?_
    rintro e w1 ⟨hb1, v7, rfl, hown7⟩
    rw [HL7.out, HN7.out] at hown7
    obtain ⟨A7, c7, rfl, hc7, hcm7⟩ := own_form hown7
    have K1 := Lib.hid (HH.out.below hb1)
    have H7 : Hid (Rd w1 no 1 A7 n7 (zints l7)) := Lib.hid (Rd.of_own hown7 rfl (fun _ _ f => f.elim))
    have HB1 := Lib.hid hb1
    clear hb1 hown7
    go_wp2
    go_loopw [8, 17] (fun v i wr => ∃ (k : Nat) (Av : Option Addr) (cv : Nat), k ≤ N ∧ i = .int .i64 k ∧ v = .slice Av k cv ∧ wr.ownsRow w1.heap.size 3 1 (.slice Av k cv) k (zints (pickL l7 cu k)) ∧ Below w1.heap.size w1 wr) (fun _ i _ => N - (intOf i).toNat)
    case atStart => exact ⟨0, none, 0, by omega, rfl, rfl, World.ownsRow_nil _ _ _ _, Below.refl _ _⟩
    case round =>
      obtain ⟨w3, rfl⟩ : ∃ w3, w3 = wr := ⟨_, rfl⟩
      obtain ⟨k, Av, cv, hk, rfl, rfl, hown, hb⟩ := hrel
      have HB := Lib.hid hb
      have HO := Lib.hid hown
      have K3 := Lib.hid (K1.out.below hb)
      have H73 := Lib.hid (H7.out.below hb)
      obtain ⟨b, A, n, c, hblk, _⟩ := K3.out.open_
      have c3 := hblk.cell 3
      have f3 := hblk.frozen 3
      rw [HCU.out] at c3
      simp at c3
      clear hb hown hblk
      by_cases hlt : k < N
      · obtain ⟨j, hj⟩ : ∃ j, (cu + k) % n7 = j := ⟨_, rfl⟩
        have hjn : j < n7 := by rw [← hj]; exact Nat.mod_lt _ (by omega)
        obtain ⟨ad, z, rfl, hz, hbl, _, d0⟩ := H73.out.atZ hjn
        have t1 := HM1.out k hlt
        have t1n : k < n7 := by omega
        have t2 : Int.tmod ((cu : Int) + (k : Int)) (n7 : Int) = (j : Int) := by rw [pick_rem, hj]
        have t3 : ¬ ((n7 : Int) = 0) := by omega
        have t4 : IntKind.i64.wrap ((j : Nat) : Int) = (j : Int) := by rw [IntKind.wrap_i64]; omega
        have HPS : Hid (pickL l7 cu (k + 1) = pickL l7 cu k ++ [z]) := Lib.hid (by rw [pick_succ, HN7.out, hj, List.getD_eq_getElem?_getD, hz]; rfl)
        have HBA : Hid (Below w1.heap.size w1 (w3.alloc (.cells #[.int .i64 z] 3))) := Lib.hid (HB.out.alloc HB.out.size _)
        have HOA := Lib.hid (HO.out.alloc (.cells #[.int .i64 z] 3))
        have HON := Lib.hid (rd_one w3 z)
        have HS := HBA.out.size
        clear hz hj
        go_wp2_with (at_builtin; refine wpList_append_rd _ rfl _ _ 43 rfl w1.heap.size 3 i0 _ 1 8 Try.underlying43 hi0 hz0 hz1 hz2 rfl (by omega) (.slice Av k cv) k (zints (pickL l7 cu k)) rfl HOA.out no (some ⟨w3.heap.size, 0, none⟩) 1 1 (zints [z]) rfl HON.out (zints_one _) (by unfold maxLen; omega) (by omega) HS ?_; intro v4 w4 hown4 hg4 hat4; obtain ⟨A4, c4, rfl, _, _⟩ := own_form hown4; have H4 := Lib.hid hown4; have HB4 := Lib.hid (HBA.out.grown hg4 HBA.out.size (fun k hk => (HOA.out.lt k hk).1)); clear hown4 hg4 hat4)
        go_roundw
        case rel => exact ⟨k + 1, A4, c4, by omega, by go_num, rfl, by rw [HPS.out, zints_append]; exact H4.out, HB4.out⟩
        case measure => simp [intOf]; omega
      · obtain rfl : k = N := by omega
        have t1 := HM2.out k (Nat.le_refl _)
        go_wp2
        go_ret
        have hbw : Below w.heap.size w w3 := HB1.out.trans (HB.out.mono HB1.out.size)
        refine ⟨⟨_, rfl, ?_⟩, ?_, ?_⟩
        · refine own_turn (own_base HO.out HB1.out.size) (turn_set _ _ _) (fun i hi e => ?_)
          have := (HO.out.lt i hi).1
          have := HB1.out.size
          have := HGL.out
          simp only at e
          omega
        · exact K3.out.cursor (m := cu + k) (by omega)
        · exact (Turn.of_below hbw F).trans (turn_set _ _ _) (fun i _ e => by rw [e]; exact K3.out.fg)
  · go_enter Try.func21, Try.ntmps21
    go_wp2_with (fail)
    refine (but_any C g F R _ HH.out x).mono ?_
    rintro e w1 ⟨hb1, v7, rfl, hown7⟩
    rw [HL7.out, HN7.out] at hown7
    obtain ⟨A7, c7, rfl, hc7, hcm7⟩ := own_form hown7
    have K1 := Lib.hid (HH.out.below hb1)
    have H7 : Hid (Rd w1 no 1 A7 n7 (zints l7)) := Lib.hid (Rd.of_own hown7 rfl (fun _ _ f => f.elim))
    have HB1 := Lib.hid hb1
    clear hb1 hown7
    go_wp2
    go_loopw [8, 17] (fun v i wr => ∃ (k : Nat) (Av : Option Addr) (cv : Nat), k ≤ n7 ∧ i = .int .i64 k ∧ v = .slice Av k cv ∧ wr.ownsRow w1.heap.size 3 1 (.slice Av k cv) k (zints (pickL l7 cu k)) ∧ Below w1.heap.size w1 wr) (fun _ i _ => n7 - (intOf i).toNat)
    case atStart => exact ⟨0, none, 0, by omega, rfl, rfl, World.ownsRow_nil _ _ _ _, Below.refl _ _⟩
    case round =>
      obtain ⟨w3, rfl⟩ : ∃ w3, w3 = wr := ⟨_, rfl⟩
      obtain ⟨k, Av, cv, hk, rfl, rfl, hown, hb⟩ := hrel
      have HB := Lib.hid hb
      have HO := Lib.hid hown
      have K3 := Lib.hid (K1.out.below hb)
      have H73 := Lib.hid (H7.out.below hb)
      obtain ⟨b, A, n, c, hblk, _⟩ := K3.out.open_
      have c3 := hblk.cell 3
      have f3 := hblk.frozen 3
      rw [HCU.out] at c3
      simp at c3
      clear hb hown hblk
      by_cases hlt : k < n7
      · obtain ⟨j, hj⟩ : ∃ j, (cu + k) % n7 = j := ⟨_, rfl⟩
        have hjn : j < n7 := by rw [← hj]; exact Nat.mod_lt _ (by omega)
        obtain ⟨ad, z, rfl, hz, hbl, _, d0⟩ := H73.out.atZ hjn
        skip
        have t2 : Int.tmod ((cu : Int) + (k : Int)) (n7 : Int) = (j : Int) := by rw [pick_rem, hj]
        have t3 : ¬ ((n7 : Int) = 0) := by omega
        have t4 : IntKind.i64.wrap ((j : Nat) : Int) = (j : Int) := by rw [IntKind.wrap_i64]; omega
        have HPS : Hid (pickL l7 cu (k + 1) = pickL l7 cu k ++ [z]) := Lib.hid (by rw [pick_succ, HN7.out, hj, List.getD_eq_getElem?_getD, hz]; rfl)
        have HBA : Hid (Below w1.heap.size w1 (w3.alloc (.cells #[.int .i64 z] 3))) := Lib.hid (HB.out.alloc HB.out.size _)
        have HOA := Lib.hid (HO.out.alloc (.cells #[.int .i64 z] 3))
        have HON := Lib.hid (rd_one w3 z)
        have HS := HBA.out.size
        clear hz hj
        go_wp2_with (at_builtin; refine wpList_append_rd _ rfl _ _ 43 rfl w1.heap.size 3 i0 _ 1 8 Try.underlying43 hi0 hz0 hz1 hz2 rfl (by omega) (.slice Av k cv) k (zints (pickL l7 cu k)) rfl HOA.out no (some ⟨w3.heap.size, 0, none⟩) 1 1 (zints [z]) rfl HON.out (zints_one _) (by unfold maxLen; omega) (by omega) HS ?_; intro v4 w4 hown4 hg4 hat4; obtain ⟨A4, c4, rfl, _, _⟩ := own_form hown4; have H4 := Lib.hid hown4; have HB4 := Lib.hid (HBA.out.grown hg4 HBA.out.size (fun k hk => (HOA.out.lt k hk).1)); clear hown4 hg4 hat4)
        go_roundw
        case rel => exact ⟨k + 1, A4, c4, by omega, by go_num, rfl, by rw [HPS.out, zints_append]; exact H4.out, HB4.out⟩
        case measure => simp [intOf]; omega
      · obtain rfl : k = n7 := by omega
        go_wp2
        go_ret
        have hbw : Below w.heap.size w w3 := HB1.out.trans (HB.out.mono HB1.out.size)
        refine ⟨⟨_, rfl, ?_⟩, ?_, ?_⟩
        · refine own_turn (own_base HO.out HB1.out.size) (turn_set _ _ _) (fun i hi e => ?_)
          have := (HO.out.lt i hi).1
          have := HB1.out.size
          have := HGL.out
          simp only at e
          omega
        · exact K3.out.cursor (m := cu + k) (by omega)
        · exact (Turn.of_below hbw F).trans (turn_set _ _ _) (fun i _ e => by rw [e]; exact K3.out.fg)
end Go.Proofs.Ytfchhlibjhblmaa
