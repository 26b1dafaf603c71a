/-
  WHAT IS PROVED: the library's Insert of one member into an own row of members, at any place. Conditions: the sizes; what is put in lies in another block.
-/
import Derived.Test.YtfchhlibjhblmaaRun
import Derived.Test.YtfchhlibjhblmaaFns
import Derived.Shelf.RegionOpenPlain
namespace Go.Proofs.Ytfchhlibjhblmaa
open Go.RowKit Go.Lib

/-- members are handed back, in the row that was handed in or in a new one; nothing else turns -/
def Ins (v : Value) (l' : List Mb) (w : World) (e : Ending) (w' : World) : Prop :=
  ∃ v', e = .returned v' ∧ w'.ownsRow 0 34 5 v' l'.length (flatM l') ∧ w.grownBy w' v.ownBlock ∧ (v'.ownBlock = v.ownBlock ∨ ∃ k, v'.ownBlock = some k ∧ w.heap.size ≤ k)
abbrev rowM (x : Mb) : Array Value := #[.int .i64 x.id, .int .i64 x.ma, .int .i64 x.co, .int .i64 x.of_, .int .i64 x.fa]
theorem rd_blk {w : World} {vb : Nat} {x : Mb} {t : TypeId} {F : Nat → Prop} (h : Blk w vb t (rowM x)) (hF : ¬ F vb) : Rd w F 5 (some ⟨vb, 0, none⟩) 1 (flatM [x]) :=
  ⟨rfl, fun _ => ⟨_, rfl, h.lt, hF, fun j u hu => by
    rw [Go.WideShapes.add_plain, Nat.zero_add, h.cell j]
    simpa [flatM, encM] using hu⟩⟩

set_option maxHeartbeats 2000000 in
theorem insert_end (v : Value) (l : List Mb) (x : Mb) (vb : Nat) (w : World) (hown : w.ownsRow 0 34 5 v l.length (flatM l)) (hlen : l.length ≤ 1000) (hx : Blk w vb 34 (rowM x)) :
    Calls Try.prog 34 #[v, .int .i64 (l.length : Int), .slice (some ⟨vb, 0, none⟩) 1 1] w (Ins v (l ++ [x]) w) := by
  obtain ⟨i0, hi0, hz0, hz1, hz2⟩ := info_parts mem_info
  obtain ⟨A, c, rfl, hnc, hcm⟩ := own_form hown
  obtain ⟨n, hn⟩ : ∃ n, l.length = n := ⟨_, rfl⟩
  rw [hn] at hown hnc hlen ⊢
  have HN := Lib.hid hn
  have HO := Lib.hid hown
  have HX := Lib.hid (rd_blk (F := no) hx (fun f => f.elim))
  clear hown hx hn
  go_enter Try.func34, Try.ntmps34
  go_wp2_with (at_builtin; refine wpList_append_rd _ rfl _ _ 50 rfl 0 34 i0 _ 5 40 Try.underlying50 hi0 hz0 hz1 hz2 rfl (by omega) (.slice A n c) n (flatM l) rfl HO.out no (some ⟨vb, 0, none⟩) 1 1 (flatM [x]) rfl HX.out (flatM_one _) (by unfold maxLen; omega) (by omega) (Nat.zero_le _) ?_; intro v2 w2 hown2 hg2 hat2; have H2 := Lib.hid hown2; have G2 := Lib.hid hg2; have T2 := Lib.hid hat2; clear hown2 hg2 hat2)
  all_goals
    go_ret
    refine ⟨v2, rfl, ?_, ?_, ?_⟩
    · rw [List.length_append, HN.out, flatM_append]; exact H2.out
    · first | exact G2.out | (rename_i h; subst h; exact G2.out)
    · rcases T2.out with h | h
      · exact .inl (h.trans (by cases A <;> rfl))
      · exact .inr ⟨_, h, Nat.le_refl _⟩

theorem apart_run (w : World) (vb g o lb cb : Nat) (x : Mb) (cur : Array Value) (hx : Blk w vb 34 (rowM x)) (hg : w.heap[g]? = some (.cells cur 34 (0, 0))) (hc : cur.size ≠ 0) (hne : vb ≠ g) :
    (callFunc 43 #[.slice (some ⟨vb, 0, none⟩) 1 1, .slice (some ⟨g, o, none⟩) lb cb]).run Try.prog w = .ok (.value (.bool false)) w := by
  obtain ⟨i0, hi0, hz0, hz1, hz2⟩ := info_parts mem_info
  rw [run_callFunc_extern Try.func43 (by kernel_rfl) (by kernel_rfl) (by kernel_rfl) (e := Extern.SlicesOverlaps.overlaps #[50, 50] #[4]) (by kernel_rfl),
    Lib.run_overlaps_apart w 50 4 34 Try.underlying50 5 (fun w => by simp [sizeOf, typeInfo, hi0, hz1]) ⟨vb, 0, none⟩ ⟨g, o, none⟩ 1 1 lb cb hne 34 34 5 cur.size
      (by unfold Blk at hx; simp [World.shape?, hx]) (by simp [World.shape?, hg]) hc (hx.frozen 0) (hx.frozen 5)]
  rfl
/-- a row's cells, in three pieces -/
theorem pieces (cs : List Value) (p q : Nat) (h : p + q ≤ cs.length) : ∃ a b c, cs = a ++ (b ++ c) ∧ a.length = p ∧ b.length = q := by
  refine ⟨cs.take p, (cs.drop p).take q, (cs.drop p).drop q, by rw [List.take_append_drop, List.take_append_drop], by rw [List.length_take]; omega, by rw [List.length_take, List.length_drop]; omega⟩
/-- there is room: what lies from i on is moved, and the new one stored -/
theorem room_run (w : World) (g n c i vb : Nat) (l : List Mb) (x : Mb) (hown : w.ownsRow 0 34 5 (.slice (some ⟨g, 0, none⟩) n c) n (flatM l)) (hi : i < n) (hroom : n + 1 ≤ c) (hx : Blk w vb 34 (rowM x)) (hne : vb ≠ g) :
    ∃ w1 w2, (∀ ty dc sc, (Builtin.copy_ #[50, 50] ty #[.slice (some ⟨g, (i + 1) * 5, none⟩) (n + 1 - (i + 1)) dc, .slice (some ⟨g, i * 5, none⟩) (n + 1 - i) sc]).run Try.prog w.drew = .ok (.int .i64 ((n - i : Nat) : Int)) w1) ∧
      (∀ ty dc, (Builtin.copy_ #[50, 50] ty #[.slice (some ⟨g, i * 5, none⟩) (n + 1 - i) dc, .slice (some ⟨vb, 0, none⟩) 1 1]).run Try.prog w1 = .ok (.int .i64 1) w2) ∧
      w2.ownsRow 0 34 5 (.slice (some ⟨g, 0, none⟩) (n + 1) c) (n + 1) (flatM (l.take i ++ x :: l.drop i)) ∧ w.grownBy w2 (some g) := by
  obtain ⟨i0, hi0, hz0, hz1, hz2⟩ := info_parts mem_info
  have hs5 : (Try.prog.info? 34).map (·.size) = some 5 := by rw [hi0]; simp [hz1]
  obtain ⟨cur, rest, hh, hnc, hcm, hcs, hcl, hxl, hrl⟩ := own_to_row hown
  have hll : l.length = n := by rw [flatM_len] at hxl; omega
  have hsp : flatM l = flatM (l.take i) ++ flatM (l.drop i) := by rw [← flatM_append, List.take_append_drop]
  have hta : (flatM (l.take i)).length = i * 5 := by rw [flatM_len, List.length_take]; omega
  have hda : (flatM (l.drop i)).length = (n - i) * 5 := by rw [flatM_len, List.length_drop, hll]
  obtain ⟨q, b, d, hq, hql, hbl⟩ := pieces (flatM (l.drop i) ++ rest) 5 ((n - i) * 5) (by rw [List.length_append, hda, hrl]; omega)
  have hc0 : cur.toList = flatM (l.take i) ++ (q ++ (b ++ d)) := by rw [hcl, hsp, List.append_assoc, hq]
  have hf1 : (i + 1) * 5 + (flatM (l.drop i)).length ≤ cur.size := by rw [hda, hcs]; omega
  have r1 := relay (cur := cur) (o := (i + 1) * 5) (a := flatM (l.take i) ++ q) (b := b) (c := d) (vs := flatM (l.drop i)) (by rw [hc0, List.append_assoc]) (by rw [List.length_append, hta, hql]; omega) (by rw [hbl, hda])
  have s1 := relay_size hf1
  obtain ⟨X1, hX1⟩ : ∃ X, X = (cur.toList.take ((i + 1) * 5) ++ flatM (l.drop i) ++ cur.toList.drop ((i + 1) * 5 + (flatM (l.drop i)).length)).toArray := ⟨_, rfl⟩
  rw [← hX1] at r1 s1
  have hh1 : (w.drew.setRow g X1).heap[g]? = some (.cells X1 34 (0, 0)) := setRow_heap w.drew g cur X1 _ (0, 0) hh
  have hf2 : i * 5 + (flatM [x]).length ≤ X1.size := by rw [s1, hcs]; simp [flatM, encM]; omega
  have r2 := relay (cur := X1) (o := i * 5) (a := flatM (l.take i)) (b := q) (c := flatM (l.drop i) ++ d) (vs := flatM [x]) (by rw [r1, List.append_assoc]) hta (by rw [hql]; rfl)
  have s2 := relay_size hf2
  obtain ⟨X2, hX2⟩ : ∃ X, X = (X1.toList.take (i * 5) ++ flatM [x] ++ X1.toList.drop (i * 5 + (flatM [x]).length)).toArray := ⟨_, rfl⟩
  rw [← hX2] at r2 s2
  refine ⟨w.drew.setRow g X1, (w.drew.setRow g X1).setRow g X2, fun ty dc sc => ?_, fun ty dc => ?_, ?_, ?_⟩
  · have := run_copy_row (P := Try.prog) w.drew 50 50 ty 34 5 g ((i + 1) * 5) (n + 1 - (i + 1)) dc (n - i) cur ⟨g, i * 5, none⟩ (n + 1 - i) sc (flatM (l.drop i)) Try.underlying50 hs5 hh (by simp only [Nat.min_def]; split <;> omega) hda
      (fun j u hu => by
        rw [Go.WideShapes.add_plain]
        refine (cell_of_row w.drew g _ cur _ (0, 0) hh).trans ?_
        rw [← Array.getElem?_toList, hc0, ← hq, List.getElem?_append_right (by rw [hta]; omega), hta, show i * 5 + j - i * 5 = j by omega, List.getElem?_append_left (List.getElem?_eq_some_iff.1 hu).1]
        exact hu) hf1 (flatM_one _)
    rw [← hX1] at this
    exact this
  · have := run_copy_row (P := Try.prog) (w.drew.setRow g X1) 50 50 ty 34 5 g (i * 5) (n + 1 - i) dc 1 X1 ⟨vb, 0, none⟩ 1 1 (flatM [x]) Try.underlying50 hs5 hh1 (by simp only [Nat.min_def]; split <;> omega) rfl
      (fun j u hu => by
        rw [Go.WideShapes.add_plain, cell_setRow_other _ _ _ _ hne, Nat.zero_add]
        refine (hx.drew.cell j).trans ?_
        simpa [flatM, encM] using hu) hf2 (flatM_one _)
    rw [← hX2] at this
    exact this
  · have hh2 := setRow_heap (w.drew.setRow g X1) g X1 X2 _ (0, 0) hh1
    refine own_of_row hh2 (by omega) hcm (by rw [s2, s1, hcs]) d ?_ ?_
    · rw [r2, flatM_append, show x :: l.drop i = [x] ++ l.drop i from rfl, flatM_append, List.append_assoc, List.append_assoc]
    · rw [flatM_len, List.length_append, List.length_cons, List.length_take, List.length_drop]; omega
  · exact (grown_drew (grown_setRow w.drew g X1)).trans (grown_setRow _ g X2)

set_option maxHeartbeats 4000000 in
theorem insert_room (l : List Mb) (x : Mb) (g n c i vb : Nat) (w : World) (hown : w.ownsRow 0 34 5 (.slice (some ⟨g, 0, none⟩) n c) n (flatM l)) (hlen : n ≤ 1000) (hi : i < n) (hroom : n + 1 ≤ c) (hx : Blk w vb 34 (rowM x)) (hne : vb ≠ g) :
    Calls Try.prog 34 #[.slice (some ⟨g, 0, none⟩) n c, .int .i64 (i : Int), .slice (some ⟨vb, 0, none⟩) 1 1] w (Ins (.slice (some ⟨g, 0, none⟩) n c) (l.take i ++ x :: l.drop i) w) := by
  obtain ⟨cur, rest, hh, hnc, hcm', hcs, hcl, hxl, hrl⟩ := own_to_row hown
  have hll : l.length = n := by rw [flatM_len] at hxl; omega
  have HLL : Hid ((l.take i ++ x :: l.drop i).length = n + 1) := Lib.hid (by rw [List.length_append, List.length_cons, List.length_take, List.length_drop]; omega)
  have hov : ∀ o lb cb, (callFunc 43 #[.slice (some ⟨vb, 0, none⟩) 1 1, .slice (some ⟨g, o, none⟩) lb cb]).run Try.prog w = .ok (.value (.bool false)) w :=
    fun o lb cb => apart_run w vb g o lb cb x cur hx hh (by rw [hcs]; omega) hne
  obtain ⟨w1, w2, h1, h2, h3, h4⟩ := room_run w g n c i vb l x hown hi hroom hx hne
  have H1 := Lib.hid h1
  have H2 := Lib.hid h2
  have H3 := Lib.hid h3
  have H4 := Lib.hid h4
  have t1 : ((i : Int) == (n : Int)) = false := by simp; omega
  have t2 : decide ((c : Int) < (n : Int) + 1) = false := by simp; omega
  have t3 : ¬ c = i := by omega
  have t4 : ¬ c = i + 1 := by omega
  have t5 : (i : Int) ≤ (n : Int) := by omega
  have t6 : (i : Int) ≤ (n : Int) + 1 := by omega
  have t7 : (n : Int) + 1 ≤ (c : Int) := by omega
  have t8 : IntKind.i64.wrap ((i : Int) + 1) = (i : Int) + 1 := by rw [IntKind.wrap_i64]; omega
  have t9 : (0 : Int) ≤ (i : Int) + 1 := by omega
  have t10 : ((i : Int) + 1).toNat = i + 1 := by omega
  have t11 : i ≤ n := by omega
  clear h1 h2 h3 h4 hown hh hcl hrl hcs hxl hx
  go_enter Try.func34, Try.ntmps34
  go_wp2_with (simp only [hov])
  go_region_law (refine step_copy_run _ rfl _ _ 50 50 rfl (.slice (some ⟨g, (i + 1) * 5, none⟩) (n + 1 - (i + 1)) (c - (i + 1))) (.slice (some ⟨g, i * 5, none⟩) (n + 1 - i) (c - i)) (by simp [Act.eval, Act.put]) (by simp [Act.eval, Act.put]) (H1.out _ _ _) ?_)
  have h2 := H2.out
  go_wp2
  go_ret
  exact ⟨_, rfl, by rw [HLL.out]; exact H3.out, H4.out, .inl rfl⟩

/-- there is no room: a new row is made -/
theorem grow_run (w : World) (g n c i vb : Nat) (l : List Mb) (x : Mb) (hown : w.ownsRow 0 34 5 (.slice (some ⟨g, 0, none⟩) n c) n (flatM l)) (hlen : n ≤ 1000) (hi : i < n) (hroom : c < n + 1) (hx : Blk w vb 34 (rowM x)) :
    ∃ G w1 w2 w3, n + 1 ≤ G ∧ G ≤ 9223372036854775807 ∧
      (∀ ty, (Builtin.append_ #[50, 3] ty #[.slice (some ⟨g, 0, none⟩) i c, .int .i64 ((n : Int) + 1 - (i : Int))]).run Try.prog w = .ok (.slice (some ⟨w.heap.size, 0, none⟩) (n + 1) G) w1) ∧
      (∀ ty dc, (Builtin.copy_ #[50, 50] ty #[.slice (some ⟨w.heap.size, i * 5, none⟩) (n + 1 - i) dc, .slice (some ⟨vb, 0, none⟩) 1 1]).run Try.prog w1 = .ok (.int .i64 1) w2) ∧
      (∀ ty dc sc, (Builtin.copy_ #[50, 50] ty #[.slice (some ⟨w.heap.size, (i + 1) * 5, none⟩) (n + 1 - (i + 1)) dc, .slice (some ⟨g, i * 5, none⟩) (n - i) sc]).run Try.prog w2.drew = .ok (.int .i64 ((n - i : Nat) : Int)) w3) ∧
      w3.ownsRow 0 34 5 (.slice (some ⟨w.heap.size, 0, none⟩) (n + 1) G) (n + 1) (flatM (l.take i ++ x :: l.drop i)) ∧ w.grownBy w3 (some g) := by
  obtain ⟨i0, hi0, hz0, hz1, hz2⟩ := info_parts mem_info
  have hs5 : (Try.prog.info? 34).map (·.size) = some 5 := by rw [hi0]; simp [hz1]
  obtain ⟨cur, rest, hh, hnc, hcm, hcs, hcl, hxl, hrl⟩ := own_to_row hown
  have hll : l.length = n := by rw [flatM_len] at hxl; omega
  have hgl : g < w.heap.size := (Array.getElem?_eq_some_iff.1 hh).1
  have hsp : flatM l = flatM (l.take i) ++ flatM (l.drop i) := by rw [← flatM_append, List.take_append_drop]
  have hta : (flatM (l.take i)).length = i * 5 := by rw [flatM_len, List.length_take]; omega
  have hda : (flatM (l.drop i)).length = (n - i) * 5 := by rw [flatM_len, List.length_drop, hll]
  have hc0 : cur.toList = flatM (l.take i) ++ (flatM (l.drop i) ++ rest) := by rw [hcl, hsp, List.append_assoc]
  have hcell : ∀ j u, cur.toList[j]? = some u → w.cell? ⟨g, j, none⟩ = some u := fun j u hu => (cell_of_row w g j cur _ (0, 0) hh).trans (by rw [← hu, Array.getElem?_toList])
  have hold : (Builtin.firstCells i0.size i (.slice (some ⟨g, 0, none⟩) i c)).run Try.prog w.drew = .ok (flatM (l.take i)).toArray w.drew := by
    rw [hz1]
    exact run_firstCells_some w.drew 5 i ⟨g, 0, none⟩ i c _ hta (fun j u hu => by
      rw [Go.WideShapes.add_plain, Nat.zero_add]
      exact hcell j u (by rw [hc0, List.getElem?_append_left (List.getElem?_eq_some_iff.1 hu).1]; exact hu))
  have hik : i + (n + 1 - i) = n + 1 := by omega
  have hkk : (n : Int) + 1 - (i : Int) = ((n + 1 - i : Nat) : Int) := by omega
  have hgz := fun ty => Lib.run_append_grow_zeros w 50 3 ty 34 i0 _ .i64 .i64 Try.underlying50 Try.underlying3 hi0 hz0 (some ⟨g, 0, none⟩) i c (flatM (l.take i)) hold (n + 1 - i) (by omega) (by omega) (by omega) (by omega) (by rw [hz2]; omega) (by rw [hz2, hik]; exact growslice_fits hroom (by omega))
  obtain ⟨G, hG⟩ : ∃ G, G = grownCap w (n + 1) c 34 := ⟨_, rfl⟩
  have hGn : n + 1 ≤ G := by rw [hG]; exact grownCap_ge w _ _ _
  have hGm : G ≤ maxLen := by rw [hG]; exact grownCap_le_maxLen w (n + 1) c _ (by unfold maxLen; omega)
  rw [hik, ← hG, ← hkk] at hgz
  obtain ⟨Z, hZ⟩ : ∃ Z : Array Value, Z = Builtin.zeroCells (Value.agg #[.int .i64 0, .int .i64 0, .int .i64 0, .int .i64 0, .int .i64 0]).cells (n + 1 - i) ++ Builtin.zeroCells (Value.agg #[.int .i64 0, .int .i64 0, .int .i64 0, .int .i64 0, .int .i64 0]).cells (G - (n + 1)) := ⟨_, rfl⟩
  have hZl : Z.toList.length = (G - i) * 5 := by
    rw [Array.length_toList, hZ, Array.size_append, size_zeroCells, size_zeroCells]
    show (n + 1 - i) * 5 + (G - (n + 1)) * 5 = _
    omega
  rw [Array.append_assoc, ← hZ] at hgz
  obtain ⟨q, b, d, hq, hql, hbl⟩ := pieces Z.toList 5 ((n - i) * 5) (by rw [hZl]; omega)
  obtain ⟨X0, hX0⟩ : ∃ X : Array Value, X = (flatM (l.take i)).toArray ++ Z := ⟨_, rfl⟩
  rw [← hX0] at hgz
  have r0 : X0.toList = flatM (l.take i) ++ (q ++ (b ++ d)) := by rw [hX0, Array.toList_append, hq]
  have s0 : X0.size = G * 5 := by rw [← Array.length_toList, hX0, Array.toList_append, List.length_append, hZl]; simp only [hta]; omega
  have hh0 : (w.drew.alloc (.cells X0 34)).heap[w.heap.size]? = some (.cells X0 34 (0, 0)) := heap_alloc_new w.drew _
  have hf1 : i * 5 + (flatM [x]).length ≤ X0.size := by rw [s0]; simp [flatM, encM]; omega
  have r1 := relay (cur := X0) (o := i * 5) (a := flatM (l.take i)) (b := q) (c := b ++ d) (vs := flatM [x]) r0 hta (by rw [hql]; rfl)
  have s1 := relay_size hf1
  obtain ⟨X1, hX1⟩ : ∃ X, X = (X0.toList.take (i * 5) ++ flatM [x] ++ X0.toList.drop (i * 5 + (flatM [x]).length)).toArray := ⟨_, rfl⟩
  rw [← hX1] at r1 s1
  have hh1 := setRow_heap (w.drew.alloc (.cells X0 34)) w.heap.size X0 X1 _ (0, 0) hh0
  have hf2 : (i + 1) * 5 + (flatM (l.drop i)).length ≤ X1.size := by rw [s1, s0, hda]; omega
  have r2 := relay (cur := X1) (o := (i + 1) * 5) (a := flatM (l.take i) ++ flatM [x]) (b := b) (c := d) (vs := flatM (l.drop i)) (by rw [r1, List.append_assoc]) (by rw [List.length_append, hta]; simp [flatM, encM]; omega) (by rw [hbl, hda])
  have s2 := relay_size hf2
  obtain ⟨X2, hX2⟩ : ∃ X, X = (X1.toList.take ((i + 1) * 5) ++ flatM (l.drop i) ++ X1.toList.drop ((i + 1) * 5 + (flatM (l.drop i)).length)).toArray := ⟨_, rfl⟩
  rw [← hX2] at r2 s2
  have hbel : Below w.heap.size w (w.drew.alloc (.cells X0 34)) := ⟨rfl, rfl, rfl, by simp, fun k hk => Below.heap_alloc w.drew _ k hk⟩
  refine ⟨G, w.drew.alloc (.cells X0 34), (w.drew.alloc (.cells X0 34)).setRow w.heap.size X1, ((w.drew.alloc (.cells X0 34)).setRow w.heap.size X1).drew.setRow w.heap.size X2, hGn, by unfold maxLen at hGm; omega, hgz, fun ty dc => ?_, fun ty dc sc => ?_, ?_, ?_⟩
  · have := run_copy_row (P := Try.prog) (w.drew.alloc (.cells X0 34)) 50 50 ty 34 5 w.heap.size (i * 5) (n + 1 - i) dc 1 X0 ⟨vb, 0, none⟩ 1 1 (flatM [x]) Try.underlying50 hs5 hh0 (by simp only [Nat.min_def]; split <;> omega) rfl
      (fun j u hu => by
        rw [Go.WideShapes.add_plain, Nat.zero_add]
        refine ((hx.below hbel hx.lt).cell j).trans ?_
        simpa [flatM, encM] using hu) hf1 (flatM_one _)
    rw [← hX1] at this
    exact this
  · have := run_copy_row (P := Try.prog) ((w.drew.alloc (.cells X0 34)).setRow w.heap.size X1).drew 50 50 ty 34 5 w.heap.size ((i + 1) * 5) (n + 1 - (i + 1)) dc (n - i) X1 ⟨g, i * 5, none⟩ (n - i) sc (flatM (l.drop i)) Try.underlying50 hs5 hh1 (by simp only [Nat.min_def]; split <;> omega) hda
      (fun j u hu => by
        rw [Go.WideShapes.add_plain]
        refine (cell_setRow_other (w.drew.alloc (.cells X0 34)) w.heap.size X1 ⟨g, i * 5 + j, none⟩ (by show g ≠ w.heap.size; omega)).trans ((hbel.cell hgl).trans (hcell _ u ?_))
        rw [hc0, List.getElem?_append_right (by rw [hta]; omega), hta, show i * 5 + j - i * 5 = j by omega, List.getElem?_append_left (List.getElem?_eq_some_iff.1 hu).1]
        exact hu) hf2 (flatM_one _)
    rw [← hX2] at this
    exact this
  · have hh2 := setRow_heap ((w.drew.alloc (.cells X0 34)).setRow w.heap.size X1).drew w.heap.size X1 X2 _ (0, 0) hh1
    refine own_of_row hh2 hGn hGm (by rw [s2, s1, s0]) d ?_ ?_
    · rw [r2, flatM_append, show x :: l.drop i = [x] ++ l.drop i from rfl, flatM_append, List.append_assoc, List.append_assoc, List.append_assoc]
    · rw [flatM_len, List.length_append, List.length_cons, List.length_take, List.length_drop]; omega
  · have hb2 : Below w.heap.size w (((w.drew.alloc (.cells X0 34)).setRow w.heap.size X1).drew.setRow w.heap.size X2) :=
      below_of_only (g := w.heap.size) (((only_of_below hbel _).trans (grown_setRow _ _ X1)).trans (grown_drew (grown_setRow _ _ X2))) (Nat.le_refl _) (Nat.le_refl _)
    exact only_of_below hb2 _

set_option maxHeartbeats 4000000 in
theorem insert_grow (l : List Mb) (x : Mb) (g n c i vb : Nat) (w : World) (hown : w.ownsRow 0 34 5 (.slice (some ⟨g, 0, none⟩) n c) n (flatM l)) (hlen : n ≤ 1000) (hnc : n ≤ c) (hi : i < n) (hroom : c < n + 1) (hx : Blk w vb 34 (rowM x)) :
    Calls Try.prog 34 #[.slice (some ⟨g, 0, none⟩) n c, .int .i64 (i : Int), .slice (some ⟨vb, 0, none⟩) 1 1] w (Ins (.slice (some ⟨g, 0, none⟩) n c) (l.take i ++ x :: l.drop i) w) := by
  obtain ⟨cur, rest, hh, _, hcm', hcs, hcl, hxl, hrl⟩ := own_to_row hown
  have hll : l.length = n := by rw [flatM_len] at hxl; omega
  have HLL : Hid ((l.take i ++ x :: l.drop i).length = n + 1) := Lib.hid (by rw [List.length_append, List.length_cons, List.length_take, List.length_drop]; omega)
  obtain ⟨G, w1, w2, w3, hG1, hG2, h1, h2, h3, h4, h5⟩ := grow_run w g n c i vb l x hown hlen hi hroom hx
  have H3 := Lib.hid h3
  have H4 := Lib.hid h4
  have H5 := Lib.hid h5
  have t1 : ((i : Int) == (n : Int)) = false := by simp; omega
  have t2 : decide ((c : Int) < (n : Int) + 1) = true := by simp; omega
  have t3 : ¬ c = i := by omega
  have t4 : ¬ G = i := by omega
  have t4b : ¬ G = i + 1 := by omega
  have t5 : (i : Int) ≤ (n : Int) := by omega
  have t6 : (i : Int) ≤ (n : Int) + 1 := by omega
  have t7 : (i : Int) ≤ (c : Int) := by omega
  have t8 : IntKind.i64.wrap ((i : Int) + 1) = (i : Int) + 1 := by rw [IntKind.wrap_i64]; omega
  have t9 : (0 : Int) ≤ (i : Int) + 1 := by omega
  have t10 : ((i : Int) + 1).toNat = i + 1 := by omega
  have t11 : i ≤ n := by omega
  clear h3 h4 h5 hown hh hcl hrl hcs hxl hx hroom
  go_enter Try.func34, Try.ntmps34
  go_wp2_with (at_builtin; refine Lib.wpList_append_run _ rfl _ _ _ _ rfl _ _ rfl rfl _ _ (h1 _) ?_)
  go_region_law (refine step_copy_run _ rfl _ _ 50 50 rfl (.slice (some ⟨w.heap.size, (i + 1) * 5, none⟩) (n + 1 - (i + 1)) (G - (i + 1))) (.slice (some ⟨g, i * 5, none⟩) (n - i) (c - i)) (by simp [Act.eval, Act.put]) (by simp [Act.eval, Act.put]) (H3.out _ _ _) ?_)
  go_wp2
  go_ret
  exact ⟨_, rfl, by rw [HLL.out]; exact H4.out, H5.out, .inr ⟨_, rfl, Nat.le_refl _⟩⟩

theorem insert_any (v : Value) (l : List Mb) (x : Mb) (i vb : Nat) (w : World) (hown : w.ownsRow 0 34 5 v l.length (flatM l)) (hlen : l.length ≤ 1000) (hi : i ≤ l.length) (hx : Blk w vb 34 (rowM x)) (hne : v.ownBlock ≠ some vb) :
    Calls Try.prog 34 #[v, .int .i64 (i : Int), .slice (some ⟨vb, 0, none⟩) 1 1] w (Ins v (l.take i ++ x :: l.drop i) w) := by
  by_cases he : i = l.length
  · subst he
    rw [List.take_length, List.drop_length]
    exact insert_end v l x vb w hown hlen hx
  · rcases hown.2 with ⟨_, h0⟩ | ⟨g, c, cur, rfl, _, hh, hnc, hcm, _⟩
    · omega
    · by_cases hr : l.length + 1 ≤ c
      · exact insert_room l x g l.length c i vb w hown hlen (by omega) hr hx (fun e => hne (by rw [e]; rfl))
      · exact insert_grow l x g l.length c i vb w hown hlen hnc (by omega) (by omega) hx
end Go.Proofs.Ytfchhlibjhblmaa
