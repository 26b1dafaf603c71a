/-
  WHAT IS PROVED: the library's Delete of one member of an own row, and its Clone of a slice of members. Conditions: the sizes.
-/
import Derived.Test.YtfchhlibjhblmaaInsert
import Derived.Lib.SliceRun
namespace Go.Proofs.Ytfchhlibjhblmaa
open Go.RowKit Go.Lib

theorem zero_mem (w : World) : (zeroValue 34).run Try.prog w = .ok (.agg #[.int .i64 0, .int .i64 0, .int .i64 0, .int .i64 0, .int .i64 0]) w := by kernel_rfl
theorem zeros_one : ∀ v ∈ (Builtin.zeroCells (Value.agg #[.int .i64 0, .int .i64 0, .int .i64 0, .int .i64 0, .int .i64 0]).cells 1).toList, v.oneCell' = true := by
  intro v hv
  have he : (Builtin.zeroCells (Value.agg #[.int .i64 0, .int .i64 0, .int .i64 0, .int .i64 0, .int .i64 0]).cells 1).toList = [.int .i64 0, .int .i64 0, .int .i64 0, .int .i64 0, .int .i64 0] := by kernel_rfl
  rw [he] at hv
  simp at hv
  rw [hv]; rfl
theorem delete_run (w : World) (g n m c i : Nat) (l : List Mb) (hown : w.ownsRow 0 34 5 (.slice (some ⟨g, 0, none⟩) n c) n (flatM l)) (hi : i < n) (hm : m + 1 = n) :
    ∃ w1 w2, (∀ ty A dc, (c = i + 1 → A = ⟨g, 0, none⟩) → (c ≠ i + 1 → A = ⟨g, (i + 1) * 5, none⟩) → (Builtin.append_ #[50, 50] ty #[.slice (some ⟨g, 0, none⟩) i c, .slice (some A) (n - (i + 1)) dc]).run Try.prog w.drew = .ok (.slice (some ⟨g, 0, none⟩) m c) w1) ∧
      (∀ ty dc, (Builtin.clear_ #[50] ty #[.slice (some ⟨g, m * 5, none⟩) (n - m) dc]).run Try.prog w1 = .ok (.tuple #[]) w2) ∧
      w2.ownsRow 0 34 5 (.slice (some ⟨g, 0, none⟩) m c) m (flatM (l.take i ++ l.drop (i + 1))) ∧ w.grownBy w2 (some g) := by
  obtain ⟨i0, hi0, hz0, hz1, hz2⟩ := info_parts mem_info
  obtain ⟨cur, rest, hh, hnc, hcm, hcs, hcl, hxl, hrl⟩ := own_to_row hown
  have hll : l.length = n := by rw [flatM_len] at hxl; omega
  have hta : (flatM (l.take i)).length = i * 5 := by rw [flatM_len, List.length_take]; omega
  have hda : (flatM (l.drop (i + 1))).length = (n - (i + 1)) * 5 := by rw [flatM_len, List.length_drop, hll]
  obtain ⟨x, hx⟩ : ∃ x, l[i]? = some x := ⟨_, List.getElem?_eq_getElem (by omega)⟩
  have hsp : flatM l = flatM (l.take i) ++ (flatM [x] ++ flatM (l.drop (i + 1))) := by
    rw [← flatM_append, ← flatM_append]
    have hxe : l.drop i = x :: l.drop (i + 1) := by rw [List.drop_eq_getElem_cons (by omega)]; rw [List.getElem?_eq_getElem (by omega)] at hx; injection hx with hx; rw [hx]
    have hl := (List.take_append_drop i l).symm
    rw [hxe] at hl
    exact congrArg flatM hl
  have hc0 : cur.toList = flatM (l.take i) ++ (flatM [x] ++ flatM (l.drop (i + 1)) ++ rest) := by rw [hcl, hsp, List.append_assoc]
  have hxl5 : (flatM [x]).length = 5 := rfl
  obtain ⟨b, q, d, hb, hbl, hql⟩ := pieces (flatM [x] ++ flatM (l.drop (i + 1)) ++ rest) ((n - (i + 1)) * 5) 5 (by rw [List.length_append, List.length_append, hda, hxl5]; omega)
  have hdl : d.length = (c - n) * 5 := by
    have := congrArg List.length hb
    rw [List.length_append, List.length_append, hda, hxl5, hrl, List.length_append, List.length_append, hbl, hql] at this
    omega
  have hf1 : i * 5 + (flatM (l.drop (i + 1))).length ≤ cur.size := by rw [hda, hcs]; omega
  have r1 := relay (cur := cur) (o := i * 5) (a := flatM (l.take i)) (b := b) (c := q ++ d) (vs := flatM (l.drop (i + 1))) (by rw [hc0, hb]) hta (by rw [hbl, hda])
  have s1 := relay_size hf1
  obtain ⟨X1, hX1⟩ : ∃ X, X = (cur.toList.take (i * 5) ++ flatM (l.drop (i + 1)) ++ cur.toList.drop (i * 5 + (flatM (l.drop (i + 1))).length)).toArray := ⟨_, rfl⟩
  rw [← hX1] at r1 s1
  have hh1 : (w.drew.setRow g X1).heap[g]? = some (.cells X1 34 (0, 0)) := setRow_heap w.drew g cur X1 _ (0, 0) hh
  obtain ⟨Z, hZ⟩ : ∃ Z, Z = (Builtin.zeroCells (Value.agg #[.int .i64 0, .int .i64 0, .int .i64 0, .int .i64 0, .int .i64 0]).cells 1).toList := ⟨_, rfl⟩
  have hZl : Z.length = 5 := by rw [hZ, Array.length_toList, size_zeroCells]; rfl
  have hf2 : m * 5 + Z.length ≤ X1.size := by rw [s1, hcs, hZl]; omega
  have hma : (flatM (l.take i ++ l.drop (i + 1))).length = m * 5 := by rw [flatM_append, List.length_append, hta, hda]; omega
  have r2 := relay (cur := X1) (o := m * 5) (a := flatM (l.take i ++ l.drop (i + 1))) (b := q) (c := d) (vs := Z) (by rw [r1, flatM_append, List.append_assoc]) hma (by rw [hql, hZl])
  have s2 := relay_size hf2
  obtain ⟨X2, hX2⟩ : ∃ X, X = (X1.toList.take (m * 5) ++ Z ++ X1.toList.drop (m * 5 + Z.length)).toArray := ⟨_, rfl⟩
  rw [← hX2] at r2 s2
  refine ⟨w.drew.setRow g X1, (w.drew.setRow g X1).setRow g X2, fun ty A dc hA1 hA2 => ?_, fun ty dc => ?_, ?_, ?_⟩
  · have hcells : ∀ j u, (flatM (l.drop (i + 1)))[j]? = some u → w.drew.cell? (A.add j) = some u := fun j u hu => by
      have hjl := (List.getElem?_eq_some_iff.1 hu).1
      rw [hda] at hjl
      have hne : c ≠ i + 1 := by omega
      rw [hA2 hne, Go.WideShapes.add_plain]
      refine (cell_of_row w.drew g _ cur _ (0, 0) hh).trans ?_
      rw [← Array.getElem?_toList, hc0, List.getElem?_append_right (by rw [hta]; omega), hta, List.append_assoc, List.getElem?_append_right (by rw [hxl5]; omega), hxl5, show (i + 1) * 5 + j - i * 5 - 5 = j by omega, List.getElem?_append_left (List.getElem?_eq_some_iff.1 hu).1]
      exact hu
    have := run_append_room (P := Try.prog) w.drew 50 ty 34 i0 Try.underlying50 hi0 g i c cur hh A (n - (i + 1)) dc (flatM (l.drop (i + 1))) (by rw [hz1]; exact hda) hcells (flatM_one _) (by omega) (by rw [hz1]; exact hf1)
    rw [hz1, show i + (n - (i + 1)) = m by omega, ← hX1] at this
    exact this
  · have := run_clear_row (P := Try.prog) (w.drew.setRow g X1) 50 ty 34 _ 5 g (m * 5) 1 dc X1 Try.underlying50 zero_mem rfl zeros_one hh1 (by omega) (by rw [hZl] at hf2; exact hf2)
    rw [← hZ, show m * 5 + 1 * 5 = m * 5 + Z.length by rw [hZl], ← hX2] at this
    rw [show n - m = 1 by omega]
    exact this
  · have hh2 := setRow_heap (w.drew.setRow g X1) g X1 X2 _ (0, 0) hh1
    exact own_of_row hh2 (by omega) hcm (by rw [s2, s1, hcs]) (Z ++ d) (by rw [r2]) hma
  · exact (grown_drew (grown_setRow w.drew g X1)).trans (grown_setRow _ g X2)

set_option maxHeartbeats 4000000 in
theorem delete_any (v : Value) (l : List Mb) (i : Nat) (w : World) (hown : w.ownsRow 0 34 5 v l.length (flatM l)) (hlen : l.length ≤ 1000) (hi : i < l.length) :
    Calls Try.prog 35 #[v, .int .i64 (i : Int), .int .i64 ((i : Int) + 1)] w (Ins v (l.take i ++ l.drop (i + 1)) w) := by
  rcases hown.2 with ⟨_, h0⟩ | ⟨g, c, cur, rfl, _, hh, hnc, hcm, _⟩
  · omega
  · obtain ⟨n, hn⟩ : ∃ n, l.length = n := ⟨_, rfl⟩
    obtain ⟨m, hm⟩ : ∃ m, m + 1 = n := ⟨n - 1, by omega⟩
    have HLL : Hid ((l.take i ++ l.drop (i + 1)).length = m) := Lib.hid (by rw [List.length_append, List.length_take, List.length_drop]; omega)
    rw [hn] at hown hlen hi hnc ⊢
    obtain ⟨w1, w2, h1, h2, h3, h4⟩ := delete_run w g n m c i l hown hi hm
    have H1 := Lib.hid h1
    have H3 := Lib.hid h3
    have H4 := Lib.hid h4
    unfold maxLen at hcm
    have t1 : ((i : Int) == (i : Int) + 1) = false := by simp; omega
    have t14 : i ≤ c := by omega
    have t15 : IntKind.i64.wrap ((i : Int) + 1) = (i : Int) + 1 := by rw [IntKind.wrap_i64]; omega
    have t2 : ¬ ((i : Int) = (i : Int) + 1) := by omega
    have t3 : ¬ c = m := by omega
    have t4 : (m : Int) ≤ (n : Int) := by omega
    have t5 : (n : Int) ≤ (c : Int) := by omega
    have t6 : (m : Int) ≤ (c : Int) := by omega
    have t7 : (i : Int) + 1 ≤ (n : Int) := by omega
    have t8 : (i : Int) ≤ (c : Int) := by omega
    have t9 : (0 : Int) ≤ (i : Int) + 1 := by omega
    have t10 : ((i : Int) + 1).toNat = i + 1 := by omega
    have t11 : i ≤ n := by omega
    have t12 : m ≤ n := by omega
    have t13 : ¬ c = i := by omega
    clear h1 h3 h4 hown hh hn hcm
    by_cases hci : c = i + 1
    · obtain rfl : n = i + 1 := by omega
      obtain rfl : m = i := by omega
      subst hci
      clear hm
      have t16 : (m : Int) ≤ (m : Int) + 1 := by omega
      have hA := fun ty dc => H1.out ty ⟨g, 0, none⟩ dc (fun _ => rfl) (fun h => absurd rfl h)
      rw [Nat.sub_self] at hA
      have h2' : ∀ ty dc, (Builtin.clear_ #[50] ty #[.slice (some ⟨g, m * 5, none⟩) 1 dc]).run Try.prog w1 = .ok (.tuple #[]) w2 := fun ty dc => by have := h2 ty dc; rwa [Nat.add_sub_cancel_left] at this
      clear h2
      have HA := Lib.hid hA
      clear hA
      go_enter Try.func35, Try.ntmps35
      go_wp2
      go_region_law (refine step_append_run _ rfl _ _ 50 50 rfl (.slice (some ⟨g, 0, none⟩) m (m + 1)) (.slice (some ⟨g, 0, none⟩) 0 0) (by simp [Act.eval, Act.put]) (by simp [Act.eval, Act.put]) (HA.out _ _) ?_)
      go_wp2
      go_ret
      exact ⟨_, rfl, by rw [HLL.out]; exact H3.out, H4.out, .inl rfl⟩
    · clear hm
      have hA := fun ty dc => H1.out ty ⟨g, (i + 1) * 5, none⟩ dc (fun h => absurd h hci) (fun _ => rfl)
      have HA := Lib.hid hA
      clear hA
      go_enter Try.func35, Try.ntmps35
      go_wp2
      go_region_law (refine step_append_run _ rfl _ _ 50 50 rfl (.slice (some ⟨g, 0, none⟩) i c) (.slice (some ⟨g, (i + 1) * 5, none⟩) (n - (i + 1)) (c - (i + 1))) (by simp [Act.eval, Act.put]) (by simp [Act.eval, Act.put]) (HA.out _ _) ?_)
      go_wp2
      go_ret
      exact ⟨_, rfl, by rw [HLL.out]; exact H3.out, H4.out, .inl rfl⟩

/-! ### Clone -/
/-- a list of members is handed back, in memory of its own -/
def ListsM (l : List Mb) (w : World) (e : Ending) (w' : World) : Prop :=
  Below w.heap.size w w' ∧ ∃ v, e = .returned v ∧ w'.ownsRow w.heap.size 34 5 v l.length (flatM l)
set_option maxHeartbeats 1000000 in
theorem clone_any (A : Option Addr) (n c : Nat) (l : List Mb) (F : Nat → Prop) (w : World) (hn : n ≤ 1000) (hr : Rd w F 5 A n (flatM l)) :
    Calls Try.prog 38 #[.slice A n c] w (ListsM l w) := by
  obtain ⟨i0, hi0, hz0, hz1, hz2⟩ := info_parts mem_info
  have HL := Lib.hid hr.lenM
  have q : ∀ (w : World) (a : Option Addr) (n c n' c' : Nat), (binOp .eql 50 (.slice a n c) (.slice none n' c')).run Try.prog w = .ok (.bool a.isNone) w := fun w a n c n' c' => Lib.run_eql_slice_nil w _ _ a n c n' c' Try.underlying50
  cases A with
  | none =>
    have h0 : n = 0 := by
      rcases Nat.eq_zero_or_pos n with h0 | h0
      · exact h0
      · obtain ⟨ad, h, _⟩ := hr.2 h0; cases h
    subst h0
    clear hr hn
    go_enter Try.func38, Try.ntmps38
    go_wp2
    go_ret
    refine ⟨Below.refl _ _, _, rfl, ?_⟩
    rw [List.eq_nil_of_length_eq_zero HL.out]
    exact World.ownsRow_nil _ _ _ _
  | some ad =>
    have HR := Lib.hid (hr.below ((Below.refl _ w).alloc (Nat.le_refl _) (.cells #[] 34)))
    clear hr
    go_enter Try.func38, Try.ntmps38
    go_wp2_with (at_builtin; refine wpList_append_rd _ rfl _ _ 50 rfl w.heap.size 34 i0 _ 5 40 Try.underlying50 hi0 hz0 hz1 hz2 rfl (by omega) (.slice (some ⟨w.heap.size, 0, none⟩) 0 0) 0 [] rfl (World.ownsRow_made w #[] 0 (Nat.le_refl _) (Nat.zero_le _) rfl) F (some ad) n c (flatM l) rfl HR.out (flatM_one _) (by unfold maxLen; omega) (by omega) (by simp) ?_; intro v2 w2 hown2 hg2 hat2; have H2 := Lib.hid hown2; have G2 := Lib.hid hg2; clear hown2 hg2 hat2)
    go_ret
    refine ⟨?_, v2, rfl, ?_⟩
    · exact ((Below.refl _ w).alloc (Nat.le_refl _) (.cells #[] 34)).grown G2.out (by simp) (by intro k hk; simp [Value.ownBlock] at hk; subst hk; exact Nat.le_refl _)
    · rw [HL.out]
      have := H2.out
      rwa [Nat.zero_add, List.nil_append] at this
end Go.Proofs.Ytfchhlibjhblmaa
