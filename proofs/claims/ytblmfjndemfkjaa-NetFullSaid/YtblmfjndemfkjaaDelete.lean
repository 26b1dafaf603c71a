/-
  WHAT IS PROVED: the library's Delete of one message of an own row. Conditions: the sizes.
-/
import Derived.Test.YtblmfjndemfkjaaPut
import Derived.Lib.SliceRun
import Derived.Shelf.RegionOpenPlain
namespace Go.Proofs.Ytblmfjndemfkjaa
open Go.RowKit Go.Lib

/-- members are handed back, in the row that was handed in or in a new one; nothing else turns -/
def Ins (v : Value) (l' : List Ms) (w : World) (e : Ending) (w' : World) : Prop :=
  ∃ v', e = .returned v' ∧ w'.ownsRow 0 29 3 v' l'.length (flatM l') ∧ w.grownBy w' v.ownBlock ∧ (v'.ownBlock = v.ownBlock ∨ ∃ k, v'.ownBlock = some k ∧ w.heap.size ≤ k)
/-- a row's cells, in three pieces -/
theorem pieces (cs : List Value) (p q : Nat) (h : p + q ≤ cs.length) : ∃ a b c, cs = a ++ (b ++ c) ∧ a.length = p ∧ b.length = q := by
  refine ⟨cs.take p, (cs.drop p).take q, (cs.drop p).drop q, by rw [List.take_append_drop, List.take_append_drop], by rw [List.length_take]; omega, by rw [List.length_take, List.length_drop]; omega⟩
theorem zero_msg (w : World) : (zeroValue 29).run Try.prog w = .ok (.agg #[.int .i64 0, .int .i64 0, .slice none 0 0]) w := by kernel_rfl
theorem zeros_one : ∀ v ∈ (Builtin.zeroCells (Value.agg #[.int .i64 0, .int .i64 0, .slice none 0 0]).cells 1).toList, v.oneCell' = true := by
  intro v hv
  have he : (Builtin.zeroCells (Value.agg #[.int .i64 0, .int .i64 0, .slice none 0 0]).cells 1).toList = [.int .i64 0, .int .i64 0, .slice none 0 0] := by kernel_rfl
  rw [he] at hv
  simp at hv
  rcases hv with rfl | rfl <;> rfl
theorem delete_run (w : World) (g n m c i : Nat) (l : List Ms) (hown : w.ownsRow 0 29 3 (.slice (some ⟨g, 0, none⟩) n c) n (flatM l)) (hi : i < n) (hm : m + 1 = n) :
    ∃ w1 w2, (∀ ty A dc, (c = i + 1 → A = ⟨g, 0, none⟩) → (c ≠ i + 1 → A = ⟨g, (i + 1) * 3, none⟩) → (Builtin.append_ #[26, 26] ty #[.slice (some ⟨g, 0, none⟩) i c, .slice (some A) (n - (i + 1)) dc]).run Try.prog w.drew = .ok (.slice (some ⟨g, 0, none⟩) m c) w1) ∧
      (∀ ty dc, (Builtin.clear_ #[26] ty #[.slice (some ⟨g, m * 3, none⟩) (n - m) dc]).run Try.prog w1 = .ok (.tuple #[]) w2) ∧
      w2.ownsRow 0 29 3 (.slice (some ⟨g, 0, none⟩) m c) m (flatM (l.take i ++ l.drop (i + 1))) ∧ w.grownBy w2 (some g) := by
  obtain ⟨i0, hi0, hz0, hz1, hz2⟩ := info_parts msg_info
  obtain ⟨cur, rest, hh, hnc, hcm, hcs, hcl, hxl, hrl⟩ := own_to_row hown
  have hll : l.length = n := by rw [flatM_len] at hxl; omega
  have hta : (flatM (l.take i)).length = i * 3 := by rw [flatM_len, List.length_take]; omega
  have hda : (flatM (l.drop (i + 1))).length = (n - (i + 1)) * 3 := by rw [flatM_len, List.length_drop, hll]
  obtain ⟨x, hx⟩ : ∃ x, l[i]? = some x := ⟨_, List.getElem?_eq_getElem (by omega)⟩
  have hsp : flatM l = flatM (l.take i) ++ (flatM [x] ++ flatM (l.drop (i + 1))) := by
    rw [← flatM_append, ← flatM_append]
    have hxe : l.drop i = x :: l.drop (i + 1) := by rw [List.drop_eq_getElem_cons (by omega)]; rw [List.getElem?_eq_getElem (by omega)] at hx; injection hx with hx; rw [hx]
    have hl := (List.take_append_drop i l).symm
    rw [hxe] at hl
    exact congrArg flatM hl
  have hc0 : cur.toList = flatM (l.take i) ++ (flatM [x] ++ flatM (l.drop (i + 1)) ++ rest) := by rw [hcl, hsp, List.append_assoc]
  have hxl3 : (flatM [x]).length = 3 := rfl
  obtain ⟨b, q, d, hb, hbl, hql⟩ := pieces (flatM [x] ++ flatM (l.drop (i + 1)) ++ rest) ((n - (i + 1)) * 3) 3 (by rw [List.length_append, List.length_append, hda, hxl3]; omega)
  have hdl : d.length = (c - n) * 3 := by
    have := congrArg List.length hb
    rw [List.length_append, List.length_append, hda, hxl3, hrl, List.length_append, List.length_append, hbl, hql] at this
    omega
  have hf1 : i * 3 + (flatM (l.drop (i + 1))).length ≤ cur.size := by rw [hda, hcs]; omega
  have r1 := relay (cur := cur) (o := i * 3) (a := flatM (l.take i)) (b := b) (c := q ++ d) (vs := flatM (l.drop (i + 1))) (by rw [hc0, hb]) hta (by rw [hbl, hda])
  have s1 := relay_size hf1
  obtain ⟨X1, hX1⟩ : ∃ X, X = (cur.toList.take (i * 3) ++ flatM (l.drop (i + 1)) ++ cur.toList.drop (i * 3 + (flatM (l.drop (i + 1))).length)).toArray := ⟨_, rfl⟩
  rw [← hX1] at r1 s1
  have hh1 : (w.drew.setRow g X1).heap[g]? = some (.cells X1 29 (0, 0)) := setRow_heap w.drew g cur X1 _ (0, 0) hh
  obtain ⟨Z, hZ⟩ : ∃ Z, Z = (Builtin.zeroCells (Value.agg #[.int .i64 0, .int .i64 0, .slice none 0 0]).cells 1).toList := ⟨_, rfl⟩
  have hZl : Z.length = 3 := by rw [hZ, Array.length_toList, size_zeroCells]; rfl
  have hf2 : m * 3 + Z.length ≤ X1.size := by rw [s1, hcs, hZl]; omega
  have hma : (flatM (l.take i ++ l.drop (i + 1))).length = m * 3 := by rw [flatM_append, List.length_append, hta, hda]; omega
  have r2 := relay (cur := X1) (o := m * 3) (a := flatM (l.take i ++ l.drop (i + 1))) (b := q) (c := d) (vs := Z) (by rw [r1, flatM_append, List.append_assoc]) hma (by rw [hql, hZl])
  have s2 := relay_size hf2
  obtain ⟨X2, hX2⟩ : ∃ X, X = (X1.toList.take (m * 3) ++ Z ++ X1.toList.drop (m * 3 + Z.length)).toArray := ⟨_, rfl⟩
  rw [← hX2] at r2 s2
  refine ⟨w.drew.setRow g X1, (w.drew.setRow g X1).setRow g X2, fun ty A dc hA1 hA2 => ?_, fun ty dc => ?_, ?_, ?_⟩
  · have hcells : ∀ j u, (flatM (l.drop (i + 1)))[j]? = some u → w.drew.cell? (A.add j) = some u := fun j u hu => by
      have hjl := (List.getElem?_eq_some_iff.1 hu).1
      rw [hda] at hjl
      have hne : c ≠ i + 1 := by omega
      rw [hA2 hne, Go.WideShapes.add_plain]
      refine (cell_of_row w.drew g _ cur _ (0, 0) hh).trans ?_
      rw [← Array.getElem?_toList, hc0, List.getElem?_append_right (by rw [hta]; omega), hta, List.append_assoc, List.getElem?_append_right (by rw [hxl3]; omega), hxl3, show (i + 1) * 3 + j - i * 3 - 3 = j by omega, List.getElem?_append_left (List.getElem?_eq_some_iff.1 hu).1]
      exact hu
    have := run_append_room (P := Try.prog) w.drew 26 ty 29 i0 Try.underlying26 hi0 g i c cur hh A (n - (i + 1)) dc (flatM (l.drop (i + 1))) (by rw [hz1]; exact hda) hcells (flatM_one _) (by omega) (by rw [hz1]; exact hf1)
    rw [hz1, show i + (n - (i + 1)) = m by omega, ← hX1] at this
    exact this
  · have := run_clear_row (P := Try.prog) (w.drew.setRow g X1) 26 ty 29 _ 3 g (m * 3) 1 dc X1 Try.underlying26 zero_msg rfl zeros_one hh1 (by omega) (by rw [hZl] at hf2; exact hf2)
    rw [← hZ, show m * 3 + 1 * 3 = m * 3 + Z.length by rw [hZl], ← hX2] at this
    rw [show n - m = 1 by omega]
    exact this
  · have hh2 := setRow_heap (w.drew.setRow g X1) g X1 X2 _ (0, 0) hh1
    exact own_of_row hh2 (by omega) hcm (by rw [s2, s1, hcs]) (Z ++ d) (by rw [r2]) hma
  · exact (grown_drew (grown_setRow w.drew g X1)).trans (grown_setRow _ g X2)

set_option maxHeartbeats 4000000 in
theorem delete_any (v : Value) (l : List Ms) (i : Nat) (w : World) (hown : w.ownsRow 0 29 3 v l.length (flatM l)) (hlen : l.length ≤ 5000) (hi : i < l.length) :
    Calls Try.prog 19 #[v, .int .i64 (i : Int), .int .i64 ((i : Int) + 1)] w (Ins v (l.take i ++ l.drop (i + 1)) w) := by
  rcases hown.2 with ⟨_, h0⟩ | ⟨g, c, cur, rfl, _, hh, hnc, hcm, _⟩
  · omega
  · obtain ⟨n, hn⟩ : ∃ n, l.length = n := ⟨_, rfl⟩
    obtain ⟨m, hm⟩ : ∃ m, m + 1 = n := ⟨n - 1, by omega⟩
    have HLL : Hid ((l.take i ++ l.drop (i + 1)).length = m) := Lib.hid (by rw [List.length_append, List.length_take, List.length_drop]; omega)
    rw [hn] at hown hlen hi hnc ⊢
    obtain ⟨w1, w2, h1, h2, h3, h4⟩ := delete_run w g n m c i l hown hi hm
    have H1 := Lib.hid h1
    have H3 := Lib.hid h3
    have H4 := Lib.hid h4
    unfold maxLen at hcm
    have t1 : ((i : Int) == (i : Int) + 1) = false := by simp; omega
    have t14 : i ≤ c := by omega
    have t15 : IntKind.i64.wrap ((i : Int) + 1) = (i : Int) + 1 := by rw [IntKind.wrap_i64]; omega
    have t2 : ¬ ((i : Int) = (i : Int) + 1) := by omega
    have t3 : ¬ c = m := by omega
    have t4 : (m : Int) ≤ (n : Int) := by omega
    have t5 : (n : Int) ≤ (c : Int) := by omega
    have t6 : (m : Int) ≤ (c : Int) := by omega
    have t7 : (i : Int) + 1 ≤ (n : Int) := by omega
    have t8 : (i : Int) ≤ (c : Int) := by omega
    have t9 : (0 : Int) ≤ (i : Int) + 1 := by omega
    have t10 : ((i : Int) + 1).toNat = i + 1 := by omega
    have t11 : i ≤ n := by omega
    have t12 : m ≤ n := by omega
    have t13 : ¬ c = i := by omega
    clear h1 h3 h4 hown hh hn hcm
    by_cases hci : c = i + 1
    · obtain rfl : n = i + 1 := by omega
      obtain rfl : m = i := by omega
      subst hci
      clear hm
      have t16 : (m : Int) ≤ (m : Int) + 1 := by omega
      have hA := fun ty dc => H1.out ty ⟨g, 0, none⟩ dc (fun _ => rfl) (fun h => absurd rfl h)
      rw [Nat.sub_self] at hA
      have h2' : ∀ ty dc, (Builtin.clear_ #[26] ty #[.slice (some ⟨g, m * 3, none⟩) 1 dc]).run Try.prog w1 = .ok (.tuple #[]) w2 := fun ty dc => by have := h2 ty dc; rwa [Nat.add_sub_cancel_left] at this
      clear h2
      have HA := Lib.hid hA
      clear hA
      go_enter Try.func19, Try.ntmps19
      go_wp2
      go_region_law (refine step_append_run _ rfl _ _ 26 26 rfl (.slice (some ⟨g, 0, none⟩) m (m + 1)) (.slice (some ⟨g, 0, none⟩) 0 0) (by simp [Act.eval, Act.put]) (by simp [Act.eval, Act.put]) (HA.out _ _) ?_)
      go_wp2
      go_ret
      exact ⟨_, rfl, by rw [HLL.out]; exact H3.out, H4.out, .inl rfl⟩
    · clear hm
      have hA := fun ty dc => H1.out ty ⟨g, (i + 1) * 3, none⟩ dc (fun h => absurd h hci) (fun _ => rfl)
      have HA := Lib.hid hA
      clear hA
      go_enter Try.func19, Try.ntmps19
      go_wp2
      go_region_law (refine step_append_run _ rfl _ _ 26 26 rfl (.slice (some ⟨g, 0, none⟩) i c) (.slice (some ⟨g, (i + 1) * 3, none⟩) (n - (i + 1)) (c - (i + 1))) (by simp [Act.eval, Act.put]) (by simp [Act.eval, Act.put]) (HA.out _ _) ?_)
      go_wp2
      go_ret
      exact ⟨_, rfl, by rw [HLL.out]; exact H3.out, H4.out, .inl rfl⟩
end Go.Proofs.Ytblmfjndemfkjaa
