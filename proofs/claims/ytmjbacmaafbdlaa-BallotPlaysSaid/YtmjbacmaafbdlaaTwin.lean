/-
  WHAT IS PROVED: the document's own ballot in memory; the contract of its may. Condition: the block is one.
-/
import Derived.Test.YtmjbacmaafbdlaaAnchor
import Derived.Test.YtmjbacmaafbdlaaAppend
import Derived.Deep.RegionHeld3
namespace Go.Proofs.Ytmjbacmaafbdlaa
open Go.RowKit Go.Lib Go.Maps

/-! ### four rows of one's own, in unlike blocks -/
def upd {α : Type} (f : Nat → α) (k : Nat) (x : α) : Nat → α := fun i => if i = k then x else f i
theorem upd_same {α : Type} (f : Nat → α) (k : Nat) (x : α) : upd f k x k = x := if_pos rfl
theorem upd_other {α : Type} (f : Nat → α) {k i : Nat} (x : α) (h : i ≠ k) : upd f k x i = f i := if_neg h
structure Rows4 (w : World) (C : Nat) (v : Nat → Value) (l : Nat → List Int) : Prop where
  own : ∀ i, i < 4 → w.ownsRow C 3 1 (v i) (l i).length (zints (l i))
  dis : ∀ i j, i < 4 → j < 4 → i ≠ j → ∀ k, (v i).ownBlock = some k → (v j).ownBlock ≠ some k
section
variable {w w' : World} {C x : Nat} {v : Nat → Value} {l : Nat → List Int} {G : Nat → Prop}
theorem Rows4.turn (h : Rows4 w C v l) (k : Turn w w' G) (hd : ∀ i, i < 4 → ∀ k, (v i).ownBlock = some k → ¬ G k) : Rows4 w' C v l :=
  ⟨fun i hi => own_turn (h.own i hi) k (hd i hi), h.dis⟩
theorem Rows4.below (h : Rows4 w C v l) (hb : Below w.heap.size w w') : Rows4 w' C v l := h.turn (Turn.of_below hb no) (fun _ _ _ _ f => f.elim)
/-- one of them is written, or made anew -/
theorem Rows4.put (h : Rows4 w C v l) {j : Nat} {u : Value} {m : List Int} (ho : w'.ownsRow C 3 1 u m.length (zints m)) (hg : w.grownBy w' (v j).ownBlock) (hu : u.ownBlock = (v j).ownBlock ∨ ∀ k, u.ownBlock = some k → w.heap.size ≤ k) (hj : j < 4) : Rows4 w' C (upd v j u) (upd l j m) := by
  have hlt : ∀ i, i < 4 → ∀ k, (v i).ownBlock = some k → k < w.heap.size := fun i hi k hk => ((h.own i hi).lt k hk).2
  refine ⟨fun i hi => ?_, fun i i2 hi hi2 hne k hk => ?_⟩
  · by_cases e : i = j
    · subst e
      rw [upd_same, upd_same]
      exact ho
    · rw [upd_other _ _ e, upd_other _ _ e]
      refine (h.own i hi).kept hg ?_
      cases hb : (v i).ownBlock with
      | none => exact .inl rfl
      | some k => exact .inr (fun e2 => h.dis i j hi hj e k hb e2.symm)
  · by_cases e : i = j
    · subst e
      rw [upd_same] at hk
      rw [upd_other _ _ (fun e => hne e.symm)]
      intro h2
      rcases hu with hu | hu
      · rw [hu] at hk; exact h.dis i i2 hi hi2 hne k hk h2
      · have h3 := hu k hk; have h4 := hlt i2 hi2 k h2; omega
    · rw [upd_other _ _ e] at hk
      by_cases e2 : i2 = j
      · subst e2
        rw [upd_same]
        intro h2
        rcases hu with hu | hu
        · rw [hu] at h2; exact h.dis i i2 hi hi2 hne k hk h2
        · have h3 := hu k h2; have h4 := hlt i hi k hk; omega
      · rw [upd_other _ _ e2]
        exact h.dis i i2 hi hi2 hne k hk
/-- one of them is let go -/
theorem Rows4.nil (h : Rows4 w C v l) (j : Nat) : Rows4 w C (upd v j (.slice none 0 0)) (upd l j []) := by
  refine ⟨fun i hi => ?_, fun i i2 hi hi2 hne k hk => ?_⟩
  · by_cases e : i = j
    · subst e; rw [upd_same, upd_same]; exact World.ownsRow_nil _ _ _ _
    · rw [upd_other _ _ e, upd_other _ _ e]; exact h.own i hi
  · by_cases e : i = j
    · subst e; rw [upd_same] at hk; simp [Value.ownBlock] at hk
    · rw [upd_other _ _ e] at hk
      by_cases e2 : i2 = j
      · subst e2; rw [upd_same]; simp [Value.ownBlock]
      · rw [upd_other _ _ e2]; exact h.dis i i2 hi hi2 hne k hk
theorem row_ne {g n : Nat} {t : TypeId} {v : Value} {xs : List Value} {cs : Array Value} (h : w.ownsRow C 3 1 v n xs) (hb : Blk w g t cs) (hne : (3 : TypeId) ≠ t) : ∀ k, v.ownBlock = some k → k ≠ g := by
  intro k hk e
  rcases h.2 with ⟨rfl, _⟩ | ⟨g', cap, cur, rfl, _, hh, _⟩
  · simp [Value.ownBlock] at hk
  · simp [Value.ownBlock] at hk
    unfold Blk at hb
    rw [hk, e, hb] at hh
    injection hh with hh
    injection hh with _ h2 _
    exact hne h2.symm
end

/-- block x is the document's own ballot, whose blocks are among F -/
structure Tw (w : World) (C x : Nat) (F : Nat → Prop) (T : Int) (s : Bst) : Prop where
  ex : ∃ (un : Int) (v : Nat → Value) (l : Nat → List Int), Blk w x 31 #[.bool s.on, .int .i64 s.ep, .int .i64 un, v 0, v 1, v 2, v 3] ∧ Rows4 w C v l ∧ l 0 = s.vs ∧ l 1 = s.ys ∧ l 2 = s.G.map (·.id) ∧ l 3 = s.G.map (·.till) ∧ (s.on = true → un = s.si + 2 * T) ∧ Mp.inInt un ∧ ∀ i, i < 4 → ∀ k, (v i).ownBlock = some k → F k
  fx : F x
  lt : ∀ i, F i → i < w.heap.size
  lo : ∀ i, F i → C ≤ i
section
variable {w w' : World} {C x : Nat} {F G : Nat → Prop} {T : Int} {s : Bst}
theorem Tw.turn (h : Tw w C x F T s) (k : Turn w w' G) (hd : ∀ i, F i → ¬ G i) : Tw w' C x F T s := by
  obtain ⟨un, v, l, h1, h2, h3, h4, h5, h6, h7, h8, h9⟩ := h.ex
  exact ⟨⟨un, v, l, h1.turn k (hd _ h.fx), h2.turn k (fun i hi j hj => hd _ (h9 i hi j hj)), h3, h4, h5, h6, h7, h8, h9⟩, h.fx, fun i hi => Nat.lt_of_lt_of_le (h.lt i hi) k.size, h.lo⟩
theorem Tw.below (h : Tw w C x F T s) (k : Below w.heap.size w w') : Tw w' C x F T s := h.turn (Turn.of_below k no) (fun _ _ f => f.elim)
theorem Tw.cle (h : Tw w C x F T s) : C ≤ w.heap.size := Nat.le_trans (h.lo _ h.fx) (Nat.le_of_lt (h.lt _ h.fx))
theorem Tw.new (w : World) (C : Nat) (T : Int) (hC : C ≤ w.heap.size) : Tw (w.alloc (.cells #[.bool false, .int .i64 0, .int .i64 0, .slice none 0 0, .slice none 0 0, .slice none 0 0, .slice none 0 0] 31)) C w.heap.size (fun i => i = w.heap.size) T Bst.zero :=
  ⟨⟨0, fun _ => .slice none 0 0, fun _ => [], Blk.new _ _ _, ⟨fun _ _ => World.ownsRow_nil _ _ _ _, fun _ _ _ _ _ k hk => by simp [Value.ownBlock] at hk⟩, rfl, rfl, rfl, rfl, fun h => (by cases h), (by unfold Mp.inInt; omega), fun _ _ k hk => (by simp [Value.ownBlock] at hk)⟩, rfl, fun i hi => by subst hi; simp, fun i hi => by subst hi; exact hC⟩
/-- what a walk looks at: each row as a slice that is read -/
theorem Rows4.read {v : Nat → Value} {l : Nat → List Int} (h : Rows4 w C v l) {i : Nat} (hi : i < 4) : ∃ A c, v i = .slice A (l i).length c ∧ (l i).length ≤ c ∧ c ≤ 9223372036854775807 ∧ Reads w w.heap.size A (l i).length (zints (l i)) := by
  have ho := h.own i hi
  obtain ⟨A, c, e, h1, h2⟩ := own_slice ho
  rw [e] at ho
  exact ⟨A, c, e, h1, h2, own_read ho _ (.inl (Nat.le_refl _))⟩
end
/-- what a call hands back, and what the document's own ballot is behind it -/
def DidT (C x : Nat) (F : Nat → Prop) (T : Int) (r : Value) (s : Bst) (w : World) (e : Ending) (w' : World) : Prop :=
  e = .returned r ∧ ∃ F', Tw w' C x F' T s ∧ Turn w w' F ∧ Subs w F F'
theorem DidT.same {w w' : World} {C x : Nat} {F : Nat → Prop} {T : Int} {s : Bst} {r : Value} (h : Tw w C x F T s) (hb : Below w.heap.size w w') : DidT C x F T r s w (.returned r) w' :=
  ⟨rfl, F, h.below hb, Turn.of_below hb F, Subs.refl _ _⟩

/-! ### may -/
/-- what is found among the first k -/
theorem till_at : ∀ {G : List Mp.Bn} {k : Nat} {b : Mp.Bn}, G[k]? = some b → (∀ x ∈ (G.take k).map (·.id), x ≠ b.id) → Mp.hasB G b.id = true ∧ Mp.tillB G b.id = b.till
  | [], k, b, h, _ => by simp at h
  | c :: G, 0, b, h, _ => by
    simp at h; subst h
    exact ⟨Mp.hasB_iff.2 ⟨c, by simp, rfl⟩, by unfold Mp.tillB; rw [if_pos rfl]⟩
  | c :: G, k + 1, b, h, hn => by
    have hc : c.id ≠ b.id := hn c.id (by simp)
    obtain ⟨h1, h2⟩ := till_at (G := G) (k := k) (b := b) (by simpa using h) (fun x hx => hn x (by rw [List.take_succ_cons, List.map_cons]; exact List.mem_cons_of_mem _ hx))
    refine ⟨?_, by unfold Mp.tillB; rw [if_neg hc]; exact h2⟩
    obtain ⟨p, hp, e⟩ := Mp.hasB_iff.1 h1
    exact Mp.hasB_iff.2 ⟨p, List.mem_cons_of_mem _ hp, e⟩
theorem has_none {G : List Mp.Bn} {m : Int} (h : ∀ x ∈ G.map (·.id), x ≠ m) : Mp.hasB G m = false := Mp.hasB_no.2 fun p hp => h p.id (List.mem_map.2 ⟨p, hp, rfl⟩)
theorem ids_at {G : List Mp.Bn} {k : Nat} {z : Int} (h : (G.map (·.id))[k]? = some z) : ∃ b, G[k]? = some b ∧ b.id = z ∧ (G.map (·.till))[k]? = some b.till := by
  rw [List.getElem?_map] at h
  cases hb : G[k]? with
  | none => rw [hb] at h; cases h
  | some b =>
    rw [hb] at h
    simp at h
    exact ⟨b, rfl, h, by rw [List.getElem?_map, hb]; rfl⟩

set_option maxHeartbeats 2000000 in
theorem tmay_any (C x : Nat) (F : Nat → Prop) (T : Int) (s : Bst) (w : World) (h : Tw w C x F T s) (hfine : Fine T s) (m now : Int) (hnow : -1125899906842624 ≤ now ∧ now ≤ 1125899906842624) (hlen : s.G.length ≤ 1000) :
    Calls Try.prog 19 #[.pointer (some ⟨x, 0, none⟩), .int .i64 m, .int .i64 now, .int .i64 T] w fun e w' => e = .returned (.bool (mayB T s m now)) ∧ w = w' := by
  obtain ⟨un, v, l, h1, h2, _, _, h5, h6, _⟩ := h.ex
  have HT : Hid (2 ≤ T ∧ T ≤ 1073741824) := Lib.hid ⟨hfine.t1, hfine.t2⟩
  have HTL := Lib.hid hfine.tl
  obtain ⟨A2, c2, e2, hc2, hm2, hr2⟩ := h2.read (i := 2) (by omega)
  obtain ⟨A3, c3, e3, hc3, hm3, hr3⟩ := h2.read (i := 3) (by omega)
  rw [e2, e3] at h1
  rw [h5] at hr2 hc2 h1
  rw [h6] at hr3 hc3 h1
  simp only [List.length_map] at hr2 hc2 hr3 hc3 h1
  obtain ⟨n, hn⟩ : ∃ n, s.G.length = n := ⟨_, rfl⟩
  rw [hn] at hr2 hc2 hr3 hc3 h1 hlen
  have d5 := h1.cell 5
  have d6 := h1.cell 6
  simp at d5 d6
  have HN := Lib.hid hn
  clear h h2 h5 h6 e2 e3 h1 hn hfine
  obtain ⟨hnow1, hnow2⟩ := hnow
  obtain ⟨hT1, hT2⟩ := HT.out
  go_enter Try.func19, Try.ntmps19
  go_wp2
  go_loop [16] (fun i => ∃ k : Nat, k ≤ n ∧ i = .int .i64 k ∧ Hid (∀ y ∈ (s.G.take k).map (·.id), y ≠ m)) (fun i => n - (RowKit.intOf i).toNat)
  case atStart => exact ⟨0, by omega, rfl, Lib.hid (by simp)⟩
  case round =>
    obtain ⟨k, hk, rfl, hx⟩ := hrel
    by_cases hlt : k < n
    · obtain ⟨ad, u, rfl, hu, hc⟩ := hr2.at_ hlt
      obtain ⟨z, hz, rfl⟩ := zints_at hu
      obtain ⟨b, hb, hbi, hbt⟩ := ids_at hz
      obtain ⟨ad3, u3, rfl, hu3, hc3'⟩ := hr3.at_ hlt
      obtain ⟨t, ht, rfl⟩ := zints_at hu3
      rw [hbt] at ht
      injection ht with ht
      have HB := Lib.hid hb
      have htl := HTL.out b (List.mem_of_getElem? hb)
      rw [ht] at htl
      obtain ⟨htl1, htl2⟩ := htl
      clear hu hz hu3 hbt hb
      by_cases hzm : z = m
      · subst hzm
        have tz : (z == z) = true := by simp
        have HX : Hid (mayB T s z now = !lastB T t now) := Lib.hid (by
          have := till_at HB.out (by rw [hbi]; exact hx.out)
          rw [hbi, ht] at this
          unfold mayB
          rw [this.1, this.2]; rfl)
        have HX2 : Hid ((!lastB T t now) = (decide (t < now) && decide (2 * T < now - t))) := Lib.hid (by
          unfold lastB
          by_cases h : now ≤ t + 2 * T
          · rw [decide_eq_true h, decide_eq_false (show ¬ 2 * T < now - t by omega)]; simp
          · rw [decide_eq_false h, decide_eq_true (show t < now by omega), decide_eq_true (show 2 * T < now - t by omega)]; rfl)
        clear hbi ht
        by_cases hA : t < now
        · by_cases hB : 2 * T < now - t
          · have HY : Hid (mayB T s z now = true) := Lib.hid (by rw [HX.out, HX2.out, decide_eq_true hA, decide_eq_true hB]; rfl)
            have q2 : decide (2 * T < now - t) = true := decide_eq_true hB
            go_wp2
            go_ret
            exact ⟨by rw [HY.out]; rfl, rfl⟩
          · have HY : Hid (mayB T s z now = false) := Lib.hid (by rw [HX.out, HX2.out, decide_eq_false hB, Bool.and_false])
            have q2 : decide (2 * T < now - t) = false := decide_eq_false hB
            go_wp2
            go_ret
            exact ⟨by rw [HY.out]; rfl, rfl⟩
        · have HY : Hid (mayB T s z now = false) := Lib.hid (by rw [HX.out, HX2.out, decide_eq_false hA, Bool.false_and])
          have q1 : decide (t < now) = false := decide_eq_false hA
          go_wp2
          go_ret
          exact ⟨by rw [HY.out]; rfl, rfl⟩
      · have tz : (z == m) = false := by simpa using hzm
        have HX : Hid (∀ y ∈ (s.G.take (k + 1)).map (·.id), y ≠ m) := Lib.hid (by
          rw [List.take_add_one, HB.out]
          intro y hy
          simp only [Option.toList_some, List.map_append, List.map_cons, List.map_nil, List.mem_append, List.mem_singleton] at hy
          rcases hy with hy | hy
          · exact hx.out y hy
          · rw [hy, hbi]; exact hzm)
        clear hzm hbi ht
        go_wp2
        go_round
        case rel => exact ⟨k + 1, by omega, by go_num, HX⟩
        case measure => simp [RowKit.intOf]; omega
    · obtain rfl : k = n := by omega
      have HX : Hid (mayB T s m now = true) := Lib.hid (by
        have h := hx.out
        rw [List.take_of_length_le (by rw [HN.out]; exact Nat.le_refl _)] at h
        unfold mayB
        rw [has_none h]; rfl)
      go_wp2
      go_ret
      exact ⟨by rw [HX.out]; rfl, rfl⟩
end Go.Proofs.Ytmjbacmaafbdlaa
