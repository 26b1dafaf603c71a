/-
  WHAT IS PROVED: contracts of Peers, Due and Late. Condition: the object is a watch.
-/
import Derived.Test.YtcphodnenhnalaaPing
import Derived.Test.YtcphodnenhnalaaShelf
import Derived.Test.YtcphodnenhnalaaAppend
import Derived.Sort.OwnSortedInts
namespace Go.Proofs.Ytcphodnenhnalaa
open Go.RowKit Go.Lib Go.Maps

theorem zints_len (l : List Int) : (zints l).length = l.length := by unfold zints; simp
theorem zints_append (l m : List Int) : zints (l ++ m) = zints l ++ zints m := by unfold zints; rw [List.map_append]
theorem zints_take (l : List Int) (k : Nat) : zints (l.take k) = (zints l).take k := by unfold zints; rw [List.map_take]
theorem zints_drop (l : List Int) (k : Nat) : zints (l.drop k) = (zints l).drop k := by unfold zints; rw [List.map_drop]
theorem zints_oneCell (l : List Int) : ∀ u ∈ zints l, u.oneCell' = true := by
  intro u hu
  unfold zints at hu
  obtain ⟨z, _, rfl⟩ := List.mem_map.1 hu
  rfl
theorem zlen {w : World} {g n : Nat} {A : Option Addr} {l : List Int} (h : Reads w g A n (zints l)) : l.length = n := by rw [← zints_len]; exact h.1
theorem cell_one_new (w : World) (v : Value) (t : TypeId) : ∀ j u, [v][j]? = some u → (w.alloc (.cells #[v] t)).cell? ((⟨w.heap.size, 0, none⟩ : Addr).add j) = some u := fun j u hu => by
  rw [Go.WideShapes.add_plain, Nat.zero_add, (Blk.new w t _).cell j]
  simpa using hu
theorem own_slice {w : World} {base n : Nat} {e : TypeId} {v : Value} {xs : List Value} (h : w.ownsRow base e 1 v n xs) :
    ∃ A cap, v = .slice A n cap ∧ n ≤ cap ∧ cap ≤ 9223372036854775807 := by
  rcases h.2 with ⟨rfl, rfl⟩ | ⟨b, cap, cur, rfl, hb, hh, hnc, hcm, _⟩
  · exact ⟨none, 0, rfl, Nat.le_refl _, by omega⟩
  · exact ⟨some ⟨b, 0, none⟩, cap, rfl, hnc, by unfold maxLen at hcm; omega⟩
theorem own_read {w : World} {base n cap : Nat} {A : Option Addr} {e : TypeId} {xs : List Value} (h : w.ownsRow base e 1 (.slice A n cap) n xs) : ∀ g, w.heap.size ≤ g ∨ g < base → Reads w g A n xs := by
  have hl : xs.length = n := by have := h.1; omega
  intro g hg
  refine ⟨hl, fun hn => ?_⟩
  rcases h.2 with ⟨hv, rfl⟩ | ⟨b, cap, cur, hv, hb, hh, hnc, hcm, _⟩
  · exact absurd hn (by omega)
  · injection hv with hv
    subst hv
    have hlt : b < w.heap.size := by
      rcases Nat.lt_or_ge b w.heap.size with hlt | hge
      · exact hlt
      · rw [Array.getElem?_eq_none hge] at hh; cases hh
    exact ⟨_, rfl, hlt, by show b ≠ g; omega, h.cells rfl⟩
theorem own_below {w w' : World} {base n : Nat} {e : TypeId} {v : Value} {xs : List Value} (h : w.ownsRow base e 1 v n xs) (hb : Below w.heap.size w w') : w'.ownsRow base e 1 v n xs :=
  h.kept (only_of_below hb none) (by cases v.ownBlock <;> simp)
/-- the block of a range is no row -/
theorem row_ne_range {w : World} {base n b r m : Nat} {e : TypeId} {v : Value} {xs : List Value} {D : Dm} {left : Lit → Bool} {cnt : Nat} (h : w.ownsRow base e 1 v n xs) (hr : w.ranges Try.prog 3 prElem b r m D left cnt) : some r ≠ v.ownBlock := by
  rcases h.2 with ⟨rfl, _⟩ | ⟨g, cap, cur, rfl, _, hh, _⟩
  · simp [Value.ownBlock]
  · intro e
    have e : r = g := by simpa [Value.ownBlock] using e
    obtain ⟨_, _, _, _, _, _, _, _, _, hi, _⟩ := hr
    rw [e, hh] at hi
    cases hi

theorem sort_any (base n : Nat) (v : Value) (zs : List Int) (w : World) (hn : n ≤ 1000000) (hown : w.ownsRow base 3 1 v n (zints zs)) :
    Calls Try.prog 31 #[v] w fun e w' => e = .returned (.tuple #[]) ∧ w'.ownsRow base 3 1 v n (zints (sorted zs)) ∧ w.grownBy w' v.ownBlock := by
  have hl : zs.length = n := by have := hown.1; rw [zints_len] at this; omega
  rcases hown.2 with ⟨rfl, rfl⟩ | ⟨g, cap, cur, rfl, hb, hh, hnc, hcm, hcs, ht⟩
  · obtain rfl := List.eq_nil_of_length_eq_zero hl
    refine (Try.slices_Sort_int_none none 0 w).mono ?_
    rintro e w' ⟨rfl, rfl⟩
    exact ⟨rfl, by rw [show sorted [] = [] by simp [sorted]]; exact hown, World.grownBy.refl _ _⟩
  · subst hl
    rw [Nat.mul_one] at ht
    have hH := holds_of_blockI (ss := zs) hh ht
    refine (Try.slices_Sort_int g 0 cap zs w hH (Array.getElem?_eq_some_iff.1 hh).1 (by omega)).mono ?_
    rintro e w' ⟨rfl, k, os, rfl⟩
    exact ⟨rfl, ownsRow_sortedI (by simp) hb hh hnc hcm hcs, grownBy_sortedI _⟩

/-- a list of numbers is handed back, in memory of its own -/
def Lists (l : List Int) (w : World) (e : Ending) (w' : World) : Prop :=
  Below w.heap.size w w' ∧ ∃ v, e = .returned v ∧ w'.ownsRow w.heap.size 3 1 v l.length (zints l)

/-! ### a range over a map of peers -/
theorem same_kl (x y : Int) : (kl y).sameKey (kl x) = decide (y = x) := by
  by_cases h : y = x
  · subst h; rw [WideAt.sameKey_self (kl_key _)]; simp
  · rw [sameKey_ne (fun e => h (kl_inj e))]; simp [h]
abbrev struck (left : Lit → Bool) (p : Pr) : Lit → Bool := fun z => left z && !z.sameKey (kl p.id)
abbrev Ra (w : World) (b r n : Nat) (D : Dm) (left : Lit → Bool) (cnt : Nat) : Prop := w.ranges Try.prog 3 prElem b r n D left cnt
section
variable (w : World) {ops : Array Oper} {rest : List Oper} {o : Oper} {a : Act} {Q : Exit → Act → World → Prop}
/-- a step of the range: one of the peers comes, or none is left -/
theorem wpList_next_prs (hg : o.guard = none) (it : Operand) (hop : o.op = Op.next it false) (b r n : Nat) (D : Dm) (left : Lit → Bool) (cnt : Nat) (L : List Pr) (hag : Agr D L)
    (hit : a.eval it = .pointer (some ⟨r, 0, none⟩)) (h : Ra w b r n D left cnt)
    (hDone : (∀ kl, left kl = false) → wpList Try.prog ops Q rest (a.put o.dst (.tuple #[.bool false])) w)
    (hMore : ∀ (s : Pr) (w' : World) (cnt' : Nat), s ∈ L → left (kl s.id) = true → Ra w' b r n D (struck left s) cnt' → cnt' < cnt → w.grownBy w' (some r) → w'.heap.size = w.heap.size →
      (Instr.entry (.pointer (some ⟨r, 0, none⟩))).run Try.prog w' = .ok (.tuple #[.int .i64 s.id, vPr s]) w' → wpList Try.prog ops Q rest (a.put o.dst (.tuple #[.bool true, .int .i64 s.id, vPr s])) w') :
    wpList Try.prog ops Q (o :: rest) a w := by
  refine wpList_next_ranges w hg it hop 3 keyed _ (Value.int .i64) (fun x : Int × Bool × Int => .agg #[.int .i64 x.1, .bool x.2.1, .int .i64 x.2.2]) (fun key kl hkey => ?_) (fun v y hv => ?_) b r n D left cnt hit h (fun _ => hDone) ?_
  · obtain ⟨x, _, e, _⟩ := keyOf_inv hkey
    exact ⟨x, e⟩
  · obtain ⟨l, c, s, e, _⟩ := prElem_inv hv
    exact ⟨(l, c, s), e⟩
  · intro x c k y w' cnt' hkey hlk hv hat hrg hlt hgr hsz hen
    obtain ⟨x1, h1, e, rfl⟩ := keyOf_inv hkey
    injection e with _ e
    subst e
    obtain ⟨l, d, s, ev, ey⟩ := prElem_inv hv
    have hh := has_true_of_atKey hat
    rw [hag.has_ x h1] at hh
    obtain ⟨p, hp, hk⟩ := hasL_iff.1 hh
    have ht := hag.at_ p hp (.lit (.bool true))
    rw [hk, hat, ey] at ht
    obtain ⟨t1, t2, t3⟩ := datP_inv ht.symm
    have hvp : (Value.agg #[.int .i64 c.1, .bool c.2.1, .int .i64 c.2.2]) = vPr p := by rw [ev, ← t1, ← t2, ← t3]
    have := hMore p w' cnt' hp
    rw [hk] at this
    rw [show struck left p = fun z => left z && !z.sameKey (kl x) by unfold struck; rw [hk]] at this
    rw [← hvp] at this
    exact this hlk hrg hlt hgr hsz hen
end
/-! ### those who have come -/
def doneL (L : List Pr) (left : Lit → Bool) : List Pr := L.filter fun p => !left (kl p.id)
theorem done_start {L : List Pr} {left : Lit → Bool} (h : ∀ p ∈ L, left (kl p.id) = true) : doneL L left = [] := by
  unfold doneL
  rw [List.filter_eq_nil_iff]
  intro r hr
  simp [h r hr]
theorem done_end {L : List Pr} {left : Lit → Bool} (h : ∀ l, left l = false) : doneL L left = L := by
  unfold doneL
  rw [List.filter_eq_self]
  intro r _
  simp [h]
theorem done_step {L : List Pr} {left : Lit → Bool} (hu : Up L) {p : Pr} (hp : p ∈ L) (hl : left (kl p.id) = true) : (doneL L (struck left p)).Perm (doneL L left ++ [p]) := by
  have hn : (doneL L left ++ [p]).Nodup := by
    rw [List.nodup_append]
    refine ⟨(hu.filter _).nodup, by simp, fun a ha b hb e => ?_⟩
    simp at hb
    subst hb; subst e
    have := (List.mem_filter.1 ha).2
    simp [hl] at this
  refine perm_of_mem _ _ (hu.filter _).nodup hn fun s => ?_
  unfold doneL
  simp only [List.mem_append, List.mem_filter, List.mem_singleton, struck, same_kl]
  constructor
  · rintro ⟨hs, h⟩
    by_cases he : s.id = p.id
    · exact .inr (hu.eq hs hp he)
    · simp [he] at h
      exact .inl ⟨hs, by simp [h]⟩
  · rintro (⟨hs, h⟩ | rfl)
    · refine ⟨hs, ?_⟩
      simp at h
      simp [h]
    · exact ⟨hp, by simp⟩
theorem done_le (L : List Pr) (left : Lit → Bool) : (doneL L left).length ≤ L.length := List.length_filter_le _ _
theorem who_step_no {D D' : List Pr} {p : Pr} {f : Pr → Bool} {zs : List Int} (hs : D'.Perm (D ++ [p])) (ht : f p = false) (hz : zs.Perm (whoL D f)) : zs.Perm (whoL D' f) := by
  have := who_perm hs f
  rw [who_snoc_no ht] at this
  exact hz.trans this.symm
theorem who_step_yes {D D' : List Pr} {p : Pr} {f : Pr → Bool} {zs : List Int} (hs : D'.Perm (D ++ [p])) (ht : f p = true) (hz : zs.Perm (whoL D f)) : (zs ++ [p.id]).Perm (whoL D' f) := by
  have := who_perm hs f
  rw [who_snoc_yes ht] at this
  exact (hz.append_right [p.id]).trans this.symm

/-! ### who is such, at the program's closures -/
theorem all1_any (p : Pr) (w : World) : Calls Try.prog 28 #[vPr p] w (Says (allB p) w) := by
  go_enter Try.func28, Try.ntmps28
  go_wp2
  go_ret
  exact ⟨rfl, (Below.refl _ _).alloc (Nat.le_refl _) _⟩

set_option maxHeartbeats 1000000 in
theorem due1_any (g b : Nat) (T now : Int) (p : Pr) (c d : Nat) (w : World) (h : Blk w g 46 #[.int .i64 T, .map (some b)]) (hT : 2 ≤ T ∧ T ≤ 1073741824) (hp : okPr p)
    (hc : w.cell? ⟨c, 0, none⟩ = some (.int .i64 now)) (hd : w.cell? ⟨d, 0, none⟩ = some (.pointer (some ⟨g, 0, none⟩))) :
    Calls Try.prog 29 #[vPr p, .pointer (some ⟨c, 0, none⟩), .pointer (some ⟨d, 0, none⟩)] w (Says (dueB T now p) w) := by
  obtain ⟨q, HQ⟩ : ∃ q, Hid (dueB T now p = q) := ⟨_, Lib.hid rfl⟩
  have hq : decide (p.last + T / 2 ≤ now) = q := HQ.out
  rw [HQ.out]
  obtain ⟨_, ⟨l1, l2⟩, _, _⟩ := hp
  obtain ⟨t1, t2⟩ := hT
  have hltc := lt_of_cell hc
  have hltd := lt_of_cell hd
  have hltg := h.lt
  simp only at hltc hltd
  have hb : Below w.heap.size w (w.alloc (.cells #[.int .i64 p.last, .bool p.waits, .int .i64 p.since] 52)) := (Below.refl _ _).alloc (Nat.le_refl _) _
  have a0 := (h.below hb hltg).cell 0
  have a1 := (hb.cell (p := ⟨c, 0, none⟩) hltc).trans hc
  have a2 := (hb.cell (p := ⟨d, 0, none⟩) hltd).trans hd
  have a3 := (Bx.new w p rfl).c0
  have w1 : IntKind.i64.wrap (T.tdiv 2) = T / 2 := by rw [Int.tdiv_eq_ediv_of_nonneg (by omega), IntKind.wrap_i64]; omega
  have w2 : IntKind.i64.wrap (p.last + T / 2) = p.last + T / 2 := by rw [IntKind.wrap_i64]; omega
  simp at a0
  clear h hc hd hb HQ
  go_enter Try.func29, Try.ntmps29
  go_wp2
  go_quiet (fail)
  go_wp2
  go_ret
  exact ⟨rfl, below_drewN ((Below.refl _ _).alloc (Nat.le_refl _) _) _⟩
set_option maxHeartbeats 1000000 in
theorem late1_any (g b : Nat) (T now : Int) (p : Pr) (c d : Nat) (w : World) (h : Blk w g 46 #[.int .i64 T, .map (some b)]) (hT : 2 ≤ T ∧ T ≤ 1073741824) (hp : okPr p)
    (hc : w.cell? ⟨c, 0, none⟩ = some (.int .i64 now)) (hd : w.cell? ⟨d, 0, none⟩ = some (.pointer (some ⟨g, 0, none⟩))) :
    Calls Try.prog 30 #[vPr p, .pointer (some ⟨c, 0, none⟩), .pointer (some ⟨d, 0, none⟩)] w (Says (lateB T now p) w) := by
  obtain ⟨i, l, s, e⟩ := p
  obtain ⟨q, HQ⟩ : ∃ q, Hid (lateB T now ⟨i, l, s, e⟩ = q) := ⟨_, Lib.hid rfl⟩
  rw [HQ.out]
  obtain ⟨_, _, ⟨l1, l2⟩, _⟩ := hp
  simp only at l1 l2
  obtain ⟨t1, t2⟩ := hT
  have hltc := lt_of_cell hc
  have hltd := lt_of_cell hd
  have hltg := h.lt
  simp only at hltc hltd
  have hb : Below w.heap.size w (w.alloc (.cells #[.int .i64 l, .bool s, .int .i64 e] 52)) := (Below.refl _ _).alloc (Nat.le_refl _) _
  have a0 := (h.below hb hltg).cell 0
  have a1 := (hb.cell (p := ⟨c, 0, none⟩) hltc).trans hc
  have a2 := (hb.cell (p := ⟨d, 0, none⟩) hltd).trans hd
  have a3 := (Bx.new w ⟨i, l, s, e⟩ rfl).c1
  have a4 := (Bx.new w ⟨i, l, s, e⟩ rfl).c2
  simp only at a3 a4
  have w2 : IntKind.i64.wrap (e + T) = e + T := by rw [IntKind.wrap_i64]; omega
  simp at a0
  clear h hc hd hb
  cases s
  · have hq : q = false := by rw [← HQ.out]; rfl
    subst hq
    clear HQ
    go_enter Try.func30, Try.ntmps30
    go_wp2
    go_quiet (fail)
    go_wp2
    go_ret
    exact ⟨rfl, below_drewN ((Below.refl _ _).alloc (Nat.le_refl _) _) _⟩
  · have hq : decide (e + T < now) = q := by rw [← HQ.out]; rfl
    clear HQ
    go_enter Try.func30, Try.ntmps30
    go_wp2
    go_quiet (fail)
    go_wp2
    go_ret
    exact ⟨rfl, below_drewN ((Below.refl _ _).alloc (Nat.le_refl _) _) _⟩
end Go.Proofs.Ytcphodnenhnalaa
