/-
  WHAT IS PROVED: contracts of the library's Sort and Clone at lists of ints, of New, and of a tally's Voters. Conditions: the sizes; the block is a tally.
-/
import Derived.Test.YtmjbacmaafbdlaaTally
import Derived.Test.YtmjbacmaafbdlaaShelf
import Derived.Test.YtmjbacmaafbdlaaMem
import Derived.Sort.OwnSortedInts
import Derived.OwnWalk
import Derived.OpenShut
namespace Go.Proofs.Ytmjbacmaafbdlaa
open Go.RowKit Go.Lib Go.Maps

theorem int_info : (Try.prog.info? 3).map (fun i => (i.zero, i.size, i.bytes)) = some (some (.int .i64 0), 1, 8) := by kernel_rfl

theorem own_slice {w : World} {base n : Nat} {e : TypeId} {v : Value} {xs : List Value} (h : w.ownsRow base e 1 v n xs) :
    ∃ A cap, v = .slice A n cap ∧ n ≤ cap ∧ cap ≤ 9223372036854775807 := by
  rcases h.2 with ⟨rfl, rfl⟩ | ⟨b, cap, cur, rfl, hb, hh, hnc, hcm, _⟩
  · exact ⟨none, 0, rfl, Nat.le_refl _, by omega⟩
  · exact ⟨some ⟨b, 0, none⟩, cap, rfl, hnc, by unfold maxLen at hcm; omega⟩
theorem own_blk {w : World} {base n c : Nat} {e : TypeId} {A : Option Addr} {ad : Addr} {xs : List Value} (_ : w.ownsRow base e 1 (.slice A n c) n xs) (h : A = some ad) : (Value.slice A n c).ownBlock = some ad.block := by subst h; rfl
theorem own_read {w : World} {base n cap : Nat} {A : Option Addr} {e : TypeId} {xs : List Value} (h : w.ownsRow base e 1 (.slice A n cap) n xs) : ∀ g, w.heap.size ≤ g ∨ g < base → Reads w g A n xs := by
  have hl : xs.length = n := by have := h.1; omega
  intro g hg
  refine ⟨hl, fun hn => ?_⟩
  rcases h.2 with ⟨hv, rfl⟩ | ⟨b, cap, cur, hv, hb, hh, hnc, hcm, _⟩
  · exact absurd hn (by omega)
  · injection hv with hv
    subst hv
    have hlt : b < w.heap.size := by
      rcases Nat.lt_or_ge b w.heap.size with hlt | hge
      · exact hlt
      · rw [Array.getElem?_eq_none hge] at hh; cases hh
    exact ⟨_, rfl, hlt, by show b ≠ g; omega, h.cells rfl⟩

theorem sort_any (base n : Nat) (v : Value) (zs : List Int) (w : World) (hn : n ≤ 16) (hown : w.ownsRow base 3 1 v n (zints zs)) :
    Calls Try.prog 35 #[v] w fun e w' => e = .returned (.tuple #[]) ∧ w'.ownsRow base 3 1 v n (zints (sorted zs)) ∧ w.grownBy w' v.ownBlock := by
  have hl : zs.length = n := by have := hown.1; rw [zints_len] at this; omega
  rcases hown.2 with ⟨rfl, rfl⟩ | ⟨g, cap, cur, rfl, hb, hh, hnc, hcm, hcs, ht⟩
  · obtain rfl := List.eq_nil_of_length_eq_zero hl
    refine (Try.slices_Sort_int_none none 0 w).mono ?_
    rintro e w' ⟨rfl, rfl⟩
    exact ⟨rfl, by rw [show sorted [] = [] by simp [sorted]]; exact hown, World.grownBy.refl _ _⟩
  · subst hl
    rw [Nat.mul_one] at ht
    have hH := holds_of_blockI (ss := zs) hh ht
    refine (Try.slices_Sort_int g 0 cap zs w hH (Array.getElem?_eq_some_iff.1 hh).1 (by omega)).mono ?_
    rintro e w' ⟨rfl, k, os, rfl⟩
    exact ⟨rfl, ownsRow_sortedI (by simp) hb hh hnc hcm hcs, grownBy_sortedI _⟩

theorem clone_any (A : Option Addr) (n c : Nat) (zs : List Int) (g : Nat) (w : World) (hn : n ≤ 1000000) (hr : Reads w g A n (zints zs)) :
    Calls Try.prog 34 #[.slice A n c] w fun e w' => ∃ v, e = .returned v ∧ w'.ownsRow w.heap.size 3 1 v n (zints zs) ∧ Below w.heap.size w w' := by
  have hl := zlen hr
  cases A with
  | none =>
    have h0 : n = 0 := by
      rcases Nat.eq_zero_or_pos n with h | h
      · exact h
      · obtain ⟨ad, e, _⟩ := hr.2 h; cases e
    subst h0
    obtain rfl := List.eq_nil_of_length_eq_zero hl
    refine (Try.slices_Clone_int_nil 0 c w).mono ?_
    rintro e w' ⟨rfl, rfl⟩
    exact ⟨_, rfl, World.ownsRow_nil _ _ _ _, Below.refl _ _⟩
  | some ad =>
    rcases Nat.eq_zero_or_pos n with h | h
    · subst h
      obtain rfl := List.eq_nil_of_length_eq_zero hl
      refine (Try.slices_Clone_int_zero ad c w).mono ?_
      rintro e w' ⟨v, rfl, h1, _, h2⟩
      exact ⟨v, rfl, h1, h2⟩
    · obtain ⟨ad', e, _, _, hc⟩ := hr.2 h
      cases e
      obtain ⟨b, off, rfl, hcell⟩ := ints_at (w := w) (a := ad) (k := .i64) (zs := zs) (fun i hi => hc i _ (by simp [zints, List.getElem?_map, List.getElem?_eq_getElem hi, List.getD])) (by omega)
      refine (Try.slices_Clone_int b off n c zs w (by omega) (by omega) hcell).mono ?_
      rintro e w' ⟨v, rfl, h1, _, h2⟩
      rw [List.take_of_length_le (by omega)] at h1
      exact ⟨v, rfl, h1, h2⟩

/-- a tally's voters lie at C or above -/
def Far (w : World) (g C : Nat) : Prop := ∃ A n c m, Blk w g 63 #[.slice A n c, m] ∧ ∀ ad, A = some ad → 0 < n → C ≤ ad.block
/-- a new tally of the voters vs -/
def Made (vs : List Int) (w : World) (e : Ending) (w' : World) : Prop :=
  ∃ g b, e = .returned (.tuple #[.pointer (some ⟨g, 0, none⟩), .int .i64 0]) ∧ Ty w' g b (sorted vs) [] ∧ Below w.heap.size w w' ∧ w.heap.size ≤ g ∧ w.heap.size ≤ b ∧ Far w' g w.heap.size

theorem new_no (A : Option Addr) (n c : Nat) (zs : List Int) (g : Nat) (w : World) (hnc : n ≤ c) (hc : c ≤ 9223372036854775807) (hr : Reads w g A n (zints zs)) (h : Hid (rightB zs = false)) :
    Calls Try.prog 24 #[.slice A n c] w fun e w' => e = .returned (.tuple #[.pointer none, .int .i64 10]) ∧ w = w' := by
  go_enter Try.func24, Try.ntmps24
  go_wp2_with (fail)
  refine (Right_any A n c zs g _ hnc hc hr).mono ?_
  rintro e w' ⟨rfl, rfl⟩
  rw [h.out]
  go_wp2
  go_ret2
  exact ⟨rfl, rfl⟩

set_option maxHeartbeats 1000000 in
theorem new_yes (A : Option Addr) (n c : Nat) (zs : List Int) (g : Nat) (w : World) (hnc : n ≤ c) (hc : c ≤ 9223372036854775807) (hr : Reads w g A n (zints zs)) (h : Hid (rightB zs = true)) :
    Calls Try.prog 24 #[.slice A n c] w (Made zs w) := by
  have hmm := @run_makeMap Try.prog
  have hl := zlen hr
  have h16 : n ≤ 16 := by have := (right_iff.1 h.out).1; omega
  have HL := Lib.hid hl
  clear hl
  go_enter Try.func24, Try.ntmps24
  go_wp2_with (fail)
  refine (Right_any A n c zs g _ hnc hc hr).mono ?_
  rintro e w' ⟨rfl, rfl⟩
  rw [h.out]
  go_wp2_with (fail)
  refine (clone_any A n c zs g _ (by omega) hr).mono ?_
  rintro e w1 ⟨v, rfl, hown1, hb1⟩
  obtain ⟨A1, c1, rfl, hn1, hc1⟩ := own_slice hown1
  have hown2 := (hown1.alloc (.map #[] 0)).alloc (.cells #[.slice A1 n c1, .map (some w1.heap.size)] 63)
  go_wp2_with (fail)
  refine (sort_any _ n _ zs _ h16 hown2).mono ?_
  rintro e w3 ⟨rfl, hown3, hg3⟩
  go_wp2
  go_ret2
  have hv : ∀ k, (Value.slice A1 n c1).ownBlock = some k → k < w1.heap.size := fun k hk => (hown1.lt k hk).2
  have hne1 : some (w1.heap.size + 1) ≠ (Value.slice A1 n c1).ownBlock := fun e => by have := hv _ e.symm; omega
  have hne0 : some w1.heap.size ≠ (Value.slice A1 n c1).ownBlock := fun e => by have := hv _ e.symm; omega
  have hblk : Blk ((w1.alloc (.map #[] 0)).alloc (.cells #[.slice A1 n c1, .map (some w1.heap.size)] 63)) (w1.heap.size + 1) 63 #[.slice A1 n c1, .map (some w1.heap.size)] := by
    have := Blk.new (w1.alloc (.map #[] 0)) 63 #[.slice A1 n c1, .map (some w1.heap.size)]
    simpa using this
  have hset : SetAt w3 w1.heap.size [] := ((set_new w1).kept (World.grownBy_alloc _ _ none) (by simp)).kept hg3 hne0
  have hb2 : Below w.heap.size w w3 := ((hb1.alloc hb1.size _).alloc (by have := hb1.size; simp; omega) _).grown hg3 (by have := hb1.size; simp; omega) (fun k e => (hown1.lt k e).1)
  have hs := hb1.size
  refine ⟨w1.heap.size + 1, w1.heap.size, rfl, ⟨⟨A1, n, c1, hblk.grown hg3 hne1, ?_, hn1, hc1⟩, hset, by omega, Sub.nil _, by rw [sorted_len]; have := HL.out; omega⟩, hb2, by omega, hs, A1, n, c1, _, hblk.grown hg3 hne1, fun ad e _ => by have := (hown1.lt ad.block (own_blk hown1 e)).1; exact this⟩
  exact (own_read hown3 _ (.inl (Nat.le_refl _))).apart hset

/-- a list of numbers is handed back, in memory of its own -/
def Lists (l : List Int) (w : World) (e : Ending) (w' : World) : Prop :=
  Below w.heap.size w w' ∧ ∃ A c, e = .returned (.slice A l.length c) ∧ l.length ≤ c ∧ c ≤ 9223372036854775807 ∧ ∀ g, w'.heap.size ≤ g ∨ g < w.heap.size → Reads w' g A l.length (zints l)

theorem voters_any (g b : Nat) (vs gs : List Int) (w : World) (h : Ty w g b vs gs) :
    Calls Try.prog 31 #[.pointer (some ⟨g, 0, none⟩)] w (Lists vs w) := by
  have hl := h.len
  obtain ⟨A, n, c, h1, h2, _, _⟩ := h.row
  obtain rfl := zlen h2
  have c0 := h1.cell 0
  simp at c0
  go_enter Try.func31, Try.ntmps31
  go_wp2_with (fail)
  refine (clone_any A _ c vs b _ (by omega) h2).mono ?_
  rintro e w1 ⟨v, rfl, hown1, hb1⟩
  obtain ⟨A1, c1, rfl, hn1, hc1⟩ := own_slice hown1
  go_wp2
  go_ret
  exact ⟨hb1, A1, c1, rfl, hn1, hc1, own_read hown1⟩

end Go.Proofs.Ytmjbacmaafbdlaa
