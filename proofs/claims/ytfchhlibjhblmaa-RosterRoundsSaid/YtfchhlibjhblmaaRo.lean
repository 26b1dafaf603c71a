/-
  WHAT IS PROVED: contracts of New, Self, check, place, Banned, Get, List and idsBut. Condition: the object is a roster.
-/
import Derived.Test.YtfchhlibjhblmaaDelete
namespace Go.Proofs.Ytfchhlibjhblmaa
open Go.RowKit Go.Lib Go.Maps

/-- block g is a roster R, whose own blocks are among F, all of them from C on -/
structure Rs (w : World) (C g : Nat) (F : Nat → Prop) (R : Ro) : Prop where
  ex : ∃ b v, Blk w g 62 #[.int .i64 R.s, v, .map (some b), .int .i64 (R.c : Int)] ∧ MapAt w b R.B ∧ w.ownsRow 0 34 5 v R.L.length (flatM R.L) ∧ F b ∧ ∀ k, v.ownBlock = some k → F k
  fg : F g
  good : Good R
  lt : ∀ i, F i → i < w.heap.size
  lo : ∀ i, F i → C ≤ i
  cb : R.c ≤ 1000000
theorem row_ne {w : World} {g n s : Nat} {e t : TypeId} {v : Value} {xs : List Value} {cs : Array Value} (h : w.ownsRow 0 e s v n xs) (hb : Blk w g t cs) (hne : e ≠ t) : ∀ k, v.ownBlock = some k → k ≠ g := by
  intro k hk e
  rcases h.2 with ⟨rfl, _⟩ | ⟨g', cap, cur, rfl, _, hh, _⟩
  · simp [Value.ownBlock] at hk
  · simp [Value.ownBlock] at hk
    unfold Blk at hb
    rw [hk, e, hb] at hh
    injection hh with hh
    injection hh with _ h2 _
    exact hne h2.symm
theorem row_ne_map {w : World} {b n s : Nat} {e : TypeId} {v : Value} {xs : List Value} {B : List Bn} (h : w.ownsRow 0 e s v n xs) (hb : MapAt w b B) : ∀ k, v.ownBlock = some k → k ≠ b := by
  intro k hk he
  rcases h.2 with ⟨rfl, _⟩ | ⟨g', cap, cur, rfl, _, hh, _⟩
  · simp [Value.ownBlock] at hk
  · simp [Value.ownBlock] at hk
    exact Blk.map_ne (show Blk w g' e cur from hh) hb (by omega)
theorem MapAt.turn {w w' : World} {F : Nat → Prop} {b : Nat} {B : List Bn} (h : MapAt w b B) (k : Turn w w' F) (hF : ¬ F b) : MapAt w' b B := by
  have hlt := h.lt
  obtain ⟨D, ⟨es, clock, hh, rest⟩, r⟩ := h
  exact ⟨D, ⟨es, clock, (k.block b hlt hF).trans hh, rest⟩, r⟩
section
variable {w w' : World} {C g : Nat} {F G : Nat → Prop} {R : Ro}
theorem Rs.turn (h : Rs w C g F R) (k : Turn w w' G) (hd : ∀ i, F i → ¬ G i) : Rs w' C g F R := by
  obtain ⟨b, v, h1, h2, h3, h4, h5⟩ := h.ex
  exact ⟨⟨b, v, h1.turn k (hd _ h.fg), h2.turn k (hd _ h4), own_turn h3 k (fun i hi => hd _ (h5 i hi)), h4, h5⟩, h.fg, h.good, fun i hi => Nat.lt_of_lt_of_le (h.lt i hi) k.size, h.lo, h.cb⟩
theorem Rs.below (h : Rs w C g F R) (k : Below w.heap.size w w') : Rs w' C g F R := h.turn (Turn.of_below k no) (fun _ _ f => f.elim)
theorem Rs.alloc (h : Rs w C g F R) (o : Obj) : Rs (w.alloc o) C g F R := h.below ((Below.refl _ _).alloc (Nat.le_refl _) _)
theorem Rs.low (h : Rs w C g F R) {C' : Nat} (hc : C' ≤ C) : Rs w C' g F R := ⟨h.ex, h.fg, h.good, h.lt, fun i hi => Nat.le_trans hc (h.lo i hi), h.cb⟩
theorem Rs.cle (h : Rs w C g F R) : C ≤ w.heap.size := Nat.le_trans (h.lo _ h.fg) (Nat.le_of_lt (h.lt _ h.fg))
theorem Rs.glt (h : Rs w C g F R) : g < w.heap.size := h.lt _ h.fg
theorem Rs.far (h : Rs w C g F R) {p : Addr} (hp : ¬ F p.block) (u : Value) : Rs (w.setCell p u) C g F R :=
  h.turn (G := fun i => i = p.block) ⟨rfl, rfl, rfl, by simp [World.setCell], fun i _ hn => Below.heap_setCell w p u i hn⟩ (fun i hi e => hp (by rw [← e]; exact hi))
/-- what a walk looks at -/
theorem Rs.open_ (h : Rs w C g F R) : ∃ b A n c, Blk w g 62 #[.int .i64 R.s, .slice A n c, .map (some b), .int .i64 (R.c : Int)] ∧ MapAt w b R.B ∧ w.ownsRow 0 34 5 (.slice A n c) n (flatM R.L) ∧
    R.L.length = n ∧ n ≤ c ∧ c ≤ 9223372036854775807 ∧ n ≤ 15 ∧ F b ∧ (∀ k, (Value.slice A n c).ownBlock = some k → F k ∧ k ≠ g ∧ k ≠ b) ∧ g ≠ b ∧ Rd w no 5 A n (flatM R.L) := by
  obtain ⟨b, v, h1, h2, h3, h4, h5⟩ := h.ex
  obtain ⟨A, c, rfl, hnc, hcm⟩ := own_form h3
  have hne : ((34 : TypeId) = 62) → False := by decide
  exact ⟨b, A, R.L.length, c, h1, h2, h3, rfl, hnc, hcm, h.good.len, h4, fun k hk => ⟨h5 k hk, row_ne h3 h1 hne k hk, row_ne_map h3 h2 k hk⟩, h1.map_ne h2, Rd.of_own h3 rfl (fun _ _ f => f.elim)⟩
end

def Made (s : Int) (w : World) (e : Ending) (w' : World) : Prop :=
  ∃ g F, e = .returned (.tuple #[.pointer (some ⟨g, 0, none⟩), .int .i64 0]) ∧ Rs w' w.heap.size g F ⟨s, [], [], 0⟩ ∧ Below w.heap.size w w'
theorem new_yes (s : Int) (w : World) (hs : isIdB s = true) : Calls Try.prog 11 #[.int .i64 s] w (Made s w) := by
  have hmm := @run_makeMap Try.prog
  have HS := Lib.hid hs
  have hi := in_id hs
  go_enter Try.func11, Try.ntmps11
  go_wp2_with (fail)
  refine (isid_any s _).mono ?_
  rintro e w1 ⟨rfl, rfl⟩
  rw [HS.out]
  go_wp2
  go_ret2
  have hblk : Blk ((w.alloc (.map #[] 0)).alloc (.cells #[.int .i64 s, .slice none 0 0, .map (some w.heap.size), .int .i64 0] 62)) (w.heap.size + 1) 62 #[.int .i64 s, .slice none 0 0, .map (some w.heap.size), .int .i64 0] := by
    have := Blk.new (w.alloc (.map #[] 0)) 62 #[.int .i64 s, .slice none 0 0, .map (some w.heap.size), .int .i64 0]
    simpa using this
  refine ⟨w.heap.size + 1, fun i => i = w.heap.size ∨ i = w.heap.size + 1, rfl, ⟨⟨w.heap.size, .slice none 0 0, hblk, (map_new w).kept (World.grownBy_alloc _ _ none) (by simp), World.ownsRow_nil _ _ _ _, .inl rfl, fun k hk => by simp [Value.ownBlock] at hk⟩, .inr rfl, Good.nil (by unfold inInt; omega), ?_, ?_, by simp⟩,
    ((Below.refl _ _).alloc (Nat.le_refl _) _).alloc (by simp) _⟩
  · rintro i (rfl | rfl) <;> simp <;> omega
  · rintro i (rfl | rfl) <;> omega
theorem new_no (s : Int) (w : World) (hs : isIdB s = false) : Calls Try.prog 11 #[.int .i64 s] w fun e w' => e = .returned (.tuple #[.pointer none, .int .i64 10]) ∧ w = w' := by
  have HS := Lib.hid hs
  go_enter Try.func11, Try.ntmps11
  go_wp2_with (fail)
  refine (isid_any s _).mono ?_
  rintro e w1 ⟨rfl, rfl⟩
  rw [HS.out]
  go_wp2
  go_ret2
  exact ⟨rfl, rfl⟩
section
variable (C g : Nat) (F : Nat → Prop) (R : Ro) (w : World) (h : Rs w C g F R)
include h
theorem self_any : Calls Try.prog 26 #[.pointer (some ⟨g, 0, none⟩)] w fun e w' => e = .returned (.int .i64 R.s) ∧ w = w' := by
  obtain ⟨b, A, n, c, hb, _⟩ := h.open_
  have c0 := hb.cell 0
  simp at c0
  clear hb
  go_enter Try.func26, Try.ntmps26
  go_wp2
  go_ret
  exact ⟨rfl, rfl⟩
theorem check_any (x t : Int) : Calls Try.prog 32 #[.pointer (some ⟨g, 0, none⟩), .int .i64 x, .int .i64 t] w fun e w' => e = .returned (.int .i64 (chkE R.s x t)) ∧ w = w' := by
  obtain ⟨b, A, n, c, hb, _⟩ := h.open_
  have c0 := hb.cell 0
  simp at c0
  clear hb
  rcases chk_cases R.s x t with ⟨he, h1, h2, h3⟩ | ⟨he, h1⟩ | ⟨he, h1, h2, h3⟩
  · have HE := Lib.hid he
    have H1 := Lib.hid h1
    have H2 := Lib.hid h2
    have t1 : (x == R.s) = false := by simpa using h3
    clear he h1 h2 h3
    go_enter Try.func32, Try.ntmps32
    go_wp2_with (fail)
    refine (isid_any x _).mono ?_
    rintro e w1 ⟨rfl, rfl⟩
    rw [H1.out]
    go_wp2_with (fail)
    refine (istime_any t _).mono ?_
    rintro e w1 ⟨rfl, rfl⟩
    rw [H2.out]
    go_wp2
    go_ret
    exact ⟨by rw [HE.out]; rfl, rfl⟩
  · have HE := Lib.hid he
    obtain ⟨b1, B1⟩ : ∃ b, Hid (isIdB x = b) := ⟨_, Lib.hid rfl⟩
    obtain ⟨b2, B2⟩ : ∃ b, Hid (isTimeB t = b) := ⟨_, Lib.hid rfl⟩
    have H0 : Hid (b1 = false ∨ b2 = false) := Lib.hid (by rw [← B1.out, ← B2.out]; exact h1)
    clear he h1
    go_enter Try.func32, Try.ntmps32
    go_wp2_with (fail)
    refine (isid_any x _).mono ?_
    rintro e w1 ⟨rfl, rfl⟩
    rw [B1.out]
    cases b1
    · go_wp2
      go_ret
      exact ⟨by rw [HE.out]; rfl, rfl⟩
    · go_wp2_with (fail)
      refine (istime_any t _).mono ?_
      rintro e w1 ⟨rfl, rfl⟩
      rw [B2.out]
      cases b2
      · go_wp2
        go_ret
        exact ⟨by rw [HE.out]; rfl, rfl⟩
      · exact absurd H0.out (by decide)
  · have HE := Lib.hid he
    have H1 := Lib.hid h1
    have H2 := Lib.hid h2
    have t1 : (x == R.s) = true := by simpa using h3
    clear he h1 h2 h3
    go_enter Try.func32, Try.ntmps32
    go_wp2_with (fail)
    refine (isid_any x _).mono ?_
    rintro e w1 ⟨rfl, rfl⟩
    rw [H1.out]
    go_wp2_with (fail)
    refine (istime_any t _).mono ?_
    rintro e w1 ⟨rfl, rfl⟩
    rw [H2.out]
    go_wp2
    go_ret
    exact ⟨by rw [HE.out]; rfl, rfl⟩
theorem place_any (x : Int) : Calls Try.prog 33 #[.pointer (some ⟨g, 0, none⟩), .int .i64 x] w fun e w' => e = .returned (.tuple #[.int .i64 ((posL R.L x : Nat) : Int), .bool (hasL R.L x)]) ∧ Below w.heap.size w w' := by
  obtain ⟨b, A, n, c, hb, hm, ho, hn, hnc, hcm, h15, _, _, _, hr⟩ := h.open_
  have HU := Lib.hid h.good.up
  have HR := Lib.hid hr
  have c1 := hb.cell 1
  simp at c1
  obtain ⟨p, HP⟩ : ∃ p, Hid (posL R.L x = p) := ⟨_, Lib.hid rfl⟩
  obtain ⟨q, HQ⟩ : ∃ q, Hid (hasL R.L x = q) := ⟨_, Lib.hid rfl⟩
  clear hb hm ho hr hn
  go_enter Try.func33, Try.ntmps33
  go_wp2_with (fail)
  refine (search_any A n c R.L x no _ (by omega) HR.out HU.out).mono ?_
  rintro e w1 ⟨rfl, hb1⟩
  rw [HP.out, HQ.out]
  have HB := Lib.hid hb1
  clear hb1
  go_wp2
  go_ret2
  exact ⟨by rw [HP.out, HQ.out]; rfl, HB.out⟩
theorem banned_any (x t : Int) (hx : inInt x) : Calls Try.prog 24 #[.pointer (some ⟨g, 0, none⟩), .int .i64 x, .int .i64 t] w fun e w' => e = .returned (.bool (banB R.B x t)) ∧ w = w' := by
  obtain ⟨b, A, n, c, hb, hm, _⟩ := h.open_
  have c2 := hb.cell 2
  simp at c2
  have HM := Lib.hid hm
  have HX := Lib.hid hx
  have HE := Lib.hid (ban_eq h.good.upB x t)
  obtain ⟨p, HP⟩ : ∃ p, Hid (tillB R.B x = p) := ⟨_, Lib.hid rfl⟩
  obtain ⟨q, HQ⟩ : ∃ q, Hid (hasB R.B x = q) := ⟨_, Lib.hid rfl⟩
  clear hb hm hx
  cases q
  · go_enter Try.func24, Try.ntmps24
    go_wp2_with (at_lookup; refine wpList_look_ok _ rfl _ _ rfl b R.B x p false rfl rfl HM.out HX.out HP.out HQ.out ?_)
    go_ret
    exact ⟨by rw [HE.out, HQ.out, HP.out]; rfl, rfl⟩
  · go_enter Try.func24, Try.ntmps24
    go_wp2_with (at_lookup; refine wpList_look_ok _ rfl _ _ rfl b R.B x p true rfl rfl HM.out HX.out HP.out HQ.out ?_)
    go_ret
    exact ⟨by rw [HE.out, HQ.out, HP.out]; rfl, rfl⟩
theorem list_any : Calls Try.prog 23 #[.pointer (some ⟨g, 0, none⟩)] w (ListsM R.L w) := by
  obtain ⟨b, A, n, c, hb, hm, ho, hn, hnc, hcm, h15, _, _, _, hr⟩ := h.open_
  have HR := Lib.hid hr
  have c1 := hb.cell 1
  simp at c1
  clear hb hm ho hr hn
  go_enter Try.func23, Try.ntmps23
  go_wp2_with (fail)
  refine (clone_any A n c R.L no _ (by omega) HR.out).mono ?_
  rintro e w1 ⟨hb1, v, rfl, hv⟩
  have HB := Lib.hid hb1
  have HV := Lib.hid hv
  clear hb1 hv
  go_wp2
  go_ret
  exact ⟨HB.out, v, rfl, HV.out⟩
end
end Go.Proofs.Ytfchhlibjhblmaa
