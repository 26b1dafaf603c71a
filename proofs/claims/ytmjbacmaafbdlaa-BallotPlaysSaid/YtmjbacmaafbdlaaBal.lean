/-
  WHAT IS PROVED: a ballot in memory; contracts of New, Standing, Voters, Stop, May and the small functions. Condition: the block is a ballot.
-/
import Derived.Test.YtmjbacmaafbdlaaNew
import Derived.Test.YtmjbacmaafbdlaaPlainB
import Derived.Test.YtmjbacmaafbdlaaMap
namespace Go.Proofs.Ytmjbacmaafbdlaa
open Go.RowKit Go.Lib Go.Maps

/-- a tally's voters lie among the blocks F -/
def Own (w : World) (F : Nat → Prop) (g : Nat) : Prop := ∃ A n c m, Blk w g 63 #[.slice A n c, m] ∧ ∀ ad, A = some ad → 0 < n → F ad.block
section
variable {w w' : World} {C g b : Nat} {F F' G : Nat → Prop} {vs gs : List Int}
theorem Own.weak (h : Own w F g) (hs : ∀ i, F i → F' i) : Own w F' g := by
  obtain ⟨A, n, c, m, h1, h2⟩ := h
  exact ⟨A, n, c, m, h1, fun ad e hn => hs _ (h2 ad e hn)⟩
theorem Own.turn (h : Own w F g) (k : Turn w w' G) (hg : ¬ G g) : Own w' F g := by
  obtain ⟨A, n, c, m, h1, h2⟩ := h
  exact ⟨A, n, c, m, h1.turn k hg, h2⟩
theorem Own.of_far (h : Far w g C) (ht : Ty w g b vs gs) (hF : ∀ i, C ≤ i → i < w.heap.size → F i) : Own w F g := by
  obtain ⟨A, n, c, m, h1, h2⟩ := h
  obtain ⟨A', n', c', h3, h4, _⟩ := ht.row
  have he : (#[Value.slice A n c, m] : Array Value) = #[.slice A' n' c', .map (some b)] := by
    unfold Blk at h1 h3
    rw [h1] at h3
    injection h3 with h3
    injection h3
  have he2 : A = A' ∧ n = n' := by simp at he; exact ⟨he.1.1, he.1.2.1⟩
  obtain ⟨rfl, rfl⟩ := he2
  refine ⟨A, n, c, m, h1, fun ad e hn => ?_⟩
  obtain ⟨ad', e', hlt, _⟩ := h4.2 hn
  rw [e] at e'
  cases e'
  exact hF _ (h2 ad e hn) hlt
theorem SetAt.turn (h : SetAt w b gs) (k : Turn w w' F) (hF : ¬ F b) : SetAt w' b gs := by
  have hlt := h.lt
  obtain ⟨D, ⟨es, clock, hh, rest⟩, r⟩ := h
  exact ⟨D, ⟨es, clock, (k.block b hlt hF).trans hh, rest⟩, r⟩
theorem map_turn {B : List Mp.Bn} (h : Mp.MapAt w b B) (k : Turn w w' F) (hF : ¬ F b) : Mp.MapAt w' b B := by
  have hlt := h.lt
  obtain ⟨D, ⟨es, clock, hh, rest⟩, r⟩ := h
  exact ⟨D, ⟨es, clock, (k.block b hlt hF).trans hh, rest⟩, r⟩
theorem blk_set_ne {t : TypeId} {cs : Array Value} (h : Blk w g t cs) (hs : SetAt w b gs) : g ≠ b := by
  intro e
  obtain ⟨D, ⟨es, clock, hh, _⟩, _⟩ := hs
  unfold Blk at h
  rw [e, hh] at h
  cases h
theorem Ty.turn (h : Ty w g b vs gs) (o : Own w F g) (k : Turn w w' G) (hd : ∀ i, F i → ¬ G i) (hg : ¬ G g) (hb : ¬ G b) : Ty w' g b vs gs := by
  obtain ⟨A', n', c', h3, h4, h5, h6⟩ := h.row
  obtain ⟨A, n, c, m, h1, h2⟩ := o
  have he : (#[Value.slice A n c, m] : Array Value) = #[.slice A' n' c', .map (some b)] := by
    unfold Blk at h1 h3
    rw [h1] at h3
    injection h3 with h3
    injection h3
  have he2 : A = A' ∧ n = n' := by simp at he; exact ⟨he.1.1, he.1.2.1⟩
  obtain ⟨rfl, rfl⟩ := he2
  refine ⟨⟨A, n, c', h3.turn k hg, ⟨h4.1, fun hn => ?_⟩, h5, h6⟩, h.set.turn k hb, h.ne, h.sub, h.len⟩
  obtain ⟨ad, e, hlt, hne, hc⟩ := h4.2 hn
  refine ⟨ad, e, Nat.lt_of_lt_of_le hlt k.size, hne, fun j u hu => ?_⟩
  exact (k.cell (p := ad.add j) (by rw [block_of_add]; exact hlt) (by rw [block_of_add]; exact hd _ (h2 ad e hn))).trans (hc j u hu)
end

/-- what a ballot's pointer to a stand points at -/
def Std (w : World) (F : Nat → Prop) (mb : Nat) (st : Value) (s : Bst) : Prop :=
  (s.on = false ∧ st = .pointer none) ∨ (s.on = true ∧ ∃ sb tg tb, st = .pointer (some ⟨sb, 0, none⟩) ∧ Blk w sb 59 #[.pointer (some ⟨tg, 0, none⟩), .int .i64 s.ep, .int .i64 s.si] ∧ Ty w tg tb (sorted s.vs) s.ys ∧ Own w F tg ∧ F sb ∧ F tg ∧ F tb ∧ tb ≠ mb)
/-- block g is a ballot with the timeout T, whose blocks are among F, all of them from C on -/
structure Bl (w : World) (C g : Nat) (F : Nat → Prop) (T : Int) (s : Bst) : Prop where
  ex : ∃ mb st, Blk w g 52 #[.int .i64 T, st, .map (some mb)] ∧ Mp.MapAt w mb s.G ∧ F mb ∧ Std w F mb st s
  fg : F g
  fine : Fine T s
  lt : ∀ i, F i → i < w.heap.size
  lo : ∀ i, F i → C ≤ i
section
variable {w w' : World} {C g mb : Nat} {F G : Nat → Prop} {T : Int} {s : Bst} {st : Value}
theorem Std.turn (h : Std w F mb st s) (k : Turn w w' G) (hd : ∀ i, F i → ¬ G i) : Std w' F mb st s := by
  rcases h with h | ⟨h0, sb, tg, tb, h1, h2, h3, h4, h5, h6, h7, h8⟩
  · exact .inl h
  · exact .inr ⟨h0, sb, tg, tb, h1, h2.turn k (hd _ h5), h3.turn h4 k hd (hd _ h6) (hd _ h7), h4.turn k (hd _ h6), h5, h6, h7, h8⟩
theorem Bl.turn (h : Bl w C g F T s) (k : Turn w w' G) (hd : ∀ i, F i → ¬ G i) : Bl w' C g F T s := by
  obtain ⟨mb, st, h1, h2, h3, h4⟩ := h.ex
  exact ⟨⟨mb, st, h1.turn k (hd _ h.fg), map_turn h2 k (hd _ h3), h3, h4.turn k hd⟩, h.fg, h.fine, fun i hi => Nat.lt_of_lt_of_le (h.lt i hi) k.size, h.lo⟩
theorem Bl.below (h : Bl w C g F T s) (k : Below w.heap.size w w') : Bl w' C g F T s := h.turn (Turn.of_below k no) (fun _ _ f => f.elim)
theorem Bl.alloc (h : Bl w C g F T s) (o : Obj) : Bl (w.alloc o) C g F T s := h.below ((Below.refl _ _).alloc (Nat.le_refl _) _)
theorem Bl.low (h : Bl w C g F T s) {C' : Nat} (hc : C' ≤ C) : Bl w C' g F T s := ⟨h.ex, h.fg, h.fine, h.lt, fun i hi => Nat.le_trans hc (h.lo i hi)⟩
theorem Bl.cle (h : Bl w C g F T s) : C ≤ w.heap.size := Nat.le_trans (h.lo _ h.fg) (Nat.le_of_lt (h.lt _ h.fg))
theorem Bl.glt (h : Bl w C g F T s) : g < w.heap.size := h.lt _ h.fg
end
theorem turn_set (w : World) (p : Addr) (u : Value) : Turn w (w.setCell p u) (fun i => i = p.block) :=
  ⟨rfl, rfl, rfl, by simp [World.setCell], fun i _ hn => Below.heap_setCell w p u i hn⟩

/-! ### the small functions -/
theorem isid_b (x : Int) (w : World) : Calls Try.prog 29 #[.int .i64 x] w fun e w' => e = .returned (.bool (isIdB x)) ∧ w = w' := by
  by_cases h1 : 1 ≤ x
  · by_cases h2 : x ≤ 4294967296
    · have HX : Hid (isIdB x = true) := isid_yes ⟨h1, h2⟩
      go_enter Try.func29, Try.ntmps29
      go_wp2
      go_ret
      exact ⟨by rw [HX.out]; rfl, rfl⟩
    · have HX : Hid (isIdB x = false) := isid_no (fun h => h2 h.2)
      have h3 : decide (x ≤ 4294967296) = false := by simp; omega
      clear h2
      go_enter Try.func29, Try.ntmps29
      go_wp2
      go_ret
      exact ⟨by rw [HX.out]; rfl, rfl⟩
  · have HX : Hid (isIdB x = false) := isid_no (fun h => h1 h.1)
    have h3 : x < 1 := by omega
    clear h1
    go_enter Try.func29, Try.ntmps29
    go_wp2
    go_ret
    exact ⟨by rw [HX.out]; rfl, rfl⟩
theorem istime_b (x : Int) (w : World) : Calls Try.prog 26 #[.int .i64 x] w fun e w' => e = .returned (.bool (isTimeB x)) ∧ w = w' := by
  by_cases h1 : 0 ≤ x
  · by_cases h2 : x ≤ 1099511627776
    · have HX : Hid (isTimeB x = true) := tim_yes ⟨h1, h2⟩
      go_enter Try.func26, Try.ntmps26
      go_wp2
      go_ret
      exact ⟨by rw [HX.out]; rfl, rfl⟩
    · have HX : Hid (isTimeB x = false) := tim_no (fun h => h2 h.2)
      have h3 : decide (x ≤ 1099511627776) = false := by simp; omega
      clear h2
      go_enter Try.func26, Try.ntmps26
      go_wp2
      go_ret
      exact ⟨by rw [HX.out]; rfl, rfl⟩
  · have HX : Hid (isTimeB x = false) := tim_no (fun h => h1 h.1)
    have h3 : x < 0 := by omega
    clear h1
    go_enter Try.func26, Try.ntmps26
    go_wp2
    go_ret
    exact ⟨by rw [HX.out]; rfl, rfl⟩
theorem isepoch_b (x : Int) (w : World) : Calls Try.prog 25 #[.int .i64 x] w fun e w' => e = .returned (.bool (isEpochB x)) ∧ w = w' := by
  by_cases h1 : 1 ≤ x
  · by_cases h2 : x ≤ 281474976710656
    · have HX : Hid (isEpochB x = true) := ep_yes ⟨h1, h2⟩
      go_enter Try.func25, Try.ntmps25
      go_wp2
      go_ret
      exact ⟨by rw [HX.out]; rfl, rfl⟩
    · have HX : Hid (isEpochB x = false) := ep_no (fun h => h2 h.2)
      have h3 : decide (x ≤ 281474976710656) = false := by simp; omega
      clear h2
      go_enter Try.func25, Try.ntmps25
      go_wp2
      go_ret
      exact ⟨by rw [HX.out]; rfl, rfl⟩
  · have HX : Hid (isEpochB x = false) := ep_no (fun h => h1 h.1)
    have h3 : x < 1 := by omega
    clear h1
    go_enter Try.func25, Try.ntmps25
    go_wp2
    go_ret
    exact ⟨by rw [HX.out]; rfl, rfl⟩
theorem lasts_any (g : Nat) (T si now : Int) (st m : Value) (w : World) (hb : Blk w g 52 #[.int .i64 T, st, m]) (h1 : 2 ≤ T ∧ T ≤ 1073741824) (h2 : 0 ≤ si ∧ si ≤ 1099511627776) :
    Calls Try.prog 30 #[.pointer (some ⟨g, 0, none⟩), .int .i64 si, .int .i64 now] w fun e w' => e = .returned (.bool (lastB T si now)) ∧ w = w' := by
  have c0 := hb.cell 0
  simp at c0
  obtain ⟨h11, h12⟩ := h1
  obtain ⟨h21, h22⟩ := h2
  clear hb
  by_cases h : now ≤ si + 2 * T
  · have HX : Hid (lastB T si now = true) := Lib.hid (decide_eq_true h)
    go_enter Try.func30, Try.ntmps30
    go_wp2
    go_ret
    exact ⟨by rw [HX.out]; rfl, rfl⟩
  · have HX : Hid (lastB T si now = false) := Lib.hid (decide_eq_false h)
    have h3 : decide (now ≤ si + 2 * T) = false := decide_eq_false h
    clear h
    go_enter Try.func30, Try.ntmps30
    go_wp2
    go_ret
    exact ⟨by rw [HX.out]; rfl, rfl⟩

/-! ### New -/
def BMade (T : Int) (w : World) (e : Ending) (w' : World) : Prop :=
  ∃ g F, e = .returned (.tuple #[.pointer (some ⟨g, 0, none⟩), .int .i64 0]) ∧ Bl w' w.heap.size g F T Bst.zero ∧ Below w.heap.size w w'
theorem bnew_yes (T : Int) (w : World) (h1 : 2 ≤ T) (h2 : T ≤ 1073741824) : Calls Try.prog 9 #[.int .i64 T] w (BMade T w) := by
  have hmm := @run_makeMap Try.prog
  have HF := Lib.hid (Fine.zero h1 h2)
  go_enter Try.func9, Try.ntmps9
  go_wp2
  go_ret2
  have hblk : Blk ((w.alloc (.map #[] 0)).alloc (.cells #[.int .i64 T, .pointer none, .map (some w.heap.size)] 52)) (w.heap.size + 1) 52 #[.int .i64 T, .pointer none, .map (some w.heap.size)] := by
    have := Blk.new (w.alloc (.map #[] 0)) 52 #[.int .i64 T, .pointer none, .map (some w.heap.size)]
    simpa using this
  refine ⟨w.heap.size + 1, fun i => i = w.heap.size ∨ i = w.heap.size + 1, rfl, ⟨⟨w.heap.size, .pointer none, hblk, (Mp.map_new w).kept (World.grownBy_alloc _ _ none) (by simp), .inl rfl, .inl ⟨rfl, rfl⟩⟩, .inr rfl, HF.out, ?_, ?_⟩,
    ((Below.refl _ _).alloc (Nat.le_refl _) _).alloc (by simp) _⟩
  · rintro i (rfl | rfl) <;> simp <;> omega
  · rintro i (rfl | rfl) <;> omega
theorem bnew_no (T : Int) (w : World) (h : T < 2 ∨ 1073741824 < T) : Calls Try.prog 9 #[.int .i64 T] w fun e w' => e = .returned (.tuple #[.pointer none, .int .i64 10]) ∧ w = w' := by
  by_cases h1 : T < 2
  · clear h
    go_enter Try.func9, Try.ntmps9
    go_wp2
    go_ret2
    exact ⟨rfl, rfl⟩
  · have h2 : 1073741824 < T := by omega
    have h3 : decide (T < 2) = false := by simp; omega
    clear h h1
    go_enter Try.func9, Try.ntmps9
    go_wp2
    go_ret2
    exact ⟨rfl, rfl⟩

/-! ### what is told -/
section
variable (C g : Nat) (F : Nat → Prop) (T : Int) (s : Bst) (w : World) (h : Bl w C g F T s)
include h
theorem standing_any (now : Int) : Calls Try.prog 17 #[.pointer (some ⟨g, 0, none⟩), .int .i64 now] w fun e w' => e = .returned (.tuple #[.int .i64 (if stB T s now = true then s.ep else 0), .bool (stB T s now)]) ∧ w = w' := by
  have HFT : Hid (2 ≤ T ∧ T ≤ 1073741824) := Lib.hid ⟨h.fine.t1, h.fine.t2⟩
  have HSI := Lib.hid h.fine.si
  obtain ⟨mb, st, hb, hm, hf, hs⟩ := h.ex
  have HB := Lib.hid hb
  have c1 := hb.cell 1
  simp at c1
  rcases hs with ⟨h0, rfl⟩ | ⟨h0, sb, tg, tb, rfl, h2, h3, h4, h5, h6, h7, h8⟩
  · have HX : Hid (stB T s now = false) := Lib.hid (by unfold stB; rw [h0]; rfl)
    rw [HX.out]
    clear h hb hm hf h0
    go_enter Try.func17, Try.ntmps17
    go_wp2
    go_ret2
    exact ⟨rfl, rfl⟩
  · have HX : Hid (stB T s now = lastB T s.si now) := Lib.hid (by unfold stB; rw [h0]; rfl)
    rw [HX.out]
    have d1 := h2.cell 1
    have d2 := h2.cell 2
    simp at d1 d2
    clear h hb hm hf h0 h2 h3 h4 h5 h6 h7 h8
    obtain ⟨r, HR⟩ : ∃ r, Hid (lastB T s.si now = r) := ⟨_, Lib.hid rfl⟩
    rw [HR.out]
    have HL : Hid (Calls Try.prog 30 #[.pointer (some ⟨g, 0, none⟩), .int .i64 s.si, .int .i64 now] w fun e w' => e = .returned (.bool r) ∧ w = w') := Lib.hid (by rw [← HR.out]; exact lasts_any g T s.si now _ _ w HB.out HFT.out HSI.out)
    generalize s.si = si at *
    generalize s.ep = ep at *
    cases r
    · go_enter Try.func17, Try.ntmps17
      go_wp2_with (fail)
      refine HL.out.mono ?_
      rintro e w' ⟨rfl, rfl⟩
      go_wp2
      go_ret2
      exact ⟨rfl, rfl⟩
    · go_enter Try.func17, Try.ntmps17
      go_wp2_with (fail)
      refine HL.out.mono ?_
      rintro e w' ⟨rfl, rfl⟩
      go_wp2
      go_ret2
      exact ⟨rfl, rfl⟩
/-- the voters, if it stands -/
theorem bvoters_any : Calls Try.prog 20 #[.pointer (some ⟨g, 0, none⟩)] w (Lists (if s.on = true then sorted s.vs else []) w) := by
  obtain ⟨mb, st, hb, hm, hf, hs⟩ := h.ex
  have c1 := hb.cell 1
  simp at c1
  rcases hs with ⟨h0, rfl⟩ | ⟨h0, sb, tg, tb, rfl, h2, h3, h4, h5, h6, h7, h8⟩
  · rw [h0, if_neg (by simp)]
    clear h hb hm hf h0
    go_enter Try.func20, Try.ntmps20
    go_wp2
    go_ret
    exact ⟨Below.refl _ _, none, 0, rfl, Nat.le_refl _, by omega, fun _ _ => Reads.none_⟩
  · rw [h0, if_pos rfl]
    have d0 := h2.cell 0
    simp at d0
    have HT := Lib.hid h3
    clear h hb hm hf h0 h2 h3 h4 h5 h6 h7 h8
    generalize sorted s.vs = V at *
    go_enter Try.func20, Try.ntmps20
    go_wp2_with (fail)
    refine (voters_any tg tb V s.ys w HT.out).mono ?_
    rintro e w1 ⟨hb1, A, c, rfl, h9⟩
    have H9 := Lib.hid h9
    have HB1 := Lib.hid hb1
    clear h9 hb1
    go_wp2
    go_ret
    exact ⟨HB1.out, A, c, rfl, H9.out⟩
theorem may_any (m now : Int) (hm0 : Mp.inInt m) : Calls Try.prog 18 #[.pointer (some ⟨g, 0, none⟩), .int .i64 m, .int .i64 now] w fun e w' => e = .returned (.bool (mayB T s m now)) ∧ w = w' := by
  have HFT : Hid (2 ≤ T ∧ T ≤ 1073741824) := Lib.hid ⟨h.fine.t1, h.fine.t2⟩
  obtain ⟨p, HP⟩ : ∃ p, Hid (Mp.tillB s.G m = p) := ⟨_, Lib.hid rfl⟩
  obtain ⟨q, HQ⟩ : ∃ q, Hid (Mp.hasB s.G m = q) := ⟨_, Lib.hid rfl⟩
  have HSI : Hid (0 ≤ p ∧ p ≤ 1099511627776) := Lib.hid (by
    rw [← HP.out]
    cases hq : Mp.hasB s.G m with
    | false => rw [Mp.till_no hq]; omega
    | true =>
      obtain ⟨x, h1, _, h3⟩ := Mp.till_mem hq
      rw [h3]; exact h.fine.tl x h1)
  obtain ⟨mb, st, hb, hm, hf, hs⟩ := h.ex
  have HB := Lib.hid hb
  have HM := Lib.hid hm
  have HI := Lib.hid hm0
  have c2 := hb.cell 2
  simp at c2
  have HX : Hid (mayB T s m now = (!q || !lastB T p now)) := Lib.hid (by unfold mayB; rw [HP.out, HQ.out])
  rw [HX.out]
  clear h hb hm hf hs hm0
  cases q
  · go_enter Try.func18, Try.ntmps18
    go_wp2_with (at_lookup; refine Mp.wpList_look_ok _ rfl _ _ rfl mb s.G m p false rfl rfl HM.out HI.out HP.out HQ.out ?_)
    go_ret
    exact ⟨rfl, rfl⟩
  · obtain ⟨r, HR⟩ : ∃ r, Hid (lastB T p now = r) := ⟨_, Lib.hid rfl⟩
    rw [HR.out]
    have HL : Hid (Calls Try.prog 30 #[.pointer (some ⟨g, 0, none⟩), .int .i64 p, .int .i64 now] w fun e w' => e = .returned (.bool r) ∧ w = w') := Lib.hid (by rw [← HR.out]; exact lasts_any g T p now _ _ w HB.out HFT.out HSI.out)
    go_enter Try.func18, Try.ntmps18
    go_wp2_with (at_lookup; refine Mp.wpList_look_ok _ rfl _ _ rfl mb s.G m p true rfl rfl HM.out HI.out HP.out HQ.out ?_)
    refine HL.out.mono ?_
    rintro e w' ⟨rfl, rfl⟩
    cases r <;> (go_wp2; go_ret; exact ⟨rfl, rfl⟩)
end
end Go.Proofs.Ytmjbacmaafbdlaa
