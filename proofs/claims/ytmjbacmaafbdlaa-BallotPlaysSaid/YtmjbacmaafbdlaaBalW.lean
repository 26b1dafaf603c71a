/-
  WHAT IS PROVED: contracts of a ballot's Stand, Ack, Stop and Gave. Condition: the block is a ballot.
-/
import Derived.Test.YtmjbacmaafbdlaaBal
namespace Go.Proofs.Ytmjbacmaafbdlaa
open Go.RowKit Go.Lib Go.Maps

/-- what a call hands back, and what the ballot is behind it -/
def DidB (C g : Nat) (F : Nat → Prop) (T : Int) (r : Value) (s : Bst) (w : World) (e : Ending) (w' : World) : Prop :=
  e = .returned r ∧ ∃ F', Bl w' C g F' T s ∧ Turn w w' F ∧ Subs w F F'
theorem DidB.same {w w' : World} {C g : Nat} {F : Nat → Prop} {T : Int} {s : Bst} {r : Value} (h : Bl w C g F T s) (hb : Below w.heap.size w w') : DidB C g F T r s w (.returned r) w' :=
  ⟨rfl, F, h.below hb, Turn.of_below hb F, Subs.refl _ _⟩
section
variable {w w' : World} {C g b mb : Nat} {F : Nat → Prop} {T : Int} {s : Bst} {st : Value} {vs gs : List Int}
theorem Own.no_map {B : List Mp.Bn} (h : Own w F g) (ht : Ty w g b vs gs) (hm : Mp.MapAt w mb B) : Own w (fun i => F i ∧ i ≠ mb) g := by
  obtain ⟨A, n, c, m, h1, h2⟩ := h
  obtain ⟨A', n', c', h3, h4, _⟩ := ht.row
  have he : (#[Value.slice A n c, m] : Array Value) = #[.slice A' n' c', .map (some b)] := by
    unfold Blk at h1 h3
    rw [h1] at h3
    injection h3 with h3
    injection h3
  have he2 : A = A' ∧ n = n' := by simp at he; exact ⟨he.1.1, he.1.2.1⟩
  obtain ⟨rfl, rfl⟩ := he2
  refine ⟨A, n, c, m, h1, fun ad e hn => ⟨h2 ad e hn, fun hb => ?_⟩⟩
  obtain ⟨ad', e', hlt, _, hc⟩ := h4.2 hn
  rw [e] at e'
  cases e'
  have hl : 0 < (zints vs).length := by rw [h4.1]; exact hn
  have h0 := hc 0 (zints vs)[0] (List.getElem?_eq_getElem hl)
  obtain ⟨D, ⟨es, clock, hh, _⟩, _⟩ := hm
  unfold World.cell? at h0
  rw [block_of_add, hb, hh] at h0
  simp at h0
/-- the map of what was given is written: a stand stays -/
theorem Std.map (h : Std w F mb st s) (hm : Mp.MapAt w mb s.G) (k : Turn w w' (fun i => i = mb)) (G' : List Mp.Bn) : Std w' F mb st { s with G := G' } := by
  rcases h with ⟨h0, h1⟩ | ⟨h0, sb, tg, tb, h1, h2, h3, h4, h5, h6, h7, h8⟩
  · exact .inl ⟨h0, h1⟩
  · have h9 := h4.no_map h3 hm
    have t1 : tg ≠ mb := by obtain ⟨A, n, c, m, h, _⟩ := h4; exact Mp.blk_map_ne h hm
    exact .inr ⟨h0, sb, tg, tb, h1, h2.turn k (Mp.blk_map_ne h2 hm), h3.turn h9 k (fun i hi e => hi.2 e) t1 h8, h4.turn k t1, h5, h6, h7, h8⟩
theorem map_congr {B B' : List Mp.Bn} (h : Mp.MapAt w b B) (h1 : ∀ p ∈ B', p ∈ B) (h2 : ∀ x, Mp.hasB B' x = Mp.hasB B x) (h3 : B'.length = B.length) : Mp.MapAt w b B' := by
  obtain ⟨D, h, r⟩ := h
  exact ⟨D, by rw [h3]; exact h, fun p hp z => r.at_ p (h1 p hp) z, fun x hx => by rw [h2, r.has_ x hx], by rw [h3, r.size]⟩
theorem map_putG {B : List Mp.Bn} {q : Mp.Bn} (h : Mp.MapAt w b (Mp.putB B q)) (hu : Mp.UpB B) : Mp.MapAt w b (putG B q) :=
  map_congr h (fun p hp => Mp.mem_putB.2 ((mem_putG hu).1 hp)) (fun x => putG_has hu x) (by rw [putG_len, Mp.len_putB hu])
/-- the pointer to a stand is written -/
theorem Bl.stopped (h : Bl w C g F T s) : Bl (w.setCell ⟨g, 1, none⟩ (.pointer none)) C g F T (stopS s) := by
  obtain ⟨mb, st, h1, h2, h3, h4⟩ := h.ex
  have k := turn_set w ⟨g, 1, none⟩ (.pointer none)
  have hne := Mp.blk_map_ne h1 h2
  exact ⟨⟨mb, .pointer none, h1.set_ 1 _, map_turn h2 k (fun e => hne e.symm), h3, .inl ⟨rfl, rfl⟩⟩, h.fg, h.fine.stop, fun i hi => Nat.lt_of_lt_of_le (h.lt i hi) k.size, h.lo⟩
end

section
variable (C g : Nat) (F : Nat → Prop) (T : Int) (s : Bst) (w : World) (h : Bl w C g F T s)
include h
theorem stop_any : Calls Try.prog 14 #[.pointer (some ⟨g, 0, none⟩)] w (DidB C g F T (.tuple #[]) (stopS s) w) := by
  have HH := Lib.hid h
  obtain ⟨mb, st, hb, hm, hf, hs⟩ := h.ex
  have c1 := hb.cell 1
  have f1 := hb.frozen 1
  simp at c1
  clear h hb hm hf hs
  go_enter Try.func14, Try.ntmps14
  go_wp2
  go_end0
  have k := turn_set w ⟨g, 1, none⟩ (.pointer none)
  exact ⟨rfl, F, HH.out.stopped, ⟨k.os, k.tape, k.output, k.size, fun i hi hn => k.block i hi (fun e => hn (by rw [e]; exact HH.out.fg))⟩, Subs.refl _ _⟩
set_option maxHeartbeats 1000000 in
theorem gave_any (m now : Int) (hm0 : Mp.inInt m) (hlen : s.G.length < 1000000) : Calls Try.prog 16 #[.pointer (some ⟨g, 0, none⟩), .int .i64 m, .int .i64 now] w (DidB C g F T (.int .i64 (gaveE m now)) (gaveS s m now) w) := by
  have HH := Lib.hid h
  have HI := Lib.hid hm0
  have HN := Lib.hid hlen
  obtain ⟨mb, st, hb, hm, hf, hs⟩ := h.ex
  have HB := Lib.hid hb
  have HM := Lib.hid hm
  have HF := Lib.hid hf
  have HS := Lib.hid hs
  have c2 := hb.cell 2
  simp at c2
  obtain ⟨b1, HB1⟩ : ∃ q, Hid (isIdB m = q) := ⟨_, Lib.hid rfl⟩
  obtain ⟨b2, HB2⟩ : ∃ q, Hid (isTimeB now = q) := ⟨_, Lib.hid rfl⟩
  have HO : Hid (gaveOk m now = (b1 && b2)) := Lib.hid (by unfold gaveOk; rw [HB1.out, HB2.out])
  clear h hb hm hf hs hm0 hlen
  cases b1
  · have HE : Hid (gaveE m now = 10 ∧ gaveS s m now = s) := Lib.hid (by unfold gaveE gaveS; rw [HO.out]; exact ⟨rfl, rfl⟩)
    rw [HE.out.1, HE.out.2]
    go_enter Try.func16, Try.ntmps16
    go_wp2_with (fail)
    refine (isid_b m _).mono ?_
    rintro e w1 ⟨rfl, rfl⟩
    rw [HB1.out]
    go_wp2
    go_ret
    exact DidB.same HH.out (Below.refl _ _)
  · cases b2
    · have HE : Hid (gaveE m now = 10 ∧ gaveS s m now = s) := Lib.hid (by unfold gaveE gaveS; rw [HO.out]; exact ⟨rfl, rfl⟩)
      rw [HE.out.1, HE.out.2]
      go_enter Try.func16, Try.ntmps16
      go_wp2_with (fail)
      refine (isid_b m _).mono ?_
      rintro e w1 ⟨rfl, rfl⟩
      rw [HB1.out]
      go_wp2_with (fail)
      refine (istime_b now _).mono ?_
      rintro e w1 ⟨rfl, rfl⟩
      rw [HB2.out]
      go_wp2
      go_ret
      exact DidB.same HH.out (Below.refl _ _)
    · have HFN := Lib.hid (HH.out.fine.gave m now)
      have HE : Hid (gaveE m now = 0 ∧ gaveS s m now = { s with G := putG s.G ⟨m, now⟩ }) := Lib.hid (by unfold gaveE gaveS; rw [HO.out]; exact ⟨rfl, rfl⟩)
      rw [HE.out.2] at HFN
      rw [HE.out.1, HE.out.2]
      have HU := Lib.hid HH.out.fine.up
      go_enter Try.func16, Try.ntmps16
      go_wp2_with (fail)
      refine (isid_b m _).mono ?_
      rintro e w1 ⟨rfl, rfl⟩
      rw [HB1.out]
      go_wp2_with (fail)
      refine (istime_b now _).mono ?_
      rintro e w1 ⟨rfl, rfl⟩
      rw [HB2.out]
      go_wp2_with (at_mapUpdate; refine Mp.wpList_update_map _ rfl _ _ _ rfl mb s.G ⟨m, now⟩ rfl rfl rfl HM.out HU.out HN.out HI.out ?_; intro w3 hm3 hg3)
      go_ret
      have k : Turn w w3 (fun i => i = mb) := Turn.of_grown hg3 (fun k e => by injection e with e; exact e.symm)
      have hne := Mp.blk_map_ne HB.out HM.out
      refine ⟨rfl, F, ⟨⟨mb, st, HB.out.turn k hne, map_putG hm3 HU.out, HF.out, HS.out.map HM.out k _⟩, HH.out.fg, HFN.out, fun i hi => Nat.lt_of_lt_of_le (HH.out.lt i hi) k.size, HH.out.lo⟩, ?_, Subs.refl _ _⟩
      exact ⟨k.os, k.tape, k.output, k.size, fun i hi hn => k.block i hi (fun e => hn (by rw [e]; exact HF.out))⟩
end

/-- what the new stand comes to -/
theorem Bl.stood {w w1 : World} {C g tg tb : Nat} {F : Nat → Prop} {T : Int} {s : Bst} {vs : List Int} {ep now : Int} (h : Bl w C g F T s) (hb : Below w.heap.size w w1) (ht : Ty w1 tg tb (sorted vs) []) (hg : w.heap.size ≤ tg) (hbb : w.heap.size ≤ tb) (hfar : Far w1 tg w.heap.size) (hfine : Fine T ⟨true, ep, now, vs, [], s.G⟩) :
    ∃ F', Bl ((w1.alloc (.cells #[.pointer (some ⟨tg, 0, none⟩), .int .i64 ep, .int .i64 now] 59)).setCell ⟨g, 1, none⟩ (.pointer (some ⟨w1.heap.size, 0, none⟩))) C g F' T ⟨true, ep, now, vs, [], s.G⟩ ∧
      Turn w ((w1.alloc (.cells #[.pointer (some ⟨tg, 0, none⟩), .int .i64 ep, .int .i64 now] 59)).setCell ⟨g, 1, none⟩ (.pointer (some ⟨w1.heap.size, 0, none⟩))) F ∧ Subs w F F' := by
  have hs := hb.size
  have hgl := h.glt
  have hcle := h.cle
  have hb2 : Below w.heap.size w (w1.alloc (.cells #[.pointer (some ⟨tg, 0, none⟩), .int .i64 ep, .int .i64 now] 59)) := hb.alloc hs _
  have k := turn_set (w1.alloc (.cells #[.pointer (some ⟨tg, 0, none⟩), .int .i64 ep, .int .i64 now] 59)) ⟨g, 1, none⟩ (.pointer (some ⟨w1.heap.size, 0, none⟩))
  have hst : Blk (w1.alloc (.cells #[.pointer (some ⟨tg, 0, none⟩), .int .i64 ep, .int .i64 now] 59)) w1.heap.size 59 #[.pointer (some ⟨tg, 0, none⟩), .int .i64 ep, .int .i64 now] := Blk.new _ _ _
  have ho : Own w1 (fun i => w.heap.size ≤ i ∧ i < w1.heap.size) tg := Own.of_far hfar ht (fun i h1 h2 => ⟨h1, h2⟩)
  have ha : Below w1.heap.size w1 (w1.alloc (.cells #[.pointer (some ⟨tg, 0, none⟩), .int .i64 ep, .int .i64 now] 59)) := (Below.refl _ _).alloc (Nat.le_refl _) _
  have hsz : (w1.alloc (.cells #[.pointer (some ⟨tg, 0, none⟩), .int .i64 ep, .int .i64 now] 59)).heap.size = w1.heap.size + 1 := by simp
  have htl := ht.lt
  have hsl := ht.set.lt
  have ht2 := ht.below ha
  have ho2 := ho.turn (Turn.of_below ha no) (fun f => f.elim)
  have h2 := h.below hb2
  generalize (w1.alloc (.cells #[.pointer (some ⟨tg, 0, none⟩), .int .i64 ep, .int .i64 now] 59)) = w2 at *
  obtain ⟨mb, st, e1, e2, e3, e4⟩ := h2.ex
  have hne := Mp.blk_map_ne e1 e2
  have hml := h.lt mb e3
  refine ⟨fun i => F i ∨ (w.heap.size ≤ i ∧ i < w1.heap.size + 1), ⟨⟨mb, _, e1.set_ 1 _, map_turn e2 k (fun e => hne e.symm), .inl e3, .inr ⟨rfl, w1.heap.size, tg, tb, rfl, ?_, ?_, ?_, .inr (by omega), .inr (by omega), .inr (by omega), by omega⟩⟩, .inl h.fg, hfine, ?_, ?_⟩, ?_, ?_⟩
  · exact hst.turn k (by show ¬ w1.heap.size = g; omega)
  · exact ht2.turn ho2 k (fun i hi e => by have : i = g := e; omega) (by show ¬ tg = g; omega) (by show ¬ tb = g; omega)
  · exact (ho2.turn k (by show ¬ tg = g; omega)).weak (fun i hi => .inr (by omega))
  · have hk := k.size
    rintro i (hi | hi)
    · have := h.lt i hi; omega
    · omega
  · rintro i (hi | hi)
    · exact h.lo i hi
    · omega
  · have := (Turn.of_below hb2 F).trans k (fun i _ e => by have : i = g := e; rw [this]; exact h.fg)
    exact this
  · rintro i hi (h1 | h1)
    · exact h1
    · omega

/-! ### Stand -/
section
variable (C g : Nat) (F : Nat → Prop) (T : Int) (s : Bst) (w : World) (h : Bl w C g F T s)
include h
theorem stand_no (ep : Int) (A : Option Addr) (n c : Nat) (vs : List Int) (now : Int) (hnc : n ≤ c) (hc : c ≤ 9223372036854775807) (hr : Reads w w.heap.size A n (zints vs)) (h0 : rightB vs = false) :
    Calls Try.prog 11 #[.pointer (some ⟨g, 0, none⟩), .int .i64 ep, .slice A n c, .int .i64 now] w (DidB C g F T (.int .i64 (standE T s ep vs now)) (standS T s ep vs now) w) := by
  have HH := Lib.hid h
  have HE : Hid (standE T s ep vs now = 10 ∧ standS T s ep vs now = s) := Lib.hid (by unfold standE standS fineB; rw [h0]; exact ⟨rfl, rfl⟩)
  have HR := Lib.hid h0
  rw [HE.out.1, HE.out.2]
  clear h h0
  go_enter Try.func11, Try.ntmps11
  go_wp2_with (fail)
  refine (new_no A n c vs _ _ hnc hc hr HR).mono ?_
  rintro e w1 ⟨rfl, rfl⟩
  go_wp2
  go_ret
  exact DidB.same HH.out (Below.refl _ _)
set_option maxHeartbeats 2000000 in
theorem stand_yes (ep : Int) (A : Option Addr) (n c : Nat) (vs : List Int) (now : Int) (hnc : n ≤ c) (hc : c ≤ 9223372036854775807) (hr : Reads w w.heap.size A n (zints vs)) (h0 : rightB vs = true) :
    Calls Try.prog 11 #[.pointer (some ⟨g, 0, none⟩), .int .i64 ep, .slice A n c, .int .i64 now] w (DidB C g F T (.int .i64 (standE T s ep vs now)) (standS T s ep vs now) w) := by
  have HH := Lib.hid h
  have HR := Lib.hid h0
  have HFS := Lib.hid (h.fine.stand ep vs now)
  obtain ⟨b1, HB1⟩ : ∃ q, Hid (isEpochB ep = q) := ⟨_, Lib.hid rfl⟩
  obtain ⟨b2, HB2⟩ : ∃ q, Hid (isTimeB now = q) := ⟨_, Lib.hid rfl⟩
  obtain ⟨b3, HB3⟩ : ∃ q, Hid (stB T s now = q) := ⟨_, Lib.hid rfl⟩
  have HFB : Hid (fineB ep vs now = (b1 && b2)) := Lib.hid (by unfold fineB; rw [h0, HB1.out, HB2.out]; rfl)
  clear h h0
  cases b1
  · have HE : Hid (standE T s ep vs now = 10 ∧ standS T s ep vs now = s) := Lib.hid (by unfold standE standS; rw [HFB.out]; exact ⟨rfl, rfl⟩)
    rw [HE.out.1, HE.out.2]
    go_enter Try.func11, Try.ntmps11
    go_wp2_with (fail)
    refine (new_yes A n c vs _ _ hnc hc hr HR).mono ?_
    rintro e w1 ⟨tg, tb, rfl, ht, hb1, hg, hb, hfar⟩
    go_wp2_with (fail)
    refine (isepoch_b ep _).mono ?_
    rintro e w2 ⟨rfl, rfl⟩
    rw [HB1.out]
    go_wp2
    go_ret
    exact DidB.same HH.out hb1
  · cases b2
    · have HE : Hid (standE T s ep vs now = 10 ∧ standS T s ep vs now = s) := Lib.hid (by unfold standE standS; rw [HFB.out]; exact ⟨rfl, rfl⟩)
      rw [HE.out.1, HE.out.2]
      go_enter Try.func11, Try.ntmps11
      go_wp2_with (fail)
      refine (new_yes A n c vs _ _ hnc hc hr HR).mono ?_
      rintro e w1 ⟨tg, tb, rfl, ht, hb1, hg, hb, hfar⟩
      go_wp2_with (fail)
      refine (isepoch_b ep _).mono ?_
      rintro e w2 ⟨rfl, rfl⟩
      rw [HB1.out]
      go_wp2_with (fail)
      refine (istime_b now _).mono ?_
      rintro e w2 ⟨rfl, rfl⟩
      rw [HB2.out]
      go_wp2
      go_ret
      exact DidB.same HH.out hb1
    · cases b3
      · have HE : Hid (standE T s ep vs now = 0 ∧ standS T s ep vs now = ⟨true, ep, now, vs, [], s.G⟩) := Lib.hid (by unfold standE standS; rw [HFB.out, HB3.out]; exact ⟨rfl, rfl⟩)
        rw [HE.out.2] at HFS
        rw [HE.out.1, HE.out.2]
        go_enter Try.func11, Try.ntmps11
        go_wp2_with (fail)
        refine (new_yes A n c vs _ _ hnc hc hr HR).mono ?_
        rintro e w1 ⟨tg, tb, rfl, ht, hb1, hg, hb, hfar⟩
        have HX := Lib.hid (HH.out.stood hb1 ht hg hb hfar HFS.out)
        have H1 := Lib.hid (HH.out.below hb1)
        clear ht hb1 hg hb hfar
        go_wp2_with (fail)
        refine (isepoch_b ep _).mono ?_
        rintro e w2 ⟨rfl, rfl⟩
        rw [HB1.out]
        go_wp2_with (fail)
        refine (istime_b now _).mono ?_
        rintro e w2 ⟨rfl, rfl⟩
        rw [HB2.out]
        go_wp2_with (fail)
        refine (standing_any C g F T s _ H1.out now).mono ?_
        rw [HB3.out]
        rintro e w2 ⟨rfl, rfl⟩
        obtain ⟨mb, st, hbk, _⟩ := H1.out.ex
        have c1 := hbk.cell 1
        have f1 : ∀ o, (w1.alloc o).frozen? ⟨g, 1, none⟩ = false := fun o => (hbk.alloc o).frozen 1
        have c1a : ∀ o, (w1.alloc o).cell? ⟨g, 1, none⟩ = some st := fun o => by have := (hbk.alloc o).cell 1; simpa using this
        simp at c1
        clear hbk
        go_wp2
        go_ret
        exact ⟨rfl, HX.out⟩
      · have HE : Hid (standE T s ep vs now = 21 ∧ standS T s ep vs now = s) := Lib.hid (by unfold standE standS; rw [HFB.out, HB3.out]; exact ⟨rfl, rfl⟩)
        rw [HE.out.1, HE.out.2]
        go_enter Try.func11, Try.ntmps11
        go_wp2_with (fail)
        refine (new_yes A n c vs _ _ hnc hc hr HR).mono ?_
        rintro e w1 ⟨tg, tb, rfl, ht, hb1, hg, hb, hfar⟩
        have H1 := Lib.hid (HH.out.below hb1)
        go_wp2_with (fail)
        refine (isepoch_b ep _).mono ?_
        rintro e w2 ⟨rfl, rfl⟩
        rw [HB1.out]
        go_wp2_with (fail)
        refine (istime_b now _).mono ?_
        rintro e w2 ⟨rfl, rfl⟩
        rw [HB2.out]
        go_wp2_with (fail)
        refine (standing_any C g F T s _ H1.out now).mono ?_
        rw [HB3.out]
        rintro e w2 ⟨rfl, rfl⟩
        go_wp2
        go_ret
        exact DidB.same HH.out hb1
theorem stand_any (ep : Int) (A : Option Addr) (n c : Nat) (vs : List Int) (now : Int) (hnc : n ≤ c) (hc : c ≤ 9223372036854775807) (hr : Reads w w.heap.size A n (zints vs)) :
    Calls Try.prog 11 #[.pointer (some ⟨g, 0, none⟩), .int .i64 ep, .slice A n c, .int .i64 now] w (DidB C g F T (.int .i64 (standE T s ep vs now)) (standS T s ep vs now) w) := by
  cases h0 : rightB vs with
  | true => exact stand_yes C g F T s w h ep A n c vs now hnc hc hr h0
  | false => exact stand_no C g F T s w h ep A n c vs now hnc hc hr h0
end
end Go.Proofs.Ytmjbacmaafbdlaa
