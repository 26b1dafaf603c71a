/-
  WHAT IS PROVED: variables that hold no bytes lie apart from a disk's files; the contract of a node's Do, for a command whose own contract is known. Conditions: each states its own.
-/
import Derived.Test.YteoodompphhkbaaGreatDoorZOCa
import Derived.Test.YteoodompphhkbaaGreatDoorZND
namespace Go.Proofs.YteoodompphhkbaaGreatDoor.Nod
set_option maxRecDepth 100000
open Go.RowKit Go.Lib Go.Maps
open Go.Proofs.YteoodompphhkbaaGreatDoor.Ros (Turn Sub Rd Blk no zints)

section
variable {w w' : World} {C g d e r B : Nat} {N U Q : Nat → Prop} {T : TypeId} {cs : Array Value} {n : Nd} {D : K.Dsk.Ds}
theorem blk_cell {a : Addr} {v : Value} (hb : Blk w r T cs) (h : w.cell? a = some v) (e : a.block = r) : ∃ i : Nat, cs[i]? = some v := by
  unfold World.cell? at h
  rw [e, hb] at h
  simp only at h
  split at h
  · cases h
  · exact ⟨_, h⟩
/-- a variable that holds no bytes lies apart from a disk's files -/
theorem Dk_more (h : K.Dsk.Dk w d e U D) (hb : Blk w r T cs) (hno : ∀ (i : Nat) (z : Int), cs[i]? ≠ some (.int .u8 z)) (hd : r ≠ d) (he : r ≠ e) : K.Dsk.Dk w d e (fun i => U i ∨ i = r) D := by
  refine ⟨h.blk, ?_, fun i hi => ?_, ⟨fun f => ?_, fun f => ?_⟩, h.good, h.left⟩
  · obtain ⟨Dm, ho, ha⟩ := h.map
    refine ⟨Dm, ho, ⟨fun f hf => ?_, ha.has_, ha.size⟩⟩
    obtain ⟨v, h1, A, k, c, e1, e2, e3, e4, hr⟩ := ha.at_ f hf
    refine ⟨v, h1, A, k, c, e1, e2, e3, e4, hr.1, fun hn => ?_⟩
    obtain ⟨ad, a1, a2, a3, a4⟩ := hr.2 hn
    refine ⟨ad, a1, a2, fun q => ?_, a4⟩
    rcases q with q | q | q
    · exact a3 (.inl q)
    · exact a3 (.inr q)
    · cases hl : f.b with
      | nil => rw [hl] at e2; simp at e2; omega
      | cons x xs =>
        have := a4 0 (.int .u8 (x.toNat : Int)) (by rw [hl]; rfl)
        obtain ⟨i, hi⟩ := blk_cell hb this (by unfold Addr.add; exact q)
        exact hno i _ hi
  · rcases hi with hi | hi
    · exact h.ult i hi
    · rw [hi]; exact hb.lt
  · rcases f with f | f
    · exact h.ap.1 f
    · exact hd f.symm
  · rcases f with f | f
    · exact h.ap.2 f
    · exact he f.symm
/-- such a variable is stored: a node on its disk stays -/
theorem Sys.var (h : Sys w C g N d e n D) (hb : Blk w r T cs) (hno : ∀ (i : Nat) (z : Int), cs[i]? ≠ some (.int .u8 z)) (hr : ¬ N r) (hC : C ≤ r) (hd : r ≠ d) (he : r ≠ e) (cs' : Array Value) : Sys (w.setRow r cs') C g N d e n D :=
  Sys.fin h.nd (Dk_more h.dk hb hno hd he) h.env h.dlo hr hC cs'
theorem AnAt.less {B' : Nat} {Q' : Nat → Prop} {v : Value} {a : An} (h : AnAt w B N Q v a) (hB : B' ≤ B) (hQ : ∀ k, Q k → Q' k) : AnAt w B' N Q' v a := by
  obtain ⟨vo, ve, So, Se, h1, h2, h3, h4, h5, h6, h7⟩ := h
  exact ⟨vo, ve, So, Se, h1, h2, h3, ⟨h4.1, fun i S x a b => (h4.2 i S x a b).move hB (fun _ _ _ _ => rfl) (Nat.le_refl _) (fun _ _ h => h)⟩, ⟨h5.1, fun i S x a b => (h5.2 i S x a b).move hB (fun _ _ _ _ => rfl) (Nat.le_refl _) (fun _ _ h => h)⟩, fun k hk => ⟨(h6 k hk).1, hQ k (h6 k hk).2⟩, fun k hk => ⟨(h7 k hk).1, hQ k (h7 k hk).2⟩⟩
theorem AnAt.far {v : Value} {a : An} (h : AnAt w B N Q v a) (kt : Turn w w' (fun i => i = r)) (hr : r < B) (hq : ¬ Q r) : AnAt w' B N Q v a := by
  obtain ⟨vo, ve, So, Se, h1, h2, h3, h4, h5, h6, h7⟩ := h
  have hp : ∀ i, B ≤ i → i < w.heap.size → ¬ N i → w'.heap[i]? = w.heap[i]? := fun i h1 h2 _ => kt.block i h2 (fun f => by omega)
  exact ⟨vo, ve, So, Se, h1, Ros.own_turn h2 kt (fun k hk f => hq (f ▸ (h6 k hk).2)), Ros.own_turn h3 kt (fun k hk f => hq (f ▸ (h7 k hk).2)), ⟨h4.1, fun i S x a b => (h4.2 i S x a b).move (Nat.le_refl _) hp kt.size (fun _ _ h => h)⟩, ⟨h5.1, fun i S x a b => (h5.2 i S x a b).move (Nat.le_refl _) hp kt.size (fun _ _ h => h)⟩, h6, h7⟩
end
theorem an_nobytes (e : Int) : ∀ (i : Nat) (z : Int), (#[.int .i64 e, .slice none 0 0, .slice none 0 0] : Array Value)[i]? ≠ some (.int .u8 z) := by
  intro i z h
  match i, h with
  | 0, h => simp at h
  | 1, h => simp at h
  | 2, h => simp at h
  | i + 3, h => simp at h
theorem cmd_info : (Tryz.prog.info? 33).map (·.size) = some 3 := by kernel_rfl

set_option maxHeartbeats 4000000 in
theorem do_any (C g d e : Nat) (F : Nat → Prop) (n : Nd) (D : K.Dsk.Ds) (c : Cmd) (now : Int) (w : World) (h : Sys w C g F d e n D) (hl : D.fs.length < 1000)
    (hc : n.stop = false → isNow now = true → ∀ w' t U, TnAt w' C t g U d ⟨n.at_ now, [], []⟩ →
      Calls Tryz.prog 34 #[.pointer (some ⟨t, 0, none⟩), .agg #[.int .i64 c.k, .int .i64 c.x, .int .u64 (c.s : Int)]] w' fun o w'' => o = .returned (.int .i64 (Tn.obeyE ⟨n.at_ now, [], []⟩ c)) ∧ ThenT w' w'' C t g U d (Tn.obey ⟨n.at_ now, [], []⟩ c)) :
    Calls Tryz.prog 15 #[.pointer (some ⟨g, 0, none⟩), .agg #[.int .i64 c.k, .int .i64 c.x, .int .u64 (c.s : Int)], .int .i64 now] w (CallP w C g F d e (doW n D c now)) := by
  have hmf : ∀ (fn : Fn) (first cap : Array Value) (w : World), (Instr.makeFunc fn first cap).run Tryz.prog w = .ok (.func fn first cap) w := fun _ _ _ _ => rfl
  obtain ⟨w1, hw1⟩ : ∃ w1, w.alloc (.cells #[.int .i64 c.k, .int .i64 c.x, .int .u64 (c.s : Int)] 33) = w1 := ⟨_, rfl⟩
  obtain ⟨w2, hw2⟩ : ∃ w2, w1.alloc (.cells #[.int .i64 0, .slice none 0 0, .slice none 0 0] 55) = w2 := ⟨_, rfl⟩
  have hb1 : Below w.heap.size w w1 := by rw [← hw1]; exact (Below.refl _ w).alloc (Nat.le_refl _) _
  have hb2 : Below w.heap.size w w2 := by rw [← hw2]; exact hb1.alloc hb1.size _
  have hs1 : w1.heap.size = w.heap.size + 1 := by rw [← hw1]; simp
  have hs2 : w2.heap.size = w.heap.size + 2 := by rw [← hw2]; simp [hs1]
  have HCB : Hid (Blk w2 w.heap.size 33 #[.int .i64 c.k, .int .i64 c.x, .int .u64 (c.s : Int)]) := Lib.hid (by rw [← hw2, ← hw1]; exact (Blk.new w _ _).alloc _)
  have HR2 : Hid (Blk w2 w1.heap.size 55 #[.int .i64 0, .slice none 0 0, .slice none 0 0]) := Lib.hid (by rw [← hw2]; exact Blk.new w1 _ _)
  have HZ1 := Lib.hid hs1
  have HB2 := Lib.hid hb2
  have HZ2 := Lib.hid hs2
  have H0 := Lib.hid h
  have hflt : ∀ i, F i → i < w.heap.size := h.nd.lt
  have HC2 : Hid (Calls Tryz.prog 28 #[.pointer (some ⟨g, 0, none⟩), .int .i64 now, .func (.func 33) #[] #[.pointer (some ⟨w.heap.size, 0, none⟩)]] w2 (CallP w2 C g F d e (doW n D c now))) := Lib.hid (by
    refine call_do C g d e F n D now w.heap.size (fun t => t.obeyE c) (fun t => t.obey c) w2 (h.below hb2) hl ?_
    intro h1 h2 w3 t kt ht hT
    have hcb := HCB.out.turn kt (fun f => by have := hflt _ f; omega)
    have hT2 := Lib.hid hT
    have HCB3 := Lib.hid hcb
    have HOB := Lib.hid (hc h1 h2 w3 t _ hT)
    clear hc h hcb hT kt hb1 hb2 hs1 hs2
    go_enter Tryz.func33, Tryz.ntmps33
    go_wp2_with (refine row_load rfl HCB3.out Tryz.underlying33 rfl cmd_info rfl ?_)
    refine HOB.out.mono ?_
    rintro o w4 ⟨rfl, ht4⟩
    have HT4 := Lib.hid ht4
    clear ht4
    go_wp2
    go_ret
    exact ⟨rfl, HT4.out⟩)
  have HCL := Lib.hid h.nd.cle
  have HDT := Lib.hid h.dk.lt
  have HFL := Lib.hid hflt
  clear h hl hc hb1 hb2 hs1 hs2 hflt
  go_enter Tryz.func15, Tryz.ntmps15
  go_wp2_with (fail)
  clear hw1 hw2
  refine HC2.out.mono ?_
  rintro o w3 ⟨v, F', rfl, ha, hs3, kt, hsub⟩
  have ha2 := ha
  obtain ⟨vo, ve, So, Se, hv, ho1, ho2, _⟩ := ha2
  have o1 : vo.oneCell' = true := by obtain ⟨A, c, rfl, _⟩ := Ros.own_form ho1; rfl
  have o2 : ve.oneCell' = true := by obtain ⟨A, c, rfl, _⟩ := Ros.own_form ho2; rfl
  subst hv
  have hrf : ¬ F w1.heap.size := fun f => by have := HFL.out _ f; have := HZ1.out; omega
  have hr3 := HR2.out.turn kt (fun f => by
    rcases f with f | f | f
    · exact hrf f
    · have := HDT.out.1; have := HZ1.out; omega
    · have := HDT.out.2; have := HZ1.out; omega)
  obtain ⟨E, HE⟩ : ∃ E, Hid ((doW n D c now).1.e = E) := ⟨_, Lib.hid rfl⟩
  have HON : Hid ((#[.int .i64 E, vo, ve] : Array Value).all (fun v => v.oneCell') = true) := Lib.hid (by rw [← Array.all_toList]; simp only [List.all_cons, List.all_nil, o1, o2]; rfl)
  have HR3 := Lib.hid hr3
  have HA3 := Lib.hid ha
  have HS3 := Lib.hid hs3
  have KT3 := Lib.hid kt
  have HSU := Lib.hid hsub
  have HRF := Lib.hid hrf
  rw [HE.out]
  clear ha hs3 kt hsub hrf hr3 ho1 ho2 o1 o2
  go_wp2_with (first | (refine row_store rfl HR3.out rfl an_info rfl HON.out rfl ?_))
  refine bodyPost_ret (results_cell_row rfl _ _ w1.heap.size 55 #[.int .i64 E, vo, ve] (0, 0) _ rfl (blk_row HR3.out _) Tryz.underlying55 rfl an_info) rfl ⟨_, F', rfl, ?_, ?_, ?_, ?_⟩
  · have h1 := HA3.out
    rw [HE.out] at h1
    exact (h1.far (turn_row w3 w1.heap.size _ _ rfl) (by have := HZ1.out; have := HZ2.out; omega) (fun f => by
      rcases f with f | f
      · exact HRF.out f
      · have := HZ1.out; have := HZ2.out; omega)).less HB2.out.size (fun k hk => by
      rcases hk with hk | hk
      · exact .inl hk
      · exact .inr (Nat.le_trans HB2.out.size hk))
  · exact HS3.out.var HR3.out (an_nobytes 0) (fun f => HRF.out (HSU.out _ (by have := HZ1.out; have := HZ2.out; omega) f)) (by have := HCL.out; have := HZ1.out; omega) (by have := HDT.out.1; have := HZ1.out; omega) (by have := HDT.out.2; have := HZ1.out; omega) _
  · exact ((Turn.of_below HB2.out _).trans KT3.out (Sub.refl _ _)).trans (turn_row w3 w1.heap.size _ (fun i => i = w1.heap.size) rfl) (fun i hi f => by have := HZ1.out; omega)
  · exact fun i hi f => HSU.out i (Nat.lt_of_lt_of_le hi HB2.out.size) f
end Go.Proofs.YteoodompphhkbaaGreatDoor.Nod
