/-
  WHAT IS PROVED: the contract of the document's gave. Condition: the block is the document's ballot.
-/
import Derived.Test.YtmjbacmaafbdlaaTack
namespace Go.Proofs.Ytmjbacmaafbdlaa
open Go.RowKit Go.Lib Go.Maps

theorem putG_found : ∀ {G : List Mp.Bn} {k : Nat} {b q : Mp.Bn}, G[k]? = some b → b.id = q.id → (∀ y ∈ (G.take k).map (·.id), y ≠ q.id) → putG G q = G.set k q
  | [], k, b, q, h, _, _ => by simp at h
  | c :: G, 0, b, q, h, e, _ => by
    simp at h; subst h
    unfold putG; rw [if_pos e]; rfl
  | c :: G, k + 1, b, q, h, e, hn => by
    have hc : c.id ≠ q.id := hn c.id (by simp)
    unfold putG
    rw [if_neg hc, putG_found (G := G) (k := k) (b := b) (by simpa using h) e (fun y hy => hn y (by rw [List.take_succ_cons, List.map_cons]; exact List.mem_cons_of_mem _ hy))]
    rfl
theorem putG_new : ∀ {G : List Mp.Bn} {q : Mp.Bn}, (∀ y ∈ G.map (·.id), y ≠ q.id) → putG G q = G ++ [q]
  | [], _, _ => rfl
  | c :: G, q, hn => by
    have hc : c.id ≠ q.id := hn c.id (by simp)
    unfold putG
    rw [if_neg hc, putG_new (G := G) (fun y hy => hn y (List.mem_cons_of_mem _ hy))]
    rfl
theorem set_id {G : List Mp.Bn} {k : Nat} {b q : Mp.Bn} (h : G[k]? = some b) (e : b.id = q.id) : (G.set k q).map (·.id) = G.map (·.id) := by
  rw [List.map_set, ← e]
  have hlt := (List.getElem?_eq_some_iff.1 h).1
  have hb := (List.getElem?_eq_some_iff.1 h).2
  refine List.ext_getElem? fun i => ?_
  rw [List.getElem?_set]
  split
  · rename_i hi
    subst hi
    rw [if_pos (by rw [List.length_map]; exact hlt), List.getElem?_map, h]; rfl
  · rfl
theorem set_till {G : List Mp.Bn} {k : Nat} {q : Mp.Bn} : (G.set k q).map (·.till) = (G.map (·.till)).set k q.till := List.map_set ..
theorem zints_set (l : List Int) (k : Nat) (z : Int) : zints (l.set k z) = (zints l).set k (.int .i64 z) := by unfold zints; rw [List.map_set]
/-- a slice of one that was just made, apart from the rows -/
structure One (W : World) (g : Nat) (z : Int) (v : Nat → Value) : Prop where
  blk : Blk W g 3 #[.int .i64 z]
  ne : ∀ i, i < 4 → (v i).ownBlock ≠ some g
section
variable {w W W2 : World} {C x j g n : Nat} {F : Nat → Prop} {T : Int} {s : Bst} {cs : Array Value} {v : Nat → Value} {l : Nat → List Int} {u u0 : Value} {z : Int}
theorem One.new (h : Mid w W C x F cs v l) (z : Int) : One (W.alloc (.cells #[.int .i64 z] 3)) W.heap.size z v :=
  ⟨Blk.new _ _ _, fun i hi e => by have := ((h.rows.own i hi).lt _ e).2; omega⟩
theorem One.alloc (h : One W g z v) (o : Obj) : One (W.alloc o) g z v := ⟨h.blk.alloc _, h.ne⟩
theorem One.push (h : One W g z v) (hg : W.grownBy W2 u0.ownBlock) (hv : v j = u0) (hu : u.ownBlock = u0.ownBlock ∨ u.ownBlock = some W.heap.size) (hj : j < 4) : One W2 g z (upd v j u) := by
  subst hv
  refine ⟨h.blk.grown hg (fun e => h.ne j hj e.symm), fun i hi e => ?_⟩
  by_cases hij : i = j
  · subst hij
    rw [upd_same] at e
    rcases hu with hu | hu
    · rw [hu] at e; exact h.ne i hi e
    · rw [hu] at e; injection e with e; have := h.blk.lt; omega
  · rw [upd_other _ _ hij] at e
    exact h.ne i hi e
theorem One.reads (h : One W g z v) : Reads W (g + 1) (some ⟨g, 0, none⟩) 1 (zints [z]) :=
  ⟨rfl, fun _ => ⟨_, rfl, h.blk.lt, (by show g ≠ g + 1; omega), fun j u hu => by
    rw [Go.WideShapes.add_plain, Nat.zero_add, h.blk.cell j]
    simpa [zints] using hu⟩⟩
theorem Mid.own_ (h : Mid w W C x F cs v l) (hj : j < 4) (hv : v j = u) (hl : (l j).length = n) : W.ownsRow C 3 1 u n (zints (l j)) := by
  have := h.rows.own j hj
  rw [hv, hl] at this
  exact this
theorem Mid.alloc_ (h : Mid w W C x F cs v l) (o : Obj) : Mid w (W.alloc o) C x F cs v l := h.below ((Below.refl _ _).alloc (Nat.le_refl _) _)
theorem Mid.push1 (h : Mid w W C x F cs v l) (hl : (l j).length = n) (hv : v j = u0) (ho : W2.ownsRow C 3 1 u (n + 1) (zints (l j) ++ zints [z])) (hg : W.grownBy W2 u0.ownBlock) (hu : u.ownBlock = u0.ownBlock ∨ u.ownBlock = some W.heap.size) (hj : j < 4) : Mid w W2 C x F cs (upd v j u) (upd l j (l j ++ [z])) := by
  subst hv; subst hl
  refine h.push ?_ hg hu hj
  rw [zints_append, List.length_append]
  exact ho
theorem Mid.held {c0 c1 c2 v0 v1 v2 v3 : Value} (h : Mid w W C x F #[c0, c1, c2, v0, v1, v2, v3] v l) : W.cell? ⟨x, 5, none⟩ = some v2 ∧ W.cell? ⟨x, 6, none⟩ = some v3 := by
  have h5 := h.blk.cell 5
  have h6 := h.blk.cell 6
  simp at h5 h6
  exact ⟨h5, h6⟩
theorem gave_fin {un m now : Int} {r U2 U3 : Value} (ht : Tw w C x F T s) (hle : l 0 = s.vs ∧ l 1 = s.ys ∧ l 2 = s.G.map (·.id) ∧ l 3 = s.G.map (·.till) ∧ (s.on = true → un = s.si + 2 * T) ∧ Mp.inInt un)
    {a2 a3 : Value} (h : Mid w W C x F #[.bool s.on, .int .i64 s.ep, .int .i64 un, v 0, v 1, a2, a3] (upd (upd v 2 U2) 3 U3) (upd (upd l 2 (l 2 ++ [m])) 3 (upd l 2 (l 2 ++ [m]) 3 ++ [now]))) :
    DidT C x F T r ⟨s.on, s.ep, s.si, s.vs, s.ys, s.G ++ [⟨m, now⟩]⟩ w (.returned r) ((W.setCell ⟨x, 5, none⟩ U2).setCell ⟨x, 6, none⟩ U3) := by
  have h6 := (h.store ht.fx 5 U2).store ht.fx 6 U3
  refine Mid.done (s := ⟨s.on, s.ep, s.si, s.vs, s.ys, s.G ++ [⟨m, now⟩]⟩) (un := un) (v := upd (upd v 2 U2) 3 U3) (l := upd (upd l 2 (l 2 ++ [m])) 3 (upd l 2 (l 2 ++ [m]) 3 ++ [now])) h6 ht hle.1 hle.2.1 ?_ ?_ hle.2.2.2.2.1 hle.2.2.2.2.2 r
  · show l 2 ++ [m] = _
    rw [hle.2.2.1, List.map_append]; rfl
  · show l 3 ++ [now] = _
    rw [hle.2.2.2.1, List.map_append]; rfl
end
section
variable (C x : Nat) (F : Nat → Prop) (T : Int) (s : Bst) (w : World) (h : Tw w C x F T s) (m now : Int)
include h
theorem tgave_out0 (c0 : m < 1) : Calls Try.prog 15 #[.pointer (some ⟨x, 0, none⟩), .int .i64 m, .int .i64 now] w (DidT C x F T (.int .i64 (gaveE m now)) (gaveS s m now) w) := by
  have HF : Hid (gaveOk m now = false) := Lib.hid (by unfold gaveOk; rw [isid_no (fun h => by omega)]; rfl)
  have HE : Hid (gaveE m now = 10 ∧ gaveS s m now = s) := Lib.hid (by unfold gaveE gaveS; rw [HF.out]; exact ⟨rfl, rfl⟩)
  rw [HE.out.1, HE.out.2]
  have HH := Lib.hid h
  clear h
  go_enter Try.func15, Try.ntmps15
  go_wp2
  go_ret
  exact DidT.same HH.out (Below.refl _ _)
theorem tgave_out1 (n0 : 1 ≤ m) (c0 : 4294967296 < m) : Calls Try.prog 15 #[.pointer (some ⟨x, 0, none⟩), .int .i64 m, .int .i64 now] w (DidT C x F T (.int .i64 (gaveE m now)) (gaveS s m now) w) := by
  have HF : Hid (gaveOk m now = false) := Lib.hid (by unfold gaveOk; rw [isid_no (fun h => by omega)]; rfl)
  have HE : Hid (gaveE m now = 10 ∧ gaveS s m now = s) := Lib.hid (by unfold gaveE gaveS; rw [HF.out]; exact ⟨rfl, rfl⟩)
  rw [HE.out.1, HE.out.2]
  have HH := Lib.hid h
  clear h
  go_enter Try.func15, Try.ntmps15
  go_wp2
  go_ret
  exact DidT.same HH.out (Below.refl _ _)
theorem tgave_out2 (n0 : 1 ≤ m) (n1 : m ≤ 4294967296) (c0 : now < 0) : Calls Try.prog 15 #[.pointer (some ⟨x, 0, none⟩), .int .i64 m, .int .i64 now] w (DidT C x F T (.int .i64 (gaveE m now)) (gaveS s m now) w) := by
  have HF : Hid (gaveOk m now = false) := Lib.hid (by unfold gaveOk; rw [tim_no (fun h => by omega), Bool.and_false])
  have HE : Hid (gaveE m now = 10 ∧ gaveS s m now = s) := Lib.hid (by unfold gaveE gaveS; rw [HF.out]; exact ⟨rfl, rfl⟩)
  rw [HE.out.1, HE.out.2]
  have HH := Lib.hid h
  clear h
  go_enter Try.func15, Try.ntmps15
  go_wp2
  go_ret
  exact DidT.same HH.out (Below.refl _ _)
theorem tgave_out3 (n0 : 1 ≤ m) (n1 : m ≤ 4294967296) (n2 : 0 ≤ now) (c0 : 1099511627776 < now) : Calls Try.prog 15 #[.pointer (some ⟨x, 0, none⟩), .int .i64 m, .int .i64 now] w (DidT C x F T (.int .i64 (gaveE m now)) (gaveS s m now) w) := by
  have HF : Hid (gaveOk m now = false) := Lib.hid (by unfold gaveOk; rw [tim_no (fun h => by omega), Bool.and_false])
  have HE : Hid (gaveE m now = 10 ∧ gaveS s m now = s) := Lib.hid (by unfold gaveE gaveS; rw [HF.out]; exact ⟨rfl, rfl⟩)
  rw [HE.out.1, HE.out.2]
  have HH := Lib.hid h
  clear h
  go_enter Try.func15, Try.ntmps15
  go_wp2
  go_ret
  exact DidT.same HH.out (Below.refl _ _)
set_option maxRecDepth 100000 in
set_option maxHeartbeats 4000000 in
theorem tgave_in (n0 : 1 ≤ m) (n1 : m ≤ 4294967296) (n2 : 0 ≤ now) (n3 : now ≤ 1099511627776) (hlen : s.G.length ≤ 1000) : Calls Try.prog 15 #[.pointer (some ⟨x, 0, none⟩), .int .i64 m, .int .i64 now] w (DidT C x F T (.int .i64 (gaveE m now)) (gaveS s m now) w) := by
  have HOK : Hid (gaveOk m now = true) := Lib.hid (by unfold gaveOk; rw [isid_yes ⟨n0, n1⟩, tim_yes ⟨n2, n3⟩]; rfl)
  have HE : Hid (gaveE m now = 0 ∧ gaveS s m now = { s with G := putG s.G ⟨m, now⟩ }) := Lib.hid (by unfold gaveE gaveS; rw [HOK.out]; exact ⟨rfl, rfl⟩)
  have HH := Lib.hid h
  have HFX := Lib.hid h.fx
  obtain ⟨un, v, l, h1, h2, h3, h4, h5, h6, h7, h8, h9⟩ := h.ex
  have HLE : Hid (l 0 = s.vs ∧ l 1 = s.ys ∧ l 2 = s.G.map (·.id) ∧ l 3 = s.G.map (·.till) ∧ (s.on = true → un = s.si + 2 * T) ∧ Mp.inInt un) := Lib.hid ⟨h3, h4, h5, h6, h7, h8⟩
  have HM1 : Hid (Mid w w C x F #[.bool s.on, .int .i64 s.ep, .int .i64 un, v 0, v 1, v 2, v 3] v l) := Lib.hid ⟨h1, h2, Turn.refl w F, fun i hi k hk => .inl (h9 i hi k hk)⟩
  obtain ⟨A2, c2, e2, hc2, hm2, hr2⟩ := HM1.out.rows.read (i := 2) (by omega)
  obtain ⟨A3, c3, e3, hc3, hm3, hr3⟩ := HM1.out.rows.read (i := 3) (by omega)
  rw [h5] at hr2 hc2 e2
  rw [h6] at hr3 hc3 e3
  simp only [List.length_map] at hr2 hc2 hr3 hc3 e2 e3
  obtain ⟨n, hn⟩ : ∃ n, s.G.length = n := ⟨_, rfl⟩
  rw [hn] at hr2 hc2 hr3 hc3 e2 e3 hlen
  have HN := Lib.hid hn
  have HE2 := Lib.hid e2
  have HE3 := Lib.hid e3
  have d5 := HM1.out.blk.cell 5
  have d6 := HM1.out.blk.cell 6
  simp at d5 d6
  rw [e2] at d5
  rw [e3] at d6
  have HR2 := Lib.hid hr2
  have HOW3 : Hid (w.ownsRow C 3 1 (.slice A3 n c3) n (zints (s.G.map (·.till)))) := Lib.hid (by have := h2.own 3 (by omega); rw [h6, e3] at this; simpa [hn] using this)
  clear h h1 h2 h3 h4 h5 h6 h7 h8 h9 e2 e3 hn hr2
  go_enter Try.func15, Try.ntmps15
  go_wp2
  go_loop [28] (fun i => ∃ k : Nat, k ≤ n ∧ i = .int .i64 k ∧ Hid (∀ y ∈ (s.G.take k).map (·.id), y ≠ m)) (fun i => n - (RowKit.intOf i).toNat)
  case atStart => exact ⟨0, by omega, rfl, Lib.hid (by simp)⟩
  case round =>
    obtain ⟨k, hk, rfl, hx⟩ := hrel
    by_cases hlt : k < n
    · obtain ⟨ad, u, rfl, hu, hc⟩ := HR2.out.at_ hlt
      obtain ⟨z, hz, rfl⟩ := zints_at hu
      obtain ⟨b, hb, hbi, hbt⟩ := ids_at hz
      have HB := Lib.hid hb
      have HBI := Lib.hid hbi
      clear hu hz hbt hb hbi
      by_cases hzm : z = m
      · subst hzm
        have tz : (z == z) = true := by simp
        obtain ⟨g3, e3, hcs⟩ : ∃ g3, A3 = some ⟨g3, 0, none⟩ ∧ (w.setCell ⟨g3, k, none⟩ (.int .i64 now)).ownsRow C 3 1 (.slice (some ⟨g3, 0, none⟩) n c3) n (zints ((s.G.map (·.till)).set k now)) ∧ w.grownBy (w.setCell ⟨g3, k, none⟩ (.int .i64 now)) (some g3) := by
          rcases HOW3.out.2 with ⟨hv, _⟩ | ⟨g3, cap, cur, hv, _⟩
          · injection hv with hv; exact absurd hv (by intro e; have := HOW3.out.form (by omega); obtain ⟨g', c', e', _⟩ := this; injection e' with e'; rw [hv] at e'; cases e')
          · injection hv with hv1 hv2 hv3
            subst hv1
            refine ⟨g3, rfl, ?_⟩
            have := HOW3.out.stored k (.int .i64 now)
            rw [zints_set]
            exact this
        subst e3
        have f3 : w.frozen? ⟨g3, k, none⟩ = false := HOW3.out.frozenAt k
        have c3k : w.cell? ⟨g3, k, none⟩ = (zints (s.G.map (·.till)))[k]? := HOW3.out.cellAt k (by omega)
        have HP : Hid (putG s.G ⟨z, now⟩ = s.G.set k ⟨z, now⟩) := Lib.hid (putG_found HB.out HBI.out hx.out)
        have HSI : Hid ((s.G.set k ⟨z, now⟩).map (·.id) = s.G.map (·.id)) := Lib.hid (set_id HB.out HBI.out)
        obtain ⟨hcs1, hcs2⟩ := hcs
        have HM2 := Lib.hid (HM1.out.push (j := 3) (u := .slice (some ⟨g3, 0, none⟩) n c3) (m := (s.G.map (·.till)).set k now) (by rw [List.length_set, List.length_map, HN.out]; exact hcs1) (by rw [HE3.out]; exact hcs2) (by rw [HE3.out]; exact .inl rfl) (by omega))
        have b3k : ∃ q, w.cell? ⟨g3, k, none⟩ = some q := by
          rw [c3k]
          exact ⟨_, List.getElem?_eq_getElem (by rw [zints_len, List.length_map, HN.out]; exact hlt)⟩
        obtain ⟨q3, b3⟩ := b3k
        have hk3 : (k : Int) ≤ (n : Int) := by omega
        clear c3k hcs1 hcs2
        go_wp2
        go_ret
        rw [HE.out.1, HE.out.2, HP.out]
        have hM := HM2.out
        have e : (upd v 3 (.slice (some ⟨g3, 0, none⟩) n c3)) 3 = v 3 := by rw [upd_same, HE3.out]
        refine Mid.done (s := ⟨s.on, s.ep, s.si, s.vs, s.ys, s.G.set k ⟨z, now⟩⟩) (un := un) (v := upd v 3 (.slice (some ⟨g3, 0, none⟩) n c3)) (l := upd l 3 ((s.G.map (·.till)).set k now)) ?_ HH.out HLE.out.1 HLE.out.2.1 (HLE.out.2.2.1.trans HSI.out.symm) (by rw [set_till]; exact upd_same _ _ _) HLE.out.2.2.2.2.1 HLE.out.2.2.2.2.2 (.int .i64 0)
        rw [e, upd_other _ _ (by omega), upd_other _ _ (by omega), upd_other _ _ (by omega)]
        exact hM
      · have tz : (z == m) = false := by simpa using hzm
        have HX : Hid (∀ y ∈ (s.G.take (k + 1)).map (·.id), y ≠ m) := Lib.hid (by
          rw [List.take_add_one, HB.out]
          intro y hy
          simp only [Option.toList_some, List.map_append, List.map_cons, List.map_nil, List.mem_append, List.mem_singleton] at hy
          rcases hy with hy | hy
          · exact hx.out y hy
          · rw [hy, HBI.out]; exact hzm)
        clear hzm
        go_wp2
        go_round
        case rel => exact ⟨k + 1, by omega, by go_num, HX⟩
        case measure => simp [RowKit.intOf]; omega
    · obtain rfl : n = k := by omega
      have HP : Hid (putG s.G ⟨m, now⟩ = s.G ++ [⟨m, now⟩]) := Lib.hid (putG_new (by have := hx.out; rwa [List.take_of_length_le (by rw [HN.out]; exact Nat.le_refl _)] at this))
      obtain ⟨i0, hi0, hz0, hz1, hz2⟩ := info_parts int_info
      have HL2 : Hid ((l 2).length = n) := Lib.hid (by rw [HLE.out.2.2.1, List.length_map]; exact HN.out)
      have HL3 : Hid ((l 3).length = n) := Lib.hid (by rw [HLE.out.2.2.2.1, List.length_map]; exact HN.out)
      have HC := Lib.hid HH.out.cle
      have HMA : Hid (Mid w w.drew C x F #[.bool s.on, .int .i64 s.ep, .int .i64 un, v 0, v 1, .slice A2 n c2, .slice A3 n c3] v l) := Lib.hid (by
        have e2 : v 2 = .slice A2 n c2 := by rw [HE2.out]
        have e3 : v 3 = .slice A3 n c3 := by rw [HE3.out]
        rw [← e2, ← e3]; exact HM1.out.below (below_drewN (Below.refl _ w) 1))
      have HV2 : Hid (v 2 = .slice A2 n c2) := Lib.hid HE2.out
      have HV3 : Hid (v 3 = .slice A3 n c3) := Lib.hid HE3.out
      go_wp2
      refine until_begin (S := fun w' => w'.cell? ⟨x, 5, none⟩ = some (.slice A2 n c2) ∧ w'.cell? ⟨x, 6, none⟩ = some (.slice A3 n c3)) (q := 18) (by kernel_rfl) ?_
      generalize w.drew = W0 at HMA ⊢
      have hHeld := HMA.out.held
      refine until_pure (i := 0) (oi := ⟨some 44, _, _, _, _, _⟩) (v := .pointer (some ⟨x, 0, none⟩)) rfl (by kernel_rfl) (by kernel_rfl) (by kernel_rfl) (fun _ _ _ h => h) (by rfl) (Or.inl ⟨by rfl, ?_⟩) (by assumption) ?_
      · (intro w'; go_simp)
      try simp only [Act.put, List.setIfInBounds_toArray, List.set_cons_zero, List.set_cons_succ]
      refine until_pure (i := 1) (oi := ⟨some 45, _, _, _, _, _⟩) (v := .pointer (some ⟨x, 0, none⟩)) rfl (by kernel_rfl) (by kernel_rfl) (by kernel_rfl) (fun _ _ _ h => h) (by rfl) (Or.inl ⟨by rfl, ?_⟩) (by assumption) ?_
      · (intro w'; go_simp)
      try simp only [Act.put, List.setIfInBounds_toArray, List.set_cons_zero, List.set_cons_succ]
      refine until_pure (i := 2) (oi := ⟨some 46, _, _, _, _, _⟩) (v := .pointer (some ⟨x, 0, none⟩)) rfl (by kernel_rfl) (by kernel_rfl) (by kernel_rfl) (fun _ _ _ h => h) (by rfl) (Or.inl ⟨by rfl, ?_⟩) (by assumption) ?_
      · (intro w'; go_simp)
      try simp only [Act.put, List.setIfInBounds_toArray, List.set_cons_zero, List.set_cons_succ]
      refine until_pure (i := 3) (oi := ⟨some 47, _, _, _, _, _⟩) (v := .pointer (some ⟨x, 0, none⟩)) rfl (by kernel_rfl) (by kernel_rfl) (by kernel_rfl) (fun _ _ _ h => h) (by rfl) (Or.inl ⟨by rfl, ?_⟩) (by assumption) ?_
      · (intro w'; go_simp)
      try simp only [Act.put, List.setIfInBounds_toArray, List.set_cons_zero, List.set_cons_succ]
      refine until_pure (i := 4) (oi := ⟨some 48, _, _, _, _, _⟩) (v := .pointer (some ⟨x, 5, none⟩)) rfl (by kernel_rfl) (by kernel_rfl) (by kernel_rfl) (fun _ _ _ h => h) (by rfl) (Or.inl ⟨by rfl, ?_⟩) (by assumption) ?_
      · (intro w'; go_simp)
      try simp only [Act.put, List.setIfInBounds_toArray, List.set_cons_zero, List.set_cons_succ]
      refine until_load (i := 5) (oi := ⟨some 49, _, _, _, _, _⟩) (v := .slice A2 n c2) rfl (by kernel_rfl) (by kernel_rfl) (by kernel_rfl) (fun _ _ _ h => h) (by rfl) 0 (by kernel_rfl) (by kernel_rfl) (Or.inl ⟨by rfl, ?_⟩) (by assumption) ?_
      · (intro w' hSw; obtain ⟨s0, s1⟩ := hSw; go_simp)
      try simp only [Act.put, List.setIfInBounds_toArray, List.set_cons_zero, List.set_cons_succ]
      refine until_pure (i := 6) (oi := ⟨some 50, _, _, _, _, _⟩) (v := .int .i64 m) rfl (by kernel_rfl) (by kernel_rfl) (by kernel_rfl) (fun _ _ _ h => h) (by rfl) (Or.inl ⟨by rfl, ?_⟩) (by assumption) ?_
      · (intro w'; go_simp)
      try simp only [Act.put, List.setIfInBounds_toArray, List.set_cons_zero, List.set_cons_succ]
      refine until_pure (i := 9) (oi := ⟨some 53, _, _, _, _, _⟩) (v := .pointer (some ⟨x, 0, none⟩)) rfl (by kernel_rfl) (by kernel_rfl) (by kernel_rfl) (fun _ _ _ h => h) (by rfl) (Or.inl ⟨by rfl, ?_⟩) (by assumption) ?_
      · (intro w'; go_simp)
      try simp only [Act.put, List.setIfInBounds_toArray, List.set_cons_zero, List.set_cons_succ]
      refine until_pure (i := 10) (oi := ⟨some 54, _, _, _, _, _⟩) (v := .pointer (some ⟨x, 0, none⟩)) rfl (by kernel_rfl) (by kernel_rfl) (by kernel_rfl) (fun _ _ _ h => h) (by rfl) (Or.inl ⟨by rfl, ?_⟩) (by assumption) ?_
      · (intro w'; go_simp)
      try simp only [Act.put, List.setIfInBounds_toArray, List.set_cons_zero, List.set_cons_succ]
      refine until_pure (i := 11) (oi := ⟨some 55, _, _, _, _, _⟩) (v := .pointer (some ⟨x, 6, none⟩)) rfl (by kernel_rfl) (by kernel_rfl) (by kernel_rfl) (fun _ _ _ h => h) (by rfl) (Or.inl ⟨by rfl, ?_⟩) (by assumption) ?_
      · (intro w'; go_simp)
      try simp only [Act.put, List.setIfInBounds_toArray, List.set_cons_zero, List.set_cons_succ]
      refine until_load (i := 12) (oi := ⟨some 56, _, _, _, _, _⟩) (v := .slice A3 n c3) rfl (by kernel_rfl) (by kernel_rfl) (by kernel_rfl) (fun _ _ _ h => h) (by rfl) 15 (by kernel_rfl) (by kernel_rfl) (Or.inl ⟨by rfl, ?_⟩) (by assumption) ?_
      · (intro w' hSw; obtain ⟨s0, s1⟩ := hSw; go_simp)
      try simp only [Act.put, List.setIfInBounds_toArray, List.set_cons_zero, List.set_cons_succ]
      refine until_pure (i := 13) (oi := ⟨some 57, _, _, _, _, _⟩) (v := .int .i64 now) rfl (by kernel_rfl) (by kernel_rfl) (by kernel_rfl) (fun _ _ _ h => h) (by rfl) (Or.inl ⟨by rfl, ?_⟩) (by assumption) ?_
      · (intro w'; go_simp)
      try simp only [Act.put, List.setIfInBounds_toArray, List.set_cons_zero, List.set_cons_succ]
      refine until_ready (rs := [7, 14]) (by kernel_rfl) (by simp) ?_
      refine AllUntil.cons rfl (by rfl) (fun K hK => ?_) (AllUntil.cons rfl (by rfl) (fun K hK => ?_) AllUntil.nil)
      · skip
        go_simp
        have HM_1 := Lib.hid (HMA.out.alloc_ (.cells #[.int .i64 m] 3))
        have HO7_1 := Lib.hid (One.new HMA.out m)
        refine hK.out _ _ HM_1.out.held (fun hHeld => ?_)
        clear hK K
        try simp only [Act.put, List.setIfInBounds_toArray, List.set_cons_zero, List.set_cons_succ]
        generalize W0.alloc (.cells #[.int .i64 m] 3) = W1 at *
        generalize W0.heap.size = g7 at *
        refine until_ready (rs := [8, 14]) (by kernel_rfl) (by simp) ?_
        refine AllUntil.cons rfl (by rfl) (fun K hK => ?_) (AllUntil.cons rfl (by rfl) (fun K hK => ?_) AllUntil.nil)
        · skip
          refine step_append_cells _ (by rfl) (.tmp 49) (.tmp 51) 29 (by rfl) C 3 i0 _ 8 Try.underlying29 hi0 hz0 hz1 hz2 rfl (.slice A2 n c2) n (zints (l 2)) (by rfl) (HM_1.out.own_ (j := 2) (by omega) HV2.out HL2.out) (g7 + 1) (some ⟨g7, 0, none⟩) 1 1 (zints [m]) (by rfl) HO7_1.out.reads (zints_oneCell _) (by unfold maxLen; omega) (by omega) (Nat.le_trans HC.out HM_1.out.turn.size) ?_
          intro U8 W2 ho hg hu
          obtain ⟨B8, d8, rfl, hc8, hm8⟩ := own_slice ho
          have HM_2 := Lib.hid (HM_1.out.push1 (j := 2) (z := m) HL2.out HV2.out ho hg hu (by omega))
          refine hK.out _ _ HM_2.out.held (fun hHeld => ?_)
          clear hK K ho hg hu
          try simp only [Act.put, List.setIfInBounds_toArray]
          refine until_ready (rs := [14]) (by kernel_rfl) (by simp) ?_
          refine AllUntil.cons rfl (by rfl) (fun K hK => ?_) AllUntil.nil
          go_simp
          have HM_3 := Lib.hid (HM_2.out.alloc_ (.cells #[.int .i64 now] 3))
          have HO14_3 := Lib.hid (One.new HM_2.out now)
          refine hK.out _ _ HM_3.out.held (fun hHeld => ?_)
          clear hK K
          try simp only [Act.put, List.setIfInBounds_toArray, List.set_cons_zero, List.set_cons_succ]
          generalize W2.alloc (.cells #[.int .i64 now] 3) = W3 at *
          generalize W2.heap.size = g14 at *
          refine until_ready (rs := [15]) (by kernel_rfl) (by simp) ?_
          refine AllUntil.cons rfl (by rfl) (fun K hK => ?_) AllUntil.nil
          refine step_append_cells _ (by rfl) (.tmp 56) (.tmp 58) 29 (by rfl) C 3 i0 _ 8 Try.underlying29 hi0 hz0 hz1 hz2 rfl (.slice A3 n c3) n (zints (upd l 2 (l 2 ++ [m]) 3)) (by rfl) (HM_3.out.own_ (j := 3) (by omega) HV3.out HL3.out) (g14 + 1) (some ⟨g14, 0, none⟩) 1 1 (zints [now]) (by rfl) HO14_3.out.reads (zints_oneCell _) (by unfold maxLen; omega) (by omega) (Nat.le_trans HC.out HM_3.out.turn.size) ?_
          intro U15 W4 ho hg hu
          obtain ⟨B15, d15, rfl, hc15, hm15⟩ := own_slice ho
          have HM_4 := Lib.hid (HM_3.out.push1 (j := 3) (z := now) HL3.out HV3.out ho hg hu (by omega))
          refine hK.out _ _ HM_4.out.held (fun hHeld => ?_)
          clear hK K ho hg hu
          try simp only [Act.put, List.setIfInBounds_toArray]
          refine until_pure (i := 16) (oi := ⟨some 60, _, _, _, _, _⟩) (v := .pointer (some ⟨x, 0, none⟩)) rfl (by kernel_rfl) (by kernel_rfl) (by kernel_rfl) (fun _ _ _ h => h) (by rfl) (Or.inl ⟨by rfl, ?_⟩) (by assumption) ?_
          · (intro w'; go_simp)
          try simp only [Act.put]
          refine until_pure (i := 17) (oi := ⟨some 61, _, _, _, _, _⟩) (v := .pointer (some ⟨x, 5, none⟩)) rfl (by kernel_rfl) (by kernel_rfl) (by kernel_rfl) (fun _ _ _ h => h) (by rfl) (Or.inl ⟨by rfl, ?_⟩) (by assumption) ?_
          · (intro w'; go_simp)
          try simp only [Act.put]
          have f5 : W4.frozen? ⟨x, 5, none⟩ = false := HM_4.out.blk.frozen 5
          have f6 : (W4.setCell ⟨x, 5, none⟩ (.slice B8 (n + 1) d8)).frozen? ⟨x, 6, none⟩ = false := (HM_4.out.store HFX.out 5 (.slice B8 (n + 1) d8)).blk.frozen 6
          have f6' : W4.frozen? ⟨x, 6, none⟩ = false := HM_4.out.blk.frozen 6
          have z6 : W4.cell? ⟨x, 6, none⟩ = some (.slice A3 n c3) := HM_4.out.held.2
          have z5 : W4.cell? ⟨x, 5, none⟩ = some (.slice A2 n c2) := HM_4.out.held.1
          refine until_ready (rs := [18]) (by kernel_rfl) (by simp) ?_
          refine AllUntil.stop rfl (fun K hK => ?_)
          go_simp
          refine hK.out _ _ ?_
          clear hK K
          try simp only [Act.put, List.setIfInBounds_toArray, List.set_cons_zero, List.set_cons_succ]
          refine any_one (i := 19) (by kernel_rfl) rfl (fun K hK => ?_)
          go_simp
          refine hK.out _ _ ?_
          clear hK K
          try simp only [Act.put, List.setIfInBounds_toArray, List.set_cons_zero, List.set_cons_succ]
          refine any_one (i := 20) (by kernel_rfl) rfl (fun K hK => ?_)
          go_simp
          refine hK.out _ _ ?_
          clear hK K
          try simp only [Act.put, List.setIfInBounds_toArray, List.set_cons_zero, List.set_cons_succ]
          refine any_one (i := 21) (by kernel_rfl) rfl (fun K hK => ?_)
          go_simp
          refine hK.out _ _ ?_
          clear hK K
          try simp only [Act.put, List.setIfInBounds_toArray, List.set_cons_zero, List.set_cons_succ]
          refine wpAny_done (by kernel_rfl) ?_ _
          clear hHeld f5 f6 f6' z5 z6
          go_wp2
          go_ret
          rw [HE.out.1, HE.out.2, HP.out]
          exact gave_fin HH.out HLE.out HM_4.out
        · skip
          go_simp
          have HM_2 := Lib.hid (HM_1.out.alloc_ (.cells #[.int .i64 now] 3))
          have HO14_2 := Lib.hid (One.new HM_1.out now)
          have HO7_2 := Lib.hid (HO7_1.out.alloc (.cells #[.int .i64 now] 3))
          refine hK.out _ _ HM_2.out.held (fun hHeld => ?_)
          clear hK K
          try simp only [Act.put, List.setIfInBounds_toArray, List.set_cons_zero, List.set_cons_succ]
          generalize W1.alloc (.cells #[.int .i64 now] 3) = W2 at *
          generalize W1.heap.size = g14 at *
          refine until_ready (rs := [8]) (by kernel_rfl) (by simp) ?_
          refine AllUntil.cons rfl (by rfl) (fun K hK => ?_) AllUntil.nil
          refine step_append_cells _ (by rfl) (.tmp 49) (.tmp 51) 29 (by rfl) C 3 i0 _ 8 Try.underlying29 hi0 hz0 hz1 hz2 rfl (.slice A2 n c2) n (zints (l 2)) (by rfl) (HM_2.out.own_ (j := 2) (by omega) HV2.out HL2.out) (g7 + 1) (some ⟨g7, 0, none⟩) 1 1 (zints [m]) (by rfl) HO7_2.out.reads (zints_oneCell _) (by unfold maxLen; omega) (by omega) (Nat.le_trans HC.out HM_2.out.turn.size) ?_
          intro U8 W3 ho hg hu
          obtain ⟨B8, d8, rfl, hc8, hm8⟩ := own_slice ho
          have HM_3 := Lib.hid (HM_2.out.push1 (j := 2) (z := m) HL2.out HV2.out ho hg hu (by omega))
          have HO14_3 := Lib.hid (HO14_2.out.push (j := 2) hg HV2.out hu (by omega))
          refine hK.out _ _ HM_3.out.held (fun hHeld => ?_)
          clear hK K ho hg hu
          try simp only [Act.put, List.setIfInBounds_toArray]
          refine until_ready (rs := [15]) (by kernel_rfl) (by simp) ?_
          refine AllUntil.cons rfl (by rfl) (fun K hK => ?_) AllUntil.nil
          refine step_append_cells _ (by rfl) (.tmp 56) (.tmp 58) 29 (by rfl) C 3 i0 _ 8 Try.underlying29 hi0 hz0 hz1 hz2 rfl (.slice A3 n c3) n (zints (upd l 2 (l 2 ++ [m]) 3)) (by rfl) (HM_3.out.own_ (j := 3) (by omega) HV3.out HL3.out) (g14 + 1) (some ⟨g14, 0, none⟩) 1 1 (zints [now]) (by rfl) HO14_3.out.reads (zints_oneCell _) (by unfold maxLen; omega) (by omega) (Nat.le_trans HC.out HM_3.out.turn.size) ?_
          intro U15 W4 ho hg hu
          obtain ⟨B15, d15, rfl, hc15, hm15⟩ := own_slice ho
          have HM_4 := Lib.hid (HM_3.out.push1 (j := 3) (z := now) HL3.out HV3.out ho hg hu (by omega))
          refine hK.out _ _ HM_4.out.held (fun hHeld => ?_)
          clear hK K ho hg hu
          try simp only [Act.put]
          refine until_pure (i := 16) (oi := ⟨some 60, _, _, _, _, _⟩) (v := .pointer (some ⟨x, 0, none⟩)) rfl (by kernel_rfl) (by kernel_rfl) (by kernel_rfl) (fun _ _ _ h => h) (by rfl) (Or.inl ⟨by rfl, ?_⟩) (by assumption) ?_
          · (intro w'; go_simp)
          try simp only [Act.put]
          refine until_pure (i := 17) (oi := ⟨some 61, _, _, _, _, _⟩) (v := .pointer (some ⟨x, 5, none⟩)) rfl (by kernel_rfl) (by kernel_rfl) (by kernel_rfl) (fun _ _ _ h => h) (by rfl) (Or.inl ⟨by rfl, ?_⟩) (by assumption) ?_
          · (intro w'; go_simp)
          try simp only [Act.put]
          have f5 : W4.frozen? ⟨x, 5, none⟩ = false := HM_4.out.blk.frozen 5
          have f6 : (W4.setCell ⟨x, 5, none⟩ (.slice B8 (n + 1) d8)).frozen? ⟨x, 6, none⟩ = false := (HM_4.out.store HFX.out 5 (.slice B8 (n + 1) d8)).blk.frozen 6
          have f6' : W4.frozen? ⟨x, 6, none⟩ = false := HM_4.out.blk.frozen 6
          have z6 : W4.cell? ⟨x, 6, none⟩ = some (.slice A3 n c3) := HM_4.out.held.2
          have z5 : W4.cell? ⟨x, 5, none⟩ = some (.slice A2 n c2) := HM_4.out.held.1
          refine until_ready (rs := [18]) (by kernel_rfl) (by simp) ?_
          refine AllUntil.stop rfl (fun K hK => ?_)
          go_simp
          refine hK.out _ _ ?_
          clear hK K
          try simp only [Act.put, List.setIfInBounds_toArray, List.set_cons_zero, List.set_cons_succ]
          refine any_one (i := 19) (by kernel_rfl) rfl (fun K hK => ?_)
          go_simp
          refine hK.out _ _ ?_
          clear hK K
          try simp only [Act.put, List.setIfInBounds_toArray, List.set_cons_zero, List.set_cons_succ]
          refine any_one (i := 20) (by kernel_rfl) rfl (fun K hK => ?_)
          go_simp
          refine hK.out _ _ ?_
          clear hK K
          try simp only [Act.put, List.setIfInBounds_toArray, List.set_cons_zero, List.set_cons_succ]
          refine any_one (i := 21) (by kernel_rfl) rfl (fun K hK => ?_)
          go_simp
          refine hK.out _ _ ?_
          clear hK K
          try simp only [Act.put, List.setIfInBounds_toArray, List.set_cons_zero, List.set_cons_succ]
          refine wpAny_done (by kernel_rfl) ?_ _
          clear hHeld f5 f6 f6' z5 z6
          go_wp2
          go_ret
          rw [HE.out.1, HE.out.2, HP.out]
          exact gave_fin HH.out HLE.out HM_4.out
      · skip
        go_simp
        have HM_1 := Lib.hid (HMA.out.alloc_ (.cells #[.int .i64 now] 3))
        have HO14_1 := Lib.hid (One.new HMA.out now)
        refine hK.out _ _ HM_1.out.held (fun hHeld => ?_)
        clear hK K
        try simp only [Act.put, List.setIfInBounds_toArray, List.set_cons_zero, List.set_cons_succ]
        generalize W0.alloc (.cells #[.int .i64 now] 3) = W1 at *
        generalize W0.heap.size = g14 at *
        refine until_ready (rs := [7]) (by kernel_rfl) (by simp) ?_
        refine AllUntil.cons rfl (by rfl) (fun K hK => ?_) AllUntil.nil
        go_simp
        have HM_2 := Lib.hid (HM_1.out.alloc_ (.cells #[.int .i64 m] 3))
        have HO7_2 := Lib.hid (One.new HM_1.out m)
        have HO14_2 := Lib.hid (HO14_1.out.alloc (.cells #[.int .i64 m] 3))
        refine hK.out _ _ HM_2.out.held (fun hHeld => ?_)
        clear hK K
        try simp only [Act.put, List.setIfInBounds_toArray, List.set_cons_zero, List.set_cons_succ]
        generalize W1.alloc (.cells #[.int .i64 m] 3) = W2 at *
        generalize W1.heap.size = g7 at *
        refine until_ready (rs := [8]) (by kernel_rfl) (by simp) ?_
        refine AllUntil.cons rfl (by rfl) (fun K hK => ?_) AllUntil.nil
        refine step_append_cells _ (by rfl) (.tmp 49) (.tmp 51) 29 (by rfl) C 3 i0 _ 8 Try.underlying29 hi0 hz0 hz1 hz2 rfl (.slice A2 n c2) n (zints (l 2)) (by rfl) (HM_2.out.own_ (j := 2) (by omega) HV2.out HL2.out) (g7 + 1) (some ⟨g7, 0, none⟩) 1 1 (zints [m]) (by rfl) HO7_2.out.reads (zints_oneCell _) (by unfold maxLen; omega) (by omega) (Nat.le_trans HC.out HM_2.out.turn.size) ?_
        intro U8 W3 ho hg hu
        obtain ⟨B8, d8, rfl, hc8, hm8⟩ := own_slice ho
        have HM_3 := Lib.hid (HM_2.out.push1 (j := 2) (z := m) HL2.out HV2.out ho hg hu (by omega))
        have HO14_3 := Lib.hid (HO14_2.out.push (j := 2) hg HV2.out hu (by omega))
        refine hK.out _ _ HM_3.out.held (fun hHeld => ?_)
        clear hK K ho hg hu
        try simp only [Act.put, List.setIfInBounds_toArray]
        refine until_ready (rs := [15]) (by kernel_rfl) (by simp) ?_
        refine AllUntil.cons rfl (by rfl) (fun K hK => ?_) AllUntil.nil
        refine step_append_cells _ (by rfl) (.tmp 56) (.tmp 58) 29 (by rfl) C 3 i0 _ 8 Try.underlying29 hi0 hz0 hz1 hz2 rfl (.slice A3 n c3) n (zints (upd l 2 (l 2 ++ [m]) 3)) (by rfl) (HM_3.out.own_ (j := 3) (by omega) HV3.out HL3.out) (g14 + 1) (some ⟨g14, 0, none⟩) 1 1 (zints [now]) (by rfl) HO14_3.out.reads (zints_oneCell _) (by unfold maxLen; omega) (by omega) (Nat.le_trans HC.out HM_3.out.turn.size) ?_
        intro U15 W4 ho hg hu
        obtain ⟨B15, d15, rfl, hc15, hm15⟩ := own_slice ho
        have HM_4 := Lib.hid (HM_3.out.push1 (j := 3) (z := now) HL3.out HV3.out ho hg hu (by omega))
        refine hK.out _ _ HM_4.out.held (fun hHeld => ?_)
        clear hK K ho hg hu
        try simp only [Act.put]
        refine until_pure (i := 16) (oi := ⟨some 60, _, _, _, _, _⟩) (v := .pointer (some ⟨x, 0, none⟩)) rfl (by kernel_rfl) (by kernel_rfl) (by kernel_rfl) (fun _ _ _ h => h) (by rfl) (Or.inl ⟨by rfl, ?_⟩) (by assumption) ?_
        · (intro w'; go_simp)
        try simp only [Act.put]
        refine until_pure (i := 17) (oi := ⟨some 61, _, _, _, _, _⟩) (v := .pointer (some ⟨x, 5, none⟩)) rfl (by kernel_rfl) (by kernel_rfl) (by kernel_rfl) (fun _ _ _ h => h) (by rfl) (Or.inl ⟨by rfl, ?_⟩) (by assumption) ?_
        · (intro w'; go_simp)
        try simp only [Act.put]
        have f5 : W4.frozen? ⟨x, 5, none⟩ = false := HM_4.out.blk.frozen 5
        have f6 : (W4.setCell ⟨x, 5, none⟩ (.slice B8 (n + 1) d8)).frozen? ⟨x, 6, none⟩ = false := (HM_4.out.store HFX.out 5 (.slice B8 (n + 1) d8)).blk.frozen 6
        have f6' : W4.frozen? ⟨x, 6, none⟩ = false := HM_4.out.blk.frozen 6
        have z6 : W4.cell? ⟨x, 6, none⟩ = some (.slice A3 n c3) := HM_4.out.held.2
        have z5 : W4.cell? ⟨x, 5, none⟩ = some (.slice A2 n c2) := HM_4.out.held.1
        refine until_ready (rs := [18]) (by kernel_rfl) (by simp) ?_
        refine AllUntil.stop rfl (fun K hK => ?_)
        go_simp
        refine hK.out _ _ ?_
        clear hK K
        try simp only [Act.put, List.setIfInBounds_toArray, List.set_cons_zero, List.set_cons_succ]
        refine any_one (i := 19) (by kernel_rfl) rfl (fun K hK => ?_)
        go_simp
        refine hK.out _ _ ?_
        clear hK K
        try simp only [Act.put, List.setIfInBounds_toArray, List.set_cons_zero, List.set_cons_succ]
        refine any_one (i := 20) (by kernel_rfl) rfl (fun K hK => ?_)
        go_simp
        refine hK.out _ _ ?_
        clear hK K
        try simp only [Act.put, List.setIfInBounds_toArray, List.set_cons_zero, List.set_cons_succ]
        refine any_one (i := 21) (by kernel_rfl) rfl (fun K hK => ?_)
        go_simp
        refine hK.out _ _ ?_
        clear hK K
        try simp only [Act.put, List.setIfInBounds_toArray, List.set_cons_zero, List.set_cons_succ]
        refine wpAny_done (by kernel_rfl) ?_ _
        clear hHeld f5 f6 f6' z5 z6
        go_wp2
        go_ret
        rw [HE.out.1, HE.out.2, HP.out]
        exact gave_fin HH.out HLE.out HM_4.out

end
end Go.Proofs.Ytmjbacmaafbdlaa
