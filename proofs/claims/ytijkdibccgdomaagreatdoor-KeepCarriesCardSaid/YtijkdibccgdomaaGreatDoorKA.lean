/-
  WHAT IS PROVED: what a save, a load and a crash do to the files of a disk that a state is kept on, plain facts. No condition.
-/
import Derived.Test.YtijkdibccgdomaaGreatDoorDB
namespace Go.Proofs.YtijkdibccgdomaaGreatDoor.Dsk


abbrev nSt : List UInt8 := [115, 116, 97, 116, 101]
abbrev nNx : List UInt8 := [110, 101, 120, 116]
theorem names_okK : nameB nSt = true ∧ nameB nNx = true := by constructor <;> kernel_rfl
theorem nx_ne : nNx ≠ nSt := by decide
/-- what a save of a right state's text does -/
def saveT (S : Ds) (t : List UInt8) : Int × Ds :=
  if (writeD S nNx t).1 ≠ 0 then writeD S nNx t
  else if (syncD (writeD S nNx t).2 nNx).1 ≠ 0 then syncD (writeD S nNx t).2 nNx
  else renameD (syncD (writeD S nNx t).2 nNx).2 nNx nSt
theorem cG_nil (keep : List Int) (l : List Fl) : crashG [] keep l = l := by cases keep <;> rfl
theorem cG_safe {x : List UInt8} {xs : List (List UInt8)} {keep : List Int} {l : List Fl} (h : (getF l x).safe = true) : crashG (x :: xs) keep l = crashG xs keep l := by
  conv => lhs; unfold crashG
  rw [if_pos h]
theorem cG_none {x : List UInt8} {xs : List (List UInt8)} {l : List Fl} (h : (getF l x).safe = false) : crashG (x :: xs) [] l = crashG xs [] (putF l ⟨x, [], true⟩) := by
  conv => lhs; unfold crashG
  rw [if_neg (by rw [h]; simp)]
theorem cG_some {x : List UInt8} {xs : List (List UInt8)} {k : Int} {ks : List Int} {l : List Fl} (h : (getF l x).safe = false) : crashG (x :: xs) (k :: ks) l = crashG xs ks (putF l ⟨x, (getF l x).b.take k.toNat, true⟩) := by
  conv => lhs; unfold crashG
  rw [if_neg (by rw [h]; simp)]

/-- the files of a disk that keeps the text o -/
structure Kept (l : List Fl) (o : Option (List UInt8)) : Prop where
  good : Good l
  names : ∀ f ∈ l, f.name = nNx ∨ f.name = nSt
  st : hasF l nSt = o.isSome
  txt : ∀ t, o = some t → getF l nSt = ⟨nSt, t, true⟩
section
variable {l : List Fl} {o : Option (List UInt8)}
theorem inv_nil : Kept [] none := ⟨good_nil, fun f hf => (by cases hf), rfl, fun t h => (by cases h)⟩
theorem has_mem {f : Fl} (h : f ∈ l) : hasF l f.name = true := hasF_iff.2 ⟨f, h, rfl⟩
theorem Kept.nx (h : Kept l o) : delF (delF l nNx) nSt = [] := by
  cases hd : delF (delF l nNx) nSt with
  | nil => rfl
  | cons f r =>
    have hf : f ∈ delF (delF l nNx) nSt := by rw [hd]; exact List.mem_cons_self ..
    obtain ⟨h1, h2⟩ := mem_delF.1 hf
    obtain ⟨h3, h4⟩ := mem_delF.1 h1
    rcases h.names f h3 with e | e
    · exact absurd e h4
    · exact absurd e h2
theorem Kept.two (h : Kept l o) : l.length ≤ 2 := by
  have h1 := len_delF h.good (x := nNx)
  have h2 := len_delF (h.good.del nNx) (x := nSt)
  rw [h.nx] at h2
  simp only [List.length_nil] at h2
  split at h1 <;> split at h2 <;> omega
def keptL : Option (List UInt8) → List Fl
  | some t => [⟨nSt, t, true⟩]
  | none => []
def keptN : Option (List UInt8) → Nat
  | some t => t.length
  | none => 0
theorem Kept.del (h : Kept l o) : delF l nNx = keptL o := by
  have hg := h.good.del nNx
  have h2 := len_delF hg (x := nSt)
  rw [h.nx, has_delF, h.st] at h2
  cases o with
  | none =>
    simp at h2
    exact List.eq_nil_of_length_eq_zero (by omega)
  | some t =>
    have he := h.txt t rfl
    have hn : nSt ≠ nNx := by decide
    simp [hn] at h2
    have hm : getF (delF l nNx) nSt ∈ delF l nNx := getF_mem (by rw [has_delF, h.st]; simp [hn])
    rw [getF_del l hn, he] at hm
    match hl : delF l nNx, h2 with
    | [f], _ =>
      rw [hl] at hm
      rw [← List.mem_singleton.1 hm]
      rfl
theorem Kept.but (h : Kept l o) : butF l nNx = keptN o := by
  unfold butF
  rw [h.del]
  cases o <;> rfl
theorem Kept.putNx (h : Kept l o) {b : List UInt8} {s : Bool} (hb : b.length ≤ 100000) : Kept (putF l ⟨nNx, b, s⟩) o :=
  ⟨h.good.put (by show (4 : Nat) ≤ 1000; omega) hb, fun f hf => by
    rcases mem_putF.1 hf with rfl | ⟨h1, _⟩
    · exact .inl rfl
    · exact h.names f h1, by rw [has_putF, h.st]; simp, fun t e => by rw [getF_put_ne _ (by show nSt ≠ nNx; decide)]; exact h.txt t e⟩
theorem Kept.done (h : Kept l o) {t : List UInt8} (ht : t.length ≤ 100000) : Kept (putF (delF l nNx) ⟨nSt, t, true⟩) (some t) :=
  ⟨(h.good.del _).put (by show (5 : Nat) ≤ 1000; omega) ht, fun f hf => by
    rcases mem_putF.1 hf with rfl | ⟨h1, _⟩
    · exact .inr rfl
    · exact h.names f (mem_delF.1 h1).1, by rw [has_putF]; simp, fun t' e => by injection e with e; subst e; exact getF_put _⟩
/-- a crash leaves what is kept -/
theorem Kept.crash : ∀ (ns : List (List UInt8)) (keep : List Int) {l : List Fl}, Kept l o → (∀ x ∈ ns, x = nNx ∨ (x = nSt ∧ o.isSome = true)) → Kept (crashG ns keep l) o
  | [], keep, l, h, _ => by rw [cG_nil]; exact h
  | x :: ns, keep, l, h, hx => by
    have hns := fun y hy => hx y (List.mem_cons_of_mem _ hy)
    cases hs : (getF l x).safe with
    | true => rw [cG_safe hs]; exact Kept.crash ns keep h hns
    | false =>
      have e : x = nNx := by
        rcases hx x (List.mem_cons_self ..) with e | ⟨e, ho⟩
        · exact e
        · obtain ⟨t, rfl⟩ := Option.isSome_iff_exists.1 ho
          rw [e, h.txt t rfl] at hs
          cases hs
      subst e
      have hl : (getF l nNx).b.length ≤ 100000 := by
        cases hh : hasF l nNx with
        | true => exact (h.good.small _ (getF_mem hh)).2
        | false => rw [getF_none hh]; simp
      cases keep with
      | nil => rw [cG_none hs]; exact Kept.crash ns [] (h.putNx (by simp)) hns
      | cons k ks => rw [cG_some hs]; exact Kept.crash ns ks (h.putNx (by rw [List.length_take]; omega)) hns
theorem Kept.crash_perm {ns : List (List UInt8)} (h : Kept l o) (hp : ns.Perm (l.map (·.name))) (keep : List Int) : Kept (crashG ns keep l) o :=
  Kept.crash ns keep h fun x hx => by
    obtain ⟨f, hf, rfl⟩ := List.mem_map.1 (hp.mem_iff.1 hx)
    rcases h.names f hf with e | e
    · exact .inl e
    · refine .inr ⟨e, ?_⟩
      rw [← h.st, ← e]
      exact has_mem hf
end

/-! ### a save -/
theorem write_go {S : Ds} {t : List UInt8} (hd : S.down = false) (hr : ¬ S.room < (butF S.fs nNx : Int) + (t.length : Int)) : writeD S nNx t = spendD { S with fs := putF S.fs ⟨nNx, t, false⟩ } := by
  unfold writeD
  rw [if_neg (by rw [hd]; simp), names_okK.2, if_neg (by simp), if_neg hr]
theorem write_full {S : Ds} {t : List UInt8} (hd : S.down = false) (hr : S.room < (butF S.fs nNx : Int) + (t.length : Int)) : writeD S nNx t = (51, S) := by
  unfold writeD
  rw [if_neg (by rw [hd]; simp), names_okK.2, if_neg (by simp), if_pos hr]
theorem sync_go {S : Ds} {l : List Fl} {t : List UInt8} {s : Bool} (hd : S.down = false) (hl : S.fs = putF l ⟨nNx, t, s⟩) : syncD S nNx = if S.left = 0 then (50, { S with down := true }) else (0, { (spendD S).2 with fs := putF S.fs ⟨nNx, t, true⟩ }) := by
  unfold syncD
  rw [if_neg (by rw [hd]; simp), if_neg (by rw [hl, has_putF]; simp)]
  have hg : getF S.fs nNx = ⟨nNx, t, s⟩ := by rw [hl]; exact getF_put _
  rw [hg]
  rcases spend_cases S with ⟨hc, e⟩ | ⟨hc, e⟩ | ⟨hc, e⟩
  · rw [e, if_neg (by simp), if_pos hc]
  · rw [e, if_pos rfl, if_neg (by omega)]
  · rw [e, if_pos rfl, if_neg (by omega)]
theorem rename_go {S : Ds} {l : List Fl} {t : List UInt8} (hd : S.down = false) (hl : S.fs = putF l ⟨nNx, t, true⟩) : renameD S nNx nSt = if S.left = 0 then (50, { S with down := true }) else (0, { (spendD S).2 with fs := putF (delF S.fs nNx) ⟨nSt, t, true⟩ }) := by
  unfold renameD
  rw [if_neg (by rw [hd]; simp), if_neg (by rw [hl, has_putF, names_okK.1]; simp)]
  have hg : getF S.fs nNx = ⟨nNx, t, true⟩ := by rw [hl]; exact getF_put _
  rw [hg]
  rcases spend_cases S with ⟨hc, e⟩ | ⟨hc, e⟩ | ⟨hc, e⟩
  · rw [e, if_neg (by simp), if_pos hc]
  · rw [e, if_pos rfl, if_neg (by omega)]
  · rw [e, if_pos rfl, if_neg (by omega)]
theorem spend_same (S : Ds) : (spendD S).2.fs = S.fs ∧ (spendD S).2.room = S.room ∧ ((spendD S).2.left = S.left ∨ (0 < S.left ∧ (spendD S).2.left = S.left - 1)) ∧ (S.left ≠ 0 → (spendD S).1 = 0 ∧ (spendD S).2.down = S.down) := by
  rcases spend_cases S with ⟨hc, e⟩ | ⟨hc, e⟩ | ⟨hc, e⟩ <;> rw [e]
  · exact ⟨rfl, rfl, .inl rfl, fun h => absurd hc h⟩
  · exact ⟨rfl, rfl, .inr ⟨hc, rfl⟩, fun _ => ⟨rfl, rfl⟩⟩
  · exact ⟨rfl, rfl, .inl rfl, fun _ => ⟨rfl, rfl⟩⟩
/-- whatever a save does, the old text or the new one is kept -/
theorem save_two {S : Ds} {o : Option (List UInt8)} {t : List UInt8} (h : Kept S.fs o) (hd : S.down = false) (ht : t.length ≤ 100000) (hr : ¬ S.room < (butF S.fs nNx : Int) + (t.length : Int)) :
    (saveT S t).2.room = S.room ∧ (((saveT S t).1 = 0 ∧ (saveT S t).2.down = false ∧ Kept (saveT S t).2.fs (some t)) ∨ ((saveT S t).1 = 50 ∧ Kept (saveT S t).2.fs o)) := by
  have hw := write_go hd hr
  have hI := h.putNx (s := false) ht
  obtain ⟨w1, w2, _, w4⟩ := spend_same { S with fs := putF S.fs ⟨nNx, t, false⟩ }
  unfold saveT
  rw [hw]
  by_cases z0 : S.left = 0
  · have e := (spend_cases { S with fs := putF S.fs ⟨nNx, t, false⟩ })
    rcases e with ⟨hc, e⟩ | ⟨hc, e⟩ | ⟨hc, e⟩
    · rw [e, if_pos (by simp)]
      exact ⟨rfl, .inr ⟨rfl, hI⟩⟩
    · exact absurd z0 (by show ¬ S.left = 0; have : 0 < S.left := hc; omega)
    · exact absurd z0 (by show ¬ S.left = 0; have : S.left < 0 := hc; omega)
  obtain ⟨w5, w6⟩ := w4 z0
  rw [if_neg (by rw [w5]; simp)]
  obtain ⟨S1, hS1⟩ : ∃ S1, (spendD { S with fs := putF S.fs ⟨nNx, t, false⟩ }).2 = S1 := ⟨_, rfl⟩
  rw [hS1] at w1 w2 w6 ⊢
  have d1 : S1.down = false := w6.trans hd
  rw [sync_go d1 w1]
  by_cases z1 : S1.left = 0
  · rw [if_pos z1, if_pos (by simp)]
    exact ⟨w2, .inr ⟨rfl, by show Kept S1.fs o; rw [w1]; exact hI⟩⟩
  rw [if_neg z1, if_neg (by simp)]
  obtain ⟨x1, x2, _, x4⟩ := spend_same S1
  obtain ⟨_, x6⟩ := x4 z1
  have d2 : (spendD S1).2.down = false := x6.trans d1
  obtain ⟨S2, hS2⟩ : ∃ S2, ({ (spendD S1).2 with fs := putF S1.fs ⟨nNx, t, true⟩ } : Ds) = S2 := ⟨_, rfl⟩
  have f2 : S2.fs = putF S1.fs ⟨nNx, t, true⟩ := by rw [← hS2]
  have r2 : S2.room = S.room := by rw [← hS2]; exact x2.trans w2
  have e2 : S2.down = false := by rw [← hS2]; exact d2
  show (renameD { (spendD S1).2 with fs := putF S1.fs ⟨nNx, t, true⟩ } nNx nSt).2.room = _ ∧ _
  rw [hS2, rename_go e2 f2]
  have hI1 : Kept S1.fs o := by rw [w1]; exact hI
  have hI2 : Kept S2.fs o := by rw [f2]; exact hI1.putNx ht
  by_cases z2 : S2.left = 0
  · rw [if_pos z2]
    exact ⟨r2, .inr ⟨rfl, hI2⟩⟩
  rw [if_neg z2]
  obtain ⟨y1, y2, _, y4⟩ := spend_same S2
  obtain ⟨_, y6⟩ := y4 z2
  exact ⟨y2.trans r2, .inl ⟨rfl, y6.trans e2, hI2.done ht⟩⟩
/-- a disk that isn't armed saves all that has room -/
theorem save_all {S : Ds} {o : Option (List UInt8)} {t : List UInt8} (h : Kept S.fs o) (hd : S.down = false) (hz : S.left < 0) (ht : t.length ≤ 100000) (hr : ¬ S.room < (butF S.fs nNx : Int) + (t.length : Int)) :
    saveT S t = (0, { S with fs := [⟨nSt, t, true⟩] }) := by
  have hs : ∀ S : Ds, S.left < 0 → spendD S = (0, S) := fun S h => by
    unfold spendD
    rw [if_neg (by omega), if_neg (by omega)]
  obtain ⟨S1, h1⟩ : ∃ S1, ({ S with fs := putF S.fs ⟨nNx, t, false⟩ } : Ds) = S1 := ⟨_, rfl⟩
  obtain ⟨S2, h2⟩ : ∃ S2, ({ S1 with fs := putF S1.fs ⟨nNx, t, true⟩ } : Ds) = S2 := ⟨_, rfl⟩
  have z1 : S1.left < 0 := by rw [← h1]; exact hz
  have z2 : S2.left < 0 := by rw [← h2]; exact z1
  have d1 : S1.down = false := by rw [← h1]; exact hd
  have d2 : S2.down = false := by rw [← h2]; exact d1
  have f1 : S1.fs = putF S.fs ⟨nNx, t, false⟩ := by rw [← h1]
  have f2 : S2.fs = putF S1.fs ⟨nNx, t, true⟩ := by rw [← h2]
  have e1 : writeD S nNx t = (0, S1) := by rw [write_go hd hr, h1, hs _ z1]
  have e2 : syncD S1 nNx = (0, S2) := by rw [sync_go d1 f1, if_neg (by omega), hs _ z1, h2]
  have hI : Kept S2.fs o := by rw [f2, f1]; exact (h.putNx ht).putNx ht
  have e3 : renameD S2 nNx nSt = (0, { S with fs := [⟨nSt, t, true⟩] }) := by
    rw [rename_go d2 f2, if_neg (by omega), hs _ z2, hI.del, ← h2, ← h1]
    cases o <;> rfl
  unfold saveT
  rw [e1, if_neg (by simp)]
  show (if (syncD S1 nNx).1 ≠ 0 then syncD S1 nNx else renameD (syncD S1 nNx).2 nNx nSt) = _
  rw [e2, if_neg (by simp)]
  exact e3
end Go.Proofs.YtijkdibccgdomaaGreatDoor.Dsk
