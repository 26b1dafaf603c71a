/-
  WHAT IS PROVED: how many bytes the files have together, behind each call of a disk; contract of the law's own function that counts them. Conditions: the files' number; the disk is up.
-/
import Derived.Test.YtdoahbegcfhegaaApart
namespace Go.Proofs.Ytdoahbegcfhegaa
open Go.RowKit Go.Lib Go.Sort

theorem sum_put (l : List Fl) (f : Fl) : sumF (putF l f) = f.b.length + butF l f.name := rfl
theorem but_le_sum (l : List Fl) (x : List UInt8) : butF l x ≤ sumF l := by
  have := done_le l x (fun _ => false)
  rw [done_end (fun _ => rfl)] at this
  exact this
theorem but_no {l : List Fl} {x : List UInt8} (h : hasF l x = false) : butF l x = sumF l := by unfold butF; rw [len_delF_no h]
theorem but_has : ∀ {l : List Fl} {x : List UInt8}, Good l → hasF l x = true → butF l x + (getF l x).b.length = sumF l := by
  intro l x hu hh
  have hn := hu.nodup
  clear hu
  induction l with
  | nil => simp [hasF] at hh
  | cons f l ih =>
    rw [List.map_cons, List.nodup_cons] at hn
    by_cases e : f.name = x
    · have hl : hasF l x = false := by
        cases h : hasF l x with
        | false => rfl
        | true => obtain ⟨g, hg, eg⟩ := hasF_iff.1 h; exact absurd (List.mem_map.2 ⟨g, hg, eg.trans e.symm⟩) hn.1
      have h1 : butF (f :: l) x = sumF l := by
        rw [← but_no hl]
        unfold butF delF
        rw [List.filter_cons_of_neg (by simp [e])]
      have h2 : getF (f :: l) x = f := by unfold getF; rw [if_pos e]
      rw [h1, h2, sumF_cons]
      omega
    · have hl : hasF l x = true := by simpa [hasF, e] using hh
      have h1 : butF (f :: l) x = f.b.length + butF l x := by
        unfold butF delF
        rw [List.filter_cons_of_pos (by simp [e]), sumF_cons]
      have h2 : getF (f :: l) x = getF l x := by conv => lhs; unfold getF
                                                 rw [if_neg e]
      have := ih hl hn.2
      rw [h1, h2, sumF_cons]
      omega
section
variable {S : Ds}
/-- a disk that never goes down, and keeps to its room -/
structure Calm (S : Ds) (R : Int) : Prop where
  room : S.room = R
  left : S.left = -1
  down : S.down = false
  sum : (sumF S.fs : Int) ≤ R
theorem Calm.spend {R : Int} (h : Calm S R) : spendD S = (0, S) := by
  rcases spend_cases S with ⟨h1, e⟩ | ⟨h1, e⟩ | ⟨h1, e⟩
  · rw [h.left] at h1; omega
  · rw [h.left] at h1; omega
  · exact e
theorem Calm.write {R : Int} (h : Calm S R) (x b : List UInt8) : ((writeD S x b).1 = 0 ∧ Calm (writeD S x b).2 R ∧ (writeD S x b).2.fs.length ≤ S.fs.length + 1) ∨ ((writeD S x b).1 ≠ 0 ∧ (writeD S x b).2 = S) := by
  unfold writeD
  rw [if_neg (by rw [h.down]; simp)]
  split
  · exact .inr ⟨by simp, rfl⟩
  split
  · exact .inr ⟨by simp, rfl⟩
  · rename_i _ hr
    have hs : spendD { S with fs := putF S.fs ⟨x, b, false⟩ } = (0, { S with fs := putF S.fs ⟨x, b, false⟩ }) := by
      rcases spend_cases { S with fs := putF S.fs ⟨x, b, false⟩ } with ⟨h1, e⟩ | ⟨h1, e⟩ | ⟨h1, e⟩
      · have : S.left = 0 := h1
        rw [h.left] at this; omega
      · have : 0 < S.left := h1
        rw [h.left] at this; omega
      · exact e
    rw [hs]
    refine .inl ⟨rfl, ⟨h.room, h.left, h.down, ?_⟩, len_putF_le _⟩
    show (sumF (putF S.fs ⟨x, b, false⟩) : Int) ≤ R
    rw [sum_put]
    have h2 := h.room
    show (((b.length + butF S.fs x : Nat)) : Int) ≤ R
    omega
theorem Calm.sync {R : Int} (h : Calm S R) (hu : Good S.fs) (x : List UInt8) : Calm (syncD S x).2 R ∧ (syncD S x).2.fs.length ≤ S.fs.length + 1 ∧ sumF (syncD S x).2.fs ≤ sumF S.fs := by
  unfold syncD
  rw [if_neg (by rw [h.down]; simp)]
  split
  · exact ⟨h, Nat.le_succ _, Nat.le_refl _⟩
  · rename_i hh
    have hh' : hasF S.fs x = true := by simpa using hh
    have hs : sumF (putF S.fs { getF S.fs x with safe := true }) = sumF S.fs := by
      rw [sum_put]
      show (getF S.fs x).b.length + butF S.fs (getF S.fs x).name = _
      rw [getF_name]
      have := but_has hu hh'
      omega
    rw [h.spend, if_pos rfl]
    refine ⟨⟨h.room, h.left, h.down, ?_⟩, len_putF_le _, ?_⟩
    · show (sumF (putF S.fs { getF S.fs x with safe := true }) : Int) ≤ R
      rw [hs]; exact h.sum
    · show sumF (putF S.fs { getF S.fs x with safe := true }) ≤ _
      rw [hs]; exact Nat.le_refl _
theorem Calm.rename {R : Int} (h : Calm S R) (hu : Good S.fs) (x y : List UInt8) : Calm (renameD S x y).2 R ∧ (renameD S x y).2.fs.length ≤ S.fs.length + 1 ∧ sumF (renameD S x y).2.fs ≤ sumF S.fs := by
  unfold renameD
  rw [if_neg (by rw [h.down]; simp)]
  split
  · exact ⟨h, Nat.le_succ _, Nat.le_refl _⟩
  · rename_i hh
    have hh' : hasF S.fs x = true := by
      cases e : hasF S.fs x with
      | true => rfl
      | false => exact absurd (.inl e) hh
    have hs : sumF (putF (delF S.fs x) { getF S.fs x with name := y }) ≤ sumF S.fs := by
      rw [sum_put]
      show (getF S.fs x).b.length + butF (delF S.fs x) y ≤ _
      have h1 := but_has hu hh'
      have h2 := but_le_sum (delF S.fs x) y
      have h3 : sumF (delF S.fs x) = butF S.fs x := rfl
      omega
    rw [h.spend, if_pos rfl]
    refine ⟨⟨h.room, h.left, h.down, ?_⟩, ?_, hs⟩
    · have h1 := h.sum
      show (sumF (putF (delF S.fs x) { getF S.fs x with name := y }) : Int) ≤ R
      omega
    · exact Nat.le_trans (len_putF_le _) (Nat.add_le_add_right (List.length_filter_le _ _) 1)
end
/-- the bytes of the files of these names -/
def sumN (l : List Fl) (ns : List (List UInt8)) : Nat := (ns.map fun x => (getF l x).b.length).sum
theorem sumN_snoc (l : List Fl) (ns : List (List UInt8)) (x : List UInt8) : sumN l (ns ++ [x]) = sumN l ns + (getF l x).b.length := by unfold sumN; simp
theorem sumN_all {l : List Fl} (hu : Good l) {ns : List (List UInt8)} (h : ns.Perm (l.map (·.name))) : sumN l ns = sumF l := by
  have h1 := (h.map (fun x => (getF l x).b.length)).sum_nat
  unfold sumN sumF
  rw [h1, List.map_map]
  congr 1
  refine List.map_congr_left fun f hf => ?_
  show (getF l f.name).b.length = f.b.length
  rw [hu.get hf]
theorem sumN_le {l : List Fl} (ns : List (List UInt8)) (k : Nat) : sumN l (ns.take k) ≤ sumN l ns := by
  have : sumN l ns = sumN l (ns.take k) + sumN l (ns.drop k) := by
    unfold sumN
    rw [← List.sum_append, ← List.map_append, List.take_append_drop]
  omega

set_option maxRecDepth 100000 in
set_option maxHeartbeats 4000000 in
theorem size_any (p d g : Nat) (S : Ds) (w : World) (h : Dk w d g S) (hb : Blk w p 25 #[.pointer (some ⟨d, 0, none⟩)]) (hl : S.fs.length ≤ 1000000) (hd : S.down = false) :
    Calls Try.prog 16 #[.pointer (some ⟨p, 0, none⟩)] w fun e w' => e = .returned (.int .i64 (sumF S.fs : Int)) ∧ Below w.heap.size w w' := by
  have c0 := hb.cell 0
  have HK := Lib.hid h
  have HBX := Lib.hid hb
  have HSM : Hid (sumF S.fs ≤ 100000000000) := by
    show _ ≤ _
    have h1 := sumF_le (fun f hf => (h.good.small f hf).2)
    have h2 : S.fs.length * 100000 ≤ 1000000 * 100000 := Nat.mul_le_mul_right _ hl
    omega
  clear h hb
  go_enter Try.func16, Try.ntmps16
  go_wp2_with (fail)
  refine (Names_any d g S w HK.out hl hd).mono ?_
  rintro e w1 ⟨v, rfl, ns, hp, hrow, hb1⟩
  obtain ⟨An, cn, rfl, hcn, hcnm⟩ := own_form hrow
  obtain ⟨m, hm⟩ : ∃ m, ns.length = m := ⟨_, rfl⟩
  have hrd := (Rd.of_own (F := no) hrow rfl (fun _ _ f => f))
  have HALL := Lib.hid (sumN_all HK.out.good hp)
  have HP := Lib.hid (perm_has hp)
  rw [hm] at hcn hrd ⊢
  have HRD := Lib.hid hrd
  have HM := Lib.hid hm
  have HB1 := Lib.hid hb1
  clear hm hrd hrow hb1 hp
  go_wp2
  go_loopw [2, 16] (fun q i wr => ∃ k : Nat, k ≤ m ∧ q = .int .i64 (sumN S.fs (ns.take k) : Int) ∧ i = .int .i64 (k : Int) ∧ Below w1.heap.size w1 wr) (fun _ i _ => m - (intOf i).toNat)
  case atStart => exact ⟨0, by omega, rfl, rfl, Below.refl _ _⟩
  case round =>
    obtain ⟨k, hk, rfl, rfl, hb⟩ := hrel
    have HB := Lib.hid hb
    have HBA := Lib.hid (HB1.out.trans (hb.mono HB1.out.size))
    clear hb
    by_cases hkm : k < m
    · have hkl : k < ns.length := by rw [HM.out]; exact hkm
      obtain ⟨x, hx⟩ : ∃ x, ns[k]? = some x := ⟨_, List.getElem?_eq_getElem hkl⟩
      have hhas := HP.out x (List.mem_of_getElem? hx)
      have hxl : x.length ≤ 1000 := by have := (HK.out.good.small _ (getF_mem hhas)).1; rw [getF_name] at this; exact this
      obtain ⟨ad, rfl, hal, _, hac⟩ := HRD.out.2 (by omega)
      have cx : wr.cell? (ad.add k) = some (.string (str x)) := (HB.out.cell (by rw [block_of_add]; exact hal)).trans (hac k _ (by rw [List.getElem?_map, hx]; rfl))
      have cb : wr.cell? ⟨p, 0, none⟩ = some (.pointer (some ⟨d, 0, none⟩)) := (HBX.out.below HBA.out HBX.out.lt).cell 0
      have q0 : (0 : Int) ≤ (k : Int) := by omega
      have q1 : (k : Int) < (m : Int) := by omega
      have htk : ns.take (k + 1) = ns.take k ++ [x] := by rw [List.take_add_one, hx]; rfl
      have hsn : sumN S.fs (ns.take (k + 1)) = sumN S.fs (ns.take k) + (getF S.fs x).b.length := by rw [htk, sumN_snoc]
      have hle : sumN S.fs (ns.take (k + 1)) ≤ 100000000000 := Nat.le_trans (sumN_le ns _) (by rw [HALL.out]; exact HSM.out)
      obtain ⟨t, ht⟩ : ∃ t, sumN S.fs (ns.take k) = t := ⟨_, rfl⟩
      rw [ht] at hsn ⊢
      have hre : readE S x = 0 := by unfold readE; rw [if_neg (by rw [hd]; simp), if_neg (by rw [hhas]; simp)]
      have hrb : readB S x = (getF S.fs x).b := by unfold readB; rw [if_pos hre]
      have HRE := Lib.hid hre
      have HRB := Lib.hid hrb
      have HSN := Lib.hid hsn
      have HLE := Lib.hid hle
      clear hx hhas hal hac htk hsn hle ht hre hrb hkl
      go_wp2_with (fail)
      refine (read_any d g S x wr (HK.out.below HBA.out) hxl).mono ?_
      rw [HRE.out, HRB.out]
      rintro e w3 ⟨A, n, c, rfl, hln, _, _, _, hb3⟩
      have hw : IntKind.i64.wrap ((t : Int) + (n : Int)) = ((t + n : Nat) : Int) := by
        have h1 := HSN.out
        have h2 := HLE.out
        rw [hln] at h1
        rw [IntKind.wrap_i64]
        omega
      have HSK : Hid (sumN S.fs (ns.take (k + 1)) = t + n) := by show _ = _; rw [HSN.out, hln]
      have HB3 := Lib.hid (HB.out.trans (hb3.mono HB.out.size))
      clear hb3 hln
      go_wp2
      go_roundw
      case rel => exact ⟨k + 1, by omega, by rw [HSK.out]; simp, by go_num, HB3.out⟩
      case measure => simp [intOf]; omega
    · obtain rfl : k = m := by omega
      have hfin : sumN S.fs (ns.take k) = sumF S.fs := by rw [List.take_of_length_le (by rw [HM.out]; exact Nat.le_refl _)]; exact HALL.out
      rw [hfin]
      clear hfin
      go_wp2
      go_ret
      exact ⟨rfl, HBA.out⟩
end Go.Proofs.Ytdoahbegcfhegaa
