/-
  WHAT IS PROVED: the contract of keep.Save: what it answers, and what it does to a disk. Conditions: the library's variables hold what is laid there; the known ones lie in memory; the disk has fewer than 1000 files.
-/
import Derived.Test.YtijkdibccgdomaaGreatDoorKmem
namespace Go.Proofs.YtijkdibccgdomaaGreatDoor.Dsk
open Go.RowKit Go.Lib C

/-- what a call answers, and does to a disk -/
def SaveP (w : World) (d g : Nat) (r : Int × Ds) (e : Ending) (w' : World) : Prop := e = .returned (.int .i64 r.1) ∧ Did w d g r.2 w'

set_option maxRecDepth 100000 in
set_option maxHeartbeats 1000000 in
theorem save1_any (d g : Nat) (S : Ds) (t : List UInt8) (pb tb : Nat) (w : World) (h : Dk w d g S) (hl : S.fs.length < 1000000) (ht : t.length ≤ 100000) (hp : w.cell? ⟨pb, 0, none⟩ = some (.pointer (some ⟨d, 0, none⟩))) (hs : w.cell? ⟨tb, 0, none⟩ = some (.string (str t))) :
    Calls Tryz.prog 49 #[.pointer (some ⟨pb, 0, none⟩), .pointer (some ⟨tb, 0, none⟩)] w (SaveP w d g (writeD S nNx t)) := by
  have hcv : ∀ w : World, (convert 9 56 (.string (str t))).run Tryz.prog w = .ok (.slice (some ⟨w.heap.size, 0, none⟩) (str t).size (grownCap w (str t).size 0 5)) (w.drew.alloc (.cells (bytesRow (str t) (grownCap w (str t).size 0 5)) 5 ((bytesRow (str t) (grownCap w (str t).size 0 5)).size, (bytesRow (str t) (grownCap w (str t).size 0 5)).size + 1))) :=
    fun w => run_bytes_of_string w 9 56 5 (str t) Tryz.underlying9 Tryz.underlying56 Tryz.underlying5
  have HK := Lib.hid h
  clear h
  go_enter Tryz.func49, Tryz.ntmps49
  go_wp2_with (fail)
  have hr := rd_bytes HK.out t 5 (grownCap w (str t).size 0 5) ((bytesRow (str t) (grownCap w (str t).size 0 5)).size, (bytesRow (str t) (grownCap w (str t).size 0 5)).size + 1)
  refine (write_any d g S nNx _ (str t).size _ t _ (HK.out.below (((Below.refl _ w).drew).alloc (Nat.le_refl _) _)) hl (by decide) hr ht).mono ?_
  rintro e w' ⟨rfl, hk, htn⟩
  go_wp2
  go_ret
  exact ⟨rfl, hk, (turn_bytes w d g _).fd htn⟩
set_option maxRecDepth 100000 in
set_option maxHeartbeats 1000000 in
theorem save2_any (d g : Nat) (S : Ds) (pb : Nat) (w : World) (h : Dk w d g S) (hl : S.fs.length < 1000000) (hp : w.cell? ⟨pb, 0, none⟩ = some (.pointer (some ⟨d, 0, none⟩))) :
    Calls Tryz.prog 50 #[.pointer (some ⟨pb, 0, none⟩)] w (SaveP w d g (syncD S nNx)) := by
  have HK := Lib.hid h
  clear h
  go_enter Tryz.func50, Tryz.ntmps50
  go_wp2_with (fail)
  refine (sync_any d g S nNx _ HK.out hl (by decide)).mono ?_
  rintro e w' ⟨rfl, hk⟩
  go_wp2
  go_ret
  exact ⟨rfl, hk⟩
set_option maxRecDepth 100000 in
set_option maxHeartbeats 1000000 in
theorem save3_any (d g : Nat) (S : Ds) (pb : Nat) (w : World) (h : Dk w d g S) (hl : S.fs.length < 1000000) (hp : w.cell? ⟨pb, 0, none⟩ = some (.pointer (some ⟨d, 0, none⟩))) :
    Calls Tryz.prog 52 #[.pointer (some ⟨pb, 0, none⟩)] w (SaveP w d g (renameD S nNx nSt)) := by
  have HK := Lib.hid h
  clear h
  go_enter Tryz.func52, Tryz.ntmps52
  go_wp2_with (fail)
  refine (rename_any d g S nNx nSt _ HK.out hl (by decide) (by decide)).mono ?_
  rintro e w' ⟨rfl, hk⟩
  go_wp2
  go_ret
  exact ⟨rfl, hk⟩

theorem did_len {S : Ds} {t : List UInt8} : (writeD S nNx t).2.fs.length ≤ S.fs.length + 1 ∧ ∀ T : Ds, (syncD T nNx).2.fs.length ≤ T.fs.length + 1 := by
  refine ⟨?_, fun T => ?_⟩
  · unfold writeD
    split
    · exact Nat.le_succ _
    split
    · exact Nat.le_succ _
    split
    · exact Nat.le_succ _
    · rw [(spend_fs _).1]; exact len_putF_le _
  · unfold syncD
    split
    · exact Nat.le_succ _
    split
    · exact Nat.le_succ _
    split
    · exact len_putF_le _
    · rw [(spend_fs _).1]; exact Nat.le_succ _

/-- the steps of a save, as a row of functions -/
def Steps (w : World) (pb tb fb : Nat) : Prop := w.cell? ⟨fb, 0, none⟩ = some (.func (.func 49) #[] #[.pointer (some ⟨pb, 0, none⟩), .pointer (some ⟨tb, 0, none⟩)]) ∧
  w.cell? ⟨fb, 1, none⟩ = some (.func (.func 50) #[] #[.pointer (some ⟨pb, 0, none⟩)]) ∧ w.cell? ⟨fb, 2, none⟩ = some (.func (.func 52) #[] #[.pointer (some ⟨pb, 0, none⟩)])
theorem cell_turn {w w' : World} {d g b i : Nat} {u : Value} (ht : Turn w w' (FD d g)) (h : w.cell? ⟨b, i, none⟩ = some u) (hd : b ≠ d) (hg : b ≠ g) : w'.cell? ⟨b, i, none⟩ = some u :=
  (ht.cell (p := ⟨b, i, none⟩) (C.lt_of_cell h) (by rintro (f | f) <;> (simp only at f; omega))).trans h

set_option maxRecDepth 100000 in
set_option maxHeartbeats 2000000 in
theorem inturn_any (d g : Nat) (S : Ds) (t : List UInt8) (pb tb fb : Nat) (w : World) (h : Dk w d g S) (hl : S.fs.length < 1000) (ht : t.length ≤ 100000) (hp : w.cell? ⟨pb, 0, none⟩ = some (.pointer (some ⟨d, 0, none⟩))) (hs : w.cell? ⟨tb, 0, none⟩ = some (.string (str t)))
    (hf : Steps w pb tb fb) (np : pb ≠ d ∧ pb ≠ g) (nf : fb ≠ d ∧ fb ≠ g) :
    Calls Tryz.prog 48 #[.slice (some ⟨fb, 0, none⟩) 3 3] w (SaveP w d g (saveT S t)) := by
  obtain ⟨f0, f1, f2⟩ := hf
  obtain ⟨l1, l2⟩ := did_len (S := S) (t := t)
  have l2' := l2 (writeD S nNx t).2
  have HK := Lib.hid h
  obtain ⟨r1, HR1⟩ : ∃ r, Hid (writeD S nNx t = r) := ⟨_, Lib.hid rfl⟩
  obtain ⟨r2, HR2⟩ : ∃ r, Hid (syncD (writeD S nNx t).2 nNx = r) := ⟨_, Lib.hid rfl⟩
  obtain ⟨r3, HR3⟩ : ∃ r, Hid (renameD (syncD (writeD S nNx t).2 nNx).2 nNx nSt = r) := ⟨_, Lib.hid rfl⟩
  obtain ⟨R, HR⟩ : ∃ r, Hid (saveT S t = r) := ⟨_, Lib.hid rfl⟩
  have HX : Hid (R = if r1.1 ≠ 0 then r1 else if r2.1 ≠ 0 then r2 else r3) := Lib.hid (by rw [← HR.out, ← HR1.out, ← HR2.out, ← HR3.out]; rfl)
  rw [HR2.out] at HR3 l2'
  rw [HR1.out] at HR2 l1 l2'
  rw [HR.out]
  obtain ⟨e1, S1⟩ := r1
  obtain ⟨e2, S2⟩ := r2
  simp only at HX HR2 HR3 l1 l2'
  have HL1 : Hid (S1.fs.length < 1000000) := Lib.hid (by omega)
  have HL2 : Hid (S2.fs.length < 1000000) := Lib.hid (by omega)
  have HL0 : Hid (S.fs.length < 1000000) := Lib.hid (by omega)
  clear l1 l2 l2' h hl HR
  go_enter Tryz.func48, Tryz.ntmps48
  go_wp2
  refine wp_loop_rounds 4 ?_
  rw [rounds_succ]
  go_wp2_with (fail)
  refine (save1_any d g S t pb tb w HK.out HL0.out ht hp hs).mono ?_
  rw [HR1.out]
  rintro e w1 ⟨rfl, hk1, ht1⟩
  have p1 := cell_turn ht1 hp np.1 np.2
  have g1 := cell_turn ht1 f1 nf.1 nf.2
  have g2 := cell_turn ht1 f2 nf.1 nf.2
  have HK1 : Hid (Dk w1 d g S1) := Lib.hid hk1
  have HT1 := Lib.hid ht1
  clear hk1 ht1 hp f0 f1 f2 hs
  by_cases z1 : e1 = 0
  · subst z1
    go_wp2
    rw [rounds_succ]
    go_wp2_with (fail)
    refine (save2_any d g S1 pb w1 HK1.out HL1.out p1).mono ?_
    rw [HR2.out]
    rintro e w2 ⟨rfl, hk2, ht2⟩
    have p2 := cell_turn ht2 p1 np.1 np.2
    have k2 := cell_turn ht2 g2 nf.1 nf.2
    have HK2 : Hid (Dk w2 d g S2) := Lib.hid hk2
    have HT2 := Lib.hid (HT1.out.fd ht2)
    clear hk2 ht2 p1 g1 g2
    by_cases z2 : e2 = 0
    · subst z2
      go_wp2
      rw [rounds_succ]
      go_wp2_with (fail)
      refine (save3_any d g S2 pb w2 HK2.out HL2.out p2).mono ?_
      rw [HR3.out]
      rintro e w3 ⟨rfl, hk3, ht3⟩
      have HE : Hid (R = r3) := Lib.hid (by rw [HX.out]; simp)
      have HK3 := Lib.hid hk3
      have HT3 := Lib.hid (HT2.out.fd ht3)
      clear hk3 ht3
      obtain ⟨e3, S3⟩ := r3
      simp only at HK3 ⊢
      by_cases z3 : e3 = 0
      · subst z3
        go_wp2
        rw [rounds_succ]
        go_wp2
        go_ret
        exact ⟨by rw [HE.out]; rfl, by rw [HE.out]; exact HK3.out, HT3.out⟩
      · have q3 : (e3 != 0) = true := by simpa using z3
        go_wp2
        go_ret
        exact ⟨by rw [HE.out]; rfl, by rw [HE.out]; exact HK3.out, HT3.out⟩
    · have q2 : (e2 != 0) = true := by simpa using z2
      have HE : Hid (R = (e2, S2)) := Lib.hid (by rw [HX.out]; simp [z2])
      go_wp2
      go_ret
      exact ⟨by rw [HE.out]; rfl, by rw [HE.out]; exact HK2.out, HT2.out⟩
  · have q1 : (e1 != 0) = true := by simpa using z1
    have HE : Hid (R = (e1, S1)) := Lib.hid (by rw [HX.out]; simp [z1])
    go_wp2
    go_ret
    exact ⟨by rw [HE.out]; rfl, by rw [HE.out]; exact HK1.out, HT1.out⟩
end Go.Proofs.YtijkdibccgdomaaGreatDoor.Dsk
