/-
  WHAT IS PROVED: the contracts of To and List. Condition: the object is a net.
-/
import Derived.Test.YtblmfjndemfkjaaTake
import Derived.Laws.MakeOwn
namespace Go.Proofs.Ytblmfjndemfkjaa
open Go.RowKit Go.Lib
set_option maxRecDepth 100000

/-- the places, among the first k, of those to an id -/
def toK (ts : List Int) (x : Int) : Nat → List Int
  | 0 => []
  | k + 1 => toK ts x k ++ (if ts[k]? = some x then [(k : Int)] else [])
theorem toK_len (ts : List Int) (x : Int) : ∀ k, (toK ts x k).length ≤ k
  | 0 => Nat.le_refl _
  | k + 1 => by
    have := toK_len ts x k
    unfold toK
    rw [List.length_append]
    split <;> simp <;> omega
theorem toK_yes {ts : List Int} {x : Int} {k : Nat} (h : ts[k]? = some x) : toK ts x (k + 1) = toK ts x k ++ [(k : Int)] := by
  show _ ++ _ = _
  rw [if_pos h]
theorem toK_no {ts : List Int} {x y : Int} {k : Nat} (h : ts[k]? = some y) (hn : y ≠ x) : toK ts x (k + 1) = toK ts x k := by
  show _ ++ _ = _
  rw [if_neg (by rw [h]; intro e; injection e with e; exact hn e), List.append_nil]
theorem rd_one (w : World) (z : Int) : Rd (w.alloc (.cells #[.int .i64 z] 3)) no 1 (some ⟨w.heap.size, 0, none⟩) 1 (zints [z]) := Rd.new w no (fun _ f => f.elim) 1 1 #[.int .i64 z] _ rfl
theorem rd_msg (w : World) (m : Ms) : Rd (w.alloc (.cells #[.int .i64 m.f, .int .i64 m.t, .slice m.A m.n m.c] 29)) no 3 (some ⟨w.heap.size, 0, none⟩) 1 (flatM [m]) := Rd.new w no (fun _ f => f.elim) 3 1 (rowM m) _ rfl
def Lists (l : List Int) (w : World) (e : Ending) (w' : World) : Prop :=
  Below w.heap.size w w' ∧ ∃ v, e = .returned v ∧ w'.ownsRow w.heap.size 3 1 v l.length (zints l)
/-- a message's bytes lie in a row of one's own -/
structure OwnD (w : World) (B : Nat) (m : Ms) : Prop where
  own : w.ownsRow B 5 1 (.slice m.A m.n m.c) m.n (bs m.d)
  nc : m.n ≤ m.c
  cm : m.c ≤ 9223372036854775807
  sz : m.n ≤ 1000000
section
variable {w w' : World} {B C n : Nat} {m : Ms} {v : Value} {xs : List Value}
theorem OwnD.below (h : OwnD w B m) (hb : Below w.heap.size w w') : OwnD w' B m := ⟨own_below h.own hb, h.nc, h.cm, h.sz⟩
theorem OwnD.base (h : OwnD w B m) {B' : Nat} (hb : B' ≤ B) : OwnD w B' m := ⟨own_base h.own hb, h.nc, h.cm, h.sz⟩
theorem OwnD.grown (h : OwnD w B m) (ho : w.ownsRow C 29 3 v n xs) (hg : w.grownBy w' v.ownBlock) : OwnD w' B m := by
  refine ⟨own_turn h.own (F := fun i => v.ownBlock = some i) ⟨hg.os, hg.tape, hg.output, hg.size, fun i hi hn => hg.block i hi (fun e => hn e.symm)⟩ (fun k hk e => ?_), h.nc, h.cm, h.sz⟩
  rcases h.own.2 with ⟨h1, _⟩ | ⟨g1, cap1, cur1, e1, _, hh1, _⟩
  · rw [h1] at hk; simp [Value.ownBlock] at hk
  · rcases ho.2 with ⟨h2, _⟩ | ⟨g2, cap2, cur2, e2, _, hh2, _⟩
    · rw [h2] at e; simp [Value.ownBlock] at e
    · rw [e1] at hk; rw [e2] at e
      simp [Value.ownBlock] at hk e
      subst hk; subst e
      rw [hh1] at hh2
      injection hh2 with hh2
      injection hh2 with _ h3 _
      exact absurd h3 (by decide)
theorem OwnD.good (h : OwnD w B m) {F : Nat → Prop} (hF : ∀ i, F i → i < B) : Good w F m :=
  ⟨Rd.of_own h.own rfl (fun k hk f => by have := (h.own.lt k hk).1; have := hF k f; omega), h.nc, h.cm, h.sz⟩
end
/-- messages are handed back, in memory of its own, with bytes of their own -/
def Lst (ps : List (Int × Int × List UInt8)) (w : World) (e : Ending) (w' : World) : Prop :=
  Below w.heap.size w w' ∧ ∃ A c xs, e = .returned (.slice A xs.length c) ∧ w'.ownsRow w.heap.size 29 3 (.slice A xs.length c) xs.length (flatM xs) ∧ xs.map Ms.pl = ps ∧ (∀ m ∈ xs, OwnD w' w.heap.size m) ∧ xs.length ≤ c ∧ c ≤ 9223372036854775807
section
variable (C n : Nat) (U : Nat → Prop) (l : List Ms) (k : Int) (w : World) (h : Nt w C n U l k)
include h
set_option maxHeartbeats 2000000 in
theorem to_any (x : Int) : Calls Try.prog 20 #[.pointer (some ⟨n, 0, none⟩), .int .i64 x] w (Lists (toK (l.map Ms.t) x l.length) w) := by
  obtain ⟨i0, hi0, hz0, hz1, hz2⟩ := info_parts int_info
  have h5 := h.le
  obtain ⟨A, c, hblk, _, hnc, hcm, _, _, hr⟩ := h.open_
  have c0 := hblk.cell 0
  simp at c0
  obtain ⟨N, hN⟩ : ∃ N, l.length = N := ⟨_, rfl⟩
  rw [hN] at c0 hnc hr h5 ⊢
  have HR := Lib.hid hr
  obtain ⟨ts, hts⟩ : ∃ ts, l.map Ms.t = ts := ⟨_, rfl⟩
  have HTS : Hid (∀ j (p : Ms), l[j]? = some p → ts[j]? = some p.t) := Lib.hid (fun j p hp => by rw [← hts, List.getElem?_map, hp]; rfl)
  rw [hts]
  clear h hblk hr hts
  go_enter Try.func20, Try.ntmps20
  go_wp2
  go_loopw [5, 13] (fun v i wr => ∃ (k m : Nat) (Av : Option Addr) (cv : Nat), k ≤ N ∧ m ≤ k ∧ i = .int .i64 k ∧ v = .slice Av m cv ∧ (toK ts x k).length = m ∧ wr.ownsRow w.heap.size 3 1 (.slice Av m cv) m (zints (toK ts x k)) ∧ Below w.heap.size w wr) (fun _ i _ => N - (RowKit.intOf i).toNat)
  case atStart => exact ⟨0, 0, none, 0, by omega, by omega, rfl, rfl, rfl, World.ownsRow_nil _ _ _ _, Below.refl _ _⟩
  case round =>
    obtain ⟨w3, rfl⟩ : ∃ w3, w3 = wr := ⟨_, rfl⟩
    obtain ⟨k, m, Av, cv, hk, hmk, rfl, rfl, hlm, hown, hb⟩ := hrel
    have HB := Lib.hid hb
    have HO := Lib.hid hown
    have HM := Lib.hid hlm
    have HR3 := Lib.hid (HR.out.below hb)
    clear hb hown hlm
    by_cases hlt : k < N
    · obtain ⟨ad, p, rfl, hp, hbl, _, d0, d1, d2⟩ := HR3.out.atM hlt
      have e1 := (Bx.new w3 p).cells.2.1
      have HBA : Hid (Below w.heap.size w (w3.alloc (.cells #[.int .i64 p.f, .int .i64 p.t, .slice p.A p.n p.c] 29))) := Lib.hid (HB.out.alloc HB.out.size _)
      by_cases hx : p.t = x
      · have HE := Lib.hid (toK_yes (k := k) ((HTS.out k p hp).trans (by rw [hx])))
        have HBB : Hid (Below w.heap.size w ((w3.alloc (.cells #[.int .i64 p.f, .int .i64 p.t, .slice p.A p.n p.c] 29)).alloc (.cells #[.int .i64 (k : Int)] 3))) := Lib.hid (HBA.out.alloc HBA.out.size _)
        have HOB := Lib.hid ((HO.out.alloc (.cells #[.int .i64 p.f, .int .i64 p.t, .slice p.A p.n p.c] 29)).alloc (.cells #[.int .i64 (k : Int)] 3))
        have HON := Lib.hid (rd_one (w3.alloc (.cells #[.int .i64 p.f, .int .i64 p.t, .slice p.A p.n p.c] 29)) (k : Int))
        simp only [World.size_alloc] at HON
        have HS := HBB.out.size
        obtain ⟨pf, pt, pA, pn, pc, pd⟩ := p
        simp only at hx e1 d0 d1 d2 HBA HOB HBB HON HS
        subst hx
        clear hp
        go_wp2_with (at_builtin; refine wpList_append_rd _ rfl _ _ 43 rfl w.heap.size 3 i0 _ 1 8 Try.underlying43 hi0 hz0 hz1 hz2 rfl (by omega) (.slice Av m cv) m (zints (toK ts pt k)) rfl HOB.out no (some ⟨w3.heap.size + 1, 0, none⟩) 1 1 (zints [(k : Int)]) rfl HON.out (zints_one _) (by unfold maxLen; omega) (by omega) HS ?_; intro v4 w4 hown4 hg4 hat4; obtain ⟨A4, c4, rfl, _, _⟩ := own_form hown4; have H4 := Lib.hid hown4; have HB4 := Lib.hid (HBB.out.grown hg4 HBB.out.size (fun k hk => (HOB.out.lt k hk).1)); clear hown4 hg4 hat4)
        go_roundw
        case rel => exact ⟨k + 1, m + 1, A4, c4, by omega, by omega, by go_num, rfl, by rw [HE.out, List.length_append, HM.out]; rfl, by rw [HE.out, zints_append]; exact H4.out, HB4.out⟩
        case measure => simp [RowKit.intOf]; omega
      · have HE := Lib.hid (toK_no (k := k) (HTS.out k p hp) hx)
        have t1 : (p.t == x) = false := by simpa using hx
        have HOA := Lib.hid (HO.out.alloc (.cells #[.int .i64 p.f, .int .i64 p.t, .slice p.A p.n p.c] 29))
        clear hp hx
        go_wp2
        go_roundw
        case rel => exact ⟨k + 1, m, Av, cv, by omega, by omega, by go_num, rfl, by rw [HE.out]; exact HM.out, by rw [HE.out]; exact HOA.out, HBA.out⟩
        case measure => simp [RowKit.intOf]; omega
    · obtain rfl : k = N := by omega
      go_wp2
      go_ret
      refine ⟨HB.out, _, rfl, ?_⟩
      rw [HM.out]
      exact HO.out

set_option maxHeartbeats 4000000 in
theorem list_any : Calls Try.prog 12 #[.pointer (some ⟨n, 0, none⟩)] w (Lst (l.map Ms.pl) w) := by
  obtain ⟨i0, hi0, hz0, hz1, hz2⟩ := info_parts msg_info
  have h5 := h.le
  obtain ⟨A, c, hblk, _, hnc, hcm, _, hg, hr⟩ := h.open_
  have c0 := hblk.cell 0
  simp at c0
  obtain ⟨N, hN⟩ : ∃ N, l.length = N := ⟨_, rfl⟩
  have HG : Hid (∀ j p, l[j]? = some p → ∃ F, Good w F p) := Lib.hid (fun j p hp => ⟨_, hg p (List.mem_of_getElem? hp)⟩)
  rw [hN] at c0 hnc hr h5
  have HNL := Lib.hid hN
  have HR := Lib.hid hr
  obtain ⟨w1, hmk, ho1, hg1⟩ := run_make_own (P := Try.prog) w w.heap.size 26 29 i0 _ 3 Try.underlying26 hi0 hz0 hz1 .i64 .i64 N (by rw [hz2]; omega) (by unfold maxLen; omega) (Nat.le_refl _)
  have hb1 : Below w.heap.size w w1 := ⟨hg1.os, hg1.tape, hg1.output, hg1.size, fun i hi => hg1.block i hi (by simp)⟩
  have c1 := (hb1.cell (p := ⟨n, 0, none⟩) hblk.lt).trans c0
  have HB1 := Lib.hid hb1
  have HO1 := Lib.hid ho1
  clear h hblk hr hg hg1 hb1 ho1
  go_enter Try.func12, Try.ntmps12
  go_wp2
  go_loopw [3, 17] (fun v i wr => ∃ (k : Nat) (Av : Option Addr) (cv : Nat) (xs : List Ms), k ≤ N ∧ i = .int .i64 k ∧ v = .slice Av k cv ∧ xs.length = k ∧ xs.map Ms.pl = (l.take k).map Ms.pl ∧ wr.ownsRow w.heap.size 29 3 (.slice Av k cv) k (flatM xs) ∧ (∀ m ∈ xs, OwnD wr w.heap.size m) ∧ Below w.heap.size w wr) (fun _ i _ => N - (RowKit.intOf i).toNat)
  case atStart => exact ⟨0, _, _, [], by omega, rfl, rfl, rfl, by simp, HO1.out, (fun _ hm => by cases hm), HB1.out⟩
  case round =>
    obtain ⟨w3, rfl⟩ : ∃ w3, w3 = wr := ⟨_, rfl⟩
    obtain ⟨k, Av, cv, xs, hk, rfl, rfl, hlx, hpl, hown, hod, hb⟩ := hrel
    have HB := Lib.hid hb
    have HO := Lib.hid hown
    have HLX := Lib.hid hlx
    have HPL := Lib.hid hpl
    have HOD := Lib.hid hod
    have HR3 := Lib.hid (HR.out.below hb)
    clear hb hown hlx hpl hod
    by_cases hlt : k < N
    · obtain ⟨ad, p, rfl, hp, hbl, _, d0, d1, d2⟩ := HR3.out.atM hlt
      obtain ⟨F, hgp⟩ := HG.out k p hp
      have hgp3 := hgp.below HB.out
      obtain ⟨pf, pt, pA, pn, pc, pd⟩ := p
      have HP := Lib.hid hp
      have HBA : Hid (Below w3.heap.size w3 (w3.alloc (.cells #[.int .i64 pf, .int .i64 pt, .slice pA pn pc] 29))) := Lib.hid ((Below.refl _ _).alloc (Nat.le_refl _) _)
      have HGA := Lib.hid (hgp3.below HBA.out)
      obtain ⟨e0, e1, e2⟩ := (Bx.new w3 ⟨pf, pt, pA, pn, pc, pd⟩).cells
      simp only at e0 e1 e2 d0 d1 d2
      clear hp hgp hgp3
      go_wp2_with (fail)
      refine (copied_any ⟨pf, pt, pA, pn, pc, pd⟩ F _ HGA.out).mono ?_
      rintro e w5 ⟨A3, c3, rfl, hc3, hcm3, ho3, hb3⟩
      dsimp only at hc3 ho3 ⊢
      simp only [World.size_alloc] at ho3
      have hB35 : Below w3.heap.size w3 w5 := HBA.out.trans (hb3.mono (by simp))
      have hB5 : Below w.heap.size w w5 := HB.out.trans (hB35.mono HB.out.size)
      have hOD5 : OwnD w5 w.heap.size ⟨pf, pt, A3, pn, c3, pd⟩ := ⟨own_base ho3 (by have := HB.out.size; omega), hc3, hcm3, HGA.out.sz⟩
      have HBB : Hid (Below w.heap.size w (w5.alloc (.cells #[.int .i64 pf, .int .i64 pt, .slice A3 pn c3] 29))) := Lib.hid (hB5.alloc hB5.size _)
      have hal : Below w5.heap.size w5 (w5.alloc (.cells #[.int .i64 pf, .int .i64 pt, .slice A3 pn c3] 29)) := (Below.refl _ _).alloc (Nat.le_refl _) _
      have HOB := Lib.hid (own_below (own_below HO.out hB35) hal)
      have HODB : Hid (∀ m ∈ xs ++ [⟨pf, pt, A3, pn, c3, pd⟩], OwnD (w5.alloc (.cells #[.int .i64 pf, .int .i64 pt, .slice A3 pn c3] 29)) w.heap.size m) := Lib.hid (fun m hm => by
        rcases List.mem_append.1 hm with hm | hm
        · exact ((HOD.out m hm).below hB35).below hal
        · rw [List.mem_singleton.1 hm]; exact hOD5.below hal)
      have HON := Lib.hid (rd_msg w5 ⟨pf, pt, A3, pn, c3, pd⟩)
      simp only at HON
      have HS := HBB.out.size
      clear hb3 ho3 hB35 hB5 hOD5 hal
      go_wp2_with (at_builtin; refine wpList_append_rd _ rfl _ _ 26 rfl w.heap.size 29 i0 _ 3 40 Try.underlying26 hi0 hz0 hz1 hz2 rfl (by omega) (.slice Av k cv) k (flatM xs) rfl HOB.out no (some ⟨w5.heap.size, 0, none⟩) 1 1 (flatM [⟨pf, pt, A3, pn, c3, pd⟩]) rfl HON.out (flatM_one _) (by unfold maxLen; omega) (by omega) HS ?_; intro v4 w4 hown4 hg4 hat4; obtain ⟨A4, c4, rfl, _, _⟩ := own_form hown4; have H4 := Lib.hid hown4; have HB4 := Lib.hid (HBB.out.grown hg4 HBB.out.size (fun k hk => (HOB.out.lt k hk).1)); have HOD4 : Hid (∀ m ∈ xs ++ [⟨pf, pt, A3, pn, c3, pd⟩], OwnD w4 w.heap.size m) := Lib.hid (fun m hm => (HODB.out m hm).grown HOB.out hg4); clear hown4 hg4 hat4)
      go_roundw
      case rel => exact ⟨k + 1, A4, c4, xs ++ [⟨pf, pt, A3, pn, c3, pd⟩], by omega, by go_num, rfl, by rw [List.length_append, HLX.out]; rfl, by rw [List.map_append, HPL.out, List.take_add_one, HP.out, List.map_append]; rfl, by rw [flatM_append]; exact H4.out, HOD4.out, HB4.out⟩
      case measure => simp [RowKit.intOf]; omega
    · obtain rfl : k = N := by omega
      have HT : Hid (l.take k = l) := Lib.hid (List.take_of_length_le (by rw [HNL.out]; exact Nat.le_refl _))
      go_wp2
      go_ret
      obtain ⟨_, _, e4, h6, h7⟩ := own_form HO.out
      injection e4 with e4 e5 e6
      subst e6
      have h1 := HLX.out
      subst h1
      exact ⟨HB.out, _, _, xs, rfl, HO.out, by rw [HPL.out, HT.out], HOD.out, h6, h7⟩
end
end Go.Proofs.Ytblmfjndemfkjaa
