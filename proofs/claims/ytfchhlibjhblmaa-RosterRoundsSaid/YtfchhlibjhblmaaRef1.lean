/-
  WHAT IS PROVED: contracts of the document's own answers: same, Find, Banned and unban. Conditions: the sizes.
-/
import Derived.Test.YtfchhlibjhblmaaAdd
namespace Go.Proofs.Ytfchhlibjhblmaa
open Go.RowKit Go.Lib Go.Maps

def sameB (xs ys : List Int) : Bool := decide (xs = ys)
theorem same_yes {xs ys : List Int} (h : xs = ys) : sameB xs ys = true := by unfold sameB; simp [h]
theorem same_no {xs ys : List Int} (h : xs ≠ ys) : sameB xs ys = false := by unfold sameB; simp [h]
theorem take_snoc_ {xs : List Int} {k : Nat} {z : Int} (h : xs[k]? = some z) : xs.take (k + 1) = xs.take k ++ [z] := by rw [List.take_add_one, h]; rfl
set_option maxHeartbeats 1000000 in
theorem same_any (A B : Option Addr) (n c m d : Nat) (xs ys : List Int) (F G : Nat → Prop) (w : World) (hn : n ≤ 9223372036854775807) (hm : m ≤ 9223372036854775807) (hx : Rd w F 1 A n (zints xs)) (hy : Rd w G 1 B m (zints ys)) :
    Calls Try.prog 20 #[.slice A n c, .slice B m d] w fun e w' => e = .returned (.bool (sameB xs ys)) ∧ w = w' := by
  have HLX := Lib.hid hx.lenZ
  have HLY := Lib.hid hy.lenZ
  by_cases hnm : n = m
  · subst hnm
    have HX0 := Lib.hid hx
    have HY0 := Lib.hid hy
    clear hx hy
    go_enter Try.func20, Try.ntmps20
    go_wp2
    go_loop [14] (fun i => ∃ k : Nat, k ≤ n ∧ i = .int .i64 k ∧ xs.take k = ys.take k) (fun i => n - (intOf i).toNat)
    case atStart => exact ⟨0, by omega, rfl, by simp⟩
    case round =>
      obtain ⟨k, hk, rfl, he⟩ := hrel
      by_cases hlt : k < n
      · obtain ⟨ad, y, rfl, hy1, _, _, hcx⟩ := HX0.out.atZ hlt
        obtain ⟨ad2, z, rfl, hz1, _, _, hcy⟩ := HY0.out.atZ hlt
        by_cases hyz : y = z
        · subst hyz
          have HX : Hid (xs.take (k + 1) = ys.take (k + 1)) := Lib.hid (by rw [take_snoc_ hy1, take_snoc_ hz1, he])
          clear he hy1 hz1
          go_wp2
          go_round
          case rel => exact ⟨k + 1, by omega, by go_num, HX.out⟩
          case measure => simp [intOf]; omega
        · have HX : Hid (sameB xs ys = false) := Lib.hid (same_no fun e => hyz (by rw [e, hz1] at hy1; injection hy1 with h; exact h.symm))
          have ht : (y != z) = true := by simpa using hyz
          clear he hy1 hz1 hyz
          go_wp2
          go_ret
          exact ⟨by rw [HX.out]; rfl, rfl⟩
      · obtain rfl : k = n := by omega
        have HX : Hid (sameB xs ys = true) := Lib.hid (same_yes (by rwa [List.take_of_length_le (by rw [HLX.out]; exact Nat.le_refl _), List.take_of_length_le (by rw [HLY.out]; exact Nat.le_refl _)] at he))
        clear he
        go_wp2
        go_ret
        exact ⟨by rw [HX.out]; rfl, rfl⟩
  · have HX : Hid (sameB xs ys = false) := Lib.hid (same_no fun e => hnm (by rw [← HLX.out, ← HLY.out, e]))
    have ht : ((n : Int) != (m : Int)) = true := by simp; omega
    clear hnm
    go_enter Try.func20, Try.ntmps20
    go_wp2
    go_ret
    exact ⟨by rw [HX.out]; rfl, rfl⟩

/-- the document's roster, as a value -/
abbrev vD (R : Ro) (A : Option Addr) (n c : Nat) (B : Option Addr) (m d : Nat) : Value := .agg #[.int .i64 R.s, .slice A n c, .slice B m d, .int .i64 (R.c : Int)]
structure Dc (w : World) (F : Nat → Prop) (R : Ro) (A : Option Addr) (n c : Nat) (B : Option Addr) (m d : Nat) : Prop where
  l : Rd w F 5 A n (flatM R.L)
  b : Rd w F 2 B m (flatB R.B)
  lc : n ≤ c
  lm : c ≤ 9223372036854775807
  bc : m ≤ d
  bm : d ≤ 9223372036854775807
section
variable {w w' : World} {F F' : Nat → Prop} {R : Ro} {A B : Option Addr} {n c m d : Nat}
theorem Dc.turn (h : Dc w F R A n c B m d) (k : Turn w w' F) (hs : Sub w F F') : Dc w' F' R A n c B m d := ⟨h.l.turn k hs, h.b.turn k hs, h.lc, h.lm, h.bc, h.bm⟩
theorem Dc.below (h : Dc w F R A n c B m d) (k : Below w.heap.size w w') : Dc w' F R A n c B m d := ⟨h.l.below k, h.b.below k, h.lc, h.lm, h.bc, h.bm⟩
theorem Dc.weak (h : Dc w F R A n c B m d) (hs : ∀ i, i < w.heap.size → F' i → F i) : Dc w F' R A n c B m d := ⟨h.l.weak hs, h.b.weak hs, h.lc, h.lm, h.bc, h.bm⟩
end
/-- a variable of the document's type Roster -/
def Vx (w : World) (b : Nat) (R : Ro) (A : Option Addr) (n c : Nat) (B : Option Addr) (m d : Nat) : Prop := Blk w b 32 #[.int .i64 R.s, .slice A n c, .slice B m d, .int .i64 (R.c : Int)]
section
variable {w w' : World} {b : Nat} {R : Ro} {A B : Option Addr} {n c m d : Nat}
theorem Vx.new (w : World) (R : Ro) (A : Option Addr) (n c : Nat) (B : Option Addr) (m d : Nat) {b : Nat} (hb : b = w.heap.size) : Vx (w.alloc (.cells #[.int .i64 R.s, .slice A n c, .slice B m d, .int .i64 (R.c : Int)] 32)) b R A n c B m d := by subst hb; exact Blk.new _ _ _
theorem Vx.lt (h : Vx w b R A n c B m d) : b < w.heap.size := Blk.lt h
theorem Vx.later (h : Vx w b R A n c B m d) (hb : Below w.heap.size w w') : Vx w' b R A n c B m d := Blk.below h hb h.lt
theorem Vx.turn {F : Nat → Prop} (h : Vx w b R A n c B m d) (hb : Turn w w' F) (hF : ¬ F b) : Vx w' b R A n c B m d := Blk.turn h hb hF
theorem Vx.cells (h : Vx w b R A n c B m d) : w.cell? ⟨b, 0, none⟩ = some (.int .i64 R.s) ∧ w.cell? ⟨b, 1, none⟩ = some (.slice A n c) ∧ w.cell? ⟨b, 2, none⟩ = some (.slice B m d) ∧ w.cell? ⟨b, 3, none⟩ = some (.int .i64 (R.c : Int)) :=
  ⟨Blk.cell h 0, Blk.cell h 1, Blk.cell h 2, Blk.cell h 3⟩
theorem Vx.fz (h : Vx w b R A n c B m d) (i : Nat) : w.frozen? ⟨b, i, none⟩ = false := Blk.frozen h i
theorem Vx.store (h : Vx w b R A n c B m d) (R' : Ro) (A' : Option Addr) (n' c' : Nat) (B' : Option Addr) (m' d' : Nat) : Vx ((((w.setCell ⟨b, 0, none⟩ (.int .i64 R'.s)).setCell ⟨b, 1, none⟩ (.slice A' n' c')).setCell ⟨b, 2, none⟩ (.slice B' m' d')).setCell ⟨b, 3, none⟩ (.int .i64 (R'.c : Int))) b R' A' n' c' B' m' d' := by
  have h3 := (((Blk.set_ h 0 (.int .i64 R'.s)).set_ 1 (.slice A' n' c')).set_ 2 (.slice B' m' d')).set_ 3 (.int .i64 (R'.c : Int))
  exact h3
end

def fnd (L : List Mb) (x : Int) : Int := if hasL L x = true then (posL L x : Int) else -1
theorem less_no {L : List Mb} {k : Nat} {x : Int} {p : Mb} (h : ∀ j q, j < k → L[j]? = some q → q.id ≠ x) (hp : L[k]? = some p) (hx : p.id ≠ x) : ∀ j q, j < k + 1 → L[j]? = some q → q.id ≠ x := fun j q hj hq => by
  by_cases e : j = k
  · subst e; rw [hp] at hq; injection hq with hq; rw [← hq]; exact hx
  · exact h j q (by omega) hq
theorem fnd_at {L : List Mb} (hu : Up L) {k : Nat} {p : Mb} (hp : L[k]? = some p) : fnd L p.id = k := by
  have hh : hasL L p.id = true := hasL_iff.2 ⟨p, List.mem_of_getElem? hp, rfl⟩
  unfold fnd
  rw [if_pos hh, pos_stop (k := k) (by have := (List.getElem?_eq_some_iff.1 hp).1; omega) (fun j q hj hq => up_get hu hq hp hj) (fun q hq => by rw [hp] at hq; injection hq with hq; rw [hq]; exact Int.le_refl _)]
theorem fnd_no {L : List Mb} {x : Int} (h : ∀ j q, j < L.length → L[j]? = some q → q.id ≠ x) : fnd L x = -1 := by
  unfold fnd
  rw [if_neg]
  intro hh
  obtain ⟨p, hp, e⟩ := hasL_iff.1 hh
  obtain ⟨j, hj⟩ := List.getElem?_of_mem hp
  exact h j p (List.getElem?_eq_some_iff.1 hj).1 hj e
set_option maxHeartbeats 1000000 in
theorem find_any (R : Ro) (A B : Option Addr) (n c m d : Nat) (F : Nat → Prop) (x : Int) (w : World) (hn : n ≤ 1000) (h : Dc w F R A n c B m d) (hu : Up R.L) :
    Calls Try.prog 29 #[vD R A n c B m d, .int .i64 x] w fun e w' => e = .returned (.int .i64 (fnd R.L x)) ∧ Below w.heap.size w w' := by
  have HB : Hid (Below w.heap.size w (w.alloc (.cells #[.int .i64 R.s, .slice A n c, .slice B m d, .int .i64 (R.c : Int)] 32))) := Lib.hid ((Below.refl _ _).alloc (Nat.le_refl _) _)
  have HD := Lib.hid (h.l.below HB.out)
  have HL := Lib.hid h.l.lenM
  have HU := Lib.hid hu
  obtain ⟨_, a1, _, _⟩ := (Vx.new w R A n c B m d rfl).cells
  clear h hu
  go_enter Try.func29, Try.ntmps29
  go_wp2
  go_loop [5] (fun i => ∃ k : Nat, k ≤ n ∧ i = .int .i64 k ∧ ∀ j q, j < k → R.L[j]? = some q → q.id ≠ x) (fun i => n - (intOf i).toNat)
  case atStart => exact ⟨0, by omega, rfl, fun j q hj => absurd hj (by omega)⟩
  case round =>
    obtain ⟨k, hk, rfl, hno⟩ := hrel
    have HNO := Lib.hid hno
    clear hno
    by_cases hlt : k < n
    · obtain ⟨ad, p, rfl, hp, _, _, d0, d1, d2, d3, d4⟩ := HD.out.atM hlt
      have HP := Lib.hid hp
      clear hp
      by_cases hx : p.id = x
      · have HF : Hid (fnd R.L x = k) := Lib.hid (by rw [← hx]; exact fnd_at HU.out HP.out)
        have t1 : (p.id == x) = true := by simpa using hx
        clear hx
        go_wp2
        go_ret
        exact ⟨by rw [HF.out]; rfl, HB.out⟩
      · have HN := Lib.hid (less_no HNO.out HP.out hx)
        have t1 : (p.id == x) = false := by simpa using hx
        clear hx
        go_wp2
        go_round
        case rel => exact ⟨k + 1, by omega, by go_num, HN.out⟩
        case measure => simp [intOf]; omega
    · obtain rfl : k = n := by omega
      have HF : Hid (fnd R.L x = -1) := Lib.hid (fnd_no (by rw [HL.out]; exact HNO.out))
      go_wp2
      go_ret
      exact ⟨by rw [HF.out]; rfl, HB.out⟩

theorem ban_take {B : List Bn} {k : Nat} {x t : Int} {p : Bn} (h : ∀ j q, j < k → B[j]? = some q → ¬ (q.id = x ∧ t ≤ q.till)) (hp : B[k]? = some p) (hx : ¬ (p.id = x ∧ t ≤ p.till)) : ∀ j q, j < k + 1 → B[j]? = some q → ¬ (q.id = x ∧ t ≤ q.till) := fun j q hj hq => by
  by_cases e : j = k
  · subst e; rw [hp] at hq; injection hq with hq; rw [← hq]; exact hx
  · exact h j q (by omega) hq
set_option maxHeartbeats 1000000 in
theorem rbanned_any (R : Ro) (A B : Option Addr) (n c m d : Nat) (F : Nat → Prop) (x t : Int) (w : World) (hm : m ≤ 1000000) (h : Dc w F R A n c B m d) :
    Calls Try.prog 30 #[vD R A n c B m d, .int .i64 x, .int .i64 t] w fun e w' => e = .returned (.bool (banB R.B x t)) ∧ Below w.heap.size w w' := by
  have HB : Hid (Below w.heap.size w (w.alloc (.cells #[.int .i64 R.s, .slice A n c, .slice B m d, .int .i64 (R.c : Int)] 32))) := Lib.hid ((Below.refl _ _).alloc (Nat.le_refl _) _)
  have HD := Lib.hid (h.b.below HB.out)
  have HL := Lib.hid h.b.lenB
  obtain ⟨_, _, a2, _⟩ := (Vx.new w R A n c B m d rfl).cells
  clear h
  go_enter Try.func30, Try.ntmps30
  go_wp2
  go_loop [7] (fun i => ∃ k : Nat, k ≤ m ∧ i = .int .i64 k ∧ ∀ j q, j < k → R.B[j]? = some q → ¬ (q.id = x ∧ t ≤ q.till)) (fun i => m - (intOf i).toNat)
  case atStart => exact ⟨0, by omega, rfl, fun j q hj => absurd hj (by omega)⟩
  case round =>
    obtain ⟨k, hk, rfl, hno⟩ := hrel
    have HNO := Lib.hid hno
    clear hno
    by_cases hlt : k < m
    · obtain ⟨ad, p, rfl, hp, _, _, d0, d1⟩ := HD.out.atB hlt
      have HP := Lib.hid hp
      clear hp
      by_cases hx : p.id = x
      · have t1 : (p.id == x) = true := by simpa using hx
        by_cases ht : t ≤ p.till
        · have HF : Hid (banB R.B x t = true) := Lib.hid (banB_iff.2 ⟨p, List.mem_of_getElem? HP.out, hx, ht⟩)
          clear hx
          go_wp2
          go_ret
          exact ⟨by rw [HF.out]; rfl, HB.out⟩
        · have HN := Lib.hid (ban_take HNO.out HP.out (fun hc => ht hc.2))
          have t2 : decide (t ≤ p.till) = false := by simpa using ht
          clear hx ht
          go_wp2
          go_round
          case rel => exact ⟨k + 1, by omega, by go_num, HN.out⟩
          case measure => simp [intOf]; omega
      · have HN := Lib.hid (ban_take HNO.out HP.out (fun hc => hx hc.1))
        have t1 : (p.id == x) = false := by simpa using hx
        clear hx
        go_wp2
        go_round
        case rel => exact ⟨k + 1, by omega, by go_num, HN.out⟩
        case measure => simp [intOf]; omega
    · obtain rfl : k = m := by omega
      have HF : Hid (banB R.B x t = false) := Lib.hid (banB_no.2 fun p hp => by
        obtain ⟨j, hj⟩ := List.getElem?_of_mem hp
        exact HNO.out j p (by rw [← HL.out]; exact (List.getElem?_eq_some_iff.1 hj).1) hj)
      go_wp2
      go_ret
      exact ⟨by rw [HF.out]; rfl, HB.out⟩

/-! ### unban -/
theorem un_yes {B : List Bn} {k : Nat} {x : Int} {p : Bn} (hp : B[k]? = some p) (h : p.id ≠ x) : unB (B.take (k + 1)) x = unB (B.take k) x ++ [p] := by
  rw [List.take_add_one, hp]
  unfold unB
  simp [List.filter_append, h]
theorem un_no {B : List Bn} {k : Nat} {x : Int} {p : Bn} (hp : B[k]? = some p) (h : p.id = x) : unB (B.take (k + 1)) x = unB (B.take k) x := by
  rw [List.take_add_one, hp]
  unfold unB
  simp [List.filter_append, h]
def ListsB (l : List Bn) (w : World) (e : Ending) (w' : World) : Prop :=
  Below w.heap.size w w' ∧ ∃ v, e = .returned v ∧ w'.ownsRow w.heap.size 69 2 v l.length (flatB l)
theorem rd_ban (w : World) (p : Bn) : Rd (w.alloc (.cells #[.int .i64 p.id, .int .i64 p.till] 69)) no 2 (some ⟨w.heap.size, 0, none⟩) 1 (flatB [p]) := Rd.new w no (fun _ f => f.elim) 2 1 #[.int .i64 p.id, .int .i64 p.till] _ rfl
set_option maxHeartbeats 2000000 in
theorem unban_any (R : Ro) (A B : Option Addr) (n c m d : Nat) (F : Nat → Prop) (x : Int) (w : World) (hm : m ≤ 1000000) (h : Dc w F R A n c B m d) :
    Calls Try.prog 31 #[vD R A n c B m d, .int .i64 x] w (ListsB (unB R.B x) w) := by
  obtain ⟨i0, hi0, hz0, hz1, hz2⟩ := info_parts ban_info
  have HBX : Hid (Below w.heap.size w (w.alloc (.cells #[.int .i64 R.s, .slice A n c, .slice B m d, .int .i64 (R.c : Int)] 32))) := Lib.hid ((Below.refl _ _).alloc (Nat.le_refl _) _)
  have HD := Lib.hid (h.b.below HBX.out)
  have HN := Lib.hid h.b.lenB
  have HV := Lib.hid (Vx.new w R A n c B m d rfl)
  clear h
  go_enter Try.func31, Try.ntmps31
  go_wp2
  generalize HW : w.alloc (.cells #[.int .i64 R.s, .slice A n c, .slice B m d, .int .i64 (R.c : Int)] 32) = w1 at HBX HD HV ⊢
  go_loopw [5, 6] (fun v i wr => ∃ (k j : Nat) (Av : Option Addr) (cv : Nat), k ≤ m ∧ j ≤ k ∧ i = .int .i64 k ∧ v = .slice Av j cv ∧ (unB (R.B.take k) x).length = j ∧ wr.ownsRow w1.heap.size 69 2 (.slice Av j cv) j (flatB (unB (R.B.take k) x)) ∧ Below w1.heap.size w1 wr) (fun _ i _ => m - (intOf i).toNat)
  case atStart => exact ⟨0, 0, none, 0, by omega, by omega, rfl, rfl, rfl, World.ownsRow_nil _ _ _ _, Below.refl _ _⟩
  case round =>
    obtain ⟨w3, rfl⟩ : ∃ w3, w3 = wr := ⟨_, rfl⟩
    obtain ⟨k, j, Av, cv, hk, hmk, rfl, rfl, hlm, hown, hb⟩ := hrel
    have HB := Lib.hid hb
    have HO := Lib.hid hown
    have HM := Lib.hid hlm
    have HD3 := Lib.hid (HD.out.below hb)
    obtain ⟨_, _, a2, _⟩ := (HV.out.later hb).cells
    clear hb hown hlm
    by_cases hlt : k < m
    · obtain ⟨ad, p, rfl, hp, hbl, _, d0, d1⟩ := HD3.out.atB hlt
      by_cases hx : p.id = x
      · have HE := Lib.hid (un_no hp hx)
        obtain ⟨pi, pt⟩ := p
        simp only at hx d0 d1
        subst hx
        clear hp
        go_wp2
        go_roundw
        case rel => exact ⟨k + 1, j, Av, cv, by omega, by omega, by go_num, rfl, by rw [HE.out]; exact HM.out, by rw [HE.out]; exact HO.out, HB.out⟩
        case measure => simp [intOf]; omega
      · have HE := Lib.hid (un_yes hp hx)
        have t1 : (p.id != x) = true := by simpa using hx
        have HBB : Hid (Below w1.heap.size w1 (w3.alloc (.cells #[.int .i64 p.id, .int .i64 p.till] 69))) := Lib.hid (HB.out.alloc HB.out.size _)
        have HOB := Lib.hid (HO.out.alloc (.cells #[.int .i64 p.id, .int .i64 p.till] 69))
        have HON := Lib.hid (rd_ban w3 p)
        have HS := HBB.out.size
        clear hp hx
        go_wp2_with (at_builtin; refine wpList_append_rd _ rfl _ _ 30 rfl w1.heap.size 69 i0 _ 2 16 Try.underlying30 hi0 hz0 hz1 hz2 rfl (by omega) (.slice Av j cv) j (flatB (unB (R.B.take k) x)) rfl HOB.out no (some ⟨w3.heap.size, 0, none⟩) 1 1 (flatB [p]) rfl HON.out (flatB_one _) (by unfold maxLen; omega) (by omega) HS ?_; intro v4 w4 hown4 hg4 hat4; obtain ⟨A4, c4, rfl, _, _⟩ := own_form hown4; have H4 := Lib.hid hown4; have HB4 := Lib.hid (HBB.out.grown hg4 HBB.out.size (fun k hk => (HOB.out.lt k hk).1)); clear hown4 hg4 hat4)
        go_roundw
        case rel => exact ⟨k + 1, j + 1, A4, c4, by omega, by omega, by go_num, rfl, by rw [HE.out, List.length_append, HM.out]; rfl, by rw [HE.out, flatB_append]; exact H4.out, HB4.out⟩
        case measure => simp [intOf]; omega
    · obtain rfl : k = m := by omega
      have HT : Hid (R.B.take k = R.B) := Lib.hid (List.take_of_length_le (by rw [HN.out]; exact Nat.le_refl _))
      go_wp2
      go_ret
      refine ⟨HBX.out.trans (HB.out.mono HBX.out.size), _, rfl, ?_⟩
      have h1 := own_base HO.out HBX.out.size
      have h2 := HM.out
      rw [HT.out] at h1 h2
      rw [h2]
      exact h1
end Go.Proofs.Ytfchhlibjhblmaa
