/-
  WHAT IS PROVED: contract of a packet's test of its section. Condition: the section's cells are there.
-/
import Derived.Test.YtneanlffllejnaaRight
import Derived.Test.YtneanlffllejnaaOwn
import Derived.Test.YtneanlffllejnaaList
namespace Go.Proofs.Ytneanlffllejnaa
open Go.RowKit Go.Lib

theorem has_contains (l : List Int) (x : Int) : hasB l x = l.contains x := by unfold hasB; simp
theorem okEs_step {told : List Int} {l : List En} {k : Nat} {e : En} (he : l[k]? = some e) : okEs told (l.drop k) = (isId e.id && isIn e.st 2 && !told.contains e.id && okEs (told ++ [e.id]) (l.drop (k + 1))) := by
  have hk : k < l.length := (List.getElem?_eq_some_iff.1 he).1
  rw [List.drop_eq_getElem_cons hk, (List.getElem?_eq_some_iff.1 he).2]
  rfl
theorem okEs_end {told : List Int} {l : List En} {k : Nat} (h : l.length ≤ k) : okEs told (l.drop k) = true := by rw [List.drop_of_length_le h]; rfl

/-- a row of ints of the call's own, read -/
theorem own_zreads {w : World} {B n : Nat} {v : Value} {l : List Int} (h : w.ownsRow B 3 1 v n (zints l)) :
    ∃ A cap, v = .slice A n cap ∧ n ≤ cap ∧ cap ≤ 9223372036854775807 ∧ ∀ g, w.heap.size ≤ g → Reads w g A n (zints l) := by
  have hl : l.length = n := by have := h.1; rw [zints_len] at this; omega
  rcases h.2 with ⟨rfl, h0⟩ | ⟨b, cap, cur, rfl, hb, hh, hnc, hcm, hs⟩
  · subst h0
    obtain rfl := List.eq_nil_of_length_eq_zero hl
    exact ⟨none, 0, rfl, Nat.le_refl _, by omega, fun _ _ => Reads.none_⟩
  · have hlt : b < w.heap.size := (Array.getElem?_eq_some_iff.1 hh).1
    refine ⟨some ⟨b, 0, none⟩, cap, rfl, hnc, by unfold maxLen at hcm; omega, fun g hg => ⟨by rw [zints_len]; exact hl, fun hn => ⟨_, rfl, hlt, by show b ≠ g; omega, ?_⟩⟩⟩
    exact h.cells rfl
theorem zkept {w w' : World} {B n : Nat} {v : Value} {l : List Value} (h : w.ownsRow B 3 1 v n l) (hb : Below w.heap.size w w') : w'.ownsRow B 3 1 v n l := by
  refine World.ownsRow.kept h (only_of_below hb none) ?_
  cases e : v.ownBlock with
  | none => exact .inl rfl
  | some k => exact .inr (by simp)
theorem zlit (w : World) (x : Int) : Reads (w.alloc (.cells #[.int .i64 x] 3)) (w.heap.size + 1) (some ⟨w.heap.size, 0, none⟩) 1 (zints [x]) := by
  refine ⟨rfl, fun _ => ⟨_, rfl, by simp, by simp, fun j u hu => ?_⟩⟩
  have e : (⟨w.heap.size, 0, none⟩ : Addr).add j = ⟨w.heap.size, j, none⟩ := by
    unfold Addr.add
    by_cases h : j = 0
    · subst h; rfl
    · simp [h]
  rw [e, World.cell?_alloc_mark]
  simpa [zints] using hu

set_option maxRecDepth 100000 in
set_option maxHeartbeats 2000000 in
theorem section_any (p : Pk) (A : Option Addr) (n cap : Nat) (w : World) (hl : p.sec.length = n) (hE : EsAt w A n p.sec) : Calls Try.prog 28 #[vP p (.slice A n cap)] w (AnsB (okSec p) w) := by
  obtain ⟨kind, frm, ep, cf, ma, sl, off, ab, ac, as_, sec⟩ := p
  dsimp only at hl hE
  simp only [vP]
  by_cases h3 : 3 < n
  · have HX : Hid (okSec ⟨kind, frm, ep, cf, ma, sl, off, ab, ac, as_, sec⟩ = false) := by show _ = _; simp only [okSec, hl]; rw [decide_eq_false (by omega)]; rfl
    go_enter Try.func28, Try.ntmps28
    go_wp2
    go_ret
    exact ⟨by rw [HX.out]; rfl, (Below.refl _ _).alloc (Nat.le_refl _) _⟩
  by_cases hbad : 0 < n ∧ 3 < kind
  · obtain ⟨hp, hk⟩ := hbad
    have HX : Hid (okSec ⟨kind, frm, ep, cf, ma, sl, off, ab, ac, as_, sec⟩ = false) := by show _ = _; simp only [okSec, hl]; rw [decide_eq_false (show ¬ n = 0 by omega), decide_eq_false (show ¬ kind ≤ 3 by omega)]; simp
    go_enter Try.func28, Try.ntmps28
    go_wp2
    go_ret
    exact ⟨by rw [HX.out]; rfl, (Below.refl _ _).alloc (Nat.le_refl _) _⟩
  have HO : Hid (okSec ⟨kind, frm, ep, cf, ma, sl, off, ab, ac, as_, sec⟩ = okEs [frm] sec) := by
    show _ = _
    simp only [okSec, hl]
    rw [decide_eq_true (show n ≤ 3 by omega)]
    by_cases h0 : n = 0
    · rw [decide_eq_true h0]; rfl
    · rw [decide_eq_true (show kind ≤ 3 by omega)]; simp
  obtain ⟨i0, hi0, hz0, hz1, hz2⟩ := info_parts int_info
  have HI0 : Hid (Try.prog.info? 3 = some i0) := hi0
  have HZ0 := Lib.hid hz0
  have HZ1 := Lib.hid hz1
  have HZ2 := Lib.hid hz2
  clear hi0 hz0 hz1 hz2
  have hb1 : Below w.heap.size w ((w.alloc (.cells #[.int .i64 kind, .int .i64 frm, .int .i64 ep, .int .i64 cf, .int .i64 ma, .int .u64 sl, .int .i64 off, .int .i64 ab, .int .i64 ac, .int .u64 as_, .slice A n cap] 26)).alloc (.cells #[.int .i64 frm] 3)) := ((Below.refl _ _).alloc (Nat.le_refl _) _).alloc (by simp) _
  rcases (show ¬ (0 < n) ∨ (0 < n ∧ kind ≤ 3) by omega) with h0 | ⟨hp, hk⟩
  · clear hbad h3
    go_enter Try.func28, Try.ntmps28
    go_wp2
    go_loopw [3, 5, 27] (fun a _ i wr => ∃ (k : Nat) (tl : List Int), k ≤ n ∧ i = .int .i64 k ∧ tl.length = k + 1 ∧ wr.ownsRow w.heap.size 3 1 a (k + 1) (zints tl) ∧ Below w.heap.size w wr ∧ Hid (okEs [frm] sec = okEs tl (sec.drop k))) (fun _ _ i _ => n - (intOf i).toNat)
    case atStart =>
      refine ⟨0, [frm], by omega, rfl, rfl, ?_, hb1, rfl⟩
      have := World.ownsRow_lit (base := w.heap.size) (e := 3) (size := 1) (w.alloc (.cells #[.int .i64 kind, .int .i64 frm, .int .i64 ep, .int .i64 cf, .int .i64 ma, .int .u64 sl, .int .i64 off, .int .i64 ab, .int .i64 ac, .int .u64 as_, .slice A n cap] 26)) #[.int .i64 frm] 1 (by simp) (by decide) rfl
      rw [World.size_alloc] at this
      exact this
    case round =>
      obtain ⟨k, tl, hk, rfl, htl, hown, hbw, HK⟩ := hrel
      by_cases hkn : k < n
      · exact absurd hkn (by omega)
      · obtain rfl : k = n := by omega
        have HX : Hid (okSec ⟨kind, frm, ep, cf, ma, sl, off, ab, ac, as_, sec⟩ = true) := by show _ = _; rw [HO.out, HK.out, okEs_end (by omega)]
        clear HK
        go_wp2
        go_ret
        exact ⟨by rw [HX.out]; rfl, hbw⟩
  · clear hbad
    go_enter Try.func28, Try.ntmps28
    go_wp2
    go_loopw [3, 5, 27] (fun a _ i wr => ∃ (k : Nat) (tl : List Int), k ≤ n ∧ i = .int .i64 k ∧ tl.length = k + 1 ∧ wr.ownsRow w.heap.size 3 1 a (k + 1) (zints tl) ∧ Below w.heap.size w wr ∧ Hid (okEs [frm] sec = okEs tl (sec.drop k))) (fun _ _ i _ => n - (intOf i).toNat)
    case atStart =>
      refine ⟨0, [frm], by omega, rfl, rfl, ?_, hb1, rfl⟩
      have := World.ownsRow_lit (base := w.heap.size) (e := 3) (size := 1) (w.alloc (.cells #[.int .i64 kind, .int .i64 frm, .int .i64 ep, .int .i64 cf, .int .i64 ma, .int .u64 sl, .int .i64 off, .int .i64 ab, .int .i64 ac, .int .u64 as_, .slice A n cap] 26)) #[.int .i64 frm] 1 (by simp) (by decide) rfl
      rw [World.size_alloc] at this
      exact this
    case round =>
      obtain ⟨k, tl, hk, rfl, htl, hown, hbw, HK⟩ := hrel
      by_cases hkn : k < n
      · obtain ⟨ad, e, rfl, he, hlt, c0, c1⟩ := (hE.below hbw).at_ hkn
        have HS := Lib.hid (okEs_step (told := tl) he)
        clear he
        obtain ⟨id, st⟩ := e
        dsimp only at c0 c1 HS
        cases hI : isId id with
        | false =>
          have HX : Hid (okSec ⟨kind, frm, ep, cf, ma, sl, off, ab, ac, as_, sec⟩ = false) := by show _ = _; rw [HO.out, HK.out, HS.out, hI]; rfl
          have HI := Lib.hid hI
          clear hI HK HS
          go_wp2_with (go_at_call 24; refine (id_any _ _).mono ?_; rintro e w' ⟨rfl, rfl⟩; rw [HI.out])
          go_ret
          exact ⟨by rw [HX.out]; rfl, hbw.alloc hbw.size _⟩
        | true =>
          cases hT : isIn st 2 with
          | false =>
            have HX : Hid (okSec ⟨kind, frm, ep, cf, ma, sl, off, ab, ac, as_, sec⟩ = false) := by show _ = _; rw [HO.out, HK.out, HS.out, hI, hT]; rfl
            have HI := Lib.hid hI
            have HT := Lib.hid hT
            clear hI hT HK HS
            go_wp2_with (first | (go_at_call 24; refine (id_any _ _).mono ?_; rintro e w' ⟨rfl, rfl⟩; rw [HI.out]) | (go_at_call 42; refine (state_any _ _).mono ?_; rintro e w' ⟨rfl, rfl⟩; rw [HT.out]))
            go_ret
            exact ⟨by rw [HX.out]; rfl, hbw.alloc hbw.size _⟩
          | true =>
            obtain ⟨A5, c5, rfl, hc5, hcm5, hr5⟩ := own_zreads hown
            have hr6 := (hr5 _ (Nat.le_refl _)).below ((Below.refl _ _).alloc (Nat.le_refl _) (.cells #[.int .i64 id, .int .i64 st] 48))
            cases hC : hasB tl id with
            | true =>
              have HX : Hid (okSec ⟨kind, frm, ep, cf, ma, sl, off, ab, ac, as_, sec⟩ = false) := by show _ = _; rw [HO.out, HK.out, HS.out, hI, hT, ← has_contains, hC]; rfl
              have HI := Lib.hid hI
              have HT := Lib.hid hT
              have HC := Lib.hid hC
              clear hI hT hC HK HS
              go_wp2_with (first | (go_at_call 24; refine (id_any _ _).mono ?_; rintro e w' ⟨rfl, rfl⟩; rw [HI.out]) | (go_at_call 42; refine (state_any _ _).mono ?_; rintro e w' ⟨rfl, rfl⟩; rw [HT.out]) | (go_at_call 43; refine (contains_any _ _ _ tl _ _ _ (by omega) hr6).mono ?_; rintro e w' ⟨rfl, rfl⟩; rw [HC.out]))
              go_ret
              exact ⟨by rw [HX.out]; rfl, hbw.alloc hbw.size _⟩
            | false =>
              have HN : Hid (okEs [frm] sec = okEs (tl ++ [id]) (sec.drop (k + 1))) := by show _ = _; rw [HK.out, HS.out, hI, hT, ← has_contains, hC]; rfl
              have HI := Lib.hid hI
              have HT := Lib.hid hT
              have HC := Lib.hid hC
              have ho8 : ((wr.alloc (.cells #[.int .i64 id, .int .i64 st] 48)).alloc (.cells #[.int .i64 id] 3)).ownsRow w.heap.size 3 1 (.slice A5 (k + 1) c5) (k + 1) (zints tl) := zkept hown (((Below.refl _ _).alloc (Nat.le_refl _) _).alloc (by simp) _)
              have hb8 : Below w.heap.size w ((wr.alloc (.cells #[.int .i64 id, .int .i64 st] 48)).alloc (.cells #[.int .i64 id] 3)) := (hbw.alloc hbw.size _).alloc (by have := hbw.size; simp; omega) _
              have hs8 := hb8.size
              have hr8 := zlit (wr.alloc (.cells #[.int .i64 id, .int .i64 st] 48)) id
              rw [World.size_alloc] at hr8
              clear hI hT hC HK HS hown
              go_wp2_with (first | (go_at_call 24; refine (id_any _ _).mono ?_; rintro e w' ⟨rfl, rfl⟩; rw [HI.out]) | (go_at_call 42; refine (state_any _ _).mono ?_; rintro e w' ⟨rfl, rfl⟩; rw [HT.out]) | (go_at_call 43; refine (contains_any _ _ _ tl _ _ _ (by omega) hr6).mono ?_; rintro e w' ⟨rfl, rfl⟩; rw [HC.out]) | (at_builtin; refine wpList_append_cells _ rfl (.tmp 47) (.tmp 50) 67 rfl w.heap.size 3 i0 _ 8 Try.underlying67 HI0.out HZ0.out HZ1.out HZ2.out rfl _ (k + 1) (zints tl) rfl ho8 _ _ 1 1 (zints [id]) rfl hr8 (zints_oneCell [id]) (by unfold maxLen; omega) (by omega) hs8 ?_; intro v9 w9 hown9 hg9 _))
              go_roundw
              case rel => exact ⟨k + 1, tl ++ [id], by omega, by go_num, by simp [htl], by rw [zints_append]; exact hown9, hb8.grown hg9 hs8 (fun k e => (ho8.lt k e).1), HN.out⟩
              case measure => simp [intOf]; omega
      · obtain rfl : k = n := by omega
        have HX : Hid (okSec ⟨kind, frm, ep, cf, ma, sl, off, ab, ac, as_, sec⟩ = true) := by show _ = _; rw [HO.out, HK.out, okEs_end (by omega)]
        clear HK
        go_wp2
        go_ret
        exact ⟨by rw [HX.out]; rfl, hbw⟩
end Go.Proofs.Ytneanlffllejnaa
