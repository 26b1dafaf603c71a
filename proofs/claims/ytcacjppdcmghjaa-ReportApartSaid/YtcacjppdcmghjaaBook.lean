/-
  WHAT IS PROVED: contracts of New, of a book's Len, Note and counts, and of the tests for ids and times. Condition: the object is a book.
-/
import Derived.Test.YtcacjppdcmghjaaMap
import Derived.Deep.QuietTactic
import Derived.BigQuiet
import Derived.Deep.RegionHeld3
namespace Go.Proofs.Ytcacjppdcmghjaa
open Go.RowKit Go.Lib Go.Maps

/-- block g is a book of that window, whose reports lie in the map of block b -/
structure Bk (w : World) (g b : Nat) (win : Int) (L : List Rp) : Prop where
  row : Blk w g 51 #[.int .i64 win, .map (some b)]
  map : MapAt w b L
  good : Good L
  win : 1 ≤ win ∧ win ≤ 1073741824
section
variable {w w' : World} {g b : Nat} {win : Int} {L : List Rp}
theorem Bk.lt (h : Bk w g b win L) : g < w.heap.size := h.row.lt
theorem Bk.ltb (h : Bk w g b win L) : b < w.heap.size := h.map.lt
theorem Bk.ne (h : Bk w g b win L) : g ≠ b := h.row.map_ne h.map
theorem Bk.below (h : Bk w g b win L) (hb : Below w.heap.size w w') : Bk w' g b win L :=
  ⟨h.row.below hb h.lt, h.map.kept (only_of_below hb none) (by simp), h.good, h.win⟩
theorem Bk.kept {row : Option Nat} (h : Bk w g b win L) (hg : w.grownBy w' row) (h1 : some g ≠ row) (h2 : some b ≠ row) : Bk w' g b win L :=
  ⟨h.row.grown hg h1, h.map.kept hg h2, h.good, h.win⟩
/-- another book is written: this one stays -/
theorem Bk.other {g' b' : Nat} {win' : Int} {L' : List Rp} (h : Bk w g b win L) (h' : Bk w g' b' win' L') (hb : b ≠ b') (hg : w.grownBy w' (some b')) : Bk w' g b win L :=
  h.kept hg (by intro e; injection e with e; exact h.row.map_ne h'.map e) (by simpa using hb)
theorem Bk.c0 (h : Bk w g b win L) : w.cell? ⟨g, 0, none⟩ = some (.int .i64 win) := by have := h.row.cell 0; simpa using this
theorem Bk.c1 (h : Bk w g b win L) : w.cell? ⟨g, 1, none⟩ = some (.map (some b)) := by have := h.row.cell 1; simpa using this
end

theorem isid_any (x : Int) (w : World) :
    Calls Try.prog 23 #[.int .i64 x] w fun e w' => e = .returned (.bool (isIdB x)) ∧ w = w' := by
  by_cases h1 : 1 ≤ x
  · by_cases h2 : x ≤ 4294967296
    · have HX : Hid (isIdB x = true) := by show _ = _; unfold isIdB; simp [h1, h2]
      go_enter Try.func23, Try.ntmps23
      go_wp2
      go_ret
      exact ⟨by rw [HX.out]; rfl, rfl⟩
    · have HX : Hid (isIdB x = false) := by show _ = _; unfold isIdB; simp [h2]
      have h3 : decide (x ≤ 4294967296) = false := by simp; omega
      clear h2
      go_enter Try.func23, Try.ntmps23
      go_wp2
      go_ret
      exact ⟨by rw [HX.out]; rfl, rfl⟩
  · have HX : Hid (isIdB x = false) := by show _ = _; unfold isIdB; simp [h1]
    have h3 : x < 1 := by omega
    clear h1
    go_enter Try.func23, Try.ntmps23
    go_wp2
    go_ret
    exact ⟨by rw [HX.out]; rfl, rfl⟩
theorem istime_any (x : Int) (w : World) :
    Calls Try.prog 24 #[.int .i64 x] w fun e w' => e = .returned (.bool (isTimeB x)) ∧ w = w' := by
  by_cases h1 : 0 ≤ x
  · by_cases h2 : x ≤ 1099511627776
    · have HX : Hid (isTimeB x = true) := by show _ = _; unfold isTimeB; simp [h1, h2]
      go_enter Try.func24, Try.ntmps24
      go_wp2
      go_ret
      exact ⟨by rw [HX.out]; rfl, rfl⟩
    · have HX : Hid (isTimeB x = false) := by show _ = _; unfold isTimeB; simp [h2]
      have h3 : decide (x ≤ 1099511627776) = false := by simp; omega
      clear h2
      go_enter Try.func24, Try.ntmps24
      go_wp2
      go_ret
      exact ⟨by rw [HX.out]; rfl, rfl⟩
  · have HX : Hid (isTimeB x = false) := by show _ = _; unfold isTimeB; simp [h1]
    have h3 : x < 0 := by omega
    clear h1
    go_enter Try.func24, Try.ntmps24
    go_wp2
    go_ret
    exact ⟨by rw [HX.out]; rfl, rfl⟩

def winB (win : Int) : Bool := decide (1 ≤ win ∧ win ≤ 1073741824)
/-- a new book -/
def Made (win : Int) (w : World) (e : Ending) (w' : World) : Prop :=
  ∃ g b, e = .returned (.tuple #[.pointer (some ⟨g, 0, none⟩), .int .i64 0]) ∧ Bk w' g b win [] ∧ Below w.heap.size w w' ∧ w.heap.size ≤ g ∧ w.heap.size ≤ b
theorem new_yes (win : Int) (w : World) (h1 : 1 ≤ win) (h2 : win ≤ 1073741824) : Calls Try.prog 10 #[.int .i64 win] w (Made win w) := by
  have hmm := @run_makeMap Try.prog
  go_enter Try.func10, Try.ntmps10
  go_wp2
  go_ret2
  have hblk : Blk ((w.alloc (.map #[] 0)).alloc (.cells #[.int .i64 win, .map (some w.heap.size)] 51)) (w.heap.size + 1) 51 #[.int .i64 win, .map (some w.heap.size)] := by
    have := Blk.new (w.alloc (.map #[] 0)) 51 #[.int .i64 win, .map (some w.heap.size)]
    simpa using this
  exact ⟨w.heap.size + 1, w.heap.size, rfl, ⟨hblk, (map_new w).kept (World.grownBy_alloc _ _ none) (by simp), Good.nil, h1, h2⟩,
    ((Below.refl _ _).alloc (Nat.le_refl _) _).alloc (by simp) _, by omega, Nat.le_refl _⟩
theorem new_no (win : Int) (w : World) (h : win < 1 ∨ 1073741824 < win) : Calls Try.prog 10 #[.int .i64 win] w fun e w' => e = .returned (.tuple #[.pointer none, .int .i64 10]) ∧ w = w' := by
  by_cases h1 : win < 1
  · clear h
    go_enter Try.func10, Try.ntmps10
    go_wp2
    go_ret2
    exact ⟨rfl, rfl⟩
  · have h2 : (1073741824 : Int) < win := by omega
    have h3 : decide (win < 1) = false := by simp; omega
    clear h h1
    go_enter Try.func10, Try.ntmps10
    go_wp2
    go_ret2
    exact ⟨rfl, rfl⟩

theorem len_any (g b : Nat) (win : Int) (L : List Rp) (w : World) (h : Bk w g b win L) :
    Calls Try.prog 17 #[.pointer (some ⟨g, 0, none⟩)] w fun e w' => e = .returned (.int .i64 (L.length : Int)) ∧ w = w' := by
  have c1 := h.c1
  obtain ⟨D, hown, hag⟩ := h.map
  have HS := Lib.hid hag.size
  clear hag h
  go_enter Try.func17, Try.ntmps17
  go_wp2_with (at_len; refine wpList_len_own _ rfl _ 49 rfl 56 3 Try.underlying49 _ b _ D rfl hown ?_)
  go_ret
  exact ⟨by rw [← HS.out]; rfl, rfl⟩

theorem counts_any (g b : Nat) (win : Int) (r : Rp) (now : Int) (w : World) (h : Blk w g 51 #[.int .i64 win, .map (some b)]) (hw : 1 ≤ win ∧ win ≤ 1073741824) (hr : okRp r) :
    Calls Try.prog 29 #[.pointer (some ⟨g, 0, none⟩), .int .i64 r.t, .int .i64 now] w fun e w' => e = .returned (.bool (countB win now r)) ∧ w = w' := by
  have c0 := h.cell 0
  simp at c0
  obtain ⟨_, _, h1, h2⟩ := hr
  obtain ⟨h3, h4⟩ := hw
  obtain ⟨x, hx⟩ : ∃ x, Hid (countB win now r = x) := ⟨_, Lib.hid rfl⟩
  have hd : decide (now ≤ r.t + win) = x := hx.out
  clear h
  rw [hx.out]
  clear hx
  go_enter Try.func29, Try.ntmps29
  go_wp2
  go_ret
  exact ⟨rfl, rfl⟩

/-- what Note does: it tells n, and the reports are then L' -/
def Did (g b : Nat) (win : Int) (n : Int) (L' : List Rp) (w : World) (e : Ending) (w' : World) : Prop := e = .returned (.int .i64 n) ∧ Bk w' g b win L' ∧ w.grownBy w' (some b)

theorem max_if (a b : Int) : (if a < b then b else a) = max a b := by omega

set_option maxHeartbeats 1000000 in
theorem note_yes (g b : Nat) (win : Int) (L : List Rp) (x y t : Int) (w : World) (h : Bk w g b win L) (hl : L.length < 100000) (he : noteE x y t = 0) :
    Calls Try.prog 12 #[.pointer (some ⟨g, 0, none⟩), .int .i64 x, .int .i64 y, .int .i64 t] w (Did g b win 0 (putL L x y t) w) := by
  obtain ⟨hx, hy, ht, hne⟩ := noteE_zero he
  have B1 : Hid (isIdB x = true) := by show _ = _; unfold isIdB; simp; omega
  have B2 : Hid (isIdB y = true) := by show _ = _; unfold isIdB; simp; omega
  have B3 : Hid (isTimeB t = true) := by show _ = _; unfold isTimeB; simp; omega
  have hxy : (x == y) = false := by simpa using hne
  have ix : inInt x := by unfold inInt; omega
  have iy : inInt y := by unfold inInt; omega
  have hA : Bk ((w.alloc (.cells #[.int .i64 x, .int .i64 y] 56)).drew) g b win L := h.below (below_drewN ((Below.refl _ _).alloc (Nat.le_refl _) _) 1)
  have hlk := hA.map.look h.good ix iy
  obtain ⟨w3, hst, hmp, hgr⟩ := hA.map.store h.good (by unfold maxLen; omega) he
  have HP := Lib.hid (h.good.put he)
  have k0 : (w.alloc (.cells #[.int .i64 x, .int .i64 y] 56)).drew.cell? ⟨g, 1, none⟩ = some (.map (some b)) ∧ (w.alloc (.cells #[.int .i64 x, .int .i64 y] 56)).drew.cell? ⟨w.heap.size, 0, none⟩ = some (.int .i64 x) ∧ (w.alloc (.cells #[.int .i64 x, .int .i64 y] 56)).drew.cell? ⟨w.heap.size, 1, none⟩ = some (.int .i64 y) :=
    ⟨hA.c1, (Blk.new w _ _).cell 0, (Blk.new w _ _).cell 1⟩
  have K0 := Lib.hid k0
  have hnb : w.heap.size ≠ b := by have := h.ltb; omega
  have k3 : w3.cell? ⟨g, 1, none⟩ = some (.map (some b)) ∧ w3.cell? ⟨w.heap.size, 0, none⟩ = some (.int .i64 x) ∧ w3.cell? ⟨w.heap.size, 1, none⟩ = some (.int .i64 y) :=
    ⟨(hA.row.grown hgr (by have := hA.ne; simpa using this)).cell 1, (((Blk.new w _ _).drew).grown hgr (by simpa using hnb)).cell 0, (((Blk.new w _ _).drew).grown hgr (by simpa using hnb)).cell 1⟩
  have K3 := Lib.hid k3
  clear k0 k3 hnb
  obtain ⟨c, HC⟩ : ∃ c, Hid (atL L x y = c) := ⟨_, Lib.hid rfl⟩
  rw [HC.out] at hlk hst
  have HA := Lib.hid hA
  have HM := Lib.hid hmp
  have HG := Lib.hid hgr
  clear h hA he hmp hgr hne HC ix iy
  rcases (by omega : c < t ∨ t ≤ c) with hct | hct
  all_goals
    first | rw [show max c t = t by omega] at hst | rw [show max c t = c by omega] at hst
    go_enter Try.func12, Try.ntmps12
    go_wp2_with (fail)
    refine (isid_any x _).mono ?_
    rintro e w1 ⟨rfl, rfl⟩
    rw [B1.out]
    go_wp2_with (fail)
    refine (isid_any y _).mono ?_
    rintro e w1 ⟨rfl, rfl⟩
    rw [B2.out]
    go_wp2_with (fail)
    refine (istime_any t _).mono ?_
    rintro e w1 ⟨rfl, rfl⟩
    rw [B3.out]
    go_wp2
    go_region_held3 (fun w' => w'.cell? ⟨g, 1, none⟩ = some (.map (some b)) ∧ w'.cell? ⟨w.heap.size, 0, none⟩ = some (.int .i64 x) ∧ w'.cell? ⟨w.heap.size, 1, none⟩ = some (.int .i64 y)) (first | exact K0.out | exact K3.out) (first | fail)
    go_wp2
    go_ret
    exact ⟨rfl, ⟨HA.out.row.grown HG.out (by have := HA.out.ne; simpa using this), HM.out, HP.out, HA.out.win⟩, (only_drew (only_alloc (World.grownBy.refl _ _) _)).trans HG.out⟩

set_option maxHeartbeats 1000000 in
theorem note_self (g b : Nat) (win : Int) (L : List Rp) (x t : Int) (w : World) (h : Bk w g b win L) (h1 : isIdB x = true) (h3 : isTimeB t = true) :
    Calls Try.prog 12 #[.pointer (some ⟨g, 0, none⟩), .int .i64 x, .int .i64 x, .int .i64 t] w (Did g b win 33 L w) := by
  have B1 := Lib.hid h1
  have B3 := Lib.hid h3
  have HH := Lib.hid h
  clear h h1 h3
  go_enter Try.func12, Try.ntmps12
  go_wp2_with (fail)
  refine (isid_any x _).mono ?_
  rintro e w1 ⟨rfl, rfl⟩
  rw [B1.out]
  go_wp2_with (fail)
  refine (isid_any x _).mono ?_
  rintro e w1 ⟨rfl, rfl⟩
  rw [B1.out]
  go_wp2_with (fail)
  refine (istime_any t _).mono ?_
  rintro e w1 ⟨rfl, rfl⟩
  rw [B3.out]
  go_wp2
  go_ret
  exact ⟨rfl, HH.out, World.grownBy.refl _ _⟩
set_option maxHeartbeats 1000000 in
theorem note_form (g b : Nat) (win : Int) (L : List Rp) (x y t : Int) (w : World) (h : Bk w g b win L) (h0 : isIdB x = false ∨ isIdB y = false ∨ isTimeB t = false) :
    Calls Try.prog 12 #[.pointer (some ⟨g, 0, none⟩), .int .i64 x, .int .i64 y, .int .i64 t] w (Did g b win 10 L w) := by
  obtain ⟨b1, B1⟩ : ∃ b, Hid (isIdB x = b) := ⟨_, Lib.hid rfl⟩
  obtain ⟨b2, B2⟩ : ∃ b, Hid (isIdB y = b) := ⟨_, Lib.hid rfl⟩
  obtain ⟨b3, B3⟩ : ∃ b, Hid (isTimeB t = b) := ⟨_, Lib.hid rfl⟩
  have H0 : Hid (b1 = false ∨ b2 = false ∨ b3 = false) := Lib.hid (by rw [← B1.out, ← B2.out, ← B3.out]; exact h0)
  have HH := Lib.hid h
  clear h h0
  go_enter Try.func12, Try.ntmps12
  go_wp2_with (fail)
  refine (isid_any x _).mono ?_
  rintro e w1 ⟨rfl, rfl⟩
  rw [B1.out]
  cases b1
  · go_wp2
    go_ret
    exact ⟨rfl, HH.out, World.grownBy.refl _ _⟩
  · go_wp2_with (fail)
    refine (isid_any y _).mono ?_
    rintro e w1 ⟨rfl, rfl⟩
    rw [B2.out]
    cases b2
    · go_wp2
      go_ret
      exact ⟨rfl, HH.out, World.grownBy.refl _ _⟩
    · go_wp2_with (fail)
      refine (istime_any t _).mono ?_
      rintro e w1 ⟨rfl, rfl⟩
      rw [B3.out]
      cases b3
      · go_wp2
        go_ret
        exact ⟨rfl, HH.out, World.grownBy.refl _ _⟩
      · exact absurd H0.out (by decide)
theorem note_any (g b : Nat) (win : Int) (L : List Rp) (x y t : Int) (w : World) (h : Bk w g b win L) (hl : L.length < 100000) :
    Calls Try.prog 12 #[.pointer (some ⟨g, 0, none⟩), .int .i64 x, .int .i64 y, .int .i64 t] w (Did g b win (noteE x y t) (noteL L x y t) w) := by
  by_cases he : noteE x y t = 0
  · rw [noteL_ok he, he]
    exact note_yes g b win L x y t w h hl he
  · rw [noteL_no he]
    by_cases hc : isIdB x = true ∧ isIdB y = true ∧ isTimeB t = true
    · obtain ⟨h1, h2, h3⟩ := hc
      have hxy : x = y := Classical.byContradiction fun hn => he (noteE_ok h1 h2 h3 hn)
      subst hxy
      rw [noteE_self h1 h3]
      exact note_self g b win L x t w h h1 h3
    · have h0 : isIdB x = false ∨ isIdB y = false ∨ isTimeB t = false := by
        by_cases h1 : isIdB x = true
        · by_cases h2 : isIdB y = true
          · by_cases h3 : isTimeB t = true
            · exact absurd ⟨h1, h2, h3⟩ hc
            · exact .inr (.inr (by simpa using h3))
          · exact .inr (.inl (by simpa using h2))
        · exact .inl (by simpa using h1)
      rw [noteE_form h0]
      exact note_form g b win L x y t w h h0

set_option maxHeartbeats 1000000 in
/-- what Clear does -/
theorem clear_any (g b : Nat) (win : Int) (L : List Rp) (x y : Int) (w : World) (h : Bk w g b win L) (ix : inInt x) (iy : inInt y) :
    Calls Try.prog 14 #[.pointer (some ⟨g, 0, none⟩), .int .i64 x, .int .i64 y] w fun e w' => e = .returned (.bool (decide ((dropL L x y).length < L.length))) ∧ Bk w' g b win (dropL L x y) ∧ w.grownBy w' (some b) := by
  have c1 := h.c1
  obtain ⟨D, hown, hag⟩ := h.map
  have HS := Lib.hid hag.size
  have HAG := Lib.hid hag
  have HH := Lib.hid h
  have HIX := Lib.hid ix
  have HIY := Lib.hid iy
  have HK := Lib.hid (keyOf_pair ix iy)
  clear hag h ix iy
  obtain ⟨m, HM⟩ : ∃ m, Hid (Maps.size (D.del (kl x y)) = m) := ⟨_, Lib.hid rfl⟩
  obtain ⟨n, HN⟩ : ∃ n, Hid (Maps.size D = n) := ⟨_, Lib.hid rfl⟩
  have HTD := Lib.hid (hown.tidy keyed)
  obtain ⟨q, hd⟩ : ∃ q, decide (m < n) = q := ⟨_, rfl⟩
  have HQ := Lib.hid hd
  go_enter Try.func14, Try.ntmps14
  go_wp2_with (first
    | (at_len; first | (refine wpList_len_own _ rfl _ 49 rfl 56 3 Try.underlying49 _ b _ D rfl hown ?_; rw [HN.out]) | (refine wpList_len_own _ rfl _ 49 rfl 56 3 Try.underlying49 _ b _ (D.del (kl x y)) rfl (by assumption) ?_; rw [HM.out]))
    | (at_delete; refine wpList_delete_own _ rfl _ _ 49 56 rfl 3 keyed Try.underlying49 _ b _ D rfl hown _ _ rfl HK.out ?_; intro w1 hown1 hturn1; have hB1 := HH.out.row.grown hturn1.grown (by have := HH.out.ne; simpa using this); have d1 := hB1.cell 1; simp at d1))
  go_ret
  have hagr := HAG.out.del HTD.out HH.out.good HIX.out HIY.out
  refine ⟨?_, ⟨hB1, ⟨_, by rw [← hagr.size]; exact own_tight hown1, hagr⟩, HH.out.good.filter _, HH.out.win⟩, hturn1.grown⟩
  rw [← HQ.out, ← HM.out, ← HN.out, hagr.size, HAG.out.size]
  rfl
end Go.Proofs.Ytcacjppdcmghjaa
