/-
  WHAT IS PROVED: contracts of Ping, Pong and Waits. Condition: the object is a watch.
-/
import Derived.Test.YtcphodnenhnalaaMet
namespace Go.Proofs.Ytcphodnenhnalaa
open Go.RowKit Go.Lib Go.Maps

theorem metE_cases (L : List Pr) (x t : Int) : metE L x t = 0 ∨ metE L x t = 10 ∨ metE L x t = 30 := by
  unfold metE; split <;> (try split) <;> simp
theorem metP_ok {L : List Pr} {x t : Int} (h : metE L x t = 0) : metP L x t = ⟨(getL L x).id, max (getL L x).last t, (getL L x).waits, (getL L x).since⟩ := if_pos h
theorem getL_id {L : List Pr} {x t : Int} (h : metE L x t = 0) : (getL L x).id = x := (get_mem (metE_zero h).2.2).2

/-- a stored peer: the world, and what the drawn region looks at -/
theorem stored {w1 : World} {g b : Nat} {T : Int} {L : List Pr} (K : Wt w1 g b T L) (q : Pr) (hq : inInt q.id) :
    ∃ w3, (Instr.mapUpdate 44 (.map (some b)) (.int .i64 q.id) (vPr q)).run Try.prog (w1.alloc (.cells #[.int .i64 q.last, .bool q.waits, .int .i64 q.since] 52)).drew = .ok () w3 ∧
      MapAt w3 b (insL L q) ∧ (w1.alloc (.cells #[.int .i64 q.last, .bool q.waits, .int .i64 q.since] 52)).drew.grownBy w3 (some b) ∧
      (∀ w', w' = (w1.alloc (.cells #[.int .i64 q.last, .bool q.waits, .int .i64 q.since] 52)).drew ∨ w' = w3 →
        w'.cell? ⟨g, 1, none⟩ = some (.map (some b)) ∧ w'.cell? ⟨w1.heap.size, 0, none⟩ = some (.int .i64 q.last) ∧ w'.cell? ⟨w1.heap.size, 1, none⟩ = some (.bool q.waits) ∧ w'.cell? ⟨w1.heap.size, 2, none⟩ = some (.int .i64 q.since)) ∧
      Blk w3 g 46 #[.int .i64 T, .map (some b)] ∧ w1.grownBy w3 (some b) := by
  have KA : Wt (w1.alloc (.cells #[.int .i64 q.last, .bool q.waits, .int .i64 q.since] 52)).drew g b T L := K.below (below_drewN ((Below.refl _ _).alloc (Nat.le_refl _) _) 1)
  obtain ⟨w3, hrun, hm, hg⟩ := KA.map.store KA.good.up KA.len hq
  have hX : Bx (w1.alloc (.cells #[.int .i64 q.last, .bool q.waits, .int .i64 q.since] 52)).drew w1.heap.size q := (Bx.new w1 q rfl)
  have hnb : w1.heap.size ≠ b := by have := K.ltb; omega
  have hX3 : Bx w3 w1.heap.size q := hX.kept hg (by simpa using hnb)
  have hR3 := KA.row.grown hg KA.ne'
  refine ⟨w3, hrun, hm, hg, ?_, hR3, (only_drew (only_alloc (World.grownBy.refl _ _) _)).trans hg⟩
  rintro w' (rfl | rfl)
  · exact ⟨KA.c1, hX.c0, hX.c1, hX.c2⟩
  · exact ⟨by simpa using hR3.cell 1, hX3.c0, hX3.c1, hX3.c2⟩

set_option maxHeartbeats 1000000 in
theorem ping_no (g b : Nat) (T : Int) (L : List Pr) (x t n : Int) (w : World) (h : Wt w g b T L) (he : metE L x t = n) (hn : (n != 0) = true) :
    Calls Try.prog 13 #[.pointer (some ⟨g, 0, none⟩), .int .i64 x, .int .i64 t] w (Did g b T n L w) := by
  obtain ⟨p, HP⟩ : ∃ p, Hid (metP L x t = p) := ⟨_, Lib.hid rfl⟩
  have HE := Lib.hid he
  have HH := Lib.hid h
  clear h he
  go_enter Try.func13, Try.ntmps13
  go_wp2_with (fail)
  refine (met_any g b T L x t _ HH.out).mono ?_
  rintro e w1 ⟨rfl, hb1⟩
  rw [HE.out, HP.out]
  have HB1 := Lib.hid hb1
  clear hb1
  go_wp2
  go_ret
  exact ⟨rfl, HH.out.below (HB1.out.alloc HB1.out.size _), only_alloc (only_of_below HB1.out _) _⟩
set_option maxHeartbeats 1000000 in
theorem pong_no (g b : Nat) (T : Int) (L : List Pr) (x t n : Int) (w : World) (h : Wt w g b T L) (he : metE L x t = n) (hn : (n != 0) = true) :
    Calls Try.prog 14 #[.pointer (some ⟨g, 0, none⟩), .int .i64 x, .int .i64 t] w (Did g b T n L w) := by
  obtain ⟨p, HP⟩ : ∃ p, Hid (metP L x t = p) := ⟨_, Lib.hid rfl⟩
  have HE := Lib.hid he
  have HH := Lib.hid h
  clear h he
  go_enter Try.func14, Try.ntmps14
  go_wp2_with (fail)
  refine (met_any g b T L x t _ HH.out).mono ?_
  rintro e w1 ⟨rfl, hb1⟩
  rw [HE.out, HP.out]
  have HB1 := Lib.hid hb1
  clear hb1
  go_wp2
  go_ret
  exact ⟨rfl, HH.out.below (HB1.out.alloc HB1.out.size _), only_alloc (only_of_below HB1.out _) _⟩

set_option maxHeartbeats 2000000 in
theorem ping_yes (g b : Nat) (T : Int) (L : List Pr) (x t : Int) (w : World) (h : Wt w g b T L) (he : metE L x t = 0) :
    Calls Try.prog 13 #[.pointer (some ⟨g, 0, none⟩), .int .i64 x, .int .i64 t] w (Did g b T 0 (insL L (pingP (getL L x) t)) w) := by
  have hx : inInt x := by have := in_id (metE_zero he).1; unfold inInt; omega
  have HX := Lib.hid hx
  obtain ⟨⟨i, l, s, c⟩, HP⟩ : ∃ p, Hid (getL L x = p) := ⟨_, Lib.hid rfl⟩
  have hid := getL_id he
  rw [HP.out] at hid
  simp only at hid
  subst hid
  obtain ⟨m, HM⟩ : ∃ m, Hid (max l t = m) := ⟨_, Lib.hid rfl⟩
  have HMP : Hid (metP L i t = ⟨i, m, s, c⟩) := Lib.hid (by rw [metP_ok he, HP.out, ← HM.out])
  have HG := Lib.hid (h.good.ping he)
  rw [HP.out] at HG ⊢
  have HE := Lib.hid he
  have HH := Lib.hid h
  clear h he hx
  cases s
  · have HQ : Hid (pingP ⟨i, l, false, c⟩ t = ⟨i, m, true, t⟩) := Lib.hid (by rw [← HM.out]; rfl)
    rw [HQ.out] at HG ⊢
    go_enter Try.func13, Try.ntmps13
    go_wp2_with (fail)
    refine (met_any g b T L i t _ HH.out).mono ?_
    rintro e w1 ⟨rfl, hb1⟩
    rw [HE.out, HMP.out]
    have K1 := Lib.hid (HH.out.below hb1)
    have HB1 := Lib.hid hb1
    obtain ⟨w3, hst, hm3, hg3, hk, hr3, hgg⟩ := stored K1.out ⟨i, m, true, t⟩ HX.out
    have K0 := Lib.hid (hk _ (.inl rfl))
    have K3 := Lib.hid (hk _ (.inr rfl))
    have HM3 := Lib.hid hm3
    have HR3 := Lib.hid hr3
    have HG3 := Lib.hid hgg
    have x1 := (Bx.new w1 ⟨i, m, false, c⟩ rfl).c1
    have x2 := (Bx.new w1 ⟨i, m, false, c⟩ rfl).c2
    simp only at x1 x2 hst
    clear hb1 hm3 hg3 hk hr3 hgg
    go_wp2
    go_region_held3 (fun w' => w'.cell? ⟨g, 1, none⟩ = some (.map (some b)) ∧ w'.cell? ⟨w1.heap.size, 0, none⟩ = some (.int .i64 m) ∧ w'.cell? ⟨w1.heap.size, 1, none⟩ = some (.bool true) ∧ w'.cell? ⟨w1.heap.size, 2, none⟩ = some (.int .i64 t)) (first | exact K0.out | exact K3.out) (first | fail)
    go_wp2
    go_ret
    exact ⟨rfl, ⟨HR3.out, HM3.out, HG.out, K1.out.to⟩, (only_of_below HB1.out _).trans HG3.out⟩
  · have HQ : Hid (pingP ⟨i, l, true, c⟩ t = ⟨i, m, true, c⟩) := Lib.hid (by rw [← HM.out]; rfl)
    rw [HQ.out] at HG ⊢
    go_enter Try.func13, Try.ntmps13
    go_wp2_with (fail)
    refine (met_any g b T L i t _ HH.out).mono ?_
    rintro e w1 ⟨rfl, hb1⟩
    rw [HE.out, HMP.out]
    have K1 := Lib.hid (HH.out.below hb1)
    have HB1 := Lib.hid hb1
    obtain ⟨w3, hst, hm3, hg3, hk, hr3, hgg⟩ := stored K1.out ⟨i, m, true, c⟩ HX.out
    have K0 := Lib.hid (hk _ (.inl rfl))
    have K3 := Lib.hid (hk _ (.inr rfl))
    have HM3 := Lib.hid hm3
    have HR3 := Lib.hid hr3
    have HG3 := Lib.hid hgg
    have x1 := (Bx.new w1 ⟨i, m, true, c⟩ rfl).c1
    simp only at x1 hst
    clear hb1 hm3 hg3 hk hr3 hgg
    go_wp2
    go_region_held3 (fun w' => w'.cell? ⟨g, 1, none⟩ = some (.map (some b)) ∧ w'.cell? ⟨w1.heap.size, 0, none⟩ = some (.int .i64 m) ∧ w'.cell? ⟨w1.heap.size, 1, none⟩ = some (.bool true) ∧ w'.cell? ⟨w1.heap.size, 2, none⟩ = some (.int .i64 c)) (first | exact K0.out | exact K3.out) (first | fail)
    go_wp2
    go_ret
    exact ⟨rfl, ⟨HR3.out, HM3.out, HG.out, K1.out.to⟩, (only_of_below HB1.out _).trans HG3.out⟩

set_option maxHeartbeats 2000000 in
theorem pong_yes (g b : Nat) (T : Int) (L : List Pr) (x t : Int) (w : World) (h : Wt w g b T L) (he : metE L x t = 0) :
    Calls Try.prog 14 #[.pointer (some ⟨g, 0, none⟩), .int .i64 x, .int .i64 t] w (Did g b T 0 (insL L (pongP (getL L x) t)) w) := by
  have hx : inInt x := by have := in_id (metE_zero he).1; unfold inInt; omega
  have HX := Lib.hid hx
  obtain ⟨⟨i, l, s, c⟩, HP⟩ : ∃ p, Hid (getL L x = p) := ⟨_, Lib.hid rfl⟩
  have hid := getL_id he
  rw [HP.out] at hid
  simp only at hid
  subst hid
  obtain ⟨m, HM⟩ : ∃ m, Hid (max l t = m) := ⟨_, Lib.hid rfl⟩
  have HMP : Hid (metP L i t = ⟨i, m, s, c⟩) := Lib.hid (by rw [metP_ok he, HP.out, ← HM.out])
  have HG := Lib.hid (h.good.pong he)
  rw [HP.out] at HG ⊢
  have HE := Lib.hid he
  have HH := Lib.hid h
  clear h he hx
  have HQ : Hid (pongP ⟨i, l, s, c⟩ t = ⟨i, m, false, 0⟩) := Lib.hid (by rw [← HM.out]; rfl)
  rw [HQ.out] at HG ⊢
  go_enter Try.func14, Try.ntmps14
  go_wp2_with (fail)
  refine (met_any g b T L i t _ HH.out).mono ?_
  rintro e w1 ⟨rfl, hb1⟩
  rw [HE.out, HMP.out]
  have K1 := Lib.hid (HH.out.below hb1)
  have HB1 := Lib.hid hb1
  obtain ⟨w3, hst, hm3, hg3, hk, hr3, hgg⟩ := stored K1.out ⟨i, m, false, 0⟩ HX.out
  have K0 := Lib.hid (hk _ (.inl rfl))
  have K3 := Lib.hid (hk _ (.inr rfl))
  have HM3 := Lib.hid hm3
  have HR3 := Lib.hid hr3
  have HG3 := Lib.hid hgg
  simp only at hst
  clear hb1 hm3 hg3 hk hr3 hgg
  go_wp2
  go_region_held3 (fun w' => w'.cell? ⟨g, 1, none⟩ = some (.map (some b)) ∧ w'.cell? ⟨w1.heap.size, 0, none⟩ = some (.int .i64 m) ∧ w'.cell? ⟨w1.heap.size, 1, none⟩ = some (.bool false) ∧ w'.cell? ⟨w1.heap.size, 2, none⟩ = some (.int .i64 0)) (first | exact K0.out | exact K3.out) (first | fail)
  go_wp2
  go_ret
  exact ⟨rfl, ⟨HR3.out, HM3.out, HG.out, K1.out.to⟩, (only_of_below HB1.out _).trans HG3.out⟩

theorem ping_any (g b : Nat) (T : Int) (L : List Pr) (x t : Int) (w : World) (h : Wt w g b T L) :
    Calls Try.prog 13 #[.pointer (some ⟨g, 0, none⟩), .int .i64 x, .int .i64 t] w (Did g b T (metE L x t) (pingL L x t) w) := by
  rcases metE_cases L x t with he | he | he
  · rw [pingL_ok he, he]
    exact ping_yes g b T L x t w h he
  · rw [pingL_no (by rw [he]; decide)]
    exact ping_no g b T L x t _ w h rfl (by rw [he]; decide)
  · rw [pingL_no (by rw [he]; decide)]
    exact ping_no g b T L x t _ w h rfl (by rw [he]; decide)
theorem pong_any (g b : Nat) (T : Int) (L : List Pr) (x t : Int) (w : World) (h : Wt w g b T L) :
    Calls Try.prog 14 #[.pointer (some ⟨g, 0, none⟩), .int .i64 x, .int .i64 t] w (Did g b T (metE L x t) (pongL L x t) w) := by
  rcases metE_cases L x t with he | he | he
  · rw [pongL_ok he, he]
    exact pong_yes g b T L x t w h he
  · rw [pongL_no (by rw [he]; decide)]
    exact pong_no g b T L x t _ w h rfl (by rw [he]; decide)
  · rw [pongL_no (by rw [he]; decide)]
    exact pong_no g b T L x t _ w h rfl (by rw [he]; decide)

set_option maxHeartbeats 1000000 in
theorem waits_any (g b : Nat) (T : Int) (L : List Pr) (x : Int) (w : World) (h : Wt w g b T L) (hx : inInt x) :
    Calls Try.prog 26 #[.pointer (some ⟨g, 0, none⟩), .int .i64 x] w fun e w' => e = .returned (.tuple #[.int .i64 (getL L x).since, .bool (getL L x).waits]) ∧ Below w.heap.size w w' := by
  obtain ⟨p, HP⟩ : ∃ p, Hid (getL L x = p) := ⟨_, Lib.hid rfl⟩
  rw [HP.out]
  have HH := Lib.hid h
  have HX := Lib.hid hx
  have c1 := h.c1
  have x1 := (Bx.new w p rfl).c1
  have x2 := (Bx.new w p rfl).c2
  clear h hx
  go_enter Try.func26, Try.ntmps26
  go_wp2_with (at_lookup; refine wpList_look _ rfl _ _ rfl b L x p rfl rfl HH.out.map HX.out HP.out ?_)
  go_quiet (fail)
  go_wp2
  go_ret2
  exact ⟨rfl, below_drewN ((Below.refl _ _).alloc (Nat.le_refl _) _) _⟩
end Go.Proofs.Ytcphodnenhnalaa
