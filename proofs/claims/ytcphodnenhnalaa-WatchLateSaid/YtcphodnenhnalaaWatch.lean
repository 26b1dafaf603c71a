/-
  WHAT IS PROVED: contracts of New, has, Add, Remove, and of the tests for ids and times. Condition: the object is a watch.
-/
import Derived.Test.YtcphodnenhnalaaMem
import Derived.Deep.QuietTactic
import Derived.BigQuiet
import Derived.Deep.RegionHeld3
import Derived.Laws.ResultCell
import Derived.Laws.Rows
namespace Go.Proofs.Ytcphodnenhnalaa
open Go.RowKit Go.Lib Go.Maps

/-- block g is a watch of that timeout, whose peers lie in the map of block b -/
structure Wt (w : World) (g b : Nat) (T : Int) (L : List Pr) : Prop where
  row : Blk w g 46 #[.int .i64 T, .map (some b)]
  map : MapAt w b L
  good : Good L
  to : 2 ≤ T ∧ T ≤ 1073741824
section
variable {w w' : World} {g b : Nat} {T : Int} {L : List Pr}
theorem Wt.lt (h : Wt w g b T L) : g < w.heap.size := h.row.lt
theorem Wt.ltb (h : Wt w g b T L) : b < w.heap.size := h.map.lt
theorem Wt.ne (h : Wt w g b T L) : g ≠ b := h.row.map_ne h.map
theorem Wt.ne' (h : Wt w g b T L) : some g ≠ some b := by have := h.ne; simpa using this
theorem Wt.below (h : Wt w g b T L) (hb : Below w.heap.size w w') : Wt w' g b T L :=
  ⟨h.row.below hb h.lt, h.map.kept (only_of_below hb none) (by simp), h.good, h.to⟩
theorem Wt.kept {row : Option Nat} (h : Wt w g b T L) (hg : w.grownBy w' row) (h1 : some g ≠ row) (h2 : some b ≠ row) : Wt w' g b T L :=
  ⟨h.row.grown hg h1, h.map.kept hg h2, h.good, h.to⟩
/-- another watch is written: this one stays -/
theorem Wt.other {g' b' : Nat} {T' : Int} {L' : List Pr} (h : Wt w g b T L) (h' : Wt w g' b' T' L') (hb : b ≠ b') (hg : w.grownBy w' (some b')) : Wt w' g b T L :=
  h.kept hg (by intro e; injection e with e; exact h.row.map_ne h'.map e) (by simpa using hb)
theorem Wt.c0 (h : Wt w g b T L) : w.cell? ⟨g, 0, none⟩ = some (.int .i64 T) := by have := h.row.cell 0; simpa using this
theorem Wt.c1 (h : Wt w g b T L) : w.cell? ⟨g, 1, none⟩ = some (.map (some b)) := by have := h.row.cell 1; simpa using this
theorem Wt.len (h : Wt w g b T L) : L.length < 1000 := by have := h.good.len; omega
theorem Wt.grownB {W : World} (_ : Wt w g b T L) (hb : Below W.heap.size W w) (hB : W.heap.size ≤ b) (hg : w.grownBy w' (some b)) : Below W.heap.size W w' :=
  hb.trans (below_of_only hg hb.size hB)
end
theorem below_set {B : Nat} {w w' : World} (h : Below B w w') {p : Addr} (hp : B ≤ p.block) (u : Value) : Below B w (w'.setCell p u) :=
  ⟨h.os, h.tape, h.output, by simpa [World.setCell] using h.size, fun i hi => (Below.heap_setCell w' p u i (by omega)).trans (h.block i hi)⟩
theorem below3 {B : Nat} {w w' : World} (h : Below B w w') {c i j k : Nat} (hc : B ≤ c) (x y z : Value) : Below B w (((w'.setCell ⟨c, i, none⟩ x).setCell ⟨c, j, none⟩ y).setCell ⟨c, k, none⟩ z) :=
  below_set (below_set (below_set h (p := ⟨c, i, none⟩) hc x) (p := ⟨c, j, none⟩) hc y) (p := ⟨c, k, none⟩) hc z

/-! ### the map's operations in a walk -/
section
variable (w : World) {ops : Array Oper} {rest : List Oper} {o : Oper} {a : Act} {Q : Exit → Act → World → Prop}
theorem wpList_look_ok (hg : o.guard = none) (m x : Operand) (hop : o.op = Op.lookup 44 m x true) (b : Nat) (L : List Pr) (id : Int) (p : Pr) (q : Bool)
    (hm : a.eval m = .map (some b)) (hx : a.eval x = .int .i64 id) (h : MapAt w b L) (hi : inInt id) (hp : getL L id = p) (hq : hasL L id = q)
    (hK : wpList Try.prog ops Q rest (a.put o.dst (.tuple #[vPr p, .bool q])) w) : wpList Try.prog ops Q (o :: rest) a w := by
  refine wpList_plain hg fun K' hK' => ?_
  have hrun := h.look_ok hi
  rw [hp, hq] at hrun
  unfold Oper.wp
  simp [execOp, hop, hm, hx, hrun, Result.andThen]
  exact hK' _ _ hK
theorem wpList_look (hg : o.guard = none) (m x : Operand) (hop : o.op = Op.lookup 44 m x false) (b : Nat) (L : List Pr) (id : Int) (p : Pr)
    (hm : a.eval m = .map (some b)) (hx : a.eval x = .int .i64 id) (h : MapAt w b L) (hi : inInt id) (hp : getL L id = p)
    (hK : wpList Try.prog ops Q rest (a.put o.dst (vPr p)) w) : wpList Try.prog ops Q (o :: rest) a w := by
  refine wpList_plain hg fun K' hK' => ?_
  have hrun := h.look hi
  rw [hp] at hrun
  unfold Oper.wp
  simp [execOp, hop, hm, hx, hrun, Result.andThen]
  exact hK' _ _ hK
theorem wpList_len_map (hg : o.guard = none) (m : Operand) (hop : o.op = Op.call { callee := Callee.builtin Builtin.len, args := #[m], argTypes := #[44] }) (b : Nat) (L : List Pr)
    (hm : a.eval m = .map (some b)) (h : MapAt w b L) (hK : wpList Try.prog ops Q rest (a.put o.dst (.int .i64 (L.length : Int))) w) : wpList Try.prog ops Q (o :: rest) a w := by
  obtain ⟨D, hown, hag⟩ := h
  refine wpList_len_own w hg m _ hop 3 52 Try.underlying44 prElem b L.length D hm hown ?_
  rw [hag.size]
  exact hK
theorem wpList_delete_map (hg : o.guard = none) (m x : Operand) (hop : o.op = Op.call { callee := Callee.builtin Builtin.delete, args := #[m, x], argTypes := #[44, 3] }) (b : Nat) (L : List Pr) (id : Int)
    (hm : a.eval m = .map (some b)) (hx : a.eval x = .int .i64 id) (h : MapAt w b L) (hu : Up L) (hi : inInt id)
    (hK : ∀ w', MapAt w' b (delL L id) → w.grownBy w' (some b) → wpList Try.prog ops Q rest (a.put o.dst (.tuple #[])) w') : wpList Try.prog ops Q (o :: rest) a w := by
  refine wpList_plain hg fun K' hK' => ?_
  obtain ⟨w', hrun, r1, r2⟩ := h.del hu hi o.type
  unfold Oper.wp
  simp [execOp, hop, resolve, invoke, builtin, hm, hx, hrun, Result.andThen]
  exact hK' _ _ (hK w' r1 r2)
theorem wpList_update_map (hg : o.guard = none) (m x v : Operand) (hop : o.op = Op.mapUpdate 44 m x v) (b : Nat) (L : List Pr) (q : Pr)
    (hm : a.eval m = .map (some b)) (hx : a.eval x = .int .i64 q.id) (hv : a.eval v = vPr q) (h : MapAt w b L) (hu : Up L) (hlen : L.length < 1000) (hi : inInt q.id)
    (hK : ∀ w', MapAt w' b (insL L q) → w.grownBy w' (some b) → wpList Try.prog ops Q rest (a.put o.dst undef) w') : wpList Try.prog ops Q (o :: rest) a w := by
  refine wpList_plain hg fun K' hK' => ?_
  obtain ⟨w', hrun, r1, r2⟩ := h.store hu hlen hi
  unfold Oper.wp
  simp [execOp, hop, hm, hx, hv, hrun, Result.andThen]
  exact hK' _ _ (hK w' r1 r2)
end

theorem isid_any (x : Int) (w : World) :
    Calls Try.prog 22 #[.int .i64 x] w fun e w' => e = .returned (.bool (isIdB x)) ∧ w = w' := by
  by_cases h1 : 1 ≤ x
  · by_cases h2 : x ≤ 4294967296
    · have HX : Hid (isIdB x = true) := by show _ = _; unfold isIdB; simp [h1, h2]
      go_enter Try.func22, Try.ntmps22
      go_wp2
      go_ret
      exact ⟨by rw [HX.out]; rfl, rfl⟩
    · have HX : Hid (isIdB x = false) := by show _ = _; unfold isIdB; simp [h2]
      have h3 : decide (x ≤ 4294967296) = false := by simp; omega
      clear h2
      go_enter Try.func22, Try.ntmps22
      go_wp2
      go_ret
      exact ⟨by rw [HX.out]; rfl, rfl⟩
  · have HX : Hid (isIdB x = false) := by show _ = _; unfold isIdB; simp [h1]
    have h3 : x < 1 := by omega
    clear h1
    go_enter Try.func22, Try.ntmps22
    go_wp2
    go_ret
    exact ⟨by rw [HX.out]; rfl, rfl⟩
theorem istime_any (x : Int) (w : World) :
    Calls Try.prog 23 #[.int .i64 x] w fun e w' => e = .returned (.bool (isTimeB x)) ∧ w = w' := by
  by_cases h1 : 0 ≤ x
  · by_cases h2 : x ≤ 1099511627776
    · have HX : Hid (isTimeB x = true) := by show _ = _; unfold isTimeB; simp [h1, h2]
      go_enter Try.func23, Try.ntmps23
      go_wp2
      go_ret
      exact ⟨by rw [HX.out]; rfl, rfl⟩
    · have HX : Hid (isTimeB x = false) := by show _ = _; unfold isTimeB; simp [h2]
      have h3 : decide (x ≤ 1099511627776) = false := by simp; omega
      clear h2
      go_enter Try.func23, Try.ntmps23
      go_wp2
      go_ret
      exact ⟨by rw [HX.out]; rfl, rfl⟩
  · have HX : Hid (isTimeB x = false) := by show _ = _; unfold isTimeB; simp [h1]
    have h3 : x < 0 := by omega
    clear h1
    go_enter Try.func23, Try.ntmps23
    go_wp2
    go_ret
    exact ⟨by rw [HX.out]; rfl, rfl⟩

/-- a new watch -/
def Made (T : Int) (w : World) (e : Ending) (w' : World) : Prop :=
  ∃ g b, e = .returned (.tuple #[.pointer (some ⟨g, 0, none⟩), .int .i64 0]) ∧ Wt w' g b T [] ∧ Below w.heap.size w w' ∧ w.heap.size ≤ g ∧ w.heap.size ≤ b
theorem new_yes (T : Int) (w : World) (h1 : 2 ≤ T) (h2 : T ≤ 1073741824) : Calls Try.prog 9 #[.int .i64 T] w (Made T w) := by
  have hmm := @run_makeMap Try.prog
  go_enter Try.func9, Try.ntmps9
  go_wp2
  go_ret2
  have hblk : Blk ((w.alloc (.map #[] 0)).alloc (.cells #[.int .i64 T, .map (some w.heap.size)] 46)) (w.heap.size + 1) 46 #[.int .i64 T, .map (some w.heap.size)] := by
    have := Blk.new (w.alloc (.map #[] 0)) 46 #[.int .i64 T, .map (some w.heap.size)]
    simpa using this
  exact ⟨w.heap.size + 1, w.heap.size, rfl, ⟨hblk, (map_new w).kept (World.grownBy_alloc _ _ none) (by simp), Good.nil, h1, h2⟩,
    ((Below.refl _ _).alloc (Nat.le_refl _) _).alloc (by simp) _, by omega, Nat.le_refl _⟩
theorem new_no (T : Int) (w : World) (h : T < 2 ∨ 1073741824 < T) : Calls Try.prog 9 #[.int .i64 T] w fun e w' => e = .returned (.tuple #[.pointer none, .int .i64 10]) ∧ w = w' := by
  by_cases h1 : T < 2
  · clear h
    go_enter Try.func9, Try.ntmps9
    go_wp2
    go_ret2
    exact ⟨rfl, rfl⟩
  · have h2 : (1073741824 : Int) < T := by omega
    have h3 : decide (T < 2) = false := by simp; omega
    clear h h1
    go_enter Try.func9, Try.ntmps9
    go_wp2
    go_ret2
    exact ⟨rfl, rfl⟩

theorem has_any (g b : Nat) (T : Int) (L : List Pr) (x : Int) (w : World) (h : Wt w g b T L) (hx : inInt x) :
    Calls Try.prog 24 #[.pointer (some ⟨g, 0, none⟩), .int .i64 x] w (Says (hasL L x) w) := by
  obtain ⟨p, HP⟩ : ∃ p, Hid (getL L x = p) := ⟨_, Lib.hid rfl⟩
  obtain ⟨q, HQ⟩ : ∃ q, Hid (hasL L x = q) := ⟨_, Lib.hid rfl⟩
  have HH := Lib.hid h
  have HX := Lib.hid hx
  have c1 := h.c1
  clear h hx
  go_enter Try.func24, Try.ntmps24
  go_wp2_with (at_lookup; refine wpList_look_ok _ rfl _ _ rfl b L x p q rfl rfl HH.out.map HX.out HP.out HQ.out ?_)
  go_ret
  exact ⟨by rw [HQ.out]; rfl, (Below.refl _ _).alloc (Nat.le_refl _) _⟩

/-- what a call of a watch does: it tells n, and the peers are then L' -/
def Did (g b : Nat) (T : Int) (n : Int) (L' : List Pr) (w : World) (e : Ending) (w' : World) : Prop := e = .returned (.int .i64 n) ∧ Wt w' g b T L' ∧ w.grownBy w' (some b)

end Go.Proofs.Ytcphodnenhnalaa
