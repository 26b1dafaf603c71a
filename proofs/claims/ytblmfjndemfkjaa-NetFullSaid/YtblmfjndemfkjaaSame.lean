/-
  WHAT IS PROVED: the laws' comparison of two messages. Condition: their bytes are there.
-/
import Derived.Test.YtblmfjndemfkjaaList
import Derived.Test.YtblmfjndemfkjaaBack
import Derived.Deep.QuietTactic
namespace Go.Proofs.Ytblmfjndemfkjaa
open Go.RowKit Go.Lib
set_option maxRecDepth 100000

theorem lt_of_cell {w : World} {a : Addr} {v : Value} (h : w.cell? a = some v) : a.block < w.heap.size := by
  rcases Nat.lt_or_ge a.block w.heap.size with hlt | hge
  · exact hlt
  · unfold World.cell? at h; rw [Array.getElem?_eq_none hge] at h; cases h
/-! ### a quiet walk whose callees lay new blocks -/
structure Later (w : World) where
  now : World
  below : Below w.heap.size w now
def Later.start (w : World) : Later w := ⟨w, Below.refl _ w⟩
instance (w : World) : Inhabited (Later w) := ⟨Later.start w⟩
theorem Later.cell {w : World} (p : Later w) {a : Addr} {v : Value} (h : w.cell? a = some v) : p.now.cell? a = some v := (p.below.cell (lt_of_cell h)).trans h
theorem wp_region_later {P : Program} {id : Nat} {Q : Exit → Act → World → Prop} {a : Act} {w : World} {l : List Oper} (hm : P.follows .mixedOrders = true) (hB : Region.lexB .any l.toArray = true)
    (h : wpQuiet P l.toArray (fun w' => ∃ p : Later w, w' = p.now) (fun a' => ∀ w', (∃ p : Later w, w' = p.now) → Q .normal a' w') l a) : (Code.region id l.toArray true).wp P Q a w :=
  wp_region_quiet (C := fun w' => ∃ p : Later w, w' = p.now) hm hB ⟨⟨w.drew, ⟨rfl, rfl, rfl, Nat.le_refl _, fun _ _ => rfl⟩⟩, rfl⟩ (by simpa using h)
theorem Later.calls {P : Program} {f : FuncId} {args : Array Value} {w : World} {p : Later w} {v : Value}
    (h : Calls P f args p.now fun e w' => e = .returned v ∧ Below p.now.heap.size p.now w') : Calls P f args p.now fun e w'' => e = .returned v ∧ ∃ p : Later w, w'' = p.now :=
  h.mono fun _ w' ⟨he, hb⟩ => ⟨he, ⟨w', p.below.trans (hb.mono p.below.size)⟩, rfl⟩

/-- do they say the same? -/
def samB (m p : Ms) : Bool := (m.f == p.f) && ((m.t == p.t) && (m.d == p.d))
theorem samB_pl {m p : Ms} (h : m.pl = p.pl) : samB m p = true := by
  unfold Ms.pl at h
  simp only [Prod.mk.injEq] at h
  unfold samB
  rw [h.1, h.2.1, h.2.2]
  simp
set_option maxHeartbeats 4000000 in
theorem same_any (m p : Ms) (F G : Nat → Prop) (w : World) (hm : Good w F m) (hp : Good w G p) : Calls Try.prog 10 #[vM m, vM p] w fun e w' => e = .returned (.bool (samB m p)) ∧ Below w.heap.size w w' := by
  obtain ⟨mf, mt, mA, mn, mc, md⟩ := m
  obtain ⟨pf, pt, pA, pn, pc, pd⟩ := p
  obtain ⟨w1, hw1⟩ : ∃ x, w.alloc (.cells #[.int .i64 mf, .int .i64 mt, .slice mA mn mc] 29) = x := ⟨_, rfl⟩
  have hb1 : Below w.heap.size w w1 := by rw [← hw1]; exact (Below.refl _ _).alloc (Nat.le_refl _) _
  have hx1 : Bx w1 w.heap.size ⟨mf, mt, mA, mn, mc, md⟩ := by rw [← hw1]; exact Bx.new w ⟨mf, mt, mA, mn, mc, md⟩
  obtain ⟨w2, hw2⟩ : ∃ x, w1.alloc (.cells #[.int .i64 pf, .int .i64 pt, .slice pA pn pc] 29) = x := ⟨_, rfl⟩
  have hb12 : Below w1.heap.size w1 w2 := by rw [← hw2]; exact (Below.refl _ _).alloc (Nat.le_refl _) _
  have hy2 : Bx w2 w1.heap.size ⟨pf, pt, pA, pn, pc, pd⟩ := by rw [← hw2]; exact Bx.new w1 ⟨pf, pt, pA, pn, pc, pd⟩
  have hx2 := hx1.later hb12
  have hb2 := hb1.trans (hb12.mono hb1.size)
  have q1 := bytes_back (c := mc) (hm.below hb2).rd.reads
  have q2 := bytes_back (c := pc) (hp.below hb2).rd.reads
  dsimp only at q1 q2
  obtain ⟨x0, x1, x2⟩ := hx2.cells
  obtain ⟨y0, y1, y2⟩ := hy2.cells
  dsimp only at x0 x1 x2 y0 y1 y2
  have HB2 := Lib.hid hb2
  obtain ⟨a1, A1⟩ : ∃ b, Hid ((mf == pf) = b) := ⟨_, Lib.hid rfl⟩
  obtain ⟨a2, A2⟩ : ∃ b, Hid ((mt == pt) = b) := ⟨_, Lib.hid rfl⟩
  obtain ⟨a3, A3⟩ : ∃ b, Hid ((md == pd) = b) := ⟨_, Lib.hid rfl⟩
  have HS : Hid (samB ⟨mf, mt, mA, mn, mc, md⟩ ⟨pf, pt, pA, pn, pc, pd⟩ = (a1 && (a2 && a3))) := Lib.hid (by unfold samB; rw [A1.out, A2.out, A3.out])
  have HE : Hid (((str md).toList == (str pd).toList) = a3) := Lib.hid (by rw [str_toList, str_toList]; exact A3.out)
  have t1 := A1.out
  have t2 := A2.out
  clear hm hp hb1 hb12 hb2 hx1 hx2 hy2
  rw [HS.out]
  cases a1
  · go_enter Try.func10, Try.ntmps10
    go_wp2
    go_ret
    exact ⟨rfl, HB2.out⟩
  · cases a2
    · go_enter Try.func10, Try.ntmps10
      go_wp2
      go_ret
      exact ⟨rfl, HB2.out⟩
    · go_enter Try.func10, Try.ntmps10
      go_wp2
      go_ret
      exact ⟨by show Ending.returned (.bool ((str md).toList == (str pd).toList)) = _; rw [HE.out]; cases a3 <;> rfl, HB2.out⟩
end Go.Proofs.Ytblmfjndemfkjaa
