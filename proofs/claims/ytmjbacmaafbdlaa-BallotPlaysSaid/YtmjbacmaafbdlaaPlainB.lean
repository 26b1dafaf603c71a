/-
  WHAT IS PROVED: what a ballot's calls come to, on plain data. No condition.
-/
import Derived.Test.YtmjbacmaafbdlaaPlain
import Derived.Test.YtmjbacmaafbdlaaMap
namespace Go.Proofs.Ytmjbacmaafbdlaa
open Go.RowKit

/-- a stand (on: it stands, or its time is over), and what was given when -/
structure Bst where
  on : Bool
  ep : Int
  si : Int
  vs : List Int
  ys : List Int
  G : List Mp.Bn
def Bst.zero : Bst := ⟨false, 0, 0, [], [], []⟩
def isTimeB (x : Int) : Bool := decide (0 ≤ x ∧ x ≤ 1099511627776)
def isEpochB (x : Int) : Bool := decide (1 ≤ x ∧ x ≤ 281474976710656)
def lastB (T si now : Int) : Bool := decide (now ≤ si + 2 * T)
def stB (T : Int) (s : Bst) (now : Int) : Bool := s.on && lastB T s.si now
def fineB (ep : Int) (vs : List Int) (now : Int) : Bool := rightB vs && (isEpochB ep && isTimeB now)
def standE (T : Int) (s : Bst) (ep : Int) (vs : List Int) (now : Int) : Int := if fineB ep vs now = true then (if stB T s now = true then 21 else 0) else 10
def standS (T : Int) (s : Bst) (ep : Int) (vs : List Int) (now : Int) : Bst := if fineB ep vs now = true ∧ stB T s now = false then ⟨true, ep, now, vs, [], s.G⟩ else s
/-- a vote counts -/
def ackO (T : Int) (s : Bst) (x ep now : Int) : Bool := stB T s now && (decide (s.ep = ep) && okG s.vs s.ys x)
def winB (vs ys : List Int) : Bool := decide (vs.length < 2 * ys.length)
def ackB (T : Int) (s : Bst) (x ep now : Int) : Bool := ackO T s x ep now && winB s.vs (s.ys ++ [x])
def ackS (T : Int) (s : Bst) (x ep now : Int) : Bst := if ackO T s x ep now = true then { s with on := !winB s.vs (s.ys ++ [x]), ys := s.ys ++ [x] } else s
def stopS (s : Bst) : Bst := { s with on := false }
def mayB (T : Int) (s : Bst) (m now : Int) : Bool := !Mp.hasB s.G m || !lastB T (Mp.tillB s.G m) now
def gaveOk (m now : Int) : Bool := isIdB m && isTimeB now
def gaveE (m now : Int) : Int := if gaveOk m now = true then 0 else 10
def putG : List Mp.Bn → Mp.Bn → List Mp.Bn
  | [], q => [q]
  | b :: l, q => if b.id = q.id then q :: l else b :: putG l q
def gaveS (s : Bst) (m now : Int) : Bst := if gaveOk m now = true then { s with G := putG s.G ⟨m, now⟩ } else s

theorem idz {x : Int} (h : isIdB x = true) : 1 ≤ x ∧ x ≤ 4294967296 := by unfold isIdB at h; simpa using h
theorem timz {x : Int} (h : isTimeB x = true) : 0 ≤ x ∧ x ≤ 1099511627776 := by unfold isTimeB at h; simpa using h
theorem epz {x : Int} (h : isEpochB x = true) : 1 ≤ x ∧ x ≤ 281474976710656 := by unfold isEpochB at h; simpa using h
theorem tim_yes {x : Int} (h : 0 ≤ x ∧ x ≤ 1099511627776) : isTimeB x = true := by unfold isTimeB; simpa using h
theorem tim_no {x : Int} (h : ¬ (0 ≤ x ∧ x ≤ 1099511627776)) : isTimeB x = false := by unfold isTimeB; simpa using h
theorem ep_yes {x : Int} (h : 1 ≤ x ∧ x ≤ 281474976710656) : isEpochB x = true := by unfold isEpochB; simpa using h
theorem ep_no {x : Int} (h : ¬ (1 ≤ x ∧ x ≤ 281474976710656)) : isEpochB x = false := by unfold isEpochB; simpa using h

/-! ### what was given -/
theorem mem_putG : ∀ {G : List Mp.Bn}, Mp.UpB G → ∀ {q r : Mp.Bn}, r ∈ putG G q ↔ (r ∈ G ∧ r.id ≠ q.id) ∨ r = q
  | [], _, q, r => by simp [putG]
  | b :: l, hu, q, r => by
    obtain ⟨hb, hl⟩ := List.pairwise_cons.1 hu
    unfold putG
    split
    · rename_i e
      simp only [List.mem_cons]
      constructor
      · rintro (rfl | h)
        · exact .inr rfl
        · exact .inl ⟨.inr h, fun e2 => hb r h (e.trans e2.symm)⟩
      · rintro (⟨rfl | h, h2⟩ | rfl)
        · exact absurd e h2
        · exact .inr h
        · exact .inl rfl
    · rename_i e
      rw [List.mem_cons, mem_putG hl, List.mem_cons]
      constructor
      · rintro (rfl | ⟨h, h2⟩ | rfl)
        · exact .inl ⟨.inl rfl, e⟩
        · exact .inl ⟨.inr h, h2⟩
        · exact .inr rfl
      · rintro (⟨rfl | h, h2⟩ | rfl)
        · exact .inl rfl
        · exact .inr (.inl ⟨h, h2⟩)
        · exact .inr (.inr rfl)
theorem putG_has {G : List Mp.Bn} (hu : Mp.UpB G) {q : Mp.Bn} (x : Int) : Mp.hasB (putG G q) x = Mp.hasB (Mp.putB G q) x := by
  rw [Bool.eq_iff_iff, Mp.hasB_iff, Mp.hasB_iff]
  constructor
  · rintro ⟨p, hp, e⟩; exact ⟨p, Mp.mem_putB.2 ((mem_putG hu).1 hp), e⟩
  · rintro ⟨p, hp, e⟩; exact ⟨p, (mem_putG hu).2 (Mp.mem_putB.1 hp), e⟩
theorem putG_len : ∀ (G : List Mp.Bn) (q : Mp.Bn), (putG G q).length = if Mp.hasB G q.id = true then G.length else G.length + 1
  | [], q => rfl
  | b :: l, q => by
    unfold putG
    by_cases e : b.id = q.id
    · have : Mp.hasB (b :: l) q.id = true := Mp.hasB_iff.2 ⟨b, by simp, e⟩
      rw [if_pos e, this]; rfl
    · have : Mp.hasB (b :: l) q.id = Mp.hasB l q.id := by unfold Mp.hasB; simp [e]
      rw [if_neg e, this, List.length_cons, putG_len l q]
      split <;> rfl
theorem putG_up {G : List Mp.Bn} (hu : Mp.UpB G) (q : Mp.Bn) : Mp.UpB (putG G q) := by
  induction G with
  | nil => simp [putG, Mp.UpB]
  | cons b l ih =>
    obtain ⟨hb, hl⟩ := List.pairwise_cons.1 hu
    unfold putG
    split
    · rename_i e
      exact List.pairwise_cons.2 ⟨fun x hx => by rw [← e]; exact hb x hx, hl⟩
    · rename_i e
      refine List.pairwise_cons.2 ⟨fun x hx => ?_, ih hl⟩
      rcases (mem_putG hl).1 hx with ⟨h, _⟩ | rfl
      · exact hb x h
      · exact e
theorem putG_le (G : List Mp.Bn) (q : Mp.Bn) : (putG G q).length ≤ G.length + 1 := by rw [putG_len]; split <;> omega

/-! ### what holds of a ballot -/
structure Fine (T : Int) (s : Bst) : Prop where
  t1 : 2 ≤ T
  t2 : T ≤ 1073741824
  right : rightB s.vs = true
  si : 0 ≤ s.si ∧ s.si ≤ 1099511627776
  ep : 0 ≤ s.ep ∧ s.ep ≤ 281474976710656
  sub : Sub s.vs s.ys
  up : Mp.UpB s.G
  tl : ∀ p ∈ s.G, 0 ≤ p.till ∧ p.till ≤ 1099511627776
theorem Fine.zero {T : Int} (h1 : 2 ≤ T) (h2 : T ≤ 1073741824) : Fine T Bst.zero := ⟨h1, h2, by decide, by decide, by decide, Sub.nil _, List.Pairwise.nil, fun p hp => by cases hp⟩
theorem fineB_iff {ep now : Int} {vs : List Int} : fineB ep vs now = true ↔ rightB vs = true ∧ isEpochB ep = true ∧ isTimeB now = true := by unfold fineB; simp [Bool.and_eq_true]
theorem Fine.stand {T : Int} {s : Bst} (h : Fine T s) (ep : Int) (vs : List Int) (now : Int) : Fine T (standS T s ep vs now) := by
  unfold standS
  split
  · rename_i hc
    obtain ⟨h1, h2, h3⟩ := fineB_iff.1 hc.1
    have h2' := epz h2
    exact ⟨h.t1, h.t2, h1, timz h3, by show 0 ≤ ep ∧ ep ≤ _; omega, Sub.nil _, h.up, h.tl⟩
  · exact h
theorem Fine.ack {T : Int} {s : Bst} (h : Fine T s) (x ep now : Int) : Fine T (ackS T s x ep now) := by
  unfold ackS
  split
  · rename_i hc
    unfold ackO at hc
    simp only [Bool.and_eq_true] at hc
    have hs := h.sub.add x
    rw [addG_yes hc.2.2] at hs
    exact ⟨h.t1, h.t2, h.right, h.si, h.ep, hs, h.up, h.tl⟩
  · exact h
theorem Fine.stop {T : Int} {s : Bst} (h : Fine T s) : Fine T (stopS s) := ⟨h.t1, h.t2, h.right, h.si, h.ep, h.sub, h.up, h.tl⟩
theorem Fine.gave {T : Int} {s : Bst} (h : Fine T s) (m now : Int) : Fine T (gaveS s m now) := by
  unfold gaveS
  split
  · rename_i hc
    unfold gaveOk at hc
    simp only [Bool.and_eq_true] at hc
    refine ⟨h.t1, h.t2, h.right, h.si, h.ep, h.sub, putG_up h.up _, fun p hp => ?_⟩
    rcases (mem_putG h.up).1 hp with ⟨h1, _⟩ | rfl
    · exact h.tl p h1
    · exact timz hc.2
  · exact h
end Go.Proofs.Ytmjbacmaafbdlaa
