/-
  WHAT IS PROVED: a disk and variables of type State beside it; what a play of saves, crashes and loads keeps. No condition.
-/
import Derived.Test.YtijkdibccgdomaaGreatDoorKOpen
namespace Go.Proofs.YtijkdibccgdomaaGreatDoor.Dsk
set_option maxRecDepth 100000
open Go.RowKit Go.Lib C

theorem stv_kinds (s : Sv) (j : Nat) (z : Int) : (stv s)[j]? ≠ some (.int .u8 z) := fun h => by
  have hm := Array.mem_of_getElem? h
  simp only [stv, List.mem_toArray, List.mem_append, stL, tbL] at hm
  rcases hm with hm | hm | hm
  · simp at hm
  · obtain ⟨y, e⟩ := row_mem hm; cases e
  · obtain ⟨y, e⟩ := row_mem hm; cases e
/-- bytes lie in no variable of type State -/
theorem Rd.row_far {w : World} {F : Nat → Prop} {A : Option Addr} {n : Nat} {b : List UInt8} (h : Rd w F 1 A n (bs b)) {x : Nat} {s : Sv} (hx : StAt w x s) (cs : Array Value) : Rd (w.setRow x cs) F 1 A n (bs b) := by
  refine ⟨h.1, fun hn => ?_⟩
  obtain ⟨ad, e, hlt, hf, hc⟩ := h.2 hn
  have hne : ad.block ≠ x := by
    intro e
    have hb : 0 < b.length := by have := h.1; rw [bs_len] at this; omega
    have h0 := hc 0 _ (show (bs b)[0]? = some (.int .u8 ((b[0].toNat : Nat) : Int)) by unfold bs; rw [List.getElem?_map, List.getElem?_eq_getElem hb]; rfl)
    have h1 : ad.add 0 = ad := by unfold Addr.add; simp
    rw [h1] at h0
    obtain ⟨bk, off, m⟩ := ad
    dsimp only at e
    subst e
    unfold StAt Blk at hx
    simp [World.cell?, hx] at h0
    exact stv_kinds s off _ (by
      first
        | exact h0.2
        | (obtain ⟨_, h0⟩ := h0; first | exact h0 | simpa using h0)
        | exact h0)
  refine ⟨ad, e, by rw [size_setRow]; exact hlt, hf, fun j u' hu => ?_⟩
  exact (World.cell?_of_block (setRow_other w x _ cs (by rw [block_of_add]; exact hne))).trans (hc j u' hu)
theorem Dk.row {w : World} {d g : Nat} {S : Ds} (h : Dk w d g S) {x : Nat} {s : Sv} (hx : StAt w x s) (hd : x ≠ d) (hg : x ≠ g) (cs : Array Value) : Dk (w.setRow x cs) d g S := by
  refine ⟨(setRow_other w x d cs (fun e => hd e.symm)).trans h.blk, ?_, h.good, h.left⟩
  obtain ⟨D, h1, h2⟩ := h.map
  refine ⟨D, own_turn_map h1 (setRow_other w x g cs (fun e => hg e.symm)), fun f hf => ?_, h2.has_, h2.size⟩
  obtain ⟨v, e1, A, n, c, e2, e3, e4, e5, e6⟩ := h2.at_ f hf
  exact ⟨v, e1, A, n, c, e2, e3, e4, e5, e6.row_far hx cs⟩

/-- the text that is kept -/
def keptO (saved : Bool) (d : Dt) : Option (List UInt8) := if saved then some (txD d) else none
theorem room_ok {S : Ds} {saved : Bool} {ld d : Dt} (hK : Kept S.fs (keptO saved ld)) (hr : S.room = 65536) (h1 : saved = true → okD ld = true) (h2 : okD d = true) : ¬ S.room < (butF S.fs nNx : Int) + ((txD d).length : Int) := by
  have h3 := txD_len h2
  rw [hK.but, hr]
  cases saved with
  | false => show ¬ (65536 : Int) < ((0 : Nat) : Int) + _; omega
  | true =>
    have h4 := txD_len (h1 rfl)
    show ¬ (65536 : Int) < (((txD ld).length : Nat) : Int) + _
    omega
/-- a save, a crash and a load: what there is -/
theorem lasts_two {S : Ds} {saved : Bool} {ld d : Dt} (hK : Kept S.fs (keptO saved ld)) (hr : S.room = 65536) (hd : S.down = false) (h1 : saved = true → okD ld = true) (h2 : okD d = true) :
    (saveD S d).2.fs.length < 1000 ∧ (saveD S d).2.room = 65536 ∧ (((saveD S d).1 = 0 ∧ Kept (saveD S d).2.fs (some (txD d))) ∨ ((saveD S d).1 = 50 ∧ Kept (saveD S d).2.fs (keptO saved ld))) := by
  have h3 := txD_len h2
  have h := save_two hK hd (t := txD d) (by omega) (room_ok hK hr h1 h2)
  have e : saveD S d = saveT S (txD d) := by unfold saveD; rw [if_pos h2]
  rw [e]
  obtain ⟨g1, g2⟩ := h
  refine ⟨?_, g1.trans hr, ?_⟩
  · rcases g2 with ⟨_, _, g⟩ | ⟨_, g⟩
    · have := g.two; omega
    · have := g.two; omega
  · rcases g2 with ⟨g, _, g3⟩ | ⟨g, g3⟩
    · exact .inl ⟨g, g3⟩
    · exact .inr ⟨g, g3⟩
/-- how the loaded state compares -/
def likeB (a b : Dt) : Bool := sameSt (mkS a none a.l.length 0) a.l (mkS b none b.l.length 0) b.l
theorem likeB_iff {a b : Dt} : likeB a b = true ↔ likeD a b := sameSt_iff rfl rfl
theorem sameSt_eq (a b : Dt) (p q : Option Addr) (n m c e : Nat) (hn : a.l.length = n) (hm : b.l.length = m) : sameSt (mkS a p n c) a.l (mkS b q m e) b.l = likeB a b := by
  rw [Bool.eq_iff_iff, likeB_iff, sameSt_iff hn hm]
theorem same_dk (a b : Dt) (p q : Option Addr) (n m c e : Nat) (w : World) (ha : KnAt w p n a.l) (hb : KnAt w q m b.l) (hN : n ≤ 9223372036854775807) : Calls Tryz.prog 17 #[.agg (stv (mkS a p n c)), .agg (stv (mkS b q m e))] w (Says (likeB a b) w) := by
  rw [← sameSt_eq a b p q n m c e ha.1 hb.1]
  exact samestate_any (mkS a p n c) (mkS b q m e) a.l b.l w ha hb hN

/-- what a play keeps from round to round: the disk, the state that was saved last, the law's variable of it -/
structure Lp (w wr : World) (d g bl : Nat) (saved : Bool) (S : Ds) (ld : Dt) (la : Option Addr) (ln lc : Nat) : Prop where
  low : Below w.heap.size w wr
  dk : Dk wr d g S
  kept : Kept S.fs (keptO saved ld)
  room : S.room = 65536
  left : S.left = -1
  down : S.down = false
  okl : saved = true → okD ld = true
  box : StAt wr bl (mkS ld la ln lc)
  knw : KnAt w la ln ld.l
  lnb : ln ≤ 9223372036854775807
section
variable {w wr w5 : World} {d g bl : Nat} {saved : Bool} {S S3 : Ds} {ld rd : Dt} {la ra : Option Addr} {ln lc rn rc : Nat} {o o2 : Obj}
theorem crash_ds {fs : List Fl} {r : Int} : (⟨fs, r, -1, false⟩ : Ds).left = -1 ∧ (⟨fs, r, -1, false⟩ : Ds).down = false := ⟨rfl, rfl⟩
theorem Lp.next1 (h : Lp w wr d g bl saved S ld la ln lc) (hT : Turn (wr.alloc o) w5 (FD d g)) (hdk : Dk w5 d g S3) (hk : Kept S3.fs (keptO saved ld)) (hr : S3.room = 65536) (hl : S3.left = -1) (hd : S3.down = false) (nd : bl ≠ d) (ng : bl ≠ g) (h1 : w.heap.size ≤ d) (h2 : w.heap.size ≤ g) :
    Lp w (w5.alloc o2) d g bl saved S3 ld la ln lc := by
  have hlow := h.low.alloc h.low.size o
  have hb5 := hlow.trans (hT.low h1 h2 hlow.size)
  exact ⟨hb5.alloc hb5.size o2, hdk.alloc o2, hk, hr, hl, hd, h.okl, (blk_turn (h.box.alloc o) hT nd ng).alloc o2, h.knw, h.lnb⟩
theorem Lp.next2 (h : Lp w wr d g bl saved S ld la ln lc) (hT : Turn (wr.alloc o) w5 (FD d g)) (hdk : Dk w5 d g S3) (hk : Kept S3.fs (some (txD rd))) (hr : S3.room = 65536) (hl : S3.left = -1) (hd : S3.down = false) (nd : bl ≠ d) (ng : bl ≠ g) (h1 : w.heap.size ≤ d) (h2 : w.heap.size ≤ g) (h3 : w.heap.size ≤ bl)
    (hok : okD rd = true) (hkn : KnAt w ra rn rd.l) (hn : rn ≤ 9223372036854775807) :
    Lp w ((w5.alloc o2).setRow bl (stv (mkS rd ra rn rc))) d g bl true S3 rd ra rn rc := by
  have hlow := h.low.alloc h.low.size o
  have hb5 := hlow.trans (hT.low h1 h2 hlow.size)
  have hbox : StAt (w5.alloc o2) bl (mkS ld la ln lc) := (blk_turn (h.box.alloc o) hT nd ng).alloc o2
  exact ⟨below_row (hb5.alloc hb5.size o2) h3 _, (hdk.alloc o2).row hbox nd ng _, hk, hr, hl, hd, fun _ => hok, StAt.store hbox _, hkn, hn⟩
theorem Lp.same (h : Lp w wr d g bl saved S ld la ln lc) (hT : Turn (wr.alloc o) w5 (FD d g)) (hdk : Dk w5 d g S) (nd : bl ≠ d) (ng : bl ≠ g) (h1 : w.heap.size ≤ d) (h2 : w.heap.size ≤ g) : Lp w w5 d g bl saved S ld la ln lc := by
  have hlow := h.low.alloc h.low.size o
  exact ⟨hlow.trans (hT.low h1 h2 hlow.size), hdk, h.kept, h.room, h.left, h.down, h.okl, blk_turn (h.box.alloc o) hT nd ng, h.knw, h.lnb⟩
theorem Lp.later {w6 : World} (h : Lp w w5 d g bl saved S ld la ln lc) (hb : Below w5.heap.size w5 w6) : Lp w w6 d g bl saved S ld la ln lc :=
  ⟨h.low.trans (hb.mono h.low.size), h.dk.below hb, h.kept, h.room, h.left, h.down, h.okl, h.box.later hb, h.knw, h.lnb⟩
/-- all of it but what is kept -/
structure Pre (w wr : World) (d g bl : Nat) (S : Ds) (ld : Dt) (la : Option Addr) (ln lc : Nat) : Prop where
  low : Below w.heap.size w wr
  dk : Dk wr d g S
  box : StAt wr bl (mkS ld la ln lc)
theorem Lp.pre (h : Lp w wr d g bl saved S ld la ln lc) (hT : Turn (wr.alloc o) w5 (FD d g)) (hdk : Dk w5 d g S3) (nd : bl ≠ d) (ng : bl ≠ g) (h1 : w.heap.size ≤ d) (h2 : w.heap.size ≤ g) : Pre w (w5.alloc o2) d g bl S3 ld la ln lc := by
  have hlow := h.low.alloc h.low.size o
  have hb5 := hlow.trans (hT.low h1 h2 hlow.size)
  exact ⟨hb5.alloc hb5.size o2, hdk.alloc o2, (blk_turn (h.box.alloc o) hT nd ng).alloc o2⟩
theorem Pre.later {w6 : World} (h : Pre w w5 d g bl S ld la ln lc) (hb : Below w5.heap.size w5 w6) : Pre w w6 d g bl S ld la ln lc :=
  ⟨h.low.trans (hb.mono h.low.size), h.dk.below hb, h.box.later hb⟩
theorem Pre.take (h : Pre w w5 d g bl S ld la ln lc) (hk : Kept S.fs (some (txD rd))) (hr : S.room = 65536) (hl : S.left = -1) (hd : S.down = false) (nd : bl ≠ d) (ng : bl ≠ g) (h3 : w.heap.size ≤ bl)
    (hok : okD rd = true) (hkn : KnAt w ra rn rd.l) (hn : rn ≤ 9223372036854775807) : Lp w (w5.setRow bl (stv (mkS rd ra rn rc))) d g bl true S rd ra rn rc :=
  ⟨below_row h.low h3 _, h.dk.row h.box nd ng _, hk, hr, hl, hd, fun _ => hok, h.box.store _, hkn, hn⟩
end
theorem zsk_at2 {l : List Int} {k : Nat} {u : Value} (h : (zs l)[k]? = some u) : ∃ z, l[k]? = some z ∧ u = .int .i64 z := by
  unfold zs at h
  rw [List.getElem?_map] at h
  cases hz : l[k]? with
  | none => rw [hz] at h; cases h
  | some z => rw [hz] at h; simp at h; exact ⟨z, rfl, h.symm⟩
end Go.Proofs.YtijkdibccgdomaaGreatDoor.Dsk
