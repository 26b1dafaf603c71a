/-
  WHAT IS PROVED: the law SlotParts answers true for every list of byte slices, which reads behind the call as before it: a text in any parts, each gone on with from the last one's sum, has its sum; parts of nothing change nothing. Condition: none.
-/
import Derived.Test.YtaaibjibnonlaaaAgain
import Derived.Maps.AppendAt
import Derived.OwnWalk
namespace Go.Proofs.Ytaaibjibnonlaaa
open Go.RowKit Go.ChangeShapes Go.WideShapes Go.ChangeAt Go.WideElems

section
variable {P : Program} (w : World)
theorem run_append_bytes (base : Nat) (t ty e : TypeId) (i : TypeInfo) (z : Value) (bytes : Nat) (ht : P.underlying t = some (.slice e)) (hi : P.info? e = some i) (hz : i.zero = some z)
    (hsize : i.size = 1) (hby : i.bytes = bytes) (hzs : z.cells.size = 1)
    (v : Value) (n : Nat) (xs : List Value) (hown : w.ownsRow base e 1 v n xs)
    (g : Nat) (A : Option Addr) (m c : Nat) (news : List Value) (hr : Reads w g A m news) (h1 : ∀ u ∈ news, u.oneCell' = true)
    (h63 : n + m ≤ maxLen) (hbytes : (n + m) * bytes ≤ 140737488355328) (hbase : base ≤ w.heap.size) :
    ∃ v' w', (Builtin.append_ #[t, t] ty #[v, .slice A m c]).run P w = .ok v' w' ∧ w'.ownsRow base e 1 v' (n + m) (xs ++ news) ∧ w.grownBy w' v.ownBlock ∧
      (v'.ownBlock = v.ownBlock ∨ v'.ownBlock = some w.heap.size) := by
  have hnil : m = 0 → ∃ v' w', (Builtin.append_ #[t, t] ty #[v, .slice none 0 c]).run P w = .ok v' w' ∧ w'.ownsRow base e 1 v' (n + m) (xs ++ news) ∧ w.grownBy w' v.ownBlock ∧
      (v'.ownBlock = v.ownBlock ∨ v'.ownBlock = some w.heap.size) := fun hm => by
    subst hm
    have hn : news = [] := List.eq_nil_of_length_eq_zero hr.1
    subst hn
    refine ⟨v, w, ?_, by simpa using hown, World.grownBy.refl w _, .inl rfl⟩
    rcases hown.2 with ⟨rfl, rfl⟩ | ⟨b, cap, cur, rfl, _, _, hnc, _⟩
    · simp [Builtin.append_, run_underlying ht, sizeOf, typeInfo, hi, Builtin.lenOf, Builtin.firstCells]
    · simp [Builtin.append_, run_underlying ht, sizeOf, typeInfo, hi, Builtin.lenOf, Builtin.firstCells, hnc, storeCells]
  cases A with
  | none =>
    have hm : m = 0 := by
      rcases Nat.eq_zero_or_pos m with h0 | h0
      · exact h0
      · obtain ⟨ad, h, _⟩ := hr.2 h0
        cases h
    have := hnil hm
    rwa [hm] at this ⊢
  | some ad =>
    have hcells : ∀ j u, news[j]? = some u → w.cell? (ad.add j) = some u := by
      intro j u hu
      rcases Nat.eq_zero_or_pos m with h0 | h0
      · have hn : news = [] := List.eq_nil_of_length_eq_zero (by rw [hr.1]; exact h0)
        subst hn
        simp at hu
      · obtain ⟨ad', h, _, _, hc⟩ := hr.2 h0
        injection h with h
        subst h
        exact hc j u hu
    obtain ⟨v', w', hrun, h2, h3, _, h5⟩ := run_append_own_at (P := P) w base t ty e i z 1 bytes ht hi hz hsize hby hzs (by omega) v n xs hown ad m c news (by rw [hr.1]; omega) hcells h1 h63 hbytes hbase
    exact ⟨v', w', hrun, h2, h3, h5⟩

theorem wpList_append_bytes {ops : Array Oper} {rest : List Oper} {o : Oper} {a : Act} {Q : Exit → Act → World → Prop} (hgd : o.guard = none) (s x : Operand) (t : TypeId)
    (ho : o.op = .call { callee := .builtin .append, args := #[s, x], argTypes := #[t, t] })
    (base : Nat) (e : TypeId) (i : TypeInfo) (z : Value) (bytes : Nat) (ht : P.underlying t = some (.slice e)) (hi : P.info? e = some i) (hz : i.zero = some z)
    (hsize : i.size = 1) (hby : i.bytes = bytes) (hzs : z.cells.size = 1)
    (v : Value) (n : Nat) (xs : List Value) (hs : a.eval s = v) (hown : w.ownsRow base e 1 v n xs)
    (g : Nat) (A : Option Addr) (m c : Nat) (news : List Value) (hx : a.eval x = .slice A m c) (hr : Reads w g A m news) (h1 : ∀ u ∈ news, u.oneCell' = true)
    (h63 : n + m ≤ maxLen) (hbytes : (n + m) * bytes ≤ 140737488355328) (hbase : base ≤ w.heap.size)
    (h : ∀ v' w', w'.ownsRow base e 1 v' (n + m) (xs ++ news) → w.grownBy w' v.ownBlock → (v'.ownBlock = v.ownBlock ∨ v'.ownBlock = some w.heap.size) → wpList P ops Q rest (a.put o.dst v') w') : wpList P ops Q (o :: rest) a w :=
  wpList_plain hgd fun K hK => by
    obtain ⟨v', w', hrun, h2, h3, h4⟩ := run_append_bytes (P := P) w base t o.type e i z bytes ht hi hz hsize hby hzs v n xs hown g A m c news hr h1 h63 hbytes hbase
    unfold Oper.wp execOp
    simp only [ho, resolve, invoke, builtin, Sem.run_bind, Sem.run_pure, Result.andThen_ok, List.map_toArray, List.map_cons, List.map_nil, hs, hx, hrun]
    exact hK _ _ (h v' w' h2 h3 h4)
end

theorem bs_oneCell (l : List UInt8) : ∀ u ∈ bs l, u.oneCell' = true := fun u hu => by
  unfold bs at hu
  obtain ⟨c, _, rfl⟩ := List.mem_map.1 hu
  rfl
theorem bs_append (l m : List UInt8) : bs (l ++ m) = bs l ++ bs m := by simp [bs]
theorem u8_info : (Try.prog.info? 5).map (fun i => (i.zero, i.size, i.bytes)) = some (some (.int .u8 0), 1, 1) := by kernel_rfl

/-- a row of bytes of the call's own is never the hasher's block -/
theorem own_ne {w : World} {g base n : Nat} {v : Value} {xs : List Value} (h : w.ownsRow base 5 1 v n xs) (hx : Hx w g) : v.ownBlock ≠ some g := by
  have hb : ∃ cs, Blk w g 53 cs := by
    rcases hx with ⟨f, cs, hb, _⟩ | ⟨cs, hb, _⟩
    · exact ⟨cs, hb⟩
    · exact ⟨cs, hb⟩
  obtain ⟨cs, hb⟩ := hb
  rcases h.2 with ⟨rfl, _⟩ | ⟨b, cap, cur, rfl, _, hh, _⟩
  · simp [Value.ownBlock]
  · intro he
    have : b = g := by simpa [Value.ownBlock] using he
    subst this
    unfold Blk at hb
    rw [hh] at hb
    injection hb with hb
    injection hb with _ ht
    exact absurd ht (by decide)
theorem own_reads {w : World} {g base n : Nat} {v : Value} {l : List UInt8} (h : w.ownsRow base 5 1 v n (bs l)) (hne : v.ownBlock ≠ some g) :
    ∃ A cap, v = .slice A n cap ∧ n ≤ 9223372036854775807 ∧ Reads w g A n (bs l) := by
  have hl : (bs l).length = n := by have := h.1; omega
  rcases h.2 with ⟨rfl, rfl⟩ | ⟨b, cap, cur, rfl, _, hh, hnc, hcm, _⟩
  · exact ⟨none, 0, rfl, by omega, hl, fun h => absurd h (by omega)⟩
  · refine ⟨some ⟨b, 0, none⟩, cap, rfl, by unfold maxLen at hcm; omega, hl, fun _ => ⟨_, rfl, ?_, fun e => hne (by simp [Value.ownBlock] at e ⊢; exact e), h.cells rfl⟩⟩
    rcases Nat.lt_or_ge b w.heap.size with hlt | hge
    · exact hlt
    · rw [Array.getElem?_eq_none hge] at hh; cases hh

theorem flat_snoc {ls : List (List UInt8)} {k : Nat} {l : List UInt8} (h : ls[k]? = some l) : (ls.take (k + 1)).flatten = (ls.take k).flatten ++ l := by
  rw [List.take_add_one, h]; simp

theorem ag_more {w wr : World} {g n c : Nat} {A : Option Addr} {l : List UInt8} {s : Nat} (h : Ag w g wr) (hs : s < 65536) (hn : n ≤ 9223372036854775807) (hr : Reads wr g A n (bs l)) :
    Calls Try.prog 15 #[.pointer (some ⟨g, 0, none⟩), .int .i64 s, .slice A n c] wr fun e w' => e = .returned (.int .i64 (crc s l)) ∧ Ag w g w' ∧ wr.grownBy w' (some g) :=
  (more_any A n c g l s hs wr hn hr h.2.2).mono fun _ _ ⟨he, h1, hg⟩ => ⟨he, ⟨h.1, h.2.1.trans (below_of_only hg h.2.1.size h.1), .inr h1⟩, hg⟩
theorem ag_sumr {w wr : World} {g n c : Nat} {A : Option Addr} {l : List UInt8} (h : Ag w g wr) (hn : n ≤ 9223372036854775807) (hr : Reads wr g A n (bs l)) :
    Calls Try.prog 14 #[.pointer (some ⟨g, 0, none⟩), .slice A n c] wr fun e w' => e = .returned (.int .i64 (crc 0 l)) ∧ Ag w g w' ∧ wr.grownBy w' (some g) :=
  (sum_any A n c g l wr hn hr h.2.2).mono fun _ _ ⟨he, h1, hg⟩ => ⟨he, ⟨h.1, h.2.1.trans (below_of_only hg h.2.1.size h.1), .inr h1⟩, hg⟩

set_option maxRecDepth 100000 in
set_option maxHeartbeats 4000000 in
theorem parts_in (A : Option Addr) (n cap : Nat) (ls : List (List UInt8)) (w : World) (hn : n ≤ 60) (hr : Rows2 w w.heap.size A n ls) :
    Calls Try.prog 8 #[.slice A n cap] w (Says true w) := by
  obtain ⟨i0, hi0, hz0, hz1, hz2⟩ := info_parts u8_info
  have HI : Hid (Try.prog.info? 5 = some i0) := hi0
  have HZ0 := Lib.hid hz0
  have HZ1 := Lib.hid hz1
  have HZ2 := Lib.hid hz2
  clear hi0 hz0 hz1 hz2
  go_enter Try.func8, Try.ntmps8
  go_wp2_with (go_at_call 11; refine (anchor_any _).mono ?_; rintro e w1 ⟨rfl, hb1⟩)
  refine (new_any _).mono ?_
  rintro e w2 ⟨rfl, hx2, hb2⟩
  have hag : Ag w w1.heap.size w2 := ⟨hb1.size, hb1.trans (hb2.mono hb1.size), hx2⟩
  clear hx2 hb2
  generalize w1.heap.size = g at *
  go_wp2_with (fail)
  go_loopw [4, 5, 7, 16] (fun va s _ i wr => ∃ k : Nat, k ≤ n ∧ i = .int .i64 k ∧ s = .int .i64 (crc 0 (ls.take k).flatten) ∧ Ag w g wr ∧ wr.ownsRow w.heap.size 5 1 va (ls.take k).flatten.length (bs (ls.take k).flatten) ∧ (ls.take k).flatten.length ≤ 100 * k) (fun _ _ _ i _ => n - (intOf i).toNat)
  case atStart => exact ⟨0, by omega, rfl, rfl, hag, ⟨rfl, .inl ⟨rfl, rfl⟩⟩, by simp⟩
  case round =>
    obtain ⟨k, hk, rfl, rfl, ha, hown, hfl⟩ := hrel
    by_cases hkn : k < n
    · obtain ⟨ad, A', n', c', l, rfl, hlk, hlt, _, hc, hl, hnc, hcm, hrl⟩ := hr.2 k hkn
      have hcell : wr.cell? (ad.add k) = some (.slice A' n' c') := (ha.2.1.cell (by rw [block_of_add]; exact hlt)).trans hc
      have HF := Lib.hid (flat_snoc hlk)
      have HL := Lib.hid hl
      clear hlk hc hl
      by_cases h100 : n' ≤ 100
      · generalize (ls.take k).flatten = F at *
        have hlF := crc_lt 0 F (by omega)
        have hbb := ha.2.1
        have hgs := ha.1
        go_wp2_with (at_builtin; refine wpList_append_bytes _ rfl (.tmp 23) (.tmp 24) _ rfl w.heap.size 5 i0 _ 1 Try.underlying22 HI.out HZ0.out HZ1.out HZ2.out rfl _ F.length (bs F) rfl hown g A' n' c' (bs l) rfl (hrl.old hbb hgs) (bs_oneCell l) (by unfold maxLen; omega) (by omega) hbb.size ?_; intro v1 w3 hown1 hg3 hat)
        have ha3 : Ag w g w3 := ⟨hgs, hbb.grown hg3 hbb.size (fun k e => (hown.lt k e).1), ha.2.2.grown hg3 (fun e => own_ne hown ha.2.2 e.symm)⟩
        have hs1 : crc (crc 0 F) l = crc 0 (F ++ l) := (crc_append 0 F l).symm
        have HS1 := Lib.hid hs1
        clear hs1
        refine (ag_more ha3 hlF (by omega) (hrl.old ha3.2.1 hgs)).mono ?_
        rintro e w4 ⟨rfl, ha4, hg4⟩
        rw [HS1.out]
        have hlG := crc_lt 0 (F ++ l) (by omega)
        have hown4 := hown1.kept hg4 (.inr (own_ne hown1 ha3.2.2))
        go_wp2_with (fail)
        refine (ag_more (l := []) ha4 hlG (by omega) Reads.none_).mono ?_
        rintro e w5 ⟨rfl, ha5, hg5⟩
        rw [show crc (crc 0 (F ++ l)) [] = crc 0 (F ++ l) from rfl]
        have hown5 := hown4.kept hg5 (.inr (own_ne hown4 ha4.2.2))
        rw [← bs_append] at hown5
        go_wp2
        go_roundw
        case rel =>
          refine ⟨k + 1, by omega, by go_num, by rw [HF.out], ha5, ?_, ?_⟩
          · rw [HF.out]
            simpa [HL.out] using hown5
          · rw [HF.out, List.length_append, HL.out]; omega
        case measure => simp [intOf]; omega
      · go_wp2
        go_ret
        exact ⟨rfl, ha.2.1⟩
    · obtain rfl : k = n := by omega
      generalize (ls.take k).flatten = F at *
      obtain ⟨B, cB, rfl, hFm, hFr⟩ := own_reads hown (own_ne hown ha.2.2)
      have hlF := crc_lt 0 F (by omega)
      have hlF2 : (crc 0 F : Int) < 65536 := by omega
      go_wp2_with (fail)
      refine (ag_sumr ha hFm hFr).mono ?_
      rintro e w5 ⟨rfl, ha5, hg5⟩
      go_wp2
      go_ret
      exact ⟨rfl, ha5.2.1⟩

set_option maxRecDepth 100000 in
set_option maxHeartbeats 1000000 in
theorem parts_walk (A : Option Addr) (n cap : Nat) (ls : List (List UInt8)) (w : World) (hr : Rows2 w w.heap.size A n ls) :
    Calls Try.prog 8 #[.slice A n cap] w (Says true w) := by
  by_cases h : n ≤ 60
  · exact parts_in A n cap ls w h hr
  · go_enter Try.func8, Try.ntmps8
    go_wp2_with (go_at_call 11; refine (anchor_any _).mono ?_; rintro e w1 ⟨rfl, hb1⟩)
    go_ret
    exact ⟨rfl, hb1⟩

theorem parts_lifted (os : Os) (started : os.Started) (H : Type) (enc : TypeId × Value → H) :
    ReturnsInHanded {} Try.checked os 8 .any (Rows.slotPartsSpec.pre6 enc Try.prog Try.f8 Rows.slotPartsRow.domain false) (Rows.slotPartsSpec.post enc Try.prog Try.f8 false true false false) := by
  refine returnsInHanded_of_change (C := Try.checked) own started (by kernel_rfl) Try.func8
    (ChangeSpec.witness6 (enc := enc) (C := Try.checked) false ⟨#[], #[.slice none 0 0], []⟩ 8 (by kernel_rfl) (by kernel_rfl) (by kernel_rfl) (by kernel_rfl)) ?_
  intro W base args ds gs before hval0 hW _ _
  have hval : ∀ (j : Nat) t v, Try.f8.params[j]? = some t → args[j]? = some v → Value.okWide Try.prog W .any base t v := hval0
  have hW' := hW
  obtain ⟨p, q, hA0, hV, rfl, _, _⟩ := hW
  have hA : DataW.TrodAll enc Try.prog W 0 (fun _ => true) true Try.f8.params.toList args.toList ds p := hA0
  rw [Try.params8] at hA hval
  obtain ⟨v0, vs0, d0, ds0, p0, q0, hargs, rfl, rfl, h0, r0⟩ := trodAll_cons hA
  obtain ⟨rfl, rfl, rfl⟩ := trodAll_nil r0
  obtain rfl : args = #[v0] := by cases args; simp_all
  obtain ⟨rfl, rfl⟩ := trodVars_none hV
  obtain ⟨A0, n0, c0, ls0, rfl, hc0, hm0, hr0⟩ := open_byte_rows Try.underlying33 Try.underlying22 Try.underlying5 cells_bytes cells_u8 (hval 0 33 v0 rfl rfl) h0
  clear hA0
  have hk := parts_walk A0 n0 c0 ls0 W (hr0 _ (Nat.le_refl _))
  exact hk.mono fun e W' ⟨he, hb⟩ => ⟨_, he, law_post laid_ok (by kernel_rfl) rfl Try.underlying4 rfl hW' rfl hb⟩

theorem parts_holds : Rows.SlotPartsSaid :=
  OpenClaim.holds_of_wide 8 Try.f8 rfl rfl rfl rfl rfl rfl rfl ⟨rfl, rfl, rfl, rfl, rfl⟩ rfl rfl rfl rfl rfl (by kernel_rfl) Try.func8 (by kernel_rfl)
    (of_decide_eq_true (by kernel_rfl)) (by unfold Func.isWrapper; first | (rw [if_pos (by decide +kernel)]; kernel_rfl) | (rw [if_neg (by decide +kernel)]; exact ⟨rfl, rfl⟩))
    (fun os started H enc _ => parts_lifted os started H enc)

end Go.Proofs.Ytaaibjibnonlaaa
