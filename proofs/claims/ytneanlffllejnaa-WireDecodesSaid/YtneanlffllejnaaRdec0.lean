/-
  WHAT IS PROVED: contract of the document's Decode: the packet that the bytes are, or the first error. Condition: the bytes are there, at most a million.
-/
import Derived.Test.YtneanlffllejnaaDecode
import Derived.Test.YtneanlffllejnaaFrame
import Derived.Test.YtneanlffllejnaaWrite
import Derived.Test.YtneanlffllejnaaRmade
import Derived.Test.YtneanlffllejnaaRright
namespace Go.Proofs.Ytneanlffllejnaa
open Go.RowKit Go.Lib

theorem results_rp {fn : Func} {p u : Tmp} (h : fn.results = #[.cell p 30, .tmp u]) (tmps : Array Value) (w : World) (b : Nat) (x : Pk) (S : Value)
    (hp : tmps.getD p undef = .pointer (some ⟨b, 0, none⟩)) (hb : Blk w b 30 (pc x S)) : (results fn tmps).run Try.prog w = .ok (.tuple #[vP x S, tmps.getD u undef]) w := by
  rw [results_cell_tmp h, hp]
  simp [asAddr, run_loadVar_row w b 30 30 (pc x S) (0, 0) _ hb Try.underlying30 rfl rp_size, Result.andThen]
  rfl
section
variable {P : Program} (w : World)
theorem step_reps_own {ops : Array Oper} {o : Oper} {a : Act} {K : Act → World → Prop} {Q : Exit → Act → World → Prop} {E : Prop} (hgd : o.guard = none) (s x : Operand) (t : TypeId)
    (ho : o.op = .call { callee := .builtin .append, args := #[s, x], argTypes := #[t, t] })
    (base : Nat) (e : TypeId) (i : TypeInfo) (z : Value) (ht : P.underlying t = some (.slice e)) (hi : P.info? e = some i) (hz : i.zero = some z)
    (hsize : i.size = 2) (hby : i.bytes = 16) (hzs : z.cells.size = 2)
    (v : Value) (n : Nat) (xs : List En) (hs : a.eval s = v) (hown : w.ownsRow base e 2 v n (flatR xs))
    (A : Option Addr) (m c : Nat) (news : List En) (hx : a.eval x = .slice A m c) (hr : EsAt w A m news)
    (h63 : n + m ≤ 1000000) (hbase : base ≤ w.heap.size)
    (h : ∀ v' w', w'.ownsRow base e 2 v' (n + m) (flatR (xs ++ news)) → w.grownBy w' v.ownBlock → (v'.ownBlock = v.ownBlock ∨ v'.ownBlock = some w.heap.size) → K (a.put o.dst v') w') :
    if Region.wanted o (yielded ops a.tmps) = true then Oper.wp P o a w K Q else E := by
  have hw : Region.wanted o (yielded ops a.tmps) = true := by simp [Region.wanted, hgd]
  rw [if_pos hw]
  obtain ⟨v', w', hrun, h2, h3, h4⟩ := run_append_reps (P := P) w base t o.type e i z ht hi hz hsize hby hzs v n xs hown A m c news hr h63 hbase
  unfold Oper.wp execOp
  simp only [ho, resolve, invoke, builtin, Sem.run_bind, Sem.run_pure, Result.andThen_ok, List.map_toArray, List.map_cons, List.map_nil, hs, hx, hrun]
  exact h v' w' h2 h3 h4
end
theorem dec_nums {l : List UInt8} (h : okP (pkt l) = true) : ∀ k, k < 9 → k ≠ 4 → k ≠ 8 → numAt l (4 + 8 * k) < 9223372036854775808 := by
  obtain ⟨_, g1, g2, g3, g4, g5, g6, g7, _, _⟩ := ok_parts h
  intro k hk h4 h8
  match k, hk with
  | 0, _ => exact (toI_pos (show 0 ≤ toI (numAt l 4) from Int.le_trans (by omega) g1.1) (numAt_lt l 4)).1
  | 1, _ => exact (toI_pos (show 0 ≤ toI (numAt l 12) from g2.1) (numAt_lt l 12)).1
  | 2, _ => exact (toI_pos (show 0 ≤ toI (numAt l 20) from g3.1) (numAt_lt l 20)).1
  | 3, _ => exact (toI_pos (show 0 ≤ toI (numAt l 28) from g4.1) (numAt_lt l 28)).1
  | 4, _ => exact absurd rfl h4
  | 5, _ => exact (toI_pos (show 0 ≤ toI (numAt l 44) from g5.1) (numAt_lt l 44)).1
  | 6, _ => exact (toI_pos (show 0 ≤ toI (numAt l 52) from g6.1) (numAt_lt l 52)).1
  | 7, _ => exact (toI_pos (show 0 ≤ toI (numAt l 60) from g7.1) (numAt_lt l 60)).1
  | 8, _ => exact absurd rfl h8
theorem dec_ten {l : List UInt8} (h : chk l = 0) (hk : okP (pkt l) = false) : dec l = (zeroP, 10) := by
  unfold dec; rw [if_neg (by rw [h]; simp), hk]; rfl

set_option maxRecDepth 100000 in
set_option maxHeartbeats 2000000 in
theorem rdec_bad (A : Option Addr) (n cap : Nat) (l : List UInt8) (w : World) (hl : l.length = n) (hc : n ≤ cap) (hcm : cap ≤ 9223372036854775807) (hn : n ≤ 1000000) (hr : Reads w w.heap.size A n (bs l)) (h : chk l ≠ 0) :
    Calls Try.prog 19 #[.slice A n cap] w fun e w' => ∃ v, e = .returned (.tuple #[vP (dec l).1 v, .int .i64 (dec l).2]) ∧ w'.ownsRow w.heap.size 49 2 v (dec l).1.sec.length (flatR (dec l).1.sec) ∧ Below w.heap.size w w' := by
  have bk0 := Blk.new w 30 zcP
  have hB0 : Below w.heap.size w (w.alloc (.cells zcP 30)) := (Below.refl _ _).alloc (Nat.le_refl _) _
  have HL := Lib.hid hl
  clear hl
  go_enter Try.func19, Try.ntmps19
  go_wp2_with (fail)
  refine (frame_any A n cap l _ HL.out hc hcm hn (hr.old hB0 (by simp))).mono ?_
  rintro e w1 ⟨rfl, hb1⟩
  have BK1 := Lib.hid (bk0.below hb1 bk0.lt)
  have HB1 := Lib.hid (hB0.trans (hb1.mono hB0.size))
  have HX : Hid (dec l = (zeroP, chk l)) := by show _ = _; exact if_pos h
  obtain ⟨k, hk⟩ : ∃ k, chk l = k := ⟨_, rfl⟩
  rw [hk] at h HX ⊢
  have hne : (k != 0) = true := by simpa using h
  clear h bk0 hB0 hb1 hr hk
  obtain ⟨k0, k1, k2, k3, k4, k5, k6, k7, k8, k9, k10⟩ := pk_cells BK1.out
  obtain ⟨f0, f1, f2, f3, f4, f5, f6, f7, f8, f9, f10⟩ := fz_all BK1.out
  go_wp2
  refine bodyPost_ret (results_rp (p := 2) (u := 3) rfl _ _ w.heap.size zeroP (.slice none 0 0) rfl (pk_store BK1.out _ _ _ _ _ _ _ _ _ _ _)) rfl ⟨.slice none 0 0, by rw [HX.out]; rfl, ?_, below_store HB1.out (Nat.le_refl _) _ _ _ _ _ _ _ _ _ _ _⟩
  rw [HX.out]
  exact World.ownsRow_nil _ _ _ _

end Go.Proofs.Ytneanlffllejnaa
