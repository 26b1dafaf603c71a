/-
  WHAT IS PROVED: contract of the numbers of a right packet; one of them picked. Condition: the packet is right, its sets fit.
-/
import Derived.Test.YtneanlffllejnaaRt
import Derived.Laws.ResultCell
import Derived.Laws.Rows
namespace Go.Proofs.Ytneanlffllejnaa
open Go.RowKit Go.Lib

/-- the numbers, as an array's value -/
def nv (p : Pk) : Array Value := #[.int .u64 (p.frm.toNat : Int), .int .u64 (p.ep.toNat : Int), .int .u64 (p.cf.toNat : Int), .int .u64 (p.ma.toNat : Int), .int .u64 (p.sl.toNat : Int), .int .u64 (p.off.toNat : Int), .int .u64 (p.ab.toNat : Int), .int .u64 (p.ac.toNat : Int), .int .u64 (p.as_.toNat : Int)]
theorem wrap_nat {x : Int} (h0 : 0 ≤ x) (h1 : x ≤ 18446744073709551615) : IntKind.u64.wrap x = (x.toNat : Int) := by rw [IntKind.wrap_u64]; omega
theorem nums_size : (Try.prog.info? 51).map (·.size) = some 9 := by kernel_rfl
theorem nv_at (p : Pk) {k : Nat} (hk : k < 9) : ∃ n, (nums p)[k]? = some n ∧ (nv p)[k]? = some (.int .u64 (n : Int)) := by
  match k, hk with
  | 0, _ => exact ⟨_, rfl, rfl⟩
  | 1, _ => exact ⟨_, rfl, rfl⟩
  | 2, _ => exact ⟨_, rfl, rfl⟩
  | 3, _ => exact ⟨_, rfl, rfl⟩
  | 4, _ => exact ⟨_, rfl, rfl⟩
  | 5, _ => exact ⟨_, rfl, rfl⟩
  | 6, _ => exact ⟨_, rfl, rfl⟩
  | 7, _ => exact ⟨_, rfl, rfl⟩
  | 8, _ => exact ⟨_, rfl, rfl⟩
theorem nv_size (p : Pk) : (nv p).size = 9 := rfl
theorem index_nums (p : Pk) {k n : Nat} (hk : k < 9) (hn : (nv p)[k]? = some (.int .u64 (n : Int))) (w : World) : (Instr.index 51 (.agg (nv p)) (.int .i64 (k : Int))).run Try.prog w = .ok (.int .u64 (n : Int)) w := by
  have h1 : (0 : Int) ≤ k := by omega
  simp [Instr.index, asIntOf, run_underlying Try.underlying51, h1, hk, part, Try.isAgg22, Try.sizeOf22, hn]
theorem u64_small {n : Nat} (h : n < 18446744073709551616) : (n : Int).toNat = n := by omega

set_option maxRecDepth 100000 in
set_option maxHeartbeats 1000000 in
theorem numbers_any (p : Pk) (S : Value) (w : World) (hok : okP p = true) (hs : p.sets) : Calls Try.prog 20 #[vP p S] w fun e w' => e = .returned (.agg (nv p)) ∧ Below w.heap.size w w' := by
  obtain ⟨_, hf, he, hc, hm, ho, ha, hac, _, _⟩ := ok_parts hok
  obtain ⟨⟨s0, s1⟩, ⟨s2, s3⟩⟩ := hs
  obtain ⟨kind, frm, ep, cf, ma, sl, off, ab, ac, as_, sec⟩ := p
  dsimp only at hf he hc hm ho ha hac s0 s1 s2 s3
  have HX : Hid ((#[.int .u64 (IntKind.u64.wrap frm), .int .u64 (IntKind.u64.wrap ep), .int .u64 (IntKind.u64.wrap cf), .int .u64 (IntKind.u64.wrap ma), .int .u64 sl, .int .u64 (IntKind.u64.wrap off), .int .u64 (IntKind.u64.wrap ab), .int .u64 (IntKind.u64.wrap ac), .int .u64 as_] : Array Value) = nv ⟨kind, frm, ep, cf, ma, sl, off, ab, ac, as_, sec⟩) := by
    show _ = _
    rw [wrap_nat (by omega) (by omega), wrap_nat (by omega) (by omega), wrap_nat (by omega) (by omega), wrap_nat (by omega) (by omega), wrap_nat (by omega) (by omega), wrap_nat (by omega) (by omega), wrap_nat (by omega) (by omega)]
    unfold nv
    simp only
    rw [Int.toNat_of_nonneg s0, Int.toNat_of_nonneg s2]
  clear hf he hc hm ho ha hac s0 s1 s2 s3 hok
  simp only [vP]
  go_enter Try.func20, Try.ntmps20
  go_wp2
  have := Blk.new (w.alloc (.cells #[.int .i64 kind, .int .i64 frm, .int .i64 ep, .int .i64 cf, .int .i64 ma, .int .u64 sl, .int .i64 off, .int .i64 ab, .int .i64 ac, .int .u64 as_, S] 26)) 51 #[.int .u64 (IntKind.u64.wrap frm), .int .u64 (IntKind.u64.wrap ep), .int .u64 (IntKind.u64.wrap cf), .int .u64 (IntKind.u64.wrap ma), .int .u64 sl, .int .u64 (IntKind.u64.wrap off), .int .u64 (IntKind.u64.wrap ab), .int .u64 (IntKind.u64.wrap ac), .int .u64 as_]
  rw [World.size_alloc] at this
  have hk := this
  rw [HX.out] at hk
  exact bodyPost_ret (results_cell_row rfl _ _ (w.heap.size + 1) 51 (nv ⟨kind, frm, ep, cf, ma, sl, off, ab, ac, as_, sec⟩) (0, 0) _ rfl (by rw [HX.out]; exact hk) Try.underlying51 rfl (by rw [nv_size]; exact nums_size)) rfl ⟨rfl, ((Below.refl _ _).alloc (Nat.le_refl _) _).alloc (by simp) _⟩
end Go.Proofs.Ytneanlffllejnaa
