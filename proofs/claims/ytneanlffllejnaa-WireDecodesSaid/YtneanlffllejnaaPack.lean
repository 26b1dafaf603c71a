/-
  WHAT IS PROVED: contract of the packet that has given numbers; a packet handed back from a cell; a packet's cells written anew. No condition.
-/
import Derived.Test.YtneanlffllejnaaNums
import Derived.Test.YtneanlffllejnaaWsec
namespace Go.Proofs.Ytneanlffllejnaa
open Go.RowKit Go.Lib

theorem pk_size : (Try.prog.info? 26).map (·.size) = some 11 := by kernel_rfl
/-- a packet's cells -/
def pc (p : Pk) (S : Value) : Array Value := #[.int .i64 p.kind, .int .i64 p.frm, .int .i64 p.ep, .int .i64 p.cf, .int .i64 p.ma, .int .u64 p.sl, .int .i64 p.off, .int .i64 p.ab, .int .i64 p.ac, .int .u64 p.as_, S]
theorem results_pk {fn : Func} {p u : Tmp} (h : fn.results = #[.cell p 26, .tmp u]) (tmps : Array Value) (w : World) (b : Nat) (x : Pk) (S : Value)
    (hp : tmps.getD p undef = .pointer (some ⟨b, 0, none⟩)) (hb : Blk w b 26 (pc x S)) : (results fn tmps).run Try.prog w = .ok (.tuple #[vP x S, tmps.getD u undef]) w := by
  rw [results_cell_tmp h, hp]
  simp [asAddr, run_loadVar_row w b 26 26 (pc x S) (0, 0) _ hb Try.underlying26 rfl pk_size, Result.andThen]
  rfl
theorem pk_store {w : World} {b : Nat} {t : TypeId} {z0 z1 z2 z3 z4 z5 z6 z7 z8 z9 z10 : Value} (h : Blk w b t #[z0, z1, z2, z3, z4, z5, z6, z7, z8, z9, z10]) (v0 v1 v2 v3 v4 v5 v6 v7 v8 v9 v10 : Value) :
    Blk (((((((((((w.setCell ⟨b, 0, none⟩ v0).setCell ⟨b, 1, none⟩ v1).setCell ⟨b, 2, none⟩ v2).setCell ⟨b, 3, none⟩ v3).setCell ⟨b, 4, none⟩ v4).setCell ⟨b, 5, none⟩ v5).setCell ⟨b, 6, none⟩ v6).setCell ⟨b, 7, none⟩ v7).setCell ⟨b, 8, none⟩ v8).setCell ⟨b, 9, none⟩ v9).setCell ⟨b, 10, none⟩ v10) b t #[v0, v1, v2, v3, v4, v5, v6, v7, v8, v9, v10] := by
  have h2 := ((((((((((h.set_ 0 v0).set_ 1 v1).set_ 2 v2).set_ 3 v3).set_ 4 v4).set_ 5 v5).set_ 6 v6).set_ 7 v7).set_ 8 v8).set_ 9 v9).set_ 10 v10
  simpa only [List.setIfInBounds_toArray, List.set_cons_zero, List.set_cons_succ] using h2
theorem below_store {B : Nat} {a w : World} {b : Nat} (h : Below B a w) (hb : B ≤ b) (v0 v1 v2 v3 v4 v5 v6 v7 v8 v9 v10 : Value) :
    Below B a (((((((((((w.setCell ⟨b, 0, none⟩ v0).setCell ⟨b, 1, none⟩ v1).setCell ⟨b, 2, none⟩ v2).setCell ⟨b, 3, none⟩ v3).setCell ⟨b, 4, none⟩ v4).setCell ⟨b, 5, none⟩ v5).setCell ⟨b, 6, none⟩ v6).setCell ⟨b, 7, none⟩ v7).setCell ⟨b, 8, none⟩ v8).setCell ⟨b, 9, none⟩ v9).setCell ⟨b, 10, none⟩ v10) :=
  ((((((((((h.setCell hb v0).setCell hb v1).setCell hb v2).setCell hb v3).setCell hb v4).setCell hb v5).setCell hb v6).setCell hb v7).setCell hb v8).setCell hb v9).setCell hb v10

set_option maxRecDepth 100000 in
set_option maxHeartbeats 1000000 in
theorem packet_any (n0 n1 n2 n3 n4 n5 n6 n7 n8 : Nat) (kind : Int) (w : World) (h0 : n0 < 18446744073709551616) (h1 : n1 < 18446744073709551616) (h2 : n2 < 18446744073709551616) (h3 : n3 < 18446744073709551616) (h5 : n5 < 18446744073709551616) (h6 : n6 < 18446744073709551616) (h7 : n7 < 18446744073709551616) :
    Calls Try.prog 34 #[.agg #[.int .u64 (n0 : Int), .int .u64 (n1 : Int), .int .u64 (n2 : Int), .int .u64 (n3 : Int), .int .u64 (n4 : Int), .int .u64 (n5 : Int), .int .u64 (n6 : Int), .int .u64 (n7 : Int), .int .u64 (n8 : Int)], .int .i64 kind] w fun e w' =>
      e = .returned (vP ⟨kind, toI n0, toI n1, toI n2, toI n3, n4, toI n5, toI n6, toI n7, n8, []⟩ (.slice none 0 0)) ∧ Below w.heap.size w w' := by
  have e0 := toI_wrap h0
  have e1 := toI_wrap h1
  have e2 := toI_wrap h2
  have e3 := toI_wrap h3
  have e5 := toI_wrap h5
  have e6 := toI_wrap h6
  have e7 := toI_wrap h7
  clear h0 h1 h2 h3 h5 h6 h7
  go_enter Try.func34, Try.ntmps34
  go_wp2
  have hk := Blk.new (w.alloc (.cells #[.int .u64 (n0 : Int), .int .u64 (n1 : Int), .int .u64 (n2 : Int), .int .u64 (n3 : Int), .int .u64 (n4 : Int), .int .u64 (n5 : Int), .int .u64 (n6 : Int), .int .u64 (n7 : Int), .int .u64 (n8 : Int)] 51)) 26 (pc ⟨kind, toI n0, toI n1, toI n2, toI n3, n4, toI n5, toI n6, toI n7, n8, []⟩ (.slice none 0 0))
  rw [World.size_alloc] at hk
  exact bodyPost_ret (results_cell_row rfl _ _ (w.heap.size + 1) 26 _ (0, 0) _ rfl hk Try.underlying26 rfl pk_size) rfl ⟨rfl, ((Below.refl _ _).alloc (Nat.le_refl _) _).alloc (by simp) _⟩
end Go.Proofs.Ytneanlffllejnaa
