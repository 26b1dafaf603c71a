/-
  WHAT IS PROVED: append as one step of a region that draws its order, at a source that may be nil; the contract of the function that turns a list round (the closure of QuorumOrder). Conditions: the sizes.
-/
import Derived.Test.YtacljdpmcndhdaaArg
import Derived.Test.YtacljdpmcndhdaaAppend
import Derived.Deep.RegionHeld3
import Derived.Deep.RegionLaw
namespace Go.Proofs.Ytacljdpmcndhdaa
open Go.RowKit Go.Lib

section
variable {P : Program} (w : World)
theorem step_append_cells {ops : Array Oper} {o : Oper} {a : Act} {K : Act → World → Prop} {Q : Exit → Act → World → Prop} {E : Prop} (hgd : o.guard = none) (s x : Operand) (t : TypeId)
    (ho : o.op = .call { callee := .builtin .append, args := #[s, x], argTypes := #[t, t] })
    (base : Nat) (e : TypeId) (i : TypeInfo) (z : Value) (bytes : Nat) (ht : P.underlying t = some (.slice e)) (hi : P.info? e = some i) (hz : i.zero = some z)
    (hsize : i.size = 1) (hby : i.bytes = bytes) (hzs : z.cells.size = 1)
    (v : Value) (n : Nat) (xs : List Value) (hs : a.eval s = v) (hown : w.ownsRow base e 1 v n xs)
    (g : Nat) (A : Option Addr) (m c : Nat) (news : List Value) (hx : a.eval x = .slice A m c) (hr : Reads w g A m news) (h1 : ∀ u ∈ news, u.oneCell' = true)
    (h63 : n + m ≤ maxLen) (hbytes : (n + m) * bytes ≤ 140737488355328) (hbase : base ≤ w.heap.size)
    (h : ∀ v' w', w'.ownsRow base e 1 v' (n + m) (xs ++ news) → w.grownBy w' v.ownBlock → (v'.ownBlock = v.ownBlock ∨ v'.ownBlock = some w.heap.size) → K (a.put o.dst v') w') :
    if Region.wanted o (yielded ops a.tmps) = true then Oper.wp P o a w K Q else E := by
  have hw : Region.wanted o (yielded ops a.tmps) = true := by simp [Region.wanted, hgd]
  rw [if_pos hw]
  obtain ⟨v', w', hrun, h2, h3, h4⟩ := run_append_cells (P := P) w base t o.type e i z bytes ht hi hz hsize hby hzs v n xs hown g A m c news hr h1 h63 hbytes hbase
  unfold Oper.wp execOp
  simp only [ho, resolve, invoke, builtin, Sem.run_bind, Sem.run_pure, Result.andThen_ok, List.map_toArray, List.map_cons, List.map_nil, hs, hx, hrun]
  exact h v' w' h2 h3 h4
end

def turnL (l : List Int) (a : Nat) : List Int := l.drop (a % (l.length + 1)) ++ l.take (a % (l.length + 1))

set_option maxRecDepth 100000 in
set_option maxHeartbeats 2000000 in
theorem turn_any (A : Option Addr) (n c p a : Nat) (zs : List Int) (w : World) (hnc : n ≤ c) (hc : c ≤ 9223372036854775807) (hn : n ≤ 60) (ha : a ≤ 9223372036854775807) (hcell : w.cell? ⟨p, 0, none⟩ = some (.int .i64 (a : Int))) (hr : ∀ g, w.heap.size ≤ g → Reads w g A n (zints zs)) :
    Calls Try.prog 22 #[.slice A n c, .pointer (some ⟨p, 0, none⟩)] w (Lists (turnL zs a) w) := by
  have hl := zlen (hr _ (Nat.le_refl _))
  obtain ⟨k, hk, hrem, HT⟩ : ∃ k : Nat, k ≤ n ∧ (a : Int) % ((n : Int) + 1) = (k : Int) ∧ Hid (turnL zs a = zs.drop k ++ zs.take k) :=
    ⟨a % (n + 1), by have := Nat.mod_lt a (show 0 < n + 1 by omega); omega, by rw [show ((n : Int) + 1) = ((n + 1 : Nat) : Int) by omega, ← Int.natCast_emod], Lib.hid (by unfold turnL; rw [hl])⟩
  obtain ⟨i0, hi0, hz0, hz1, hz2⟩ := info_parts int_info
  have HI0 : Hid (Try.prog.info? 3 = some i0) := hi0
  have HZ0 := Lib.hid hz0
  have HZ1 := Lib.hid hz1
  have HZ2 := Lib.hid hz2
  have HR := Lib.hid hr
  clear hi0 hz0 hz1 hz2 hl hr
  have k0 : (0 : Int) ≤ (k : Int) := by omega
  have k1 : (k : Int) ≤ (n : Int) := by omega
  have k2 : (n : Int) ≤ (c : Int) := by omega
  have k3 : (k : Int) ≤ (c : Int) := by omega
  have HW1 : Below w.heap.size w (w.drew.alloc (.cells #[] 3)) := (below_drewN (Below.refl _ _) 1).alloc (Nat.le_refl _) _
  have HBB : Hid (∀ w', (w.drew.alloc (.cells #[] 3)).grownBy w' (some w.heap.size) → Below w.heap.size w w') := fun w' hg => HW1.grown hg HW1.size (fun j e => by injection e with e; omega)
  have HRD : Hid (∀ w', Below w.heap.size w w' → Reads w' w'.heap.size A k (zints (zs.take k))) := fun w' hb => by rw [zints_take]; exact ((HR.out _ (Nat.le_refl _)).old hb hb.size).take hk
  have HRC := Lib.hid (((HR.out _ (Nat.le_refl _)).old HW1 HW1.size).cut hk hnc)
  rw [← zints_drop] at HRC
  by_cases hck : c = k
  · have HRA := HRC
    rw [if_pos hck] at HRA
    obtain rfl : n = k := by omega
    obtain rfl : c = n := hck
    rw [Nat.sub_self] at HRA
    clear HRC
    go_enter Try.func22, Try.ntmps22
    go_wp2
    go_region_held3 (fun _ => True) (first | exact trivial) (first | ((refine step_append_cells _ (by rfl) (.tmp 10) (.tmp 13) 25 (by rfl) w.heap.size 3 i0 _ 8 Try.underlying25 HI0.out HZ0.out HZ1.out HZ2.out (by rfl) _ 0 [] (by rfl) (World.ownsRow_made w.drew #[] 0 (Nat.le_refl _) (Nat.zero_le _) rfl) _ A 0 0 (zints (zs.drop c)) (by rfl) HRA.out (zints_oneCell _) (by unfold maxLen; omega) (by omega) (by simp) ?_; intro v4 w4 hown4 hg4 _; simp only [Nat.add_zero, List.nil_append] at hown4; have HO4 := Lib.hid hown4; have HB4 := HBB.out w4 hg4; clear hown4 hg4)) | ((refine step_append_cells _ (by rfl) (.tmp 14) (.tmp 17) 25 (by rfl) w.heap.size 3 i0 _ 8 Try.underlying25 HI0.out HZ0.out HZ1.out HZ2.out (by rfl) _ 0 _ (by rfl) HO4.out _ A c c (zints (zs.take c)) (by rfl) (HRD.out w4 HB4) (zints_oneCell _) (by unfold maxLen; omega) (by omega) HB4.size ?_; intro v5 w5 hown5 hg5 _; rw [Nat.zero_add] at hown5; have HO5 := Lib.hid hown5; have HB5 : Below w.heap.size w w5 := HB4.grown hg5 HB4.size (fun j e => (HO4.out.lt j e).1); clear hown5 hg5)))
    have hown5 := HO5.out
    rw [← zints_append, ← HT.out] at hown5
    obtain ⟨A5, c5, rfl, hc5, hc5m⟩ := own_slice hown5
    have hl5 : (turnL zs a).length = c := by have := hown5.1; rw [zints_len] at this; omega
    have HR5 := own_read hown5
    clear hown5 HO5 HO4
    go_wp2
    go_ret
    exact ⟨HB5, A5, c5, by rw [hl5]; rfl, by omega, hc5m, by rw [hl5]; exact HR5⟩
  · have HRA := HRC
    rw [if_neg hck] at HRA
    clear HRC
    go_enter Try.func22, Try.ntmps22
    go_wp2
    go_region_held3 (fun _ => True) (first | exact trivial) (first | ((refine step_append_cells _ (by rfl) (.tmp 10) (.tmp 13) 25 (by rfl) w.heap.size 3 i0 _ 8 Try.underlying25 HI0.out HZ0.out HZ1.out HZ2.out (by rfl) _ 0 [] (by rfl) (World.ownsRow_made w.drew #[] 0 (Nat.le_refl _) (Nat.zero_le _) rfl) _ (A.map fun x => x.add k) (n - k) (c - k) (zints (zs.drop k)) (by rfl) HRA.out (zints_oneCell _) (by unfold maxLen; omega) (by omega) (by simp) ?_; intro v4 w4 hown4 hg4 _; simp only [Nat.zero_add, List.nil_append] at hown4; have HO4 := Lib.hid hown4; have HB4 := HBB.out w4 hg4; clear hown4 hg4)) | ((refine step_append_cells _ (by rfl) (.tmp 14) (.tmp 17) 25 (by rfl) w.heap.size 3 i0 _ 8 Try.underlying25 HI0.out HZ0.out HZ1.out HZ2.out (by rfl) _ (n - k) _ (by rfl) HO4.out _ A k c (zints (zs.take k)) (by rfl) (HRD.out w4 HB4) (zints_oneCell _) (by unfold maxLen; omega) (by omega) HB4.size ?_; intro v5 w5 hown5 hg5 _; have HO5 := Lib.hid hown5; have HB5 : Below w.heap.size w w5 := HB4.grown hg5 HB4.size (fun j e => (HO4.out.lt j e).1); clear hown5 hg5)))
    have hown5 := HO5.out
    rw [← zints_append, ← HT.out] at hown5
    obtain ⟨A5, c5, rfl, hc5, hc5m⟩ := own_slice hown5
    have hl5 : (turnL zs a).length = n - k + k := by have := hown5.1; rw [zints_len] at this; omega
    have HR5 := own_read hown5
    clear hown5 HO5 HO4
    go_wp2
    go_ret
    exact ⟨HB5, A5, c5, by rw [hl5]; rfl, by omega, hc5m, by rw [hl5]; exact HR5⟩
end Go.Proofs.Ytacljdpmcndhdaa
