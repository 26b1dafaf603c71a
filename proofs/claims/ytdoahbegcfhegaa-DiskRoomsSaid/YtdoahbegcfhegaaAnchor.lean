/-
  WHAT IS PROVED: the document's example holds. No condition.
-/
import Derived.Test.YtdoahbegcfhegaaSync
import Derived.Test.YtdoahbegcfhegaaRename
import Derived.Test.YtdoahbegcfhegaaRead
import Derived.Test.YtdoahbegcfhegaaCrash
import Derived.Test.YtdoahbegcfhegaaBack
import Derived.Lib.SlBytesConst
namespace Go.Proofs.Ytdoahbegcfhegaa
open Go.RowKit Go.Lib

theorem Dk.fd {w : World} {d g : Nat} {S : Ds} (h : Dk w d g S) : ∀ i, FD d g i → i < w.heap.size := fun i hi => by
  rcases hi with e | e
  · rw [e]; exact h.lt.1
  · rw [e]; exact h.lt.2
theorem rd_lit {w : World} {d g : Nat} {S : Ds} (h : Dk w d g S) (l : List UInt8) (t : TypeId) (m : Nat × Nat) : Rd (w.alloc (.cells (bs l).toArray t m)) (FD d g) 1 (some ⟨w.heap.size, 0, none⟩) l.length (bs l) :=
  ⟨by rw [bs_len]; omega, fun _ => ⟨_, rfl, by simp, fun f => by have := h.fd _ f; simp at this, fun j u hu => by
    rw [Go.WideShapes.add_plain, Nat.zero_add, cell_of_row _ w.heap.size j (bs l).toArray t m (heap_alloc_new w _)]
    simpa using hu⟩⟩
theorem rd_ints {w : World} {d g : Nat} {S : Ds} (h : Dk w d g S) (l : List Int) (t : TypeId) : Rd (w.alloc (.cells (zs l).toArray t)) (FD d g) 1 (some ⟨w.heap.size, 0, none⟩) l.length (zs l) := by
  have := Rd.new w (FD d g) h.fd 1 l.length (zs l).toArray t (by simp [zs_len])
  simpa using this
theorem turn_new (w : World) (d g : Nat) (o : Obj) : Turn w (w.alloc o) (FD d g) := Turn.of_below ((Below.refl _ w).alloc (Nat.le_refl _) o) _
theorem Dk.alloc {w : World} {d g : Nat} {S : Ds} (h : Dk w d g S) (o : Obj) : Dk (w.alloc o) d g S := h.below ((Below.refl _ w).alloc (Nat.le_refl _) o)
abbrev nNew : List UInt8 := [110, 101, 119]
abbrev nConf : List UInt8 := [99, 111, 110, 102]
abbrev F1 : Ds := ⟨[⟨nNew, [97, 98, 99], false⟩], 100, -1, false⟩
abbrev F2 : Ds := ⟨[⟨nNew, [97, 98, 99], true⟩], 100, -1, false⟩
abbrev F3 : Ds := ⟨[⟨nConf, [97, 98, 99], true⟩], 100, -1, false⟩
abbrev F4 : Ds := ⟨[⟨nConf, [120, 121, 122], false⟩], 100, -1, false⟩
abbrev F5 : Ds := ⟨[⟨nConf, [120], true⟩], 100, -1, false⟩
theorem a1 : writeD ⟨[], 100, -1, false⟩ nNew [97, 98, 99] = (0, F1) := by kernel_rfl
theorem a2 : (getF F1.fs nNew).safe = false := by kernel_rfl
theorem a3 : syncD F1 nNew = (0, F2) := by kernel_rfl
theorem a4 : renameD F2 nNew nConf = (0, F3) := by kernel_rfl
theorem a5 : (getF F3.fs nConf).safe = true := by kernel_rfl
theorem a6 : writeD F3 nConf [120, 121, 122] = (0, F4) := by kernel_rfl
theorem a7 : crashG [nConf] [1] F4.fs = F5.fs := by kernel_rfl
theorem a8 : readE F5 nConf = 0 := by kernel_rfl
theorem a9 : readB F5 nConf = [120] := by kernel_rfl
theorem a10 : (getF F5.fs nConf).safe = true := by kernel_rfl

set_option maxRecDepth 100000 in
set_option maxHeartbeats 4000000 in
theorem anchor_any (w : World) : Calls Try.prog 7 #[] w (Says true w) := by
  have hcb := fun (w : World) (C : Array Value) (n c : Nat) => Lib.run_convert_bytes_const (P := Try.prog) w 22 5 C n c Try.underlying22 Try.underlying5
  go_enter Try.func7, Try.ntmps7
  go_wp2_with (fail)
  refine (new_ok 100 w (by omega) (by omega)).mono ?_
  rintro e w1 ⟨d, g, rfl, hk1, hd, hg, hb1⟩
  have HB1 := Lib.hid hb1
  have HK1 := Lib.hid hk1
  have hs1 := hb1.size
  clear hk1 hb1
  go_wp2_with (fail)
  have hr1 := rd_lit HK1.out [97, 98, 99] 5 (3, 4)
  refine (write_any d g _ nNew _ 3 3 [97, 98, 99] _ (HK1.out.alloc _) (by decide) (by decide) hr1 (by decide)).mono ?_
  rw [a1]
  rintro e w2 ⟨rfl, hk2, ht2⟩
  dsimp only at hk2 ⊢
  have HK2 := Lib.hid hk2
  have HT2 := Lib.hid ((turn_new w1 d g _).fd ht2)
  clear hk2 ht2 hr1 HK1
  go_wp2_with (fail)
  refine (safe_any d g _ nNew _ HK2.out (by decide)).mono ?_
  rw [a2]
  rintro e w' ⟨rfl, rfl⟩
  go_wp2_with (fail)
  refine (sync_any d g _ nNew _ HK2.out (by decide) (by decide)).mono ?_
  rw [a3]
  rintro e w3 ⟨rfl, hk3, ht3⟩
  dsimp only at hk3 ⊢
  have HK3 := Lib.hid hk3
  have HT3 := Lib.hid (HT2.out.fd ht3)
  clear hk3 ht3
  go_wp2_with (fail)
  refine (rename_any d g _ nNew nConf _ HK3.out (by decide) (by decide) (by decide)).mono ?_
  rw [a4]
  rintro e w4 ⟨rfl, hk4, ht4⟩
  dsimp only at hk4 ⊢
  have HK4 := Lib.hid hk4
  have HT4 := Lib.hid (HT3.out.fd ht4)
  clear hk4 ht4
  go_wp2_with (fail)
  refine (safe_any d g _ nConf _ HK4.out (by decide)).mono ?_
  rw [a5]
  rintro e w' ⟨rfl, rfl⟩
  go_wp2_with (fail)
  have hr4 := rd_lit HK4.out [120, 121, 122] 5 (3, 4)
  refine (write_any d g _ nConf _ 3 3 [120, 121, 122] _ (HK4.out.alloc _) (by decide) (by decide) hr4 (by decide)).mono ?_
  rw [a6]
  rintro e w5 ⟨rfl, hk5, ht5⟩
  dsimp only at hk5 ⊢
  have HK5 := Lib.hid hk5
  have HT5 := Lib.hid (HT4.out.fd ((turn_new _ d g _).fd ht5))
  clear hk5 ht5 hr4
  go_wp2_with (fail)
  have hr5 := rd_ints HK5.out [1] 3
  refine (crash_any d g _ _ 1 1 [1] _ (HK5.out.alloc _) (by decide) hr5 (by decide) (by decide)).mono ?_
  rintro e w6 ⟨ns, rfl, hp, hk6, ht6⟩
  obtain rfl : ns = [nConf] := List.perm_singleton.1 hp
  rw [a7] at hk6
  have HK6 : Hid (Dk w6 d g F5) := hk6
  have HT6 := Lib.hid (HT5.out.fd ((turn_new _ d g _).fd ht6))
  clear hk6 ht6 hr5 hp
  go_wp2_with (fail)
  refine (read_any d g _ nConf _ HK6.out (by decide)).mono ?_
  rw [a8, a9]
  rintro e w7 ⟨A, n, c, rfl, hn, hc, hm, ho, hb7⟩
  obtain rfl : n = 1 := hn.symm
  have hr7 : Rd w7 no 1 A 1 (bs [120]) := Rd.of_own ho rfl (fun _ _ f => f)
  have hcv := bytes_back (c := c) hr7.reads
  have HK7 := Lib.hid (HK6.out.below hb7)
  have HT7 := Lib.hid (HT6.out.fd (Turn.of_below hb7 _))
  have hst : (str [120]).toList = [120] := str_toList _
  clear hb7 ho hr7
  go_wp2_with (fail)
  refine (safe_any d g _ nConf _ HK7.out (by decide)).mono ?_
  rw [a10]
  rintro e w' ⟨rfl, rfl⟩
  go_wp2
  go_ret
  exact ⟨rfl, HB1.out.trans (HT7.out.low hd hg hs1)⟩
end Go.Proofs.Ytdoahbegcfhegaa
