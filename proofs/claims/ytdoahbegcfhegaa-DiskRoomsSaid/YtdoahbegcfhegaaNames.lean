/-
  WHAT IS PROVED: contracts of the functions that tell all names. Condition: the files' number.
-/
import Derived.Test.YtdoahbegcfhegaaShelf
import Derived.Test.YtdoahbegcfhegaaDisk
namespace Go.Proofs.Ytdoahbegcfhegaa
open Go.RowKit Go.Lib Go.Maps Go.Sort Go.Shelf

theorem sorts_ (m : Nat) : AnyZ.SortsIn Try.prog Try.sortedA_ren Fence.wide m :=
  ⟨fun blk off cap ss W hH hblk hsz => callsIn_wide.2 (AnyM.slices_Sort_string Try.sortA blk off cap ss W hH hblk hsz),
   fun p cap W => callsIn_wide.2 (AnyM.slices_Sort_string_none Try.sortA p cap W)⟩
theorem keys_ (mb : Option Nat) (W : World) : CallsIn Fence.wide 5 Try.prog 26 #[.map mb] W fun e w' => e = .returned (.func (.func 29) #[] #[.pointer (some ⟨W.heap.size, 0, none⟩)]) ∧ w' = W.alloc (.cells #[.map mb] 47) :=
  AnyZ.keys_in Try.keysA Fence.wide 5 trivial rfl mb W
set_option maxHeartbeats 1000000 in
theorem sorted_ (b nn : Nat) (D0 : Dm) (R : Value → Option (Dm × List MemPlace)) (w : World) (hown : w.ownsMap Try.prog 9 R b nn D0) (hmax : Maps.size D0 ≤ maxLen) (hbytes : Maps.size D0 * 16 ≤ 140737488355328) :
    CallsIn Fence.wide 5 Try.prog 25 #[.func (.func 29) #[] #[.pointer (some ⟨w.heap.size, 0, none⟩)]] (w.alloc (.cells #[.map (some b)] 47)) fun e w' => ∃ (v : Value) (ss : List (List UInt8)), e = .returned v ∧ ss.Perm (strKeys D0) ∧
      w'.ownsRow (w.alloc (.cells #[.map (some b)] 47)).heap.size 9 1 v ss.length ((ss.mergeSort (fun x y => decide (x ≤ y))).map encStr) ∧ (v = .slice none 0 0 ↔ ss = []) ∧ Below (w.alloc (.cells #[.map (some b)] 47)).heap.size (w.alloc (.cells #[.map (some b)] 47)) w' := by
  have hbl := hown.lt
  have hseq : SeqGives Fence.wide 2 Try.prog 29 #[.pointer (some ⟨w.heap.size, 0, none⟩)] encStr (fun ss => ss.Perm (strKeys D0)) (Maps.size D0) (w.alloc (.cells #[.map (some b)] 47)) :=
    AnyZ.keys_gives (ρ := Try.keysA_ren) { Try.keysA with } Fence.wide _ trivial rfl (by omega) w.heap.size b nn D0 _ (by simp) (by simp) (by
      obtain ⟨es, clock, hb, Ft, hs, hD⟩ := hown
      exact ⟨es, clock, (Below.heap_alloc _ _ b hbl).trans hb, Ft, hs, hD⟩)
  exact AnyZ.sorted_in Try.sortedA Fence.wide 5 trivial trivial trivial trivial rfl (by omega) (sorts_ _) (enters_of Try.func28 (by kernel_rfl) rfl) 29 #[.pointer (some ⟨w.heap.size, 0, none⟩)] trivial (enters_of Try.func29 (by kernel_rfl) rfl) _ _ hmax hbytes _ hseq

theorem encStr_str (x : List UInt8) : encStr x = .string (str x) := rfl
/-- the names of a datum are the names of its files -/
theorem keys_perm {w w' : World} {F : Nat → Prop} {b n : Nat} {D : Dm} {l : List Fl} (hown : w.ownsMap Try.prog 9 fiElem b n D) (h : Agr w' F D l) (hu : Good l) : (strKeys D).Perm (l.map (·.name)) := by
  refine (Collected.perm (left := fun _ => false) ⟨hu.nodup, fun x => ?_⟩ hown keyed Try.underlying9 (fun _ => rfl)).symm
  have := h.has_ x
  unfold kl at this
  rw [this, hasF_iff, List.mem_map]
  simp
/-- all names are told -/
def Tells (w : World) (l : List Fl) (v : Value) (w' : World) : Prop := ∃ ns : List (List UInt8), ns.Perm (l.map (·.name)) ∧ w'.ownsRow w.heap.size 9 1 v ns.length (ns.map encStr) ∧ Below w.heap.size w w'
theorem row_mono {w : World} {B B' : Nat} {e : TypeId} {size n : Nat} {v : Value} {l : List Value} (h : w.ownsRow B e size v n l) (hB : B' ≤ B) : w.ownsRow B' e size v n l := own_base h hB
set_option maxRecDepth 100000 in
set_option maxHeartbeats 4000000 in
theorem names_any (d g : Nat) (S : Ds) (w : World) (h : Dk w d g S) (hl : S.fs.length ≤ 1000000) :
    Calls Try.prog 23 #[.pointer (some ⟨d, 0, none⟩)] w fun e w' => ∃ v, e = .returned v ∧ Tells w S.fs v w' := by
  refine (callsIn_wide (n := 6)).1 ?_
  obtain ⟨c0, _, _, _⟩ := h.cells
  have HG := h.good
  obtain ⟨D, hown, hag⟩ := h.map
  have hsz := hag.size
  have hpm := keys_perm hown hag HG
  have cS := sorted_ g S.fs.length D fiElem w hown (by rw [hsz]; unfold maxLen; omega) (by rw [hsz]; omega)
  have cK := keys_ (some g) w
  have HPM := Lib.hid hpm
  clear hown hag hsz hpm h HG
  have hfK : Fence.wide.fn 26 := trivial
  have hfS : Fence.wide.fn 25 := trivial
  refine callsIn_of_wp Try.func23 rfl trivial ?_ rfl
  simp only [Try.ntmps23, List.size_toArray, List.length_cons, List.length_nil, Nat.reduceAdd, Nat.reduceSub, Array.replicate_succ, Array.replicate_zero, List.push_toArray, List.append_toArray, List.nil_append, List.cons_append]
  gi_wp2_with (first
    | (gi_at_call 26; refine cK.mono ?_; rintro e w' ⟨rfl, rfl⟩)
    | (gi_at_call 25; refine cS.mono ?_; rintro e w' ⟨v, ss, rfl, hS, hrow, _, hb⟩))
  go_ret
  have hm := List.mergeSort_perm ss (fun x y => decide (x ≤ y))
  refine ⟨v, rfl, _, hm.trans (hS.trans HPM.out), ?_, ((Below.refl _ w).alloc (Nat.le_refl _) _).trans (hb.mono (by simp))⟩
  rw [hm.length_eq]
  exact row_mono hrow (by simp)
set_option maxRecDepth 100000 in
set_option maxHeartbeats 4000000 in
theorem Names_any (d g : Nat) (S : Ds) (w : World) (h : Dk w d g S) (hl : S.fs.length ≤ 1000000) (hd : S.down = false) :
    Calls Try.prog 17 #[.pointer (some ⟨d, 0, none⟩)] w fun e w' => ∃ v, e = .returned (.tuple #[v, .int .i64 0]) ∧ Tells w S.fs v w' := by
  obtain ⟨_, _, _, c3⟩ := h.cells
  rw [hd] at c3
  have HK := Lib.hid h
  clear h
  go_enter Try.func17, Try.ntmps17
  go_wp2_with (fail)
  refine (names_any d g S w HK.out hl).mono ?_
  rintro e w1 ⟨v, rfl, ht⟩
  go_wp2
  go_ret2
  exact ⟨v, rfl, ht⟩
end Go.Proofs.Ytdoahbegcfhegaa
