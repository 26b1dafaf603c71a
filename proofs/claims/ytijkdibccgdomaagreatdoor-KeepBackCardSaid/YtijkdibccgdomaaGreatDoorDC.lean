/-
  WHAT IS PROVED: a disk's names, and a crash. Conditions: each states its own.
-/
import Derived.Test.YtijkdibccgdomaaGreatDoorShelfD
import Derived.Test.YtijkdibccgdomaaGreatDoorDA
import Derived.Test.YtijkdibccgdomaaGreatDoorDB
import Derived.Deep.RegionHeld3
import Derived.Deep.CutRange

/-
  WHAT IS PROVED: contracts of the functions that tell all names. Condition: the files' number.
-/
namespace Go.Proofs.YtijkdibccgdomaaGreatDoor.Dsk
set_option maxRecDepth 100000
open Go.RowKit Go.Lib Go.Maps Go.Sort Go.Shelf

theorem sorts_ (m : Nat) : AnyZ.SortsIn Tryz.prog Tryz.sortedA_ren Fence.wide m :=
  ⟨fun blk off cap ss W hH hblk hsz => callsIn_wide.2 (AnyM.slices_Sort_string Tryz.sortA blk off cap ss W hH hblk hsz),
   fun p cap W => callsIn_wide.2 (AnyM.slices_Sort_string_none Tryz.sortA p cap W)⟩
theorem keys_ (mb : Option Nat) (W : World) : CallsIn Fence.wide 5 Tryz.prog 80 #[.map mb] W fun e w' => e = .returned (.func (.func 101) #[] #[.pointer (some ⟨W.heap.size, 0, none⟩)]) ∧ w' = W.alloc (.cells #[.map mb] 82) :=
  AnyZ.keys_in Tryz.keysA Fence.wide 5 trivial rfl mb W
set_option maxHeartbeats 1000000 in
theorem sorted_ (b nn : Nat) (D0 : Dm) (R : Value → Option (Dm × List MemPlace)) (w : World) (hown : w.ownsMap Tryz.prog 9 R b nn D0) (hmax : Maps.size D0 ≤ maxLen) (hbytes : Maps.size D0 * 16 ≤ 140737488355328) :
    CallsIn Fence.wide 5 Tryz.prog 79 #[.func (.func 101) #[] #[.pointer (some ⟨w.heap.size, 0, none⟩)]] (w.alloc (.cells #[.map (some b)] 82)) fun e w' => ∃ (v : Value) (ss : List (List UInt8)), e = .returned v ∧ ss.Perm (strKeys D0) ∧
      w'.ownsRow (w.alloc (.cells #[.map (some b)] 82)).heap.size 9 1 v ss.length ((ss.mergeSort (fun x y => decide (x ≤ y))).map encStr) ∧ (v = .slice none 0 0 ↔ ss = []) ∧ Below (w.alloc (.cells #[.map (some b)] 82)).heap.size (w.alloc (.cells #[.map (some b)] 82)) w' := by
  have hbl := hown.lt
  have hseq : SeqGives Fence.wide 2 Tryz.prog 101 #[.pointer (some ⟨w.heap.size, 0, none⟩)] encStr (fun ss => ss.Perm (strKeys D0)) (Maps.size D0) (w.alloc (.cells #[.map (some b)] 82)) :=
    AnyZ.keys_gives (ρ := Tryz.keysA_ren) { Tryz.keysA with } Fence.wide _ trivial rfl (by omega) w.heap.size b nn D0 _ (by simp) (by simp) (by
      obtain ⟨es, clock, hb, Ft, hs, hD⟩ := hown
      exact ⟨es, clock, (Below.heap_alloc _ _ b hbl).trans hb, Ft, hs, hD⟩)
  exact AnyZ.sorted_in Tryz.sortedA Fence.wide 5 trivial trivial trivial trivial rfl (by omega) (sorts_ _) (enters_of Tryz.func100 (by kernel_rfl) rfl) 101 #[.pointer (some ⟨w.heap.size, 0, none⟩)] trivial (enters_of Tryz.func101 (by kernel_rfl) rfl) _ _ hmax hbytes _ hseq

theorem encStr_str (x : List UInt8) : encStr x = .string (str x) := rfl
/-- the names of a datum are the names of its files -/
theorem keys_perm {w w' : World} {F : Nat → Prop} {b n : Nat} {D : Dm} {l : List Fl} (hown : w.ownsMap Tryz.prog 9 fiElem b n D) (h : Agr w' F D l) (hu : Good l) : (strKeys D).Perm (l.map (·.name)) := by
  refine (Collected.perm (left := fun _ => false) ⟨hu.nodup, fun x => ?_⟩ hown keyed Tryz.underlying9 (fun _ => rfl)).symm
  have := h.has_ x
  unfold kl at this
  rw [this, hasF_iff, List.mem_map]
  simp
/-- all names are told -/
def Tells (w : World) (l : List Fl) (v : Value) (w' : World) : Prop := ∃ ns : List (List UInt8), ns.Perm (l.map (·.name)) ∧ w'.ownsRow w.heap.size 9 1 v ns.length (ns.map encStr) ∧ Below w.heap.size w w'
theorem row_mono {w : World} {B B' : Nat} {e : TypeId} {size n : Nat} {v : Value} {l : List Value} (h : w.ownsRow B e size v n l) (hB : B' ≤ B) : w.ownsRow B' e size v n l := own_base h hB
set_option maxRecDepth 100000 in
set_option maxHeartbeats 4000000 in
theorem names_any (d g : Nat) (S : Ds) (w : World) (h : Dk w d g S) (hl : S.fs.length ≤ 1000000) :
    Calls Tryz.prog 55 #[.pointer (some ⟨d, 0, none⟩)] w fun e w' => ∃ v, e = .returned v ∧ Tells w S.fs v w' := by
  refine (callsIn_wide (n := 6)).1 ?_
  obtain ⟨c0, _, _, _⟩ := h.cells
  have HG := h.good
  obtain ⟨D, hown, hag⟩ := h.map
  have hsz := hag.size
  have hpm := keys_perm hown hag HG
  have cS := sorted_ g S.fs.length D fiElem w hown (by rw [hsz]; unfold maxLen; omega) (by rw [hsz]; omega)
  have cK := keys_ (some g) w
  have HPM := Lib.hid hpm
  clear hown hag hsz hpm h HG
  have hfK : Fence.wide.fn 80 := trivial
  have hfS : Fence.wide.fn 79 := trivial
  refine callsIn_of_wp Tryz.func55 rfl trivial ?_ rfl
  simp only [Tryz.ntmps55, List.size_toArray, List.length_cons, List.length_nil, Nat.reduceAdd, Nat.reduceSub, Array.replicate_succ, Array.replicate_zero, List.push_toArray, List.append_toArray, List.nil_append, List.cons_append]
  gi_wp2_with (first
    | (gi_at_call 80; refine cK.mono ?_; rintro e w' ⟨rfl, rfl⟩)
    | (gi_at_call 79; refine cS.mono ?_; rintro e w' ⟨v, ss, rfl, hS, hrow, _, hb⟩))
  go_ret
  have hm := List.mergeSort_perm ss (fun x y => decide (x ≤ y))
  refine ⟨v, rfl, _, hm.trans (hS.trans HPM.out), ?_, ((Below.refl _ w).alloc (Nat.le_refl _) _).trans (hb.mono (by simp))⟩
  rw [hm.length_eq]
  exact row_mono hrow (by simp)
end Go.Proofs.YtijkdibccgdomaaGreatDoor.Dsk

/-
  WHAT IS PROVED: contract of Crash. Conditions: the files' number, the numbers are there.
-/
namespace Go.Proofs.YtijkdibccgdomaaGreatDoor.Dsk
set_option maxRecDepth 100000
open Go.RowKit Go.Lib Go.Sort

def zs (l : List Int) : List Value := l.map (Value.int .i64)
theorem zs_len (l : List Int) : (zs l).length = l.length := by unfold zs; simp
theorem crashG_nil (keep : List Int) (l : List Fl) : crashG [] keep l = l := by cases keep <;> rfl
theorem crashG_safe {x : List UInt8} {xs : List (List UInt8)} {keep : List Int} {l : List Fl} (h : (getF l x).safe = true) : crashG (x :: xs) keep l = crashG xs keep l := by
  conv => lhs; unfold crashG
  rw [if_pos h]
theorem crashG_none {x : List UInt8} {xs : List (List UInt8)} {l : List Fl} (h : (getF l x).safe = false) : crashG (x :: xs) [] l = crashG xs [] (putF l ⟨x, [], true⟩) := by
  conv => lhs; unfold crashG
  rw [if_neg (by rw [h]; simp)]
theorem crashG_some {x : List UInt8} {xs : List (List UInt8)} {k : Int} {ks : List Int} {l : List Fl} (h : (getF l x).safe = false) : crashG (x :: xs) (k :: ks) l = crashG xs ks (putF l ⟨x, (getF l x).b.take k.toNat, true⟩) := by
  conv => lhs; unfold crashG
  rw [if_neg (by rw [h]; simp)]
theorem bs_take (b : List UInt8) (k : Nat) : bs (b.take k) = (bs b).take k := by unfold bs; rw [List.map_take]
theorem vf_begun {w : World} {F : Nat → Prop} {A : Option Addr} {n : Nat} {b x : List UInt8} (hl : b.length = n) (hr : Rd w F 1 A n (bs b)) (hn : n ≤ 100000) (k : Int) : Vf w F ⟨x, b.take k.toNat, true⟩ (.agg #[.slice A (min k.toNat n) (min k.toNat n), .bool true]) := by
  refine ⟨A, min k.toNat n, min k.toNat n, rfl, by rw [List.length_take, hl], Nat.le_refl _, by omega, ?_⟩
  have := hr.take (k := min k.toNat n) (Nat.min_le_right _ _)
  rw [Nat.mul_one, ← bs_take] at this
  rw [show b.take k.toNat = b.take (min k.toNat n) by rw [← hl, List.take_eq_take_iff]; omega]
  exact this

/-- what a crash leaves, in the round k -/
def Cr (w : World) (d g : Nat) (S : Ds) (ns : List (List UInt8)) (keep : List Int) (An : Option Addr) (k : Nat) (kv : Value) (wr : World) : Prop :=
  ∃ l ks A n c, kv = .slice A n c ∧ n ≤ c ∧ c ≤ 9223372036854775807 ∧ Rd wr (FD d g) 1 A n (zs ks) ∧ Dk wr d g { S with fs := l } ∧ l.length = S.fs.length ∧ (∀ x ∈ ns, hasF l x = true) ∧ crashG (ns.drop k) ks l = crashG ns keep S.fs ∧ Turn w wr (FD d g) ∧ Rd wr (FD d g) 1 An ns.length (ns.map encStr)

set_option maxRecDepth 100000 in
set_option maxHeartbeats 8000000 in
theorem crash_any (d g : Nat) (S : Ds) (A : Option Addr) (n c : Nat) (keep : List Int) (w : World) (h : Dk w d g S) (hl : S.fs.length < 1000000) (hr : Rd w (FD d g) 1 A n (zs keep)) (hc : n ≤ c) (hcm : c ≤ 9223372036854775807) :
    Calls Tryz.prog 25 #[.pointer (some ⟨d, 0, none⟩), .slice A n c] w fun e w' => ∃ ns : List (List UInt8), e = .returned (.tuple #[]) ∧ ns.Perm (S.fs.map (·.name)) ∧ Did w d g ⟨crashG ns keep S.fs, S.room, -1, false⟩ w' := by
  have HK := Lib.hid h
  have HR := Lib.hid hr
  clear h hr
  go_enter Tryz.func25, Tryz.ntmps25
  go_wp2_with (fail)
  refine (names_any d g S w HK.out (Nat.le_of_lt hl)).mono ?_
  rintro e w1 ⟨v, rfl, ns, hp, hrow, hb1⟩
  obtain ⟨An, cn, rfl, hcn, hcnm⟩ := own_form hrow
  obtain ⟨m, hm⟩ : ∃ m, ns.length = m := ⟨_, rfl⟩
  have hlt := HK.out.lt
  have hCR : Cr w d g S ns keep An 0 (.slice A n c) w1 := ⟨S.fs, keep, A, n, c, rfl, hc, hcm, HR.out.turn (Turn.of_below hb1 _) (Sub.refl _ _), HK.out.below hb1, rfl, fun x hx => by
      obtain ⟨f, hf, e⟩ := List.mem_map.1 (hp.mem_iff.1 hx)
      exact hasF_iff.2 ⟨f, hf, e⟩, rfl, Turn.of_below hb1 _, Rd.of_own hrow rfl (fun k hk f => by
        have := (World.ownsRow.lt hrow k hk).1
        rcases f with f | f <;> omega)⟩
  rw [hm] at hcn ⊢
  have HM := Lib.hid hm
  have HCR := Lib.hid hCR
  have HP := Lib.hid hp
  clear hCR hm hp hrow hb1
  go_wp2
  go_loopw [1, 11] (fun kv i wr => ∃ k : Nat, k ≤ m ∧ i = .int .i64 (k : Int) ∧ Cr w d g S ns keep An k kv wr) (fun _ i _ => m - (intOf i).toNat)
  case atStart => exact ⟨0, by omega, rfl, HCR.out⟩
  case round =>
    obtain ⟨k, hk, rfl, l, ks, A1, n1, c1, rfl, hc1, hm1, hr1, hk1, hll, hin, hcr, ht1, hrn⟩ := hrel
    have HK1 := Lib.hid hk1
    have HR1 := Lib.hid hr1
    have HLL := Lib.hid hll
    have HIN := Lib.hid hin
    have HG := Lib.hid hcr
    have HT1 := Lib.hid ht1
    have HRN := Lib.hid hrn
    clear hk1 hr1 hll hin hcr ht1 hrn
    by_cases hkm : k < m
    · have hkl : k < ns.length := by rw [HM.out]; exact hkm
      obtain ⟨x, hx⟩ : ∃ x, ns[k]? = some x := ⟨_, List.getElem?_eq_getElem hkl⟩
      have hxin : x ∈ ns := List.mem_of_getElem? hx
      have hdrop : ns.drop k = x :: ns.drop (k + 1) := by
        rw [List.drop_eq_getElem_cons hkl]
        congr 1
        have := List.getElem?_eq_some_iff.1 hx
        exact this.2
      have hhas := HIN.out x hxin
      have hxl : x.length ≤ 1000 := by have := (HK1.out.good.small _ (getF_mem hhas)).1; rw [getF_name] at this; exact this
      have hbl := (HK1.out.good.small _ (getF_mem hhas)).2
      obtain ⟨ad, rfl, hadl, hadf, hcell⟩ := HRN.out.2 (by omega)
      have cN : wr.cell? (ad.add k) = some (.string (str x)) := hcell k _ (by rw [List.getElem?_map, hx]; rfl)
      obtain ⟨v, hrun, A2, n2, c2, rfl, hl2, hc2, hm2, hr2⟩ := HK1.out.map.look hxl
      obtain ⟨s, hs⟩ : ∃ s, (getF l x).safe = s := ⟨_, rfl⟩
      rw [hs] at hrun
      have m0 := HK1.out.cells.1
      have hB2 : Below wr.heap.size wr (wr.alloc (.cells (fc A2 n2 c2 s) 93)) := (Below.refl _ wr).alloc (Nat.le_refl _) _
      have HBX := Lib.hid (fc_new wr A2 n2 c2 s)
      have HB2 := Lib.hid hB2
      have HS := Lib.hid hs
      have HR2 := Lib.hid hr2
      have HL2 := Lib.hid hl2
      have HDR := Lib.hid hdrop
      have HH := Lib.hid hhas
      have hn2 : n2 ≤ 100000 := by rw [← hl2]; exact hbl
      have hlt1 := HK1.out.lt
      have k0 : (0 : Int) ≤ (k : Int) := by omega
      have km : (k : Int) < (m : Int) := by omega
      have b1 : (wr.alloc (.cells #[.slice A2 n2 c2, .bool s] 93)).cell? ⟨wr.heap.size, 1, none⟩ = some (.bool s) := HBX.out.cell 1
      clear hx hxin hdrop hhas hs hr2 hl2 hB2 hbl hkl hcell hadl hadf
      cases s with
      | true =>
        go_wp2
        go_roundw
        case rel =>
          refine ⟨k + 1, by omega, by go_num, l, ks, A1, n1, c1, rfl, hc1, hm1, HR1.out.turn (Turn.of_below HB2.out _) (Sub.refl _ _), HK1.out.below HB2.out, HLL.out, HIN.out, ?_, HT1.out.fd (Turn.of_below HB2.out _), HRN.out.turn (Turn.of_below HB2.out _) (Sub.refl _ _)⟩
          have := HG.out
          rw [HDR.out, crashG_safe HS.out] at this
          exact this
        case measure => simp [intOf]; omega
      | false =>
        have hxx : ∀ y b, y ∈ ns → hasF (putF l ⟨x, b, true⟩) y = true := fun y b hy => by rw [has_putF, HIN.out y hy]; simp
        have HXX := Lib.hid hxx
        clear hxx
        cases ks with
        | nil =>
          obtain rfl : n1 = 0 := by have := HR1.out.1; rw [zs_len] at this; simp at this; omega
          have HMK : Hid (min (0 : Int).toNat n2 = 0) := by show _ = _; simp
          go_upto_region 6 with (fail)
          obtain ⟨w2, hw2⟩ : ∃ x, wr.alloc (.cells #[.slice A2 n2 c2, .bool false] 93) = x := ⟨_, rfl⟩
          have HBX2 : Hid (Blk w2 wr.heap.size 93 (fc A2 n2 c2 false)) := by rw [← hw2]; exact HBX.out
          have HB2' : Hid (Below wr.heap.size wr w2) := by rw [← hw2]; exact HB2.out
          rw [hw2] at b1 ⊢
          clear hw2 HBX HB2
          have HB2 := Lib.hid HB2'.out
          clear HB2'
          have hk3d := (HK1.out.below HB2.out).drew
          have hvf : Vf w2.drew (FD d g) ⟨x, [], true⟩ (.agg #[.slice A2 0 0, .bool true]) := by
            have := vf_begun (x := x) HL2.out (HR2.out.turn (Turn.of_below HB2.out.drew _) (Sub.refl _ _)) hn2 0
            rw [HMK.out] at this
            exact this
          have hsmall : ([] : List UInt8).length ≤ 100000 := by simp
          go_upto_region 8 with (fail)
          obtain ⟨w4, hup, hmap4, hg4⟩ := hk3d.map.store (.inr rfl) hk3d.good (by show l.length < 1000000; rw [HLL.out]; exact hl) (q := ⟨x, [], true⟩) hxl hvf
          dsimp only at hup
          have hk4 := hk3d.map_ hmap4 hg4 (hk3d.good.put (f := ⟨x, [], true⟩) hxl hsmall)
          have hb4 : Blk w4 wr.heap.size 93 (fc A2 n2 c2 false) := (HBX2.out.drew).grown hg4 (fun e => by injection e with e; omega)
          have HK4 := Lib.hid hk4
          have HT4 : Hid (Turn wr w4 (FD d g)) := Lib.hid ((Turn.of_below HB2.out.drew _).fd (turn_g hg4))
          have HS0 := Lib.hid (show w2.drew.cell? ⟨d, 0, none⟩ = some (.map (some g)) ∧ w2.drew.cell? ⟨wr.heap.size, 0, none⟩ = some (.slice A2 n2 c2) from ⟨hk3d.cells.1, HBX2.out.cell 0⟩)
          have HS1 := Lib.hid (show w4.cell? ⟨d, 0, none⟩ = some (.map (some g)) ∧ w4.cell? ⟨wr.heap.size, 0, none⟩ = some (.slice A2 n2 c2) from ⟨hk4.cells.1, hb4.cell 0⟩)
          clear hk3d hmap4 hg4 hk4 hb4 hvf hsmall
          go_region_held3 (fun w' => w'.cell? ⟨d, 0, none⟩ = some (.map (some g)) ∧ w'.cell? ⟨wr.heap.size, 0, none⟩ = some (.slice A2 n2 c2)) (first | with_reducible exact HS0.out | with_reducible exact HS1.out | fail) (first | (go_at_call 56; refine (begun_any A2 n2 c2 0 w2.drew (by omega) hc2 hm2).mono ?_; rintro e w' ⟨rfl, rfl⟩; rw [HMK.out]) | fail)
          go_wp2
          go_roundw
          case rel =>
            have hput : (putF l ⟨x, [], true⟩).length = S.fs.length := by rw [len_putF HK1.out.good, if_pos HH.out]; exact HLL.out
            refine ⟨k + 1, by omega, by go_num, _, [], A1, 0, c1, rfl, hc1, hm1, HR1.out.turn HT4.out (Sub.refl _ _), HK4.out, hput, fun y hy => HXX.out y _ hy, ?_, HT1.out.fd HT4.out, HRN.out.turn HT4.out (Sub.refl _ _)⟩
            have := HG.out
            rw [HDR.out, crashG_none HS.out] at this
            exact this
          case measure => simp [intOf]; omega
        | cons k0 ks =>
          have hn1 : n1 = ks.length + 1 := by have := HR1.out.1; rw [zs_len] at this; simp at this; omega
          obtain ⟨a1, rfl, hal, haf, hac⟩ := HR1.out.2 (by omega)
          have kc : wr.cell? a1 = some (.int .i64 k0) := by
            have := hac 0 (.int .i64 k0) rfl
            rwa [show a1.add 0 = a1 by unfold Addr.add; simp] at this
          obtain ⟨mk, hmk⟩ : ∃ mk, min k0.toNat n2 = mk := ⟨_, rfl⟩
          have HMK := Lib.hid hmk
          have p0 : (0 : Int) < (n1 : Int) := by omega
          have p1 : (1 : Int) ≤ (n1 : Int) := by omega
          have p2 : (n1 : Int) ≤ (c1 : Int) := by omega
          have HN1 := Lib.hid hn1
          have HAL := Lib.hid hal
          clear hmk hac hal haf hn1
          go_upto_region 7 with (fail)
          obtain ⟨w2, hw2⟩ : ∃ x, wr.alloc (.cells #[.slice A2 n2 c2, .bool false] 93) = x := ⟨_, rfl⟩
          have HBX2 : Hid (Blk w2 wr.heap.size 93 (fc A2 n2 c2 false)) := by rw [← hw2]; exact HBX.out
          have HB2' : Hid (Below wr.heap.size wr w2) := by rw [← hw2]; exact HB2.out
          rw [hw2] at b1 ⊢
          clear hw2 HBX HB2
          have HB2 := Lib.hid HB2'.out
          clear HB2'
          have kc2 : w2.drew.cell? a1 = some (.int .i64 k0) := (HB2.out.drew.cell HAL.out).trans kc
          by_cases hc11 : c1 = 1
          · have hcc : (c1 : Int) = 1 := by omega
            have hnn : (n1 : Int) = 1 := by omega
            have HRK : Hid (Rd wr (FD d g) 1 (some a1) (n1 - 1) (zs ks)) := by
              have := HR1.out.drop (k := 1) (cap := c1) (by omega) (by omega)
              rw [if_pos hc11] at this
              exact this
            go_region_held3 (fun w' => w'.cell? a1 = some (.int .i64 k0)) (first | with_reducible exact kc2 | fail) (fail)
            have HBX5 : Hid (Blk w2.drew wr.heap.size 93 (fc A2 n2 c2 false)) := HBX2.out.drew
            have HB5 : Hid (Below wr.heap.size wr w2.drew) := HB2.out.drew
            obtain ⟨w5, hw5⟩ : ∃ x, w2.drew = x := ⟨_, rfl⟩
            rw [hw5] at HBX5 HB5 ⊢
            clear hw5 HBX2 HB2 kc2 b1
            have hk3d := (HK1.out.below HB5.out).drew
            have hvf : Vf w5.drew (FD d g) ⟨x, (getF l x).b.take k0.toNat, true⟩ (.agg #[.slice A2 mk mk, .bool true]) := by
              have := vf_begun (x := x) HL2.out (HR2.out.turn (Turn.of_below HB5.out.drew _) (Sub.refl _ _)) hn2 k0
              rw [HMK.out] at this
              exact this
            have hsmall : ((getF l x).b.take k0.toNat).length ≤ 100000 := by rw [List.length_take]; exact Nat.le_trans (Nat.min_le_right _ _) (Nat.le_trans (Nat.le_of_eq HL2.out) hn2)
            go_upto_region 8 with (fail)
            obtain ⟨w4, hup, hmap4, hg4⟩ := hk3d.map.store (.inr rfl) hk3d.good (by show l.length < 1000000; rw [HLL.out]; exact hl) (q := ⟨x, (getF l x).b.take k0.toNat, true⟩) hxl hvf
            dsimp only at hup
            have hk4 := hk3d.map_ hmap4 hg4 (hk3d.good.put (f := ⟨x, (getF l x).b.take k0.toNat, true⟩) hxl hsmall)
            have hb4 : Blk w4 wr.heap.size 93 (fc A2 n2 c2 false) := (HBX5.out.drew).grown hg4 (fun e => by injection e with e; omega)
            have HK4 := Lib.hid hk4
            have HT4 : Hid (Turn wr w4 (FD d g)) := Lib.hid ((Turn.of_below HB5.out.drew _).fd (turn_g hg4))
            have HS0 := Lib.hid (show w5.drew.cell? ⟨d, 0, none⟩ = some (.map (some g)) ∧ w5.drew.cell? ⟨wr.heap.size, 0, none⟩ = some (.slice A2 n2 c2) from ⟨hk3d.cells.1, HBX5.out.cell 0⟩)
            have HS1 := Lib.hid (show w4.cell? ⟨d, 0, none⟩ = some (.map (some g)) ∧ w4.cell? ⟨wr.heap.size, 0, none⟩ = some (.slice A2 n2 c2) from ⟨hk4.cells.1, hb4.cell 0⟩)
            clear hk3d hmap4 hg4 hk4 hb4 hvf hsmall
            go_region_held3 (fun w' => w'.cell? ⟨d, 0, none⟩ = some (.map (some g)) ∧ w'.cell? ⟨wr.heap.size, 0, none⟩ = some (.slice A2 n2 c2)) (first | with_reducible exact HS0.out | with_reducible exact HS1.out | fail) (first | (go_at_call 56; refine (begun_any A2 n2 c2 k0 w5.drew (by omega) hc2 hm2).mono ?_; rintro e w' ⟨rfl, rfl⟩; rw [HMK.out]) | fail)
            go_wp2
            go_roundw
            case rel =>
              have hput : (putF l ⟨x, (getF l x).b.take k0.toNat, true⟩).length = S.fs.length := by rw [len_putF HK1.out.good, if_pos HH.out]; exact HLL.out
              refine ⟨k + 1, by omega, by go_num, _, ks, some a1, n1 - 1, 0, rfl, by omega, by omega, HRK.out.turn HT4.out (Sub.refl _ _), HK4.out, hput, fun y hy => HXX.out y _ hy, ?_, HT1.out.fd HT4.out, HRN.out.turn HT4.out (Sub.refl _ _)⟩
              have := HG.out
              rw [HDR.out, crashG_some HS.out] at this
              exact this
            case measure => simp [intOf]; omega
          · have HRK : Hid (Rd wr (FD d g) 1 (some ⟨a1.block, a1.off + 1, none⟩) (n1 - 1) (zs ks)) := by
              have := HR1.out.drop (k := 1) (cap := c1) (by omega) (by omega)
              rw [if_neg hc11] at this
              exact this
            go_region_held3 (fun w' => w'.cell? a1 = some (.int .i64 k0)) (first | with_reducible exact kc2 | fail) (fail)
            have HBX5 : Hid (Blk w2.drew wr.heap.size 93 (fc A2 n2 c2 false)) := HBX2.out.drew
            have HB5 : Hid (Below wr.heap.size wr w2.drew) := HB2.out.drew
            obtain ⟨w5, hw5⟩ : ∃ x, w2.drew = x := ⟨_, rfl⟩
            rw [hw5] at HBX5 HB5 ⊢
            clear hw5 HBX2 HB2 kc2 b1
            have hk3d := (HK1.out.below HB5.out).drew
            have hvf : Vf w5.drew (FD d g) ⟨x, (getF l x).b.take k0.toNat, true⟩ (.agg #[.slice A2 mk mk, .bool true]) := by
              have := vf_begun (x := x) HL2.out (HR2.out.turn (Turn.of_below HB5.out.drew _) (Sub.refl _ _)) hn2 k0
              rw [HMK.out] at this
              exact this
            have hsmall : ((getF l x).b.take k0.toNat).length ≤ 100000 := by rw [List.length_take]; exact Nat.le_trans (Nat.min_le_right _ _) (Nat.le_trans (Nat.le_of_eq HL2.out) hn2)
            go_upto_region 8 with (fail)
            obtain ⟨w4, hup, hmap4, hg4⟩ := hk3d.map.store (.inr rfl) hk3d.good (by show l.length < 1000000; rw [HLL.out]; exact hl) (q := ⟨x, (getF l x).b.take k0.toNat, true⟩) hxl hvf
            dsimp only at hup
            have hk4 := hk3d.map_ hmap4 hg4 (hk3d.good.put (f := ⟨x, (getF l x).b.take k0.toNat, true⟩) hxl hsmall)
            have hb4 : Blk w4 wr.heap.size 93 (fc A2 n2 c2 false) := (HBX5.out.drew).grown hg4 (fun e => by injection e with e; omega)
            have HK4 := Lib.hid hk4
            have HT4 : Hid (Turn wr w4 (FD d g)) := Lib.hid ((Turn.of_below HB5.out.drew _).fd (turn_g hg4))
            have HS0 := Lib.hid (show w5.drew.cell? ⟨d, 0, none⟩ = some (.map (some g)) ∧ w5.drew.cell? ⟨wr.heap.size, 0, none⟩ = some (.slice A2 n2 c2) from ⟨hk3d.cells.1, HBX5.out.cell 0⟩)
            have HS1 := Lib.hid (show w4.cell? ⟨d, 0, none⟩ = some (.map (some g)) ∧ w4.cell? ⟨wr.heap.size, 0, none⟩ = some (.slice A2 n2 c2) from ⟨hk4.cells.1, hb4.cell 0⟩)
            clear hk3d hmap4 hg4 hk4 hb4 hvf hsmall
            go_region_held3 (fun w' => w'.cell? ⟨d, 0, none⟩ = some (.map (some g)) ∧ w'.cell? ⟨wr.heap.size, 0, none⟩ = some (.slice A2 n2 c2)) (first | with_reducible exact HS0.out | with_reducible exact HS1.out | fail) (first | (go_at_call 56; refine (begun_any A2 n2 c2 k0 w5.drew (by omega) hc2 hm2).mono ?_; rintro e w' ⟨rfl, rfl⟩; rw [HMK.out]) | fail)
            go_wp2
            go_roundw
            case rel =>
              have hput : (putF l ⟨x, (getF l x).b.take k0.toNat, true⟩).length = S.fs.length := by rw [len_putF HK1.out.good, if_pos HH.out]; exact HLL.out
              refine ⟨k + 1, by omega, by go_num, _, ks, some ⟨a1.block, a1.off + 1, none⟩, n1 - 1, c1 - 1, rfl, by omega, by omega, HRK.out.turn HT4.out (Sub.refl _ _), HK4.out, hput, fun y hy => HXX.out y _ hy, ?_, HT1.out.fd HT4.out, HRN.out.turn HT4.out (Sub.refl _ _)⟩
              have := HG.out
              rw [HDR.out, crashG_some HS.out] at this
              exact this
            case measure => simp [intOf]; omega
    · obtain rfl : k = m := by omega
      have hc := HK1.out.cells
      obtain ⟨z0, z1, z2, z3⟩ := hc
      have f2 := HK1.out.blk.frozen 2
      have f3 := HK1.out.blk.frozen 3
      have hd0 : ns.drop k = [] := List.drop_eq_nil_of_le (by rw [HM.out]; exact Nat.le_refl _)
      have HE : Hid (l = crashG ns keep S.fs) := by
        show _ = _
        have := HG.out
        rw [hd0, crashG_nil] at this
        exact this
      clear hd0
      go_wp2
      go_end0
      refine ⟨rfl, ns, HP.out, ?_, (HT1.out.fd (turn_set _ _ _ _)).fd (turn_set _ _ _ _)⟩
      rw [← HE.out]
      exact (HK1.out.set_ (S' := { S with fs := l, down := false }) rfl HK1.out.left (by simp)).set_ (S' := ⟨l, S.room, -1, false⟩) rfl ⟨by show (-9223372036854775808 : Int) ≤ -1; omega, by show (-1 : Int) ≤ 9223372036854775807; omega⟩ (by simp)
end Go.Proofs.YtijkdibccgdomaaGreatDoor.Dsk
