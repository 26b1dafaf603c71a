/-
  WHAT IS PROVED: contracts of strings.Join at a row of one's own and of conf.lineOf. Conditions: the library's variables hold what is laid there; the texts' sizes.
-/
import Derived.Test.YtmjbacmaafbdlaaGreatDoorNums
import Derived.Lib.Join
namespace Go.Proofs.YtmjbacmaafbdlaaGreatDoor
open Go.RowKit C

theorem join_strs (L : List (List UInt8)) (sep : List UInt8) (base : Nat) (v : Value) (w : World) (h : w.ownsRow base 9 1 v L.length (strV L)) (hL : L.length ≤ 100000) (hj : (Lib.join L sep).length ≤ 4294967296) :
    Calls Tryz.prog 20 #[v, .string (str sep)] w (AStr (Lib.join L sep) w) := by
  rcases h.2 with ⟨rfl, hn⟩ | ⟨b, cap, cur, rfl, hb, hh, hnc, hcm, _⟩
  · have : L = [] := by simpa [strV] using hn
    subst this
    exact (Tryz.strings_Join_none none 0 _ w).mono fun _ _ ⟨he, hw⟩ => ⟨he, hw ▸ Below.refl _ _⟩
  · have hlt : b < w.heap.size := (Array.getElem?_eq_some_iff.1 hh).1
    have hm : (L.map fun p => str p).map (·.data.toList) = L := by
      rw [List.map_map]
      exact (List.map_congr_left fun a _ => rfl).trans (List.map_id L)
    have hsd : (str sep).data.toList = sep := rfl
    have hl : (L.map fun p => str p).length = L.length := by simp
    have key := Tryz.strings_Join b 0 cap (L.map fun p => str p) (str sep) w (fun j x hx => by
      have := h.cells rfl j (.string x) (by unfold strV; rw [List.getElem?_map] at hx ⊢; cases e : L[j]? <;> simp_all)
      rw [S.add_mk] at this
      rw [Nat.zero_add]; exact this) hlt (by omega) (by omega) (by rw [hm, hsd]; omega)
    rw [hm, hsd, hl] at key
    exact key

/-- a part of a line: a word, a number, a set -/
inductive Pt where
  | w (b : List UInt8)
  | n (z : Int)
  | s (m : Nat)
def Pt.val : Pt → Value
  | .w b => .iface 9 (.string (str b))
  | .n z => .iface 3 (.int .i64 z)
  | .s m => .iface 57 (.int .u64 (m : Int))
def Pt.out : Pt → List UInt8
  | .w b => b
  | .n z => dg z
  | .s m => S.txt m
def Pt.ok : Pt → Prop
  | .w _ => True
  | .n z => 0 ≤ z ∧ z ≤ 9223372036854775807
  | .s m => m < 18446744073709551616
def lineP (P : List Pt) : List UInt8 := Lib.join (P.map Pt.out) [32] ++ [10]
theorem pt_at {P : List Pt} {k : Nat} {p : Pt} {u : Value} (h : P[k]? = some p) (hu : (P.map Pt.val)[k]? = some u) : u = p.val := by
  rw [List.getElem?_map, h] at hu; simp at hu; exact hu.symm
theorem outs_snoc {P : List Pt} {k : Nat} {p : Pt} (h : P[k]? = some p) : (P.take (k + 1)).map Pt.out = (P.take k).map Pt.out ++ [p.out] := by
  rw [List.take_add_one, h]; simp
theorem str_info : (Tryz.prog.info? 9).map (fun i => (i.zero, i.size, i.bytes)) = some (some (.string ⟨#[]⟩), 1, 16) := by kernel_rfl

theorem ta_ww (v : Value) (w : World) : (Instr.typeAssert (.iface 9 v) 20 9 true).run Tryz.prog w = .ok (.tuple #[v, .bool true]) w := by kernel_rfl
theorem ta_wn (v : Value) (w : World) : (Instr.typeAssert (.iface 9 v) 20 3 true).run Tryz.prog w = .ok (.tuple #[.int .i64 0, .bool false]) w := by kernel_rfl
theorem ta_ws (v : Value) (w : World) : (Instr.typeAssert (.iface 9 v) 20 57 true).run Tryz.prog w = .ok (.tuple #[.int .u64 0, .bool false]) w := by kernel_rfl
theorem ta_nw (v : Value) (w : World) : (Instr.typeAssert (.iface 3 v) 20 9 true).run Tryz.prog w = .ok (.tuple #[.string ⟨#[]⟩, .bool false]) w := by kernel_rfl
theorem ta_nn (v : Value) (w : World) : (Instr.typeAssert (.iface 3 v) 20 3 true).run Tryz.prog w = .ok (.tuple #[v, .bool true]) w := by kernel_rfl
theorem ta_ns (v : Value) (w : World) : (Instr.typeAssert (.iface 3 v) 20 57 true).run Tryz.prog w = .ok (.tuple #[.int .u64 0, .bool false]) w := by kernel_rfl
theorem ta_sw (v : Value) (w : World) : (Instr.typeAssert (.iface 57 v) 20 9 true).run Tryz.prog w = .ok (.tuple #[.string ⟨#[]⟩, .bool false]) w := by kernel_rfl
theorem ta_sn (v : Value) (w : World) : (Instr.typeAssert (.iface 57 v) 20 3 true).run Tryz.prog w = .ok (.tuple #[.int .i64 0, .bool false]) w := by kernel_rfl
theorem ta_ss (v : Value) (w : World) : (Instr.typeAssert (.iface 57 v) 20 57 true).run Tryz.prog w = .ok (.tuple #[v, .bool true]) w := by kernel_rfl
set_option maxRecDepth 100000 in
set_option maxHeartbeats 2000000 in
theorem lineof_any (P : List Pt) (A : Option Addr) (c g : Nat) (w : World) (hE : Env w) (hP : P.length ≤ 20) (hok : ∀ p ∈ P, p.ok) (hj : (Lib.join (P.map Pt.out) [32]).length ≤ 4294967295) (hR : Reads w g A P.length (P.map Pt.val)) :
    Calls Tryz.prog 16 #[.slice A P.length c] w (AStr (lineP P) w) := by
  obtain ⟨i0, hi0, hz0, hz1, hz2⟩ := info_parts str_info
  have HI : Hid (Tryz.prog.info? 9 = some i0) := hi0
  have HZ0 := Lib.hid hz0
  have HZ1 := Lib.hid hz1
  have HZ2 := Lib.hid hz2
  have HE := Lib.hid hE
  have HR := Lib.hid hR
  have HOK := Lib.hid hok
  have HJ := Lib.hid hj
  clear hi0 hz0 hz1 hz2 hE hR hok hj
  go_enter Tryz.func16, Tryz.ntmps16
  go_wp2
  go_loopw [3, 11] (fun va i wr => ∃ k : Nat, k ≤ P.length ∧ i = .int .i64 k ∧ Hid (Below w.heap.size w wr) ∧ Hid (wr.ownsRow w.heap.size 9 1 va k (strV ((P.take k).map Pt.out)))) (fun _ i _ => P.length - (intOf i).toNat)
  case atStart => exact ⟨0, by omega, rfl, Lib.hid (Below.refl _ _), Lib.hid ⟨rfl, .inl ⟨rfl, rfl⟩⟩⟩
  case round =>
    obtain ⟨k, hk, rfl, hb, hown⟩ := hrel
    by_cases hlt : k < P.length
    · obtain ⟨ad, u, rfl, hu, hc⟩ := (HR.out.below hb.out).at_ hlt
      obtain ⟨p, hp⟩ : ∃ p, P[k]? = some p := ⟨_, List.getElem?_eq_getElem hlt⟩
      obtain rfl := pt_at hp hu
      clear hu
      have HS := Lib.hid (outs_snoc hp)
      have hpo := HOK.out p (List.mem_of_getElem? hp)
      have hbs := hb.out.size
      clear hp
      cases p with
      | w b =>
        simp only [Pt.val] at hc
        have ta := ta_ww (.string (str b))
        go_wp2_with (at_builtin; refine wpList_append_own _ rfl _ _ 50 rfl w.heap.size 9 i0 (.string ⟨#[]⟩) 1 16 Tryz.underlying50 HI.out HZ0.out HZ1.out HZ2.out rfl (by decide) _ _ _ rfl (hown.out.alloc _) ⟨wr.heap.size, 0, none⟩ 1 1 [.string (str (b))] rfl rfl (cell_one_new _ _ _) (by simp [Value.oneCell']) (by unfold maxLen; omega) (by omega) (by simp; omega) ?_; intro v' w4 hown' hg3 _)
        have HB4 : Hid (Below w.heap.size w w4) := Lib.hid ((hb.out.alloc hbs _).grown hg3 (by simp; omega) (fun g e => (hown.out.lt g e).1))
        go_wp2
        go_roundw
        case rel => exact ⟨k + 1, by omega, by go_num, HB4, Lib.hid (by rw [HS.out, strV_append]; simpa [strV, Pt.out] using hown')⟩
        case measure => simp [intOf]; omega
      | n z =>
        simp only [Pt.val] at hc
        have ta := ta_nw (.int .i64 z)
        have ta2 := ta_nn (.int .i64 z)
        go_wp2_with (fail)
        refine (itoa_any z hpo.1 hpo.2 _ (HE.out.below hb.out)).mono ?_
        rintro e w3 ⟨rfl, hb3⟩
        have HB3 := Lib.hid (hb.out.trans (hb3.mono hb.out.size))
        have HO3 := Lib.hid (own_below hown.out hb3)
        clear hb3 hc
        have hbs := HB3.out.size
        go_wp2_with (at_builtin; refine wpList_append_own _ rfl _ _ 50 rfl w.heap.size 9 i0 (.string ⟨#[]⟩) 1 16 Tryz.underlying50 HI.out HZ0.out HZ1.out HZ2.out rfl (by decide) _ _ _ rfl (HO3.out.alloc _) ⟨w3.heap.size, 0, none⟩ 1 1 [.string (str (dg z))] rfl rfl (cell_one_new _ _ _) (by simp [Value.oneCell']) (by unfold maxLen; omega) (by omega) (by simp; omega) ?_; intro v' w4 hown' hg3 _)
        have HB4 : Hid (Below w.heap.size w w4) := Lib.hid ((HB3.out.alloc hbs _).grown hg3 (by simp; omega) (fun g e => (HO3.out.lt g e).1))
        go_wp2
        go_roundw
        case rel => exact ⟨k + 1, by omega, by go_num, HB4, Lib.hid (by rw [HS.out, strV_append]; simpa [strV, Pt.out] using hown')⟩
        case measure => simp [intOf]; omega
      | s m =>
        simp only [Pt.val] at hc
        have ta := ta_sw (.int .u64 (m : Int))
        have ta2 := ta_sn (.int .u64 (m : Int))
        have ta3 := ta_ss (.int .u64 (m : Int))
        go_wp2_with (fail)
        refine (S.text_any m hpo _).mono ?_
        rintro e w3 ⟨rfl, hb3⟩
        have HB3 := Lib.hid (hb.out.trans (hb3.mono hb.out.size))
        have HO3 := Lib.hid (own_below hown.out hb3)
        clear hb3 hc
        have hbs := HB3.out.size
        go_wp2_with (at_builtin; refine wpList_append_own _ rfl _ _ 50 rfl w.heap.size 9 i0 (.string ⟨#[]⟩) 1 16 Tryz.underlying50 HI.out HZ0.out HZ1.out HZ2.out rfl (by decide) _ _ _ rfl (HO3.out.alloc _) ⟨w3.heap.size, 0, none⟩ 1 1 [.string (str (S.txt m))] rfl rfl (cell_one_new _ _ _) (by simp [Value.oneCell']) (by unfold maxLen; omega) (by omega) (by simp; omega) ?_; intro v' w4 hown' hg3 _)
        have HB4 : Hid (Below w.heap.size w w4) := Lib.hid ((HB3.out.alloc hbs _).grown hg3 (by simp; omega) (fun g e => (HO3.out.lt g e).1))
        go_wp2
        go_roundw
        case rel => exact ⟨k + 1, by omega, by go_num, HB4, Lib.hid (by rw [HS.out, strV_append]; simpa [strV, Pt.out] using hown')⟩
        case measure => simp [intOf]; omega
    · obtain rfl : k = P.length := by omega
      have HO : Hid (wr.ownsRow w.heap.size 9 1 u3 (P.map Pt.out).length (strV (P.map Pt.out))) := Lib.hid (by
        have := hown.out
        rw [List.take_length] at this
        rw [List.length_map]; exact this)
      have HLP : Hid (lineP P = Lib.join (P.map Pt.out) [32] ++ [10]) := Lib.hid rfl
      have hjl := HJ.out
      have hs1 : (str (Lib.join (P.map Pt.out) [32])).size = (Lib.join (P.map Pt.out) [32]).length := rfl
      go_wp2_with (fail)
      refine (join_strs (P.map Pt.out) [32] w.heap.size _ _ HO.out (by rw [List.length_map]; omega) (by have := HJ.out; omega)).mono ?_
      rintro e w3 ⟨rfl, hb3⟩
      have HB3 := Lib.hid (hb.out.trans (hb3.mono hb.out.size))
      clear hb3
      go_wp2
      go_ret
      exact ⟨by rw [HLP.out, ← S.str_app]; rfl, HB3.out⟩
end Go.Proofs.YtmjbacmaafbdlaaGreatDoor
