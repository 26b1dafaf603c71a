/-
  WHAT IS PROVED: the contracts of the document's Digits, and of a way's text. Conditions: the numbers are not below 0; the library's variables hold what is laid there.
-/
import Derived.Test.YteoodompphhkbaaGreatDoorZOH
namespace Go.Proofs.YteoodompphhkbaaGreatDoor.Nod
set_option maxRecDepth 100000
open Go.RowKit Go.Lib Go.Maps
open Go.Proofs.YteoodompphhkbaaGreatDoor.Ros (Turn Sub Rd Blk no zints)
open Go.Proofs.YteoodompphhkbaaGreatDoor.K (str dg digL)

theorem byte_back (c : UInt8) (w : World) : (convert 41 9 (.slice (some ⟨w.heap.size, 0, none⟩) 1 1)).run Tryz.prog (w.alloc (.cells #[.int .u8 (c.toNat : Int)] 5)) = .ok (.string (str [c])) (w.alloc (.cells #[.int .u8 (c.toNat : Int)] 5)) := by
  refine K.bytes_back (g := w.heap.size + 1) ⟨rfl, fun _ => ⟨_, rfl, by simp, by show w.heap.size ≠ w.heap.size + 1; omega, fun j u hu => ?_⟩⟩
  have hB : K.Blk (w.alloc (.cells #[.int .u8 (c.toNat : Int)] 5)) w.heap.size 5 #[.int .u8 (c.toNat : Int)] := K.Blk.new _ _ _
  have e : (⟨w.heap.size, 0, none⟩ : Addr).add j = ⟨w.heap.size, j, none⟩ := K.S.add_mk _ _
  rw [e, hB.cell j]
  simpa [K.bs] using hu
def SaysS (b : List UInt8) (w : World) (e : Ending) (w' : World) : Prop := e = .returned (.string (str b)) ∧ Below w.heap.size w w'
theorem rdigit1 (n : Nat) (hn : n < 10) (w : World) : Calls Tryz.prog 5 #[.int .i64 (n : Int)] w (SaysS (digL n) w) := by
  have hc : ((UInt8.ofNat (48 + n)).toNat : Int) = 48 + n := by
    have : (UInt8.ofNat (48 + n)).toNat = 48 + n := by simp; omega
    rw [this]; omega
  have hb := byte_back (UInt8.ofNat (48 + n)) w
  rw [hc] at hb
  have HD : Hid (digL n = [UInt8.ofNat (48 + n)]) := Lib.hid (K.digL_small hn)
  have h1 : (n : Int) < 10 := by omega
  clear hc
  generalize [UInt8.ofNat (48 + n)] = l at *
  go_enter Tryz.func5, Tryz.ntmps5
  go_wp2
  go_ret
  exact ⟨by rw [HD.out]; rfl, (Below.refl _ _).alloc (Nat.le_refl _) _⟩
theorem rdig_any : ∀ (n : Nat), n < 9223372036854775808 → ∀ w : World, Calls Tryz.prog 5 #[.int .i64 (n : Int)] w (SaysS (digL n) w) := by
  intro n
  induction n using Nat.strongRecOn with
  | ind n ih =>
    intro hn w
    by_cases h : n < 10
    · exact rdigit1 n h w
    · have HD : Hid (digL n = digL (n / 10) ++ digL (n % 10)) := Lib.hid (K.digL_big h)
      have HA : Hid (∀ W, Calls Tryz.prog 5 #[.int .i64 ((n : Int) / 10)] W (SaysS (digL (n / 10)) W)) := Lib.hid fun W => ih (n / 10) (by omega) (by omega) W
      have HB : Hid (∀ W, Calls Tryz.prog 5 #[.int .i64 ((n : Int) % 10)] W (SaysS (digL (n % 10)) W)) := Lib.hid fun W => rdigit1 (n % 10) (by omega) W
      have h0 : (0 : Int) ≤ n := by omega
      have h1 : (10 : Int) ≤ n := by omega
      have h2 : (n : Int) ≤ 9223372036854775807 := by omega
      have s1 : (str (digL (n / 10))).size ≤ 20 := K.digL_len 19 _ (by have e : (10 : Nat) ^ (19 + 1) = 100000000000000000000 := by decide
                                                                       omega)
      have s2 : (str (digL (n % 10))).size ≤ 1 := K.digL_len 0 _ (by omega)
      clear h ih hn
      go_enter Tryz.func5, Tryz.ntmps5
      go_wp2_with (fail)
      refine (HA.out _).mono ?_
      rintro e w1 ⟨rfl, hb1⟩
      go_wp2_with (fail)
      refine (HB.out _).mono ?_
      rintro e w2 ⟨rfl, hb2⟩
      have hb2' := hb1.trans (hb2.mono hb1.size)
      go_wp2
      go_ret
      refine ⟨?_, hb2'⟩
      rw [HD.out, ← K.S.str_app]; rfl

/-- a word, and numbers behind it -/
def txN (wd : List UInt8) (zs : List Int) : List UInt8 := wd ++ zs.flatMap fun z => 32 :: dg z
theorem txN_snoc (wd : List UInt8) {zs : List Int} {k : Nat} {z : Int} (h : zs[k]? = some z) : txN wd (zs.take (k + 1)) = txN wd (zs.take k) ++ (32 :: dg z) := by
  unfold txN
  rw [List.take_add_one, h, List.flatMap_append, List.append_assoc]
  simp
theorem dg_le {z : Int} (h : z ≤ 9223372036854775807) : (dg z).length ≤ 19 := K.dg_len (by omega)
theorem txN_len (wd : List UInt8) : ∀ (zs : List Int), (∀ z ∈ zs, z ≤ 9223372036854775807) → (txN wd zs).length ≤ wd.length + 20 * zs.length
  | [], _ => by simp [txN]
  | z :: zs, h => by
    have h1 := txN_len wd zs (fun x hx => h x (List.mem_cons_of_mem _ hx))
    have h2 := dg_le (h z List.mem_cons_self)
    unfold txN at h1 ⊢
    simp at h1 ⊢
    omega
set_option maxHeartbeats 2000000 in
theorem textof_any (wd : List UInt8) (zs : List Int) (A : Option Addr) (c : Nat) (w : World) (hE : K.Env w) (hw : wd.length ≤ 100) (hn : zs.length ≤ 10) (hz : ∀ z ∈ zs, 0 ≤ z ∧ z ≤ 9223372036854775807) (hr : Rd w no 1 A zs.length (zints zs)) :
    Calls Tryz.prog 9 #[.string (str wd), .slice A zs.length c] w (SaysS (txN wd zs) w) := by
  obtain ⟨n, HN⟩ : ∃ n, Hid (zs.length = n) := ⟨_, Lib.hid rfl⟩
  have HR := Lib.hid hr
  have HE := Lib.hid hE
  have HZ := Lib.hid hz
  have HNL : Hid (n ≤ 10) := Lib.hid (by rw [← HN.out]; exact hn)
  rw [HN.out] at HR ⊢
  clear hr hE hz hn
  go_enter Tryz.func9, Tryz.ntmps9
  go_wp2
  go_loopw [0, 6, 9] (fun v _ i wr => ∃ k : Nat, k ≤ n ∧ i = .int .i64 k ∧ v = .string (str (txN wd (zs.take k))) ∧ Below w.heap.size w wr) (fun _ _ i _ => n - (intOf i).toNat)
  case atStart => exact ⟨0, by omega, rfl, by simp [txN], Below.refl _ _⟩
  case round =>
    obtain ⟨w3, rfl⟩ : ∃ w3, w3 = wr := ⟨_, rfl⟩
    obtain ⟨k, hk, rfl, rfl, hb⟩ := hrel
    have HB := Lib.hid hb
    clear hb
    by_cases hlt : k < n
    · obtain ⟨ad, z, rfl, hzk, hbl, _, d0⟩ := (HR.out.below HB.out).atZ hlt
      have t1 : (k : Int) < (n : Int) := by omega
      have t2 : (0 : Int) ≤ (k : Int) := by omega
      have h10 : n ≤ 10 := HNL.out
      have hmem : z ∈ zs := List.mem_of_getElem? hzk
      have hz0 := (HZ.out z hmem).1
      have hz1 := (HZ.out z hmem).2
      have HS := Lib.hid (txN_snoc wd hzk)
      have s1 : (str (txN wd (zs.take k))).size ≤ 400 := by
        have := txN_len wd (zs.take k) (fun x hx => (HZ.out x (List.mem_of_mem_take hx)).2)
        have h2 : (zs.take k).length ≤ 10 := by rw [List.length_take]; have := HN.out; have := HNL.out; omega
        show (txN wd (zs.take k)).length ≤ 400
        omega
      have s2 : (str (dg z)).size ≤ 19 := dg_le hz1
      have HI := Lib.hid (K.itoa_any z hz0 hz1 w3 (HE.out.below HB.out))
      clear hzk hmem
      go_wp2_with (fail)
      refine HI.out.mono ?_
      rintro o w4 ⟨rfl, hb4⟩
      have HB4 := Lib.hid (HB.out.trans (hb4.mono HB.out.size))
      clear hb4
      go_wp2
      go_roundw
      case rel => exact ⟨k + 1, by omega, by go_num, by rw [HS.out, ← K.S.str_app, show (32 :: dg z) = [32] ++ dg z from rfl, ← K.S.str_app]; rfl, HB4.out⟩
      case measure => simp [intOf]; omega
    · obtain rfl : k = n := by omega
      have HE2 : Hid (zs.take k = zs) := Lib.hid (List.take_of_length_le (by have := HN.out; omega))
      go_wp2
      go_ret
      exact ⟨by rw [HE2.out]; rfl, HB.out⟩
end Go.Proofs.YteoodompphhkbaaGreatDoor.Nod
