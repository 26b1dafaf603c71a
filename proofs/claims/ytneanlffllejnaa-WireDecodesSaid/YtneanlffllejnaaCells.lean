/-
  WHAT IS PROVED: the first cells of a slice of bytes. Condition: the bytes are there.
-/
import Derived.Test.YtneanlffllejnaaMem
namespace Go.Proofs.Ytneanlffllejnaa
open Go.RowKit Go.Lib

theorem byte_cell {w : World} {g n i : Nat} {A : Option Addr} {l : List UInt8} (hi : i < n) (hr : Reads w g A n (bs l)) : ∃ ad, A = some ad ∧ w.cell? (ad.add i) = some (.int .u8 (at_ l i : Int)) := by
  obtain ⟨ad, u, e, hx, hc⟩ := hr.at_ hi
  obtain ⟨c, hlc, rfl⟩ := bs_at hx
  exact ⟨ad, e, by rw [hc]; unfold at_; rw [hlc]; rfl⟩
theorem cells4 {w : World} {g n : Nat} {A : Option Addr} {l : List UInt8} (hn : 4 ≤ n) (hr : Reads w g A n (bs l)) :
    ∃ ad, A = some ad ∧ w.cell? ad = some (.int .u8 (at_ l 0 : Int)) ∧ w.cell? ⟨ad.block, ad.off + 1, none⟩ = some (.int .u8 (at_ l 1 : Int)) ∧ w.cell? ⟨ad.block, ad.off + 2, none⟩ = some (.int .u8 (at_ l 2 : Int)) ∧ w.cell? ⟨ad.block, ad.off + 3, none⟩ = some (.int .u8 (at_ l 3 : Int)) := by
  obtain ⟨ad, rfl, h0⟩ := byte_cell (i := 0) (by omega) hr
  obtain ⟨_, e, h1⟩ := byte_cell (i := 1) (by omega) hr
  cases e
  obtain ⟨_, e, h2⟩ := byte_cell (i := 2) (by omega) hr
  cases e
  obtain ⟨_, e, h3⟩ := byte_cell (i := 3) (by omega) hr
  cases e
  rw [add_succ] at h1 h2 h3
  exact ⟨ad, rfl, h0, h1, h2, h3⟩
theorem cell_at {w : World} {g n i : Nat} {ad : Addr} {l : List UInt8} (hi : i + 1 < n) (hr : Reads w g (some ad) n (bs l)) : w.cell? ⟨ad.block, ad.off + (i + 1), none⟩ = some (.int .u8 (at_ l (i + 1) : Int)) := by
  obtain ⟨_, e, h1⟩ := byte_cell hi hr
  cases e
  rwa [add_succ] at h1
theorem cell76 {w : World} {g n : Nat} {ad : Addr} {l : List UInt8} (hn : 77 ≤ n) (hr : Reads w g (some ad) n (bs l)) : w.cell? ⟨ad.block, ad.off + 76, none⟩ = some (.int .u8 (at_ l 76 : Int)) := cell_at (i := 75) (by omega) hr
end Go.Proofs.Ytneanlffllejnaa
