/-
  WHAT IS PROVED: the laws' common anchor (the document's example) answers true; nothing that was there has turned. No condition.
-/
import Derived.Test.YtneanlffllejnaaEncode
import Derived.Test.YtneanlffllejnaaDecode
namespace Go.Proofs.Ytneanlffllejnaa
open Go.RowKit Go.Lib

def p0 : Pk := ⟨6, 1, 5, 0, 0, 0, 0, 0, 0, 0, []⟩
theorem p0_ok : okP p0 = true := by decide
theorem p0_sets : p0.sets := ⟨⟨by decide, by decide⟩, ⟨by decide, by decide⟩⟩
theorem p0_dec : dec (enc p0) = (p0, 0) := enc_dec p0 p0_ok p0_sets
theorem p0_len : (enc p0).length = 79 := by rw [enc_len]; rfl
theorem cell_of {w : World} {g n : Nat} {ad : Addr} {l : List UInt8} (i v : Nat) (hi : i + 1 < n) (hr : Reads w g (some ad) n (bs l)) (hv : at_ l (i + 1) = v) : w.cell? ⟨ad.block, ad.off + (i + 1), none⟩ = some (.int .u8 (v : Int)) := by rw [← hv]; exact cell_at hi hr
theorem cell_0 {w : World} {g n : Nat} {ad : Addr} {l : List UInt8} (v : Nat) (hn : 0 < n) (hr : Reads w g (some ad) n (bs l)) (hv : at_ l 0 = v) : w.cell? ad = some (.int .u8 (v : Int)) := by
  obtain ⟨_, e, h⟩ := byte_cell hn hr
  cases e
  rw [← hv]
  exact h

set_option maxRecDepth 100000 in
set_option maxHeartbeats 1000000 in
theorem anchor_any (w : World) : Calls Try.prog 10 #[] w (Says true w) := by
  go_enter Try.func10, Try.ntmps10
  go_wp2_with (fail)
  refine (encode_yes p0 none 0 0 w rfl (EsAt.nil_ _ _) p0_ok p0_sets).mono ?_
  rintro e w1 ⟨v, rfl, ho, hb1⟩
  have h79 := p0_len
  obtain ⟨A1, c1, rfl, hc1, hcm1, hr1⟩ := ho.reads
  rw [h79] at hr1 hc1 ⊢
  obtain ⟨ad, rfl, _⟩ := (hr1 _ (Nat.le_refl _)).2 (by omega)
  go_wp2_with (fail)
  refine (decode_any (some ad) 79 c1 (enc p0) w1 h79 hc1 hcm1 (by omega) (hr1 _ (Nat.le_refl _))).mono ?_
  rintro e w2 ⟨v2, rfl, hown2, hb2⟩
  rw [p0_dec] at hown2 ⊢
  have hr2 := (hr1 _ (Nat.le_refl _)).below hb2
  have hr3 : ∀ o, Reads (w2.alloc o) w1.heap.size (some ad) 79 (bs (enc p0)) := fun o => hr2.below ((Below.refl _ _).alloc (Nat.le_refl _) _)
  have d0 := fun o => cell_0 71 (by omega) (hr3 o) rfl
  have d3 := fun o => cell_of 2 6 (by omega) (hr3 o) rfl
  have d11 := fun o => cell_of 10 1 (by omega) (hr3 o) rfl
  have d19 := fun o => cell_of 18 5 (by omega) (hr3 o) rfl
  have hB := hb1.trans (hb2.mono hb1.size)
  obtain ⟨A2, c2, rfl, _, _, _⟩ := own_reps hown2
  simp only [p0, vP]
  clear hr1 hr2 hr3 hown2 ho
  go_wp2
  go_ret
  exact ⟨rfl, hB.alloc hB.size _⟩
end Go.Proofs.Ytneanlffllejnaa
