/-
  WHAT IS PROVED: the law RosterBans answers true for all arguments: who was forgotten isn't taken up until its time is over, and is then. No condition beyond those of the given row.
-/
import Derived.Test.YtfchhlibjhblmaaBounds
namespace Go.Proofs.Ytfchhlibjhblmaa
open Go.RowKit Go.Lib Go.Maps

theorem chk_ok {s x t : Int} (h1 : isIdB x = true) (h2 : isTimeB t = true) (h3 : x ≠ s) : chkE s x t = 0 := by unfold chkE; rw [if_pos ⟨h1, h2⟩, if_neg h3]
section
variable {id at_ : Int}
theorem b1 (h1 : isIdB id = true) (h2 : isTimeB at_ = true) (h3 : id ≠ 1) : addE ⟨1, [], [], 0⟩ id at_ = 0 ∧ addR ⟨1, [], [], 0⟩ id at_ = ⟨1, [⟨id, 0, 0, 0, -1⟩], [], 0⟩ := by
  have he : addE ⟨1, [], [], 0⟩ id at_ = 0 := addE_ok (chk_ok h1 h2 h3) rfl rfl (by simp)
  exact ⟨he, by rw [addR_ok he]; rfl⟩
theorem b2 (h1 : isIdB id = true) (h2 : isTimeB at_ = true) (h3 : id ≠ 1) : forE ⟨1, [⟨id, 0, 0, 0, -1⟩], [], 0⟩ id at_ = 0 ∧ forR ⟨1, [⟨id, 0, 0, 0, -1⟩], [], 0⟩ id at_ = ⟨1, [], [⟨id, at_ + 60000⟩], 0⟩ := by
  have he : forE ⟨1, [⟨id, 0, 0, 0, -1⟩], [], 0⟩ id at_ = 0 := forE_ok (chk_ok h1 h2 h3) (by simp [hasL])
  refine ⟨he, ?_⟩
  rw [forR_ok he]
  simp [delL, putB, unB]
theorem b3 (h1 : isIdB id = true) (h2 : isTimeB at_ = true) (h3 : id ≠ 1) : forE ⟨1, [], [⟨id, at_ + 60000⟩], 0⟩ id at_ = 30 ∧ forR ⟨1, [], [⟨id, at_ + 60000⟩], 0⟩ id at_ = ⟨1, [], [⟨id, at_ + 60000⟩], 0⟩ := by
  have he : forE ⟨1, [], [⟨id, at_ + 60000⟩], 0⟩ id at_ = 30 := forE_none (chk_ok h1 h2 h3) rfl
  exact ⟨he, forR_no (by rw [he]; decide)⟩
theorem b4 {la : Int} (h1 : isIdB id = true) (h2 : isTimeB la = true) (h3 : id ≠ 1) (h : la ≤ at_ + 60000) : addE ⟨1, [], [⟨id, at_ + 60000⟩], 0⟩ id la = 34 ∧ addR ⟨1, [], [⟨id, at_ + 60000⟩], 0⟩ id la = ⟨1, [], [⟨id, at_ + 60000⟩], 0⟩ := by
  have he : addE ⟨1, [], [⟨id, at_ + 60000⟩], 0⟩ id la = 34 := addE_ban (chk_ok h1 h2 h3) rfl (by simp [banB, h])
  exact ⟨he, addR_no (by rw [he]; decide)⟩
theorem b5 {la : Int} (h1 : isIdB id = true) (h2 : isTimeB la = true) (h3 : id ≠ 1) (h : at_ + 60000 < la) : addE ⟨1, [], [⟨id, at_ + 60000⟩], 0⟩ id la = 0 ∧ addR ⟨1, [], [⟨id, at_ + 60000⟩], 0⟩ id la = ⟨1, [⟨id, 0, 0, 0, -1⟩], [], 0⟩ := by
  have he : addE ⟨1, [], [⟨id, at_ + 60000⟩], 0⟩ id la = 0 := addE_ok (chk_ok h1 h2 h3) rfl (by simp [banB, h]) (by simp)
  refine ⟨he, ?_⟩
  rw [addR_ok he]
  simp [insL, unB]
end
set_option maxRecDepth 100000 in
set_option maxHeartbeats 4000000 in
theorem bans_in (id at_ la : Int) (W : World) (h1 : 2 ≤ id) (h2 : id ≤ 4294967296) (h3 : 0 ≤ at_) (h4 : at_ ≤ 549755813888) (h5 : at_ ≤ la) (h6 : la ≤ 1099511627776) :
    Calls Try.prog 6 #[.int .i64 id, .int .i64 at_, .int .i64 la] W (Says true W) := by
  have i1 : isIdB id = true := id_in (by omega)
  have i2 : isTimeB at_ = true := time_in (by omega)
  have i3 : isTimeB la = true := time_in (by omega)
  have i4 : id ≠ 1 := by omega
  have B1 := Lib.hid (b1 i1 i2 i4)
  have B2 := Lib.hid (b2 i1 i2 i4)
  have B3 := Lib.hid (b3 i1 i2 i4)
  have HX := Lib.hid (id_int i1)
  by_cases hl : la ≤ at_ + 60000
  · have B4 := Lib.hid (b4 (at_ := at_) i1 i3 i4 hl)
    have N1 : Hid (banB [⟨id, at_ + 60000⟩] id la = true) := Lib.hid (by simp [banB, hl])
    clear i1 i2 i3 i4
    go_enter Try.func6, Try.ntmps6
    go_wp2_with (fail)
    refine (anchor_any _).mono ?_
    rintro e w0 ⟨rfl, hb0⟩
    have HB0 := Lib.hid hb0
    clear hb0
    go_wp2_with (fail)
    refine (new_yes 1 _ id1).mono ?_
    rintro e w1 ⟨g, F, rfl, k1, hb1⟩
    have K1 := Lib.hid (k1.low HB0.out.size)
    have HB1 := Lib.hid (HB0.out.trans (hb1.mono HB0.out.size))
    clear k1 hb1
    go_wp2_with (fail)
    refine (add_any W.heap.size g F ⟨1, [], [], 0⟩ _ K1.out id at_).mono ?_
    rintro e w2 ⟨rfl, F2, k, t, _⟩
    rw [B1.out.1]
    rw [B1.out.2] at k
    have K2 := Lib.hid k
    have HB2 := Lib.hid (K1.out.go HB1.out t)
    clear k t
    go_wp2_with (fail)
    refine (forget_any W.heap.size g F2 ⟨1, [⟨id, 0, 0, 0, -1⟩], [], 0⟩ _ K2.out (by simp) id at_).mono ?_
    rintro e w3 ⟨rfl, F3, k, t, _⟩
    rw [B2.out.1]
    rw [B2.out.2] at k
    have K3 := Lib.hid k
    have HB3 := Lib.hid (K2.out.go HB2.out t)
    clear k t
    go_wp2_with (fail)
    refine (forget_any W.heap.size g F3 ⟨1, [], [⟨id, at_ + 60000⟩], 0⟩ _ K3.out (by simp) id at_).mono ?_
    rintro e w4 ⟨rfl, F4, k, t, _⟩
    rw [B3.out.1]
    rw [B3.out.2] at k
    have K4 := Lib.hid k
    have HB4 := Lib.hid (K3.out.go HB3.out t)
    clear k t
    go_wp2_with (fail)
    refine (add_any W.heap.size g F4 ⟨1, [], [⟨id, at_ + 60000⟩], 0⟩ _ K4.out id la).mono ?_
    rintro e w5 ⟨rfl, F5, k, t, _⟩
    rw [B4.out.1]
    rw [B4.out.2] at k
    have K5 := Lib.hid k
    have HB5 := Lib.hid (K4.out.go HB4.out t)
    clear k t
    go_wp2_with (fail)
    refine (banned_any W.heap.size g F5 ⟨1, [], [⟨id, at_ + 60000⟩], 0⟩ _ K5.out id la HX.out).mono ?_
    rintro e w6 ⟨rfl, rfl⟩
    rw [N1.out]
    go_wp2_with (fail)
    refine (list_any W.heap.size g F5 ⟨1, [], [⟨id, at_ + 60000⟩], 0⟩ _ K5.out).mono ?_
    rintro e w7 ⟨hb7, v7, rfl, ho7⟩
    simp only [List.length_nil] at ho7
    obtain ⟨A7, c7, rfl, hc7, hcm7⟩ := own_form ho7
    have HB7 := Lib.hid (HB5.out.trans (hb7.mono HB5.out.size))
    clear hb7 ho7
    go_wp2
    go_ret
    exact ⟨rfl, HB7.out⟩
  · have hl2 : at_ + 60000 < la := by omega
    have B4 := Lib.hid (b5 (at_ := at_) i1 i3 i4 hl2)
    have N1 : Hid (banB [] id la = false) := Lib.hid rfl
    have N2 : Hid (banB [] id at_ = false) := Lib.hid rfl
    clear i1 i2 i3 i4
    go_enter Try.func6, Try.ntmps6
    go_wp2_with (fail)
    refine (anchor_any _).mono ?_
    rintro e w0 ⟨rfl, hb0⟩
    have HB0 := Lib.hid hb0
    clear hb0
    go_wp2_with (fail)
    refine (new_yes 1 _ id1).mono ?_
    rintro e w1 ⟨g, F, rfl, k1, hb1⟩
    have K1 := Lib.hid (k1.low HB0.out.size)
    have HB1 := Lib.hid (HB0.out.trans (hb1.mono HB0.out.size))
    clear k1 hb1
    go_wp2_with (fail)
    refine (add_any W.heap.size g F ⟨1, [], [], 0⟩ _ K1.out id at_).mono ?_
    rintro e w2 ⟨rfl, F2, k, t, _⟩
    rw [B1.out.1]
    rw [B1.out.2] at k
    have K2 := Lib.hid k
    have HB2 := Lib.hid (K1.out.go HB1.out t)
    clear k t
    go_wp2_with (fail)
    refine (forget_any W.heap.size g F2 ⟨1, [⟨id, 0, 0, 0, -1⟩], [], 0⟩ _ K2.out (by simp) id at_).mono ?_
    rintro e w3 ⟨rfl, F3, k, t, _⟩
    rw [B2.out.1]
    rw [B2.out.2] at k
    have K3 := Lib.hid k
    have HB3 := Lib.hid (K2.out.go HB2.out t)
    clear k t
    go_wp2_with (fail)
    refine (forget_any W.heap.size g F3 ⟨1, [], [⟨id, at_ + 60000⟩], 0⟩ _ K3.out (by simp) id at_).mono ?_
    rintro e w4 ⟨rfl, F4, k, t, _⟩
    rw [B3.out.1]
    rw [B3.out.2] at k
    have K4 := Lib.hid k
    have HB4 := Lib.hid (K3.out.go HB3.out t)
    clear k t
    go_wp2_with (fail)
    refine (add_any W.heap.size g F4 ⟨1, [], [⟨id, at_ + 60000⟩], 0⟩ _ K4.out id la).mono ?_
    rintro e w5 ⟨rfl, F5, k, t, _⟩
    rw [B4.out.1]
    rw [B4.out.2] at k
    have K5 := Lib.hid k
    have HB5 := Lib.hid (K4.out.go HB4.out t)
    clear k t
    go_wp2_with (fail)
    refine (banned_any W.heap.size g F5 ⟨1, [⟨id, 0, 0, 0, -1⟩], [], 0⟩ _ K5.out id la HX.out).mono ?_
    rintro e w6 ⟨rfl, rfl⟩
    rw [N1.out]
    go_wp2_with (fail)
    refine (banned_any W.heap.size g F5 ⟨1, [⟨id, 0, 0, 0, -1⟩], [], 0⟩ _ K5.out id at_ HX.out).mono ?_
    rintro e w6 ⟨rfl, rfl⟩
    rw [N2.out]
    go_wp2_with (fail)
    refine (list_any W.heap.size g F5 ⟨1, [⟨id, 0, 0, 0, -1⟩], [], 0⟩ _ K5.out).mono ?_
    rintro e w7 ⟨hb7, v7, rfl, ho7⟩
    simp only [List.length_nil, List.length_cons] at ho7
    obtain ⟨A7, c7, rfl, hc7, hcm7⟩ := own_form ho7
    have HB7 := Lib.hid (HB5.out.trans (hb7.mono HB5.out.size))
    clear hb7 ho7
    go_wp2
    go_ret
    exact ⟨rfl, HB7.out⟩
set_option maxRecDepth 100000 in
set_option maxHeartbeats 4000000 in
theorem bans_out (id at_ la : Int) (W : World) (h : id < 2 ∨ (2 ≤ id ∧ 4294967296 < id) ∨ (2 ≤ id ∧ id ≤ 4294967296 ∧ at_ < 0) ∨ (2 ≤ id ∧ id ≤ 4294967296 ∧ 0 ≤ at_ ∧ 549755813888 < at_) ∨ (2 ≤ id ∧ id ≤ 4294967296 ∧ 0 ≤ at_ ∧ at_ ≤ 549755813888 ∧ la < at_) ∨ (2 ≤ id ∧ id ≤ 4294967296 ∧ 0 ≤ at_ ∧ at_ ≤ 549755813888 ∧ at_ ≤ la ∧ 1099511627776 < la)) :
    Calls Try.prog 6 #[.int .i64 id, .int .i64 at_, .int .i64 la] W (Says true W) := by
  rcases h with h | ⟨h1, h⟩ | ⟨h1, h2, h⟩ | ⟨h1, h2, h3, h⟩ | ⟨h1, h2, h3, h4, h⟩ | ⟨h1, h2, h3, h4, h5, h⟩
  all_goals
    go_enter Try.func6, Try.ntmps6
    go_wp2_with (fail)
    refine (anchor_any _).mono ?_
    rintro e w0 ⟨rfl, hb0⟩
    have HB0 := Lib.hid hb0
    clear hb0
    go_wp2_with (fail)
    refine (new_yes 1 _ id1).mono ?_
    rintro e w1 ⟨g, F, rfl, k1, hb1⟩
    have K1 := Lib.hid (k1.low HB0.out.size)
    have HB1 := Lib.hid (HB0.out.trans (hb1.mono HB0.out.size))
    clear k1 hb1
    go_wp2
    go_ret
    exact ⟨rfl, HB1.out⟩
theorem bans_any (id at_ la : Int) (W : World) : Calls Try.prog 6 #[.int .i64 id, .int .i64 at_, .int .i64 la] W (Says true W) := by
  by_cases h : 2 ≤ id ∧ id ≤ 4294967296 ∧ 0 ≤ at_ ∧ at_ ≤ 549755813888 ∧ at_ ≤ la ∧ la ≤ 1099511627776
  · exact bans_in id at_ la W h.1 h.2.1 h.2.2.1 h.2.2.2.1 h.2.2.2.2.1 h.2.2.2.2.2
  · exact bans_out id at_ la W (by omega)
end Go.Proofs.Ytfchhlibjhblmaa
