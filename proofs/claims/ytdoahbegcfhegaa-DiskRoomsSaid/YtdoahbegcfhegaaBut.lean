/-
  WHAT IS PROVED: contract of the function that counts the bytes of all files but one. Condition: the files' number and sizes.
-/
import Derived.Test.YtdoahbegcfhegaaDisk
namespace Go.Proofs.Ytdoahbegcfhegaa
open Go.RowKit Go.Lib Go.Maps

abbrev Ra (w : World) (b r n : Nat) (D : Dm) (left : Lit → Bool) (cnt : Nat) : Prop := w.ranges Try.prog 9 fiElem b r n D left cnt
abbrev struck (left : Lit → Bool) (x : List UInt8) : Lit → Bool := fun z => left z && !z.sameKey (kl x)
/-- has the file come, and is it another one? -/
def dn (x : List UInt8) (left : Lit → Bool) (f : Fl) : Bool := !decide (f.name = x) && !left (kl f.name)
/-- the bytes of the files that have come, but for one -/
def doneS (l : List Fl) (x : List UInt8) (left : Lit → Bool) : Nat := sumF (l.filter (dn x left))
theorem sumF_cons (f : Fl) (l : List Fl) : sumF (f :: l) = f.b.length + sumF l := rfl
theorem sumF_le : ∀ {l : List Fl}, (∀ f ∈ l, f.b.length ≤ 100000) → sumF l ≤ l.length * 100000
  | [], _ => by simp [sumF]
  | f :: l, h => by
    have h1 := h f List.mem_cons_self
    have h2 := sumF_le (l := l) (fun g hg => h g (List.mem_cons_of_mem _ hg))
    rw [sumF_cons, List.length_cons]
    omega
theorem done_start {l : List Fl} {x : List UInt8} {left : Lit → Bool} (h : ∀ f ∈ l, left (kl f.name) = true) : doneS l x left = 0 := by
  unfold doneS
  rw [show l.filter (dn x left) = [] from List.filter_eq_nil_iff.2 fun f hf => by simp [dn, h f hf]]
  rfl
theorem done_end {l : List Fl} {x : List UInt8} {left : Lit → Bool} (h : ∀ z, left z = false) : doneS l x left = butF l x := by
  unfold doneS butF delF
  congr 1
  refine List.filter_congr fun f _ => ?_
  simp [dn, h]
theorem same_kl (x y : List UInt8) : (kl x).sameKey (kl y) = decide (x = y) := by
  by_cases h : x = y
  · subst h; rw [WideAt.sameKey_self (kl_key _)]; simp
  · rw [sameKey_ne (fun e => h (kl_inj e))]; simp [h]
theorem dn_other {x : List UInt8} {left : Lit → Bool} {f h : Fl} (hne : h.name ≠ f.name) : dn x (struck left f.name) h = dn x left h := by
  unfold dn struck; rw [same_kl]; simp [hne]
theorem dn_self {x : List UInt8} {left : Lit → Bool} {f : Fl} : dn x (struck left f.name) f = !decide (f.name = x) := by
  unfold dn struck; rw [same_kl]; simp
theorem done_step : ∀ {l : List Fl} {x : List UInt8} {left : Lit → Bool} {f : Fl}, Good l → f ∈ l → left (kl f.name) = true → doneS l x (struck left f.name) = doneS l x left + (if f.name = x then 0 else f.b.length) := by
  intro l x left f hu hf hl
  have hn := hu.nodup
  clear hu
  induction l with
  | nil => cases hf
  | cons g l ih =>
    rw [List.map_cons, List.nodup_cons] at hn
    rcases List.mem_cons.1 hf with rfl | hf'
    · have hsame : l.filter (dn x (struck left f.name)) = l.filter (dn x left) := by
        refine List.filter_congr fun h hh => ?_
        exact dn_other (fun e => hn.1 (List.mem_map.2 ⟨h, hh, e⟩))
      have h0 : dn x left f = false := by unfold dn; rw [hl]; simp
      unfold doneS
      rw [List.filter_cons, List.filter_cons, hsame, dn_self, h0]
      by_cases e : f.name = x
      · simp [e]
      · simp [e, sumF_cons]; omega
    · have hne : g.name ≠ f.name := fun e => hn.1 (List.mem_map.2 ⟨f, hf', e.symm⟩)
      have h := ih hf' hn.2
      unfold doneS at h ⊢
      rw [List.filter_cons, List.filter_cons, dn_other hne]
      cases dn x left g
      · simpa using h
      · simp only [if_true, sumF_cons, h]; omega
theorem done_le (l : List Fl) (x : List UInt8) (left : Lit → Bool) : doneS l x left ≤ sumF l := by
  unfold doneS
  induction l with
  | nil => exact Nat.le_refl _
  | cons f l ih =>
    rw [List.filter_cons, sumF_cons]
    cases dn x left f
    · simp; omega
    · simp [sumF_cons]; omega

theorem keyOf_inv {v : Value} {l : Lit} (h : keyOf Try.prog 9 v = some l) : ∃ x : List UInt8, x.length ≤ maxLen ∧ v = .string (str x) ∧ l = kl x := by
  obtain ⟨s, rfl, rfl, hs⟩ := Go.WideMaps.string_of_keyOf Try.underlying9 h
  exact ⟨s.data.toList, by rw [Array.length_toList]; exact hs, by rw [← str_data], rfl⟩
section
variable (w : World) {ops : Array Oper} {rest : List Oper} {o : Oper} {a : Act} {Q : Exit → Act → World → Prop}
/-- a step of the range: one of the files comes, or none is left -/
theorem wpList_next_files (hg : o.guard = none) (it : Operand) (hop : o.op = Op.next it false) (b r n : Nat) (D : Dm) (left : Lit → Bool) (cnt : Nat) (l : List Fl) (W : World) (F : Nat → Prop) (hag : Agr W F D l)
    (hit : a.eval it = .pointer (some ⟨r, 0, none⟩)) (h : Ra w b r n D left cnt)
    (hDone : (∀ kl, left kl = false) → wpList Try.prog ops Q rest (a.put o.dst (.tuple #[.bool false])) w)
    (hMore : ∀ (f : Fl) (A : Option Addr) (m c : Nat) (w' : World) (cnt' : Nat), f ∈ l → f.b.length = m → left (kl f.name) = true → Ra w' b r n D (struck left f.name) cnt' → cnt' < cnt → w.grownBy w' (some r) → w'.heap.size = w.heap.size →
      (Instr.entry (.pointer (some ⟨r, 0, none⟩))).run Try.prog w' = .ok (.tuple #[.string (str f.name), .agg #[.slice A m c, .bool f.safe]]) w' → wpList Try.prog ops Q rest (a.put o.dst (.tuple #[.bool true, .string (str f.name), .agg #[.slice A m c, .bool f.safe]])) w') :
    wpList Try.prog ops Q (o :: rest) a w := by
  refine wpList_next_ranges w hg it hop 9 keyed _ (fun x : List UInt8 => Value.string (str x)) (fun v : Value => v) (fun key kl hkey => ?_) (fun v y hv => ⟨v, rfl⟩) b r n D left cnt hit h (fun _ => hDone) ?_
  · obtain ⟨x, _, e, _⟩ := keyOf_inv hkey
    exact ⟨x, e⟩
  · intro x c k y w' cnt' hkey hlk hv hat hrg hlt hgr hsz hen
    obtain ⟨x', _, e, rfl⟩ := keyOf_inv hkey
    obtain rfl : x = x' := by
      injection e with e
      have := congrArg (fun s => s.data.toList) e
      simpa [str] using this
    have hh := has_true_of_atKey hat
    rw [hag.has_] at hh
    obtain ⟨f, hf, rfl⟩ := hasF_iff.1 hh
    obtain ⟨v, h1, A, m, c', rfl, hm, _⟩ := hag.at_ f hf
    have h2 := hat (.lit (.bool false))
    rw [h1] at h2
    unfold fiElem at hv
    injection hv with hv
    rw [← hv] at h2
    injection h2 with h2
    subst h2
    exact hMore f A m c' w' cnt' hf hm hlk hrg hlt hgr hsz hen
end

set_option maxRecDepth 100000 in
set_option maxHeartbeats 4000000 in
theorem but_any (d g : Nat) (S : Ds) (x : List UInt8) (w : World) (h : Dk w d g S) (hl : S.fs.length ≤ 1000000) :
    Calls Try.prog 20 #[.pointer (some ⟨d, 0, none⟩), .string (str x)] w fun e w' => e = .returned (.int .i64 (butF S.fs x : Int)) ∧ Below w.heap.size w w' := by
  obtain ⟨c0, _, _, _⟩ := h.cells
  have HG := Lib.hid h.good
  obtain ⟨D, hown, hag⟩ := h.map
  have HAG := Lib.hid hag
  obtain ⟨l, hle⟩ : ∃ l, S.fs = l := ⟨_, rfl⟩
  have hlt := h.lt.2
  rw [hle] at HG HAG hl hown ⊢
  have HSM : Hid (sumF l ≤ 100000000000) := by
    show _ ≤ _
    have := sumF_le (fun f hf => (HG.out.small f hf).2)
    have h2 : l.length * 100000 ≤ 1000000 * 100000 := Nat.mul_le_mul_right _ hl
    omega
  clear hag h hle
  go_enter Try.func20, Try.ntmps20
  go_wp2_with (at_range; refine wpList_range_own _ rfl _ 47 rfl 9 53 keyed Try.underlying47 _ g _ D rfl hown ?_; intro w0 hrg0 hg0 hs0)
  go_frame
  have HRG0 := Lib.hid hrg0
  have HB0 : Hid (Below w.heap.size w w0) := Lib.hid (below_of_only (hg0.but (some w.heap.size)) (Nat.le_refl _) (Nat.le_refl _))
  clear hrg0 hg0 hs0 hown
  go_loopw [5] (fun va wr => ∃ (left : Lit → Bool) (cnt s : Nat), va = .int .i64 (s : Int) ∧ Ra wr g w.heap.size l.length D left cnt ∧ s = doneS l x left ∧ Below w.heap.size w wr) (fun _ wr => wr.rangeLeft g w.heap.size)
  case atStart => exact ⟨_, _, 0, rfl, HRG0.out, (done_start fun f hf => by rw [HAG.out.has_]; exact hasF_iff.2 ⟨f, hf, rfl⟩).symm, HB0.out⟩
  case round =>
    obtain ⟨left, cnt, s, rfl, hrg, hs, hb⟩ := hrel
    have HRG := Lib.hid hrg
    have HS := Lib.hid hs
    have HB := Lib.hid hb
    clear hrg hs hb
    go_wp2_with (at_next; refine wpList_next_files _ rfl _ rfl g w.heap.size l.length _ _ _ l w _ HAG.out rfl HRG.out ?_ ?_)
    · intro hl0
      have HE := Lib.hid (HS.out.trans (done_end hl0))
      clear hl0
      go_wp2
      go_ret
      exact ⟨by rw [HE.out]; rfl, HB.out⟩
    · intro f A m c w1 cnt1 hfl hm hlr hrg1 hlt hg1 hs1 hen
      have HM := Lib.hid hm
      have HST := Lib.hid (done_step (x := x) HG.out hfl hlr)
      have HLE := Lib.hid (done_le l x (struck left f.name))
      have HRG1 := Lib.hid (hrg1.alloc (.cells #[.slice A m c, .bool f.safe] 53))
      have HLT := Lib.hid hlt
      have HB1 := Lib.hid (((HB.out.grown hg1 HB.out.size (fun j e => by cases e; exact Nat.le_refl _)).alloc (by have := HB.out.size; omega) (.cells #[.slice A m c, .bool f.safe] 53)))
      clear hfl hlr hrg1 hlt hg1 hs1 hm
      by_cases e : f.name = x
      · go_wp2
        go_roundw
        case rel => exact ⟨_, cnt1, s, rfl, HRG1.out, by rw [HST.out, if_pos e, HS.out]; rfl, HB1.out⟩
        case measure => rw [HRG1.out.left_eq, HRG.out.left_eq]; exact HLT.out
      · have ht : ((str f.name).toList == (str x).toList) = false := by rw [str_toList, str_toList]; simpa using e
        have hw : IntKind.i64.wrap ((s : Int) + (m : Int)) = ((s + m : Nat) : Int) := by
          have h1 := HST.out
          rw [if_neg e, HM.out, ← HS.out] at h1
          have h2 := HLE.out
          have h3 := HSM.out
          rw [IntKind.wrap_i64]
          omega
        go_wp2
        go_roundw
        case rel => exact ⟨_, cnt1, s + m, by simp, HRG1.out, by rw [HST.out, if_neg e, HM.out, HS.out], HB1.out⟩
        case measure => rw [HRG1.out.left_eq, HRG.out.left_eq]; exact HLT.out
end Go.Proofs.Ytdoahbegcfhegaa
