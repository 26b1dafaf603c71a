/-
  WHAT IS PROVED: plain facts on packets and their bytes: the bytes of a right packet are read as it, and what is read is written as the same bytes; bytes that are cut off, or have others behind, or a bit turned, are no packet's. No condition.
-/
import Derived.Test.YtneanlffllejnaaTurn
namespace Go.Proofs.Ytneanlffllejnaa

/-- an entry -/
structure En where
  id : Int
  st : Int
deriving DecidableEq
/-- a packet -/
structure Pk where
  kind : Int
  frm : Int
  ep : Int
  cf : Int
  ma : Int
  sl : Int
  off : Int
  ab : Int
  ac : Int
  as_ : Int
  sec : List En
deriving DecidableEq

def isId (n : Int) : Bool := decide (1 ≤ n ∧ n ≤ 4294967296)
def isIn (n m : Int) : Bool := decide (0 ≤ n ∧ n ≤ m)
def isKd (n : Int) : Bool := decide (1 ≤ n ∧ n ≤ 7)
/-- the entries are right behind those whose ids are told -/
def okEs (told : List Int) : List En → Bool
  | [] => true
  | e :: es => isId e.id && isIn e.st 2 && !told.contains e.id && okEs (told ++ [e.id]) es
def okSec (p : Pk) : Bool := decide (p.sec.length ≤ 3) && (decide (p.sec.length = 0) || decide (p.kind ≤ 3)) && okEs [p.frm] p.sec
def okMa (p : Pk) : Bool := decide (p.ma = 0) || (isId p.ma && decide (p.ma ≠ p.frm) && decide (p.sl = 0))
def okAb (p : Pk) : Bool :=
  if p.kind = 5 then isId p.ab && isIn p.ac 281474976710656
  else if p.kind = 4 then isId p.ab && decide (p.ac = 0) && decide (p.as_ = 0)
  else decide (p.ab = 0) && decide (p.ac = 0) && decide (p.as_ = 0)
/-- a packet is right -/
def okP (p : Pk) : Bool :=
  isKd p.kind && isId p.frm && isIn p.ep 281474976710656 && isIn p.cf p.ep && okMa p && isIn p.off 281474976710656 && okAb p && okSec p

/-! ### bytes -/
def b8 (n : Nat) : UInt8 := UInt8.ofNat n
theorem b8_nat (n : Nat) : (b8 n).toNat = n % 256 := by unfold b8; rw [UInt8.toNat_ofNat']
theorem b8_of (c : UInt8) : b8 c.toNat = c := by apply UInt8.toNat_inj.1; rw [b8_nat]; have := UInt8.toNat_lt c; omega
def eight (n : Nat) : List UInt8 := [b8 (n / 72057594037927936), b8 (n / 281474976710656), b8 (n / 1099511627776), b8 (n / 4294967296), b8 (n / 16777216), b8 (n / 65536), b8 (n / 256), b8 n]
def num (l : List UInt8) : Nat := l.foldl (fun n c => n * 256 + c.toNat) 0
theorem num_snoc (l : List UInt8) (c : UInt8) : num (l ++ [c]) = num l * 256 + c.toNat := by simp [num]
theorem num_eight (n : Nat) (h : n < 18446744073709551616) : num (eight n) = n := by
  simp only [num, eight, List.foldl_cons, List.foldl_nil, b8_nat]
  omega
theorem num_from (l : List UInt8) : ∀ s : Nat, l.foldl (fun n c => n * 256 + c.toNat) s < (s + 1) * 256 ^ l.length := by
  induction l with
  | nil => intro s; simp
  | cons c l ih =>
    intro s
    have h := ih (s * 256 + c.toNat)
    have hc := UInt8.toNat_lt c
    rw [List.foldl_cons, List.length_cons, Nat.pow_succ]
    refine Nat.lt_of_lt_of_le h ?_
    rw [show (s + 1) * (256 ^ l.length * 256) = (s * 256 + 256) * 256 ^ l.length by rw [Nat.mul_comm (256 ^ l.length) 256, ← Nat.mul_assoc, Nat.add_mul, Nat.one_mul]]
    exact Nat.mul_le_mul_right _ (by omega)
theorem num_lt (l : List UInt8) : num l < 256 ^ l.length := by have := num_from l 0; simpa [num] using this
theorem eight_num (l : List UInt8) (h : l.length = 8) : eight (num l) = l := by
  match l, h with
  | [a, b, c, d, e, f, g, k], _ =>
    have ha := UInt8.toNat_lt a
    have hb := UInt8.toNat_lt b
    have hc := UInt8.toNat_lt c
    have hd := UInt8.toNat_lt d
    have he := UInt8.toNat_lt e
    have hf := UInt8.toNat_lt f
    have hg := UInt8.toNat_lt g
    have hk := UInt8.toNat_lt k
    simp only [num, eight, List.foldl_cons, List.foldl_nil, List.cons.injEq, and_true]
    refine ⟨?_, ?_, ?_, ?_, ?_, ?_, ?_, ?_⟩ <;> (apply UInt8.toNat_inj.1; rw [b8_nat]; omega)
theorem eight_len (n : Nat) : (eight n).length = 8 := rfl

/-! ### a packet's bytes -/
def nums (p : Pk) : List Nat := [p.frm.toNat, p.ep.toNat, p.cf.toNat, p.ma.toNat, p.sl.toNat, p.off.toNat, p.ab.toNat, p.ac.toNat, p.as_.toNat]
def encE (e : En) : List UInt8 := eight e.id.toNat ++ [b8 e.st.toNat]
def encH (p : Pk) : List UInt8 := [71, 86, 1, b8 p.kind.toNat] ++ (nums p).flatMap eight ++ [b8 p.sec.length]
def encB (p : Pk) : List UInt8 := encH p ++ p.sec.flatMap encE
def two (s : Nat) : List UInt8 := [b8 (s / 256), b8 s]
def enc (p : Pk) : List UInt8 := encB p ++ two (crc 0 (encB p))
theorem secs_len : ∀ l : List En, (l.flatMap encE).length = l.length * 9
  | [] => rfl
  | e :: l => by have := secs_len l; simp [encE, eight_len] at this ⊢; omega
theorem encH_len (p : Pk) : (encH p).length = 77 := rfl
theorem encB_len (p : Pk) : (encB p).length = 77 + p.sec.length * 9 := by rw [encB, List.length_append, secs_len, encH_len]
theorem enc_len (p : Pk) : (enc p).length = 79 + p.sec.length * 9 := by rw [enc, List.length_append, encB_len]; simp [two]; omega

/-! ### reading -/
def at_ (l : List UInt8) (i : Nat) : Nat := (l[i]?.getD 0).toNat
def numAt (l : List UInt8) (i : Nat) : Nat := num ((l.drop i).take 8)
/-- a number of 64 bits, as an int -/
def toI (n : Nat) : Int := if n < 9223372036854775808 then (n : Int) else (n : Int) - 18446744073709551616
def entAt (l : List UInt8) (i : Nat) : En := ⟨toI (numAt l (77 + 9 * i)), at_ l (85 + 9 * i)⟩
def pkt0 (l : List UInt8) : Pk := ⟨at_ l 3, toI (numAt l 4), toI (numAt l 12), toI (numAt l 20), toI (numAt l 28), numAt l 36, toI (numAt l 44), toI (numAt l 52), toI (numAt l 60), numAt l 68, []⟩
def pkt (l : List UInt8) : Pk := { pkt0 l with sec := (List.range (at_ l 76)).map (entAt l) }
def zeroP : Pk := ⟨0, 0, 0, 0, 0, 0, 0, 0, 0, 0, []⟩
/-- what is wrong with bytes, whatever their numbers say -/
def chk (l : List UInt8) : Int :=
  if l.length < 4 then 11
  else if ¬ (at_ l 0 = 71 ∧ at_ l 1 = 86) then 10
  else if ¬ (at_ l 2 = 1 ∧ 1 ≤ at_ l 3 ∧ at_ l 3 ≤ 7) then 13
  else if l.length < 77 then 11
  else if 3 < at_ l 76 then 12
  else if l.length < 79 + 9 * at_ l 76 then 11
  else if 79 + 9 * at_ l 76 < l.length then 10
  else if l.drop (77 + 9 * at_ l 76) = two (crc 0 (l.take (77 + 9 * at_ l 76))) then 0
  else 14
def dec (l : List UInt8) : Pk × Int := if chk l ≠ 0 then (zeroP, chk l) else if okP (pkt l) then (pkt l, 0) else (zeroP, 10)

theorem chk_zero {l : List UInt8} (h : chk l = 0) : at_ l 0 = 71 ∧ at_ l 1 = 86 ∧ at_ l 2 = 1 ∧ 1 ≤ at_ l 3 ∧ at_ l 3 ≤ 7 ∧ at_ l 76 ≤ 3 ∧ l.length = 79 + 9 * at_ l 76 ∧ l.drop (77 + 9 * at_ l 76) = two (crc 0 (l.take (77 + 9 * at_ l 76))) := by
  unfold chk at h
  repeat' split at h
  all_goals first | (exfalso; omega) | skip
  rename_i h1 h2 h3 h4 h5 h6 h7 h8
  have h2' := Classical.not_not.1 h2
  have h3' := Classical.not_not.1 h3
  exact ⟨h2'.1, h2'.2, h3'.1, h3'.2.1, h3'.2.2, by omega, by omega, h8⟩
theorem chk_of {l : List UInt8} (h0 : at_ l 0 = 71) (h1 : at_ l 1 = 86) (h2 : at_ l 2 = 1) (h3 : 1 ≤ at_ l 3) (h4 : at_ l 3 ≤ 7) (h5 : at_ l 76 ≤ 3) (hl : l.length = 79 + 9 * at_ l 76) (hd : l.drop (77 + 9 * at_ l 76) = two (crc 0 (l.take (77 + 9 * at_ l 76)))) : chk l = 0 := by
  unfold chk
  rw [if_neg (by omega), if_neg (by omega), if_neg (by omega), if_neg (by omega), if_neg (by omega), if_neg (by omega), if_neg (by omega), if_pos hd]

theorem toI_nat {n : Nat} (h : n < 9223372036854775808) : toI n = n := by unfold toI; rw [if_pos h]
theorem toI_pos {n : Nat} (h : 0 ≤ toI n) (hn : n < 18446744073709551616) : n < 9223372036854775808 ∧ toI n = n := by
  unfold toI at h ⊢
  by_cases e : n < 9223372036854775808
  · rw [if_pos e]; exact ⟨e, rfl⟩
  · rw [if_neg e] at h; omega

theorem okEs_mem : ∀ {told : List Int} {l : List En}, okEs told l = true → ∀ e ∈ l, 1 ≤ e.id ∧ e.id ≤ 4294967296 ∧ 0 ≤ e.st ∧ e.st ≤ 2
  | told, x :: l, h, e, he => by
    simp only [okEs, Bool.and_eq_true, isId, isIn, decide_eq_true_eq] at h
    rcases List.mem_cons.1 he with rfl | he
    · exact ⟨h.1.1.1.1, h.1.1.1.2, h.1.1.2.1, h.1.1.2.2⟩
    · exact okEs_mem h.2 e he

/-- what a right packet's numbers are -/
theorem ok_parts {p : Pk} (h : okP p = true) : (1 ≤ p.kind ∧ p.kind ≤ 7) ∧ (1 ≤ p.frm ∧ p.frm ≤ 4294967296) ∧ (0 ≤ p.ep ∧ p.ep ≤ 281474976710656) ∧ (0 ≤ p.cf ∧ p.cf ≤ 281474976710656) ∧ (0 ≤ p.ma ∧ p.ma ≤ 4294967296) ∧
    (0 ≤ p.off ∧ p.off ≤ 281474976710656) ∧ (0 ≤ p.ab ∧ p.ab ≤ 4294967296) ∧ (0 ≤ p.ac ∧ p.ac ≤ 281474976710656) ∧ p.sec.length ≤ 3 ∧ ∀ e ∈ p.sec, 1 ≤ e.id ∧ e.id ≤ 4294967296 ∧ 0 ≤ e.st ∧ e.st ≤ 2 := by
  simp only [okP, isKd, isId, isIn, okMa, okAb, okSec, Bool.and_eq_true, Bool.or_eq_true, decide_eq_true_eq] at h
  obtain ⟨⟨⟨⟨⟨⟨⟨hk, hf⟩, he⟩, hc⟩, hm⟩, ho⟩, ha⟩, hs⟩ := h
  refine ⟨hk, hf, he, ⟨hc.1, by omega⟩, by omega, ho, ?_, ?_, hs.1.1, okEs_mem hs.2⟩
  · split at ha
    · simp only [Bool.and_eq_true, decide_eq_true_eq] at ha; omega
    · split at ha <;> simp only [Bool.and_eq_true, decide_eq_true_eq] at ha <;> omega
  · split at ha
    · simp only [Bool.and_eq_true, decide_eq_true_eq] at ha; omega
    · split at ha <;> simp only [Bool.and_eq_true, decide_eq_true_eq] at ha <;> omega

/-- the sets fit -/
def Pk.sets (p : Pk) : Prop := (0 ≤ p.sl ∧ p.sl ≤ 18446744073709551615) ∧ (0 ≤ p.as_ ∧ p.as_ ≤ 18446744073709551615)

theorem toI_toNat {x : Int} (h0 : 0 ≤ x) (h1 : x < 9223372036854775808) : toI x.toNat = x := by rw [toI_nat (by omega)]; omega
theorem enc_pkt (p : Pk) (h : okP p = true) (hs : p.sets) : pkt (enc p) = p := by
  obtain ⟨hk, hf, he, hc, hm, ho, ha, hac, hl, hes⟩ := ok_parts h
  obtain ⟨hs1, hs2⟩ := hs
  have e3 : at_ (enc p) 3 = p.kind.toNat := by show (b8 _).toNat = _; rw [b8_nat]; omega
  have f1 : numAt (enc p) 4 = p.frm.toNat := num_eight _ (by omega)
  have f2 : numAt (enc p) 12 = p.ep.toNat := num_eight _ (by omega)
  have f3 : numAt (enc p) 20 = p.cf.toNat := num_eight _ (by omega)
  have f4 : numAt (enc p) 28 = p.ma.toNat := num_eight _ (by omega)
  have f5 : numAt (enc p) 36 = p.sl.toNat := num_eight _ (by omega)
  have f6 : numAt (enc p) 44 = p.off.toNat := num_eight _ (by omega)
  have f7 : numAt (enc p) 52 = p.ab.toNat := num_eight _ (by omega)
  have f8 : numAt (enc p) 60 = p.ac.toNat := num_eight _ (by omega)
  have f9 : numAt (enc p) 68 = p.as_.toNat := num_eight _ (by omega)
  have e76 : at_ (enc p) 76 = p.sec.length := by show (b8 _).toNat = _; rw [b8_nat]; omega
  have hsec : (List.range (at_ (enc p) 76)).map (entAt (enc p)) = p.sec := by
    rw [e76]
    have one : ∀ x : En, (1 ≤ x.id ∧ x.id ≤ 4294967296 ∧ 0 ≤ x.st ∧ x.st ≤ 2) → (⟨toI (num (eight x.id.toNat)), ((b8 x.st.toNat).toNat : Int)⟩ : En) = x := fun x hx => by
      rw [num_eight _ (by omega), toI_toNat (by omega) (by omega), b8_nat]
      have : ((x.st.toNat % 256 : Nat) : Int) = x.st := by omega
      rw [this]
    match hp : p.sec, hl with
    | [], _ => rfl
    | [a], _ =>
      have ha := hes a (by rw [hp]; simp)
      have e0 : entAt (enc p) 0 = a := by rw [← one a ha]; unfold enc encB; rw [hp]; rfl
      simp [List.range_succ, e0]
    | [a, b], _ =>
      have ha := hes a (by rw [hp]; simp)
      have hb := hes b (by rw [hp]; simp)
      have e0 : entAt (enc p) 0 = a := by rw [← one a ha]; unfold enc encB; rw [hp]; rfl
      have e1 : entAt (enc p) 1 = b := by rw [← one b hb]; unfold enc encB; rw [hp]; rfl
      simp [List.range_succ, e0, e1]
    | [a, b, c], _ =>
      have ha := hes a (by rw [hp]; simp)
      have hb := hes b (by rw [hp]; simp)
      have hc := hes c (by rw [hp]; simp)
      have e0 : entAt (enc p) 0 = a := by rw [← one a ha]; unfold enc encB; rw [hp]; rfl
      have e1 : entAt (enc p) 1 = b := by rw [← one b hb]; unfold enc encB; rw [hp]; rfl
      have e2 : entAt (enc p) 2 = c := by rw [← one c hc]; unfold enc encB; rw [hp]; rfl
      simp [List.range_succ, e0, e1, e2]
  unfold pkt pkt0
  rw [hsec, e3, f1, f2, f3, f4, f5, f6, f7, f8, f9, toI_toNat (by omega) (by omega), toI_toNat (by omega) (by omega), toI_toNat (by omega) (by omega), toI_toNat (by omega) (by omega), toI_toNat (by omega) (by omega), toI_toNat (by omega) (by omega), toI_toNat (by omega) (by omega)]
  rw [Int.toNat_of_nonneg (by omega), Int.toNat_of_nonneg hs1.1, Int.toNat_of_nonneg hs2.1]
theorem enc_chk (p : Pk) (h : okP p = true) : chk (enc p) = 0 := by
  obtain ⟨hk, hf, he, hc, hm, ho, ha, hac, hl, hes⟩ := ok_parts h
  have e3 : at_ (enc p) 3 = p.kind.toNat := by show (b8 _).toNat = _; rw [b8_nat]; omega
  have e76 : at_ (enc p) 76 = p.sec.length := by show (b8 _).toNat = _; rw [b8_nat]; omega
  have hn : 77 + 9 * p.sec.length = (encB p).length := by rw [encB_len]; omega
  refine chk_of rfl rfl rfl (by omega) (by omega) (by omega) (by rw [enc_len, e76]; omega) ?_
  rw [e76, hn]
  unfold enc
  rw [List.drop_left, List.take_left]
theorem enc_dec (p : Pk) (h : okP p = true) (hs : p.sets) : dec (enc p) = (p, 0) := by
  unfold dec
  rw [if_neg (by rw [enc_chk p h]; simp), enc_pkt p h hs, if_pos h]

theorem take_eight (l : List UInt8) (i : Nat) (h : i + 8 ≤ l.length) : l.take (i + 8) = l.take i ++ eight (numAt l i) := by
  unfold numAt
  rw [eight_num _ (by rw [List.length_take, List.length_drop]; omega), List.take_add]
theorem take_one (l : List UInt8) (i : Nat) (h : i < l.length) : l.take (i + 1) = l.take i ++ [b8 (at_ l i)] := by
  have e : b8 (at_ l i) = l[i] := by unfold at_; rw [List.getElem?_eq_getElem h, Option.getD_some, b8_of]
  rw [e, List.take_add_one, List.getElem?_eq_getElem h]; rfl
theorem take_ent (l : List UInt8) (i : Nat) (h : 77 + 9 * i + 9 ≤ l.length) : l.take (77 + 9 * (i + 1)) = l.take (77 + 9 * i) ++ (eight (numAt l (77 + 9 * i)) ++ [b8 (at_ l (85 + 9 * i))]) := by
  rw [show 77 + 9 * (i + 1) = 77 + 9 * i + 8 + 1 by omega, take_one l _ (by omega), take_eight l _ (by omega), show 77 + 9 * i + 8 = 85 + 9 * i by omega, List.append_assoc]
theorem numAt_lt (l : List UInt8) (i : Nat) : numAt l i < 18446744073709551616 := by
  have h := num_lt ((l.drop i).take 8)
  have : 256 ^ ((l.drop i).take 8).length ≤ 256 ^ 8 := Nat.pow_le_pow_right (by omega) (by rw [List.length_take]; omega)
  unfold numAt
  omega
theorem toI_back {n : Nat} (h : 0 ≤ toI n) (hn : n < 18446744073709551616) : (toI n).toNat = n := by
  have := toI_pos h hn
  omega
theorem take_ents (l : List UInt8) (hes : ∀ e ∈ (List.range (at_ l 76)).map (entAt l), 0 ≤ e.id) : ∀ m, m ≤ at_ l 76 → 77 + 9 * m ≤ l.length → l.take (77 + 9 * m) = l.take 77 ++ ((List.range m).map (entAt l)).flatMap encE
  | 0, _, _ => by simp
  | m + 1, hm, hl => by
    have hi : 0 ≤ (entAt l m).id := hes _ (List.mem_map.2 ⟨m, List.mem_range.2 (by omega), rfl⟩)
    have e1 : (entAt l m).id.toNat = numAt l (77 + 9 * m) := toI_back hi (numAt_lt _ _)
    have e2 : encE (entAt l m) = eight (numAt l (77 + 9 * m)) ++ [b8 (at_ l (85 + 9 * m))] := by
      unfold encE
      rw [e1]
      rfl
    rw [take_ent l m (by omega), take_ents l hes m (by omega) (by omega), List.range_succ, List.map_append, List.flatMap_append, List.map_singleton, List.flatMap_singleton, e2, List.append_assoc]
/-- what is read is written as the same bytes -/
theorem dec_enc (l : List UInt8) (h : chk l = 0) (hok : okP (pkt l) = true) : enc (pkt l) = l := by
  obtain ⟨h0, h1, h2, h3, h4, h5, hl, hd⟩ := chk_zero h
  obtain ⟨hk, hf, he, hc, hm, ho, ha, hac, hsl, hes⟩ := ok_parts hok
  have hB : encB (pkt l) = l.take (77 + 9 * at_ l 76) := by
    rw [take_ents l (fun e he => by have := hes e he; omega) _ (Nat.le_refl _) (by omega)]
    unfold encB
    congr 1
    have t4 : l.take 4 = [71, 86, 1, b8 (at_ l 3)] := by
      rw [show 4 = 0 + 1 + 1 + 1 + 1 from rfl, take_one l _ (by omega), take_one l _ (by omega), take_one l _ (by omega), take_one l _ (by omega), h0, h1, h2]
      rfl
    have n1 : (pkt l).frm.toNat = numAt l 4 := toI_back (by have := hf.1; show 0 ≤ (pkt l).frm; omega) (numAt_lt _ _)
    have n2 : (pkt l).ep.toNat = numAt l 12 := toI_back he.1 (numAt_lt _ _)
    have n3 : (pkt l).cf.toNat = numAt l 20 := toI_back hc.1 (numAt_lt _ _)
    have n4 : (pkt l).ma.toNat = numAt l 28 := toI_back hm.1 (numAt_lt _ _)
    have n5 : (pkt l).sl.toNat = numAt l 36 := Int.toNat_natCast _
    have n6 : (pkt l).off.toNat = numAt l 44 := toI_back ho.1 (numAt_lt _ _)
    have n7 : (pkt l).ab.toNat = numAt l 52 := toI_back ha.1 (numAt_lt _ _)
    have n8 : (pkt l).ac.toNat = numAt l 60 := toI_back hac.1 (numAt_lt _ _)
    have n9 : (pkt l).as_.toNat = numAt l 68 := Int.toNat_natCast _
    have nk : (pkt l).kind.toNat = at_ l 3 := Int.toNat_natCast _
    have nl : (pkt l).sec.length = at_ l 76 := by show (List.map _ _).length = _; simp
    unfold encH nums
    rw [n1, n2, n3, n4, n5, n6, n7, n8, n9, nk, nl]
    rw [show 77 = 76 + 1 from rfl, take_one l 76 (by omega), show 76 = 68 + 8 from rfl, take_eight l 68 (by omega), show 68 = 60 + 8 from rfl, take_eight l 60 (by omega), show 60 = 52 + 8 from rfl, take_eight l 52 (by omega),
      show 52 = 44 + 8 from rfl, take_eight l 44 (by omega), show 44 = 36 + 8 from rfl, take_eight l 36 (by omega), show 36 = 28 + 8 from rfl, take_eight l 28 (by omega), show 28 = 20 + 8 from rfl, take_eight l 20 (by omega),
      show 20 = 12 + 8 from rfl, take_eight l 12 (by omega), show 12 = 4 + 8 from rfl, take_eight l 4 (by omega), t4]
    simp [List.append_assoc]
  unfold enc
  rw [hB, ← hd, List.take_append_drop]

theorem dec_ok {l : List UInt8} {p : Pk} (h : dec l = (p, 0)) : chk l = 0 ∧ p = pkt l ∧ okP p = true := by
  unfold dec at h
  split at h
  · rename_i hc
    injection h with _ h2
    exact absurd h2 hc
  · rename_i hc
    split at h
    · rename_i ho
      injection h with h1 _
      subst h1
      exact ⟨Classical.not_not.1 hc, rfl, ho⟩
    · injection h with _ h2
      cases h2
theorem pkt_sets (l : List UInt8) : (pkt l).sets := by
  have h1 := numAt_lt l 36
  have h2 := numAt_lt l 68
  refine ⟨⟨?_, ?_⟩, ⟨?_, ?_⟩⟩
  · show (0 : Int) ≤ (numAt l 36 : Int); omega
  · show (numAt l 36 : Int) ≤ _; omega
  · show (0 : Int) ≤ (numAt l 68 : Int); omega
  · show (numAt l 68 : Int) ≤ _; omega

/-- right packets have the same bytes just if they are the same -/
theorem enc_inj {p q : Pk} (hp : okP p = true) (hq : okP q = true) (sp : p.sets) (sq : q.sets) (h : enc p = enc q) : p = q := by
  have := enc_dec p hp sp
  rw [h, enc_dec q hq sq] at this
  injection this with this _
  exact this.symm

/-! ### bytes that are no packet's -/
theorem at_take {l : List UInt8} {i j : Nat} (h : i < j) : at_ (l.take j) i = at_ l i := by unfold at_; rw [List.getElem?_take, if_pos h]
theorem at_left {l m : List UInt8} {i : Nat} (h : i < l.length) : at_ (l ++ m) i = at_ l i := by unfold at_; rw [List.getElem?_append_left h]
theorem cut_chk {l : List UInt8} (h : chk l = 0) {j : Nat} (hj : j < l.length) : chk (l.take j) = 11 := by
  obtain ⟨h0, h1, h2, h3, h4, h5, hl, hd⟩ := chk_zero h
  have e : (l.take j).length = j := by rw [List.length_take]; omega
  unfold chk
  rw [e]
  by_cases c1 : j < 4
  · rw [if_pos c1]
  · rw [if_neg c1, at_take (by omega), at_take (by omega), at_take (by omega), at_take (by omega), if_neg (by omega), if_neg (by omega)]
    by_cases c2 : j < 77
    · rw [if_pos c2]
    · rw [if_neg c2, at_take (by omega), if_neg (by omega), if_pos (by omega)]
theorem more_chk {l m : List UInt8} (h : chk l = 0) (hm : 0 < m.length) : chk (l ++ m) = 10 := by
  obtain ⟨h0, h1, h2, h3, h4, h5, hl, hd⟩ := chk_zero h
  have e : (l ++ m).length = l.length + m.length := List.length_append
  unfold chk
  rw [e, if_neg (by omega), at_left (by omega), at_left (by omega), at_left (by omega), at_left (by omega), if_neg (by omega), if_neg (by omega), if_neg (by omega), at_left (by omega), if_neg (by omega), if_neg (by omega), if_pos (by omega)]
theorem pow_bit (b : Nat) (hb : b < 8) : (b8 (2 ^ b)).toNat = 128 / 2 ^ (7 - b) := by
  have : ∀ b, b < 8 → (b8 (2 ^ b)).toNat = 128 / 2 ^ (7 - b) := by decide +kernel
  exact this b hb
theorem bit_ne (c : UInt8) (b : Nat) (hb : b < 8) : c ^^^ b8 (2 ^ b) ≠ c := by
  intro e
  have h1 : (c.toNat ^^^ (b8 (2 ^ b)).toNat) = c.toNat := by rw [← UInt8.toNat_xor, e]
  have h2 : c.toNat ^^^ (c.toNat ^^^ (b8 (2 ^ b)).toNat) = 0 := by rw [h1, Nat.xor_self]
  rw [← Nat.xor_assoc, Nat.xor_self, Nat.zero_xor, pow_bit b hb] at h2
  have : ∀ b, b < 8 → 128 / 2 ^ (7 - b) ≠ 0 := by decide +kernel
  exact this b hb h2
theorem turned_crc (l : List UInt8) (j b : Nat) (c : UInt8) (hb : b < 8) (hc : l[j]? = some c) : crc 0 (l.set j (c ^^^ b8 (2 ^ b))) ≠ crc 0 l := by
  have h := crc_turn l l.length j (7 - b) (b8 (2 ^ b)) c rfl (by omega) (pow_bit b hb) hc
  rw [h]
  intro e
  have h2 : crc 0 l ^^^ (crc 0 l ^^^ stN (8 * l.length - (8 * j + (7 - b))) 32768) = 0 := by rw [e, Nat.xor_self]
  rw [← Nat.xor_assoc, Nat.xor_self, Nat.zero_xor] at h2
  exact stN_ne _ 32768 (by omega) (by omega) h2
theorem two_inj {a b : Nat} (ha : a < 65536) (hb : b < 65536) (h : two a = two b) : a = b := by
  simp only [two, List.cons.injEq, and_true] at h
  have h1 := congrArg UInt8.toNat h.1
  have h2 := congrArg UInt8.toNat h.2
  rw [b8_nat, b8_nat] at h1 h2
  omega
theorem turn_chk {l : List UInt8} (h : chk l = 0) {j b : Nat} {c : UInt8} (hb : b < 8) (hc : l[j]? = some c) : chk (l.set j (c ^^^ b8 (2 ^ b))) ≠ 0 := by
  intro h'
  have hj : j < l.length := by
    rcases Nat.lt_or_ge j l.length with h | h
    · exact h
    · rw [List.getElem?_eq_none h] at hc; cases hc
  obtain ⟨h0, h1, h2, h3, h4, h5, hl, hd⟩ := chk_zero h
  obtain ⟨k0, k1, k2, k3, k4, k5, kl, kd⟩ := chk_zero h'
  have hn := bit_ne c b hb
  rw [List.length_set] at kl
  have e76 : at_ (l.set j (c ^^^ b8 (2 ^ b))) 76 = at_ l 76 := by omega
  have hj76 : j ≠ 76 := by
    rintro rfl
    apply hn
    unfold at_ at e76
    rw [List.getElem?_set_self hj, hc, Option.getD_some, Option.getD_some] at e76
    exact UInt8.toNat_inj.1 e76
  rw [e76] at kd
  by_cases hlow : j < 77 + 9 * at_ l 76
  · rw [List.drop_set_of_lt hlow, hd, List.take_set] at kd
    have hx : (l.take (77 + 9 * at_ l 76))[j]? = some c := by rw [List.getElem?_take, if_pos hlow, hc]
    have := two_inj (crc_lt 0 _ (by omega)) (crc_lt 0 _ (by omega)) kd
    exact turned_crc _ j b c hb hx this.symm
  · rw [List.take_set_of_le (by omega), ← hd] at kd
    have e2 : (l.set j (c ^^^ b8 (2 ^ b)))[j]? = l[j]? := by
      have := congrArg (fun x => x[j - (77 + 9 * at_ l 76)]?) kd
      simp only [List.getElem?_drop] at this
      rwa [show 77 + 9 * at_ l 76 + (j - (77 + 9 * at_ l 76)) = j by omega] at this
    rw [List.getElem?_set_self hj, hc] at e2
    injection e2 with e2
    exact hn e2
end Go.Proofs.Ytneanlffllejnaa
