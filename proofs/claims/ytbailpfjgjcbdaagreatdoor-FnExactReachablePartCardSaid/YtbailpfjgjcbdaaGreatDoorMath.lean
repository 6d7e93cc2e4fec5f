/- Decimal digits from the back, as the model's loop makes them. -/
/- Plain words for names: which numbers are small letters or digits, and which lists of bytes are names. -/
/- A number as a text is read: the model's way and the program's, as mathematics. -/
/- The pieces of a text between bytes: the model's, the library's; what joining them gives. -/
/- Lists of numbers and labels as texts, as mathematics: what is written is read, and nothing else. -/
/- The text of a list of numbers grows by one number. -/
import Derived.Lib.ItoaNum
import Derived.Lib.Hide
import Derived.WalkKit
import Derived.Lib.ParseIntBCases
import Derived.Lib.ParseIntBTie
import Derived.Lib.Strings
import Derived.Lib.SplitLaws
import Derived.Lib.Join
import Derived.Lib.ItoaLen
namespace Go.Proofs.YtbailpfjgjcbdaaGreatDoor
open Go.Lib
/-- The digits that are still to come. -/
def pre (u : Nat) : List UInt8 := if u = 0 then [] else decDigits u
def dig (u : Nat) : UInt8 := UInt8.ofNat (48 + u % 10)
theorem pre_step {u : Nat} (h : u ≠ 0) : pre u = pre (u / 10) ++ [dig u] := by
  unfold pre dig
  rw [if_neg h]
  by_cases hu : u < 10
  · rw [decDigits, dif_pos hu, if_pos (by omega), Nat.mod_eq_of_lt hu]; rfl
  · rw [decDigits, dif_neg hu, if_neg (by omega)]
theorem dig_toNat (u : Nat) : (dig u).toNat = 48 + u % 10 := by
  unfold dig
  rw [UInt8.toNat_ofNat']
  omega
theorem nDigits_le : ∀ (k u : Nat), u < 10 ^ (k + 1) → nDigits u ≤ k + 1
  | 0, u, h => by rw [nDigits_small (by simpa using h)]; omega
  | k + 1, u, h => by
    by_cases hu : u < 10
    · rw [nDigits_small hu]; omega
    · rw [nDigits_big hu]
      have := nDigits_le k (u / 10) (by rw [Nat.pow_succ] at h; omega)
      omega
theorem itoa_pos (n : Int) : 1 ≤ (itoa n).length := by
  unfold itoa
  split
  · simp
  · rw [decDigits_length]; exact nDigits_pos _
theorem dec_len {u : Nat} (h : u < 9223372036854775809) : (decDigits u).length ≤ 19 := by
  rw [decDigits_length]
  exact nDigits_le 18 u (Nat.lt_of_lt_of_le h (by decide))
theorem pre_next {m : Nat} {ds D : List UInt8} (h : m ≠ 0) (hD : pre m ++ ds.reverse = D) : pre (m / 10) ++ (ds ++ [dig m]).reverse = D := by
  rw [← hD, pre_step h]
  simp
theorem rev_len {m : Nat} {ds D : List UInt8} (hD : pre m ++ ds.reverse = D) (h : D.length ≤ 19) : ds.length ≤ 19 := by
  rw [← hD] at h
  simp at h
  omega
/-- The bytes as the memory holds them. -/
def bv (l : List UInt8) : List Value := l.map fun b => Value.int .u8 (b.toNat : Int)
theorem bv_app (l m : List UInt8) : bv l ++ bv m = bv (l ++ m) := by simp [bv]
theorem bv_len (l : List UInt8) : (bv l).length = l.length := by simp [bv]
theorem bv_dig (u : Nat) : [Value.int .u8 (48 + (u % 10 : Nat) : Int)] = bv [dig u] := by
  simp [bv, dig_toNat]
/-- What has been turned round when the places from k on are done. -/
def back (l : List UInt8) (k : Nat) : List UInt8 := (l.drop k).reverse
theorem back_step {l : List UInt8} {k : Nat} (h : k < l.length) : back l k = back l (k + 1) ++ [l.getD k 0] := by
  unfold back
  rw [List.drop_eq_getElem_cons h, List.reverse_cons, List.getD_eq_getElem?_getD, List.getElem?_eq_getElem h]
  rfl
theorem back_len (l : List UInt8) (k : Nat) : (back l k).length = l.length - k := by simp [back]
theorem back_start (l : List UInt8) : back l l.length = [] := by simp [back]
theorem back_end (l : List UInt8) : back l 0 = l.reverse := by simp [back]
end Go.Proofs.YtbailpfjgjcbdaaGreatDoor

namespace Go.Proofs.YtbailpfjgjcbdaaGreatDoor
open Go.RowKit
def smallI (r : Int) : Bool := decide (97 ≤ r ∧ r ≤ 122)
def digitI (r : Int) : Bool := decide (48 ≤ r ∧ r ≤ 57)
theorem smallI_yes {r : Int} (h : 97 ≤ r ∧ r ≤ 122) : smallI r = true := by unfold smallI; exact decide_eq_true h
theorem smallI_no {r : Int} (h : ¬ (97 ≤ r ∧ r ≤ 122)) : smallI r = false := by unfold smallI; exact decide_eq_false h
theorem digitI_yes {r : Int} (h : 48 ≤ r ∧ r ≤ 57) : digitI r = true := by unfold digitI; exact decide_eq_true h
theorem digitI_no {r : Int} (h : ¬ (48 ≤ r ∧ r ≤ 57)) : digitI r = false := by unfold digitI; exact decide_eq_false h
theorem smallI_iff {r : Int} : smallI r = true ↔ 97 ≤ r ∧ r ≤ 122 := by unfold smallI; exact decide_eq_true_iff
theorem digitI_iff {r : Int} : digitI r = true ↔ 48 ≤ r ∧ r ≤ 57 := by unfold digitI; exact decide_eq_true_iff
theorem ib_ne {a b : Int} (h : a ≠ b) : (a == b) = false := by simp [h]
theorem ib_eq {a b : Int} (h : a = b) : (a == b) = true := by simp [h]
/-- A byte that may stand at place i of a name. -/
def goodB (i : Nat) (b : UInt8) : Prop := smallI b.toNat = true ∨ (i ≠ 0 ∧ digitI b.toNat = true)
def nameP (l : List UInt8) : Prop := 1 ≤ l.length ∧ l.length ≤ 10 ∧ ∀ i b, l[i]? = some b → goodB i b
open Classical in
noncomputable def nameB (l : List UInt8) : Bool := decide (nameP l)
open Classical in
theorem nameB_yes {l : List UInt8} (h : nameP l) : nameB l = true := by unfold nameB; exact decide_eq_true h
open Classical in
theorem nameB_no {l : List UInt8} (h : ¬ nameP l) : nameB l = false := by unfold nameB; exact decide_eq_false h
open Classical in
theorem nameB_iff {l : List UInt8} : nameB l = true ↔ nameP l := by unfold nameB; exact decide_eq_true_iff
theorem byte_at (s : ByteArray) (i : Nat) (h : i < s.size) : s.data.toList[i]? = some s[i] := by
  have h' : i < s.data.toList.length := by simpa using h
  rw [List.getElem?_eq_getElem h']; rfl
theorem byte_len (s : ByteArray) : s.data.toList.length = s.size := by simp
theorem name_short {s : ByteArray} (h : s.size < 1) : nameB s.data.toList = false := nameB_no fun ⟨h1, _⟩ => by rw [byte_len] at h1; omega
theorem name_long {s : ByteArray} (h : 10 < s.size) : nameB s.data.toList = false := nameB_no fun ⟨_, h1, _⟩ => by rw [byte_len] at h1; omega
theorem name_bad {s : ByteArray} (k : Nat) (h : k < s.size) (hb : ¬ goodB k s[k]) : nameB s.data.toList = false := nameB_no fun ⟨_, _, h1⟩ => hb (h1 k _ (byte_at s k h))
theorem name_all {s : ByteArray} (h1 : 1 ≤ s.size) (h2 : s.size ≤ 10) (h : ∀ i (hi : i < s.size), goodB i s[i]) : nameB s.data.toList = true :=
  nameB_yes ⟨by rw [byte_len]; exact h1, by rw [byte_len]; exact h2, fun i b hb => by
    obtain ⟨hi, he⟩ := List.getElem?_eq_some_iff.1 hb
    rw [byte_len] at hi
    have := byte_at s i hi
    rw [hb] at this
    injection this with this
    rw [this]; exact h i hi⟩
theorem not_good_zero {b : UInt8} (h : smallI b.toNat = false) : ¬ goodB 0 b := by
  rintro (h1 | ⟨h1, _⟩)
  · rw [h] at h1; cases h1
  · exact h1 rfl
theorem not_good {i : Nat} {b : UInt8} (h : smallI b.toNat = false) (h2 : digitI b.toNat = false) : ¬ goodB i b := by
  rintro (h1 | ⟨_, h1⟩)
  · rw [h] at h1; cases h1
  · rw [h2] at h1; cases h1
end Go.Proofs.YtbailpfjgjcbdaaGreatDoor

namespace Go.Proofs.YtbailpfjgjcbdaaGreatDoor
open Go.Lib
def isDig (c : UInt8) : Bool := decide (48 ≤ c.toNat ∧ c.toNat ≤ 57)
def dval (acc : Nat) (l : List UInt8) : Nat := l.foldl (fun a c => a * 10 + (c.toNat - 48)) acc
theorem dval_nil (acc : Nat) : dval acc [] = acc := rfl
theorem dval_cons (acc : Nat) (c : UInt8) (r : List UInt8) : dval acc (c :: r) = dval (acc * 10 + (c.toNat - 48)) r := by unfold dval; rw [List.foldl_cons]
theorem dval_app (a b : List UInt8) (acc : Nat) : dval acc (a ++ b) = dval (dval acc a) b := by unfold dval; exact List.foldl_append
theorem dval_ge : ∀ (d : List UInt8) (acc : Nat), acc ≤ dval acc d
  | [], _ => Nat.le_refl _
  | c :: r, acc => by
    simp only [dval_cons]
    have := dval_ge r (acc * 10 + (c.toNat - 48))
    omega
theorem dval_lt : ∀ (d : List UInt8) (acc : Nat), d.all isDig = true → dval acc d < (acc + 1) * 10 ^ d.length
  | [], acc, _ => by simp [dval_nil]
  | c :: r, acc, h => by
    simp only [List.all_cons, Bool.and_eq_true] at h
    have hc : 48 ≤ c.toNat ∧ c.toNat ≤ 57 := by simpa [isDig] using h.1
    have h1 := dval_lt r (acc * 10 + (c.toNat - 48)) h.2
    simp only [dval_cons, List.length_cons, Nat.pow_succ]
    refine Nat.lt_of_lt_of_le h1 ?_
    rw [Nat.mul_comm (10 ^ r.length) 10, ← Nat.mul_assoc]
    exact Nat.mul_le_mul_right _ (by omega)
theorem parse_digits (M : Nat) (hM : 1000000000000000000 ≤ M) : ∀ (d : List UInt8) (acc : Nat), (acc + 1) * 10 ^ d.length ≤ 1000000000000000000 →
    parseUintM M acc d = if d.all isDig then .ok (dval acc d) else .syntax
  | [], acc, _ => by simp [parseUintM, dval_nil]
  | c :: r, acc, h => by
    have hp : 1 ≤ 10 ^ r.length := Nat.one_le_pow _ _ (by decide)
    simp only [List.length_cons, Nat.pow_succ] at h
    rw [Nat.mul_comm (10 ^ r.length) 10, ← Nat.mul_assoc] at h
    have ha : (acc + 1) * 10 ≤ 1000000000000000000 := Nat.le_trans (Nat.le_mul_of_pos_right _ hp) h
    simp only [parseUintM]
    by_cases hc : 48 ≤ c.toNat ∧ c.toNat ≤ 57
    · rw [if_pos hc, if_neg (by omega), if_neg (by omega), parse_digits M hM r _ (Nat.le_trans (Nat.mul_le_mul_right _ (by omega)) h)]
      have : isDig c = true := by simp [isDig, hc]
      simp [this, dval_cons]
    · rw [if_neg hc]
      have : isDig c = false := by simp only [isDig, decide_eq_false_iff_not]; exact hc
      simp [this]
theorem dval_zero_head {c : UInt8} {r : List UInt8} (h : (c :: r).all isDig = true) (h0 : c ≠ 48) : 1 ≤ dval 0 (c :: r) := by
  simp only [List.all_cons, Bool.and_eq_true] at h
  have hc : 48 ≤ c.toNat ∧ c.toNat ≤ 57 := by simpa [isDig] using h.1
  have hn : c.toNat ≠ 48 := fun e => h0 (UInt8.toNat_inj.1 e)
  have := dval_ge r (0 * 10 + (c.toNat - 48))
  simp only [dval_cons]
  omega
theorem ofNat_dig {c : UInt8} (h : isDig c = true) : UInt8.ofNat (48 + (c.toNat - 48)) = c := by
  have hc : 48 ≤ c.toNat ∧ c.toNat ≤ 57 := by simpa [isDig] using h
  apply UInt8.toNat_inj.1
  rw [UInt8.toNat_ofNat']
  omega
/-- Digits without a leading zero are the decimal form of their number. -/
theorem dec_of_digits : ∀ (n : Nat) (d : List UInt8), d.length = n → d ≠ [] → d.all isDig = true → (d.head? ≠ some 48 ∨ d.length = 1) → decDigits (dval 0 d) = d
  | 0, d, hn, hne, _, _ => absurd (List.length_eq_zero_iff.1 hn) hne
  | n + 1, d, hn, hne, hd, hz => by
    obtain ⟨r, c, rfl⟩ : ∃ r c, d = r ++ [c] := ⟨d.dropLast, d.getLast hne, (List.dropLast_concat_getLast hne).symm⟩
    rw [List.all_append, Bool.and_eq_true] at hd
    have hc : isDig c = true := by simpa using hd.2
    have hc' : 48 ≤ c.toNat ∧ c.toNat ≤ 57 := by simpa [isDig] using hc
    rw [dval_app, dval_cons, dval_nil]
    cases r with
    | nil =>
      simp only [dval_nil, List.nil_append]
      rw [decDigits, dif_pos (by omega)]
      rw [show 0 * 10 + (c.toNat - 48) = c.toNat - 48 by omega, ofNat_dig hc]
    | cons b r =>
      have hb : b ≠ 48 := by
        rcases hz with hz | hz
        · intro e; subst e; exact hz rfl
        · simp at hz
      have h1 := dval_zero_head hd.1 hb
      generalize hu : dval 0 (b :: r) = u at h1
      rw [decDigits, dif_neg (by omega), show (u * 10 + (c.toNat - 48)) / 10 = u by omega, show (u * 10 + (c.toNat - 48)) % 10 = c.toNat - 48 by omega, ofNat_dig hc, ← hu]
      rw [dec_of_digits n (b :: r) (by simpa using hn) (by simp) hd.1 (Or.inl (by simpa using hb))]
theorem dec_head (u : Nat) : ∃ c r, decDigits u = c :: r ∧ isDig c = true ∧ (c = 48 → u = 0) ∧ (u = 0 → r = []) := by
  induction u using Nat.strongRecOn with
  | _ u ih =>
    by_cases h : u < 10
    · refine ⟨UInt8.ofNat (48 + u), [], by rw [decDigits, dif_pos h], ?_, ?_, fun _ => rfl⟩
      · simp only [isDig, UInt8.toNat_ofNat', decide_eq_true_eq]; omega
      · intro e
        have := congrArg UInt8.toNat e
        rw [UInt8.toNat_ofNat'] at this
        have h48 : (48 : UInt8).toNat = 48 := rfl
        omega
    · obtain ⟨c, r, h1, h2, h3, h4⟩ := ih (u / 10) (by omega)
      refine ⟨c, r ++ [UInt8.ofNat (48 + u % 10)], by rw [decDigits, dif_neg h, h1]; rfl, h2, fun e => ?_, fun e => by omega⟩
      have := h3 e
      omega
/-- The digits of a number, the model's conditions: at most 18, no zero ahead of others. -/
def numD (d : List UInt8) (long : Bool) : Option Nat :=
  if d = [] ∨ 18 < d.length ∨ (d.head? = some 48 ∧ long = true) then none else if d.all isDig then some (dval 0 d) else none
/-- What the model reads. -/
def num (l : List UInt8) : Option Int :=
  match l with
  | [] => none
  | c :: r => if c = 45 then Option.map (fun u : Nat => -(u : Int)) (numD r true) else Option.map (fun u : Nat => (u : Int)) (numD (c :: r) (decide (1 < (c :: r).length)))
/-- What the program reads. -/
def num2 (l : List UInt8) : Option Int :=
  if 18 < (trimPrefix l [45]).length then none else
  match parseIntB 64 l with
  | .ok v => if itoa v = l then some v else none
  | _ => none
theorem numD_some {d : List UInt8} {b : Bool} {u : Nat} (h : numD d b = some u) : d ≠ [] ∧ d.length ≤ 18 ∧ d.all isDig = true ∧ u = dval 0 d ∧ ¬ (d.head? = some 48 ∧ b = true) := by
  unfold numD at h
  split at h
  · cases h
  · rename_i hn
    split at h
    · rename_i ha
      injection h with h
      exact ⟨fun e => hn (Or.inl e), by omega, ha, h.symm, fun e => hn (Or.inr (Or.inr e))⟩
    · cases h
theorem parse64 {d : List UInt8} (hne : d ≠ []) (hl : d.length ≤ 18) : parseUintB 64 d = if d.all isDig then .ok (dval 0 d) else .syntax := by
  unfold parseUintB
  rw [if_neg hne]
  refine parse_digits _ (by decide) d 0 ?_
  rw [Nat.zero_add, Nat.one_mul]
  exact Nat.le_trans (Nat.pow_le_pow_right (by decide) hl) (by decide)
theorem dval_small {d : List UInt8} (hl : d.length ≤ 18) (h : d.all isDig = true) : dval 0 d < 1000000000000000000 := by
  have := dval_lt d 0 h
  rw [Nat.zero_add, Nat.one_mul] at this
  exact Nat.lt_of_lt_of_le this (Nat.le_trans (Nat.pow_le_pow_right (by decide) hl) (by decide))
theorem itoa_nat (u : Nat) : itoa (u : Int) = decDigits u := by unfold itoa; rw [if_neg (by omega)]; rfl
theorem itoa_neg {u : Nat} (h : u ≠ 0) : itoa (-(u : Int)) = 45 :: decDigits u := by unfold itoa; rw [if_pos (by omega)]; simp
theorem trim_minus (r : List UInt8) : trimPrefix (45 :: r) [45] = r := by simp [trimPrefix, hasPrefix]
theorem trim_other {c : UInt8} (r : List UInt8) (h : c ≠ 45) : trimPrefix (c :: r) [45] = c :: r := by
  have e : hasPrefix (c :: r) [45] = false := by
    have h2 : ((45 : UInt8) == c) = false := by simp [Ne.symm h]
    simp [hasPrefix, List.isPrefixOf, h2]
  unfold trimPrefix
  rw [e]
  rfl
/-- Both read the same. -/
theorem num2_eq (l : List UInt8) : num2 l = num l := by
  cases l with
  | nil => simp [num2, num, parseIntB]
  | cons c r =>
    by_cases hc : c = 45
    · subst hc
      unfold num2 num
      simp only [if_true]
      rw [trim_minus, parseIntB_minus]
      by_cases hl : 18 < r.length
      · rw [if_pos hl]
        have : numD r true = none := by unfold numD; rw [if_pos (Or.inr (Or.inl hl))]
        rw [this]; rfl
      · rw [if_neg hl]
        by_cases hr : r = []
        · subst hr
          simp [parseUintB, signedC, numD]
        · rw [parse64 hr (by omega)]
          cases ha : r.all isDig with
          | false =>
            rw [if_neg (by decide)]
            have : numD r true = none := by unfold numD; rw [ha]; simp
            rw [this]; rfl
          | true =>
            rw [if_pos rfl]
            have hs := dval_small (by omega) ha
            simp only [signedC]
            rw [if_neg (by have : (2 : Nat) ^ (64 - 1) = 9223372036854775808 := by decide
                           omega)]
            obtain ⟨c, d, h1, h2, h3, h4⟩ := dec_head (dval 0 r)
            by_cases hz : r.head? = some 48
            · have : numD r true = none := by unfold numD; rw [if_pos (Or.inr (Or.inr ⟨hz, rfl⟩))]
              rw [this]
              by_cases hu : dval 0 r = 0
              · rw [hu]
                have : itoa (-((0 : Nat) : Int)) = [48] := by rw [show (-((0 : Nat) : Int)) = ((0 : Nat) : Int) by rfl, itoa_nat, decDigits, dif_pos (by decide)]; rfl
                simp only []
                rw [this, if_neg (by simp)]; rfl
              · simp only []
                rw [itoa_neg hu, if_neg]; rfl
                rw [h1]
                intro e
                injection e with _ e
                rw [← e] at hz
                simp at hz
                exact hu (h3 hz)
            · have hd := dec_of_digits _ r rfl hr ha (Or.inl hz)
              have hu : dval 0 r ≠ 0 := by
                cases r with
                | nil => exact absurd rfl hr
                | cons b r => have := dval_zero_head ha (by simpa using hz); omega
              simp only []
              rw [itoa_neg hu, hd, if_pos rfl]
              have : numD r true = some (dval 0 r) := by unfold numD; rw [if_neg (by simp [hr, hz]; omega), if_pos ha]
              rw [this]; rfl
    · have e0 : num (c :: r) = Option.map (fun u : Nat => (u : Int)) (numD (c :: r) (decide (1 < (c :: r).length))) := by simp only [num]; rw [if_neg hc]
      rw [e0]
      unfold num2
      rw [trim_other r hc]
      by_cases hl : 18 < (c :: r).length
      · rw [if_pos hl]
        have : numD (c :: r) (decide (1 < (c :: r).length)) = none := by unfold numD; rw [if_pos (Or.inr (Or.inl hl))]
        rw [this]; rfl
      · rw [if_neg hl]
        by_cases hp : c = 43
        · subst hp
          have hd : isDig 43 = false := by decide
          have : numD (43 :: r) (decide (1 < (43 :: r : List UInt8).length)) = none := by unfold numD; simp [hd]
          rw [this, parseIntB_plus]
          have hnot : ∀ u : Nat, itoa (u : Int) ≠ 43 :: r := by
            intro u e
            obtain ⟨c, d, h1, h2, h3, h4⟩ := dec_head u
            rw [itoa_nat, h1] at e
            injection e with e _
            subst e
            rw [hd] at h2
            cases h2
          cases parseUintB 64 r with
          | «syntax» => rfl
          | range => rfl
          | ok u =>
            simp only [signlessC]
            split
            · rename_i hh; split at hh
              · cases hh
              · injection hh with hh
                subst hh
                rw [if_neg (hnot u)]; rfl
            · rfl
        · rw [parseIntB_plain 64 c r (fun e => hp (UInt8.toNat_inj.1 e)) (fun e => hc (UInt8.toNat_inj.1 e)), parse64 (by simp) (by omega)]
          cases ha : (c :: r).all isDig with
          | false =>
            rw [if_neg (by decide)]
            have : numD (c :: r) (decide (1 < (c :: r).length)) = none := by unfold numD; rw [ha]; simp
            rw [this]; rfl
          | true =>
            rw [if_pos rfl]
            have hs := dval_small (by omega) ha
            simp only [signlessC]
            rw [if_neg (by have : (2 : Nat) ^ (64 - 1) = 9223372036854775808 := by decide
                           omega)]
            simp only []
            rw [itoa_nat]
            by_cases hz : c = 48 ∧ 1 < (c :: r).length
            · have : numD (c :: r) (decide (1 < (c :: r).length)) = none := by
                unfold numD; rw [if_pos (Or.inr (Or.inr ⟨by simp [hz.1], by simpa using hz.2⟩))]
              rw [this]
              obtain ⟨b, d, h1, h2, h3, h4⟩ := dec_head (dval 0 (c :: r))
              rw [if_neg]; rfl
              rw [h1]
              intro e
              injection e with e1 e2
              have := h4 (h3 (e1.trans hz.1))
              subst this
              rw [← e2] at hz
              simp at hz
            · have hq : (c :: r).head? ≠ some 48 ∨ (c :: r).length = 1 := by
                by_cases h : c = 48
                · right
                  have h3 : ¬ 1 < (c :: r).length := fun h2 => hz ⟨h, h2⟩
                  simp only [List.length_cons] at h3 ⊢
                  omega
                · left; simpa using h
              rw [dec_of_digits _ (c :: r) rfl (by simp) ha hq, if_pos rfl]
              have : numD (c :: r) (decide (1 < (c :: r).length)) = some (dval 0 (c :: r)) := by
                unfold numD
                rw [if_neg, if_pos ha]
                rintro (h | h | ⟨h, h'⟩)
                · cases h
                · exact hl h
                · exact hz ⟨by simpa using h, by simpa using h'⟩
              rw [this]; rfl
end Go.Proofs.YtbailpfjgjcbdaaGreatDoor

namespace Go.Proofs.YtbailpfjgjcbdaaGreatDoor
open Go.Lib
def pcs (b : UInt8) : List UInt8 → List (List UInt8)
  | [] => [[]]
  | c :: r => if c = b then [] :: pcs b r else
    match pcs b r with
    | [] => [[c]]
    | p :: ps => (c :: p) :: ps
theorem pcs_ne (b : UInt8) : ∀ l, pcs b l ≠ []
  | [] => by simp [pcs]
  | c :: r => by
    simp only [pcs]
    split
    · simp
    · split <;> simp
theorem pcs_none (b : UInt8) : ∀ p : List UInt8, b ∉ p → pcs b p = [p]
  | [], _ => rfl
  | c :: r, h => by
    have h1 : c ≠ b := fun e => h (by simp [e])
    have h2 : b ∉ r := fun e => h (by simp [e])
    simp only [pcs, if_neg h1, pcs_none b r h2]
theorem pcs_hit (b : UInt8) (r : List UInt8) : ∀ p : List UInt8, b ∉ p → pcs b (p ++ b :: r) = p :: pcs b r
  | [], _ => by simp [pcs]
  | c :: q, h => by
    have h1 : c ≠ b := fun e => h (by simp [e])
    have h2 : b ∉ q := fun e => h (by simp [e])
    simp only [List.cons_append, pcs, if_neg h1, pcs_hit b r q h2]
theorem pcs_count (b : UInt8) : ∀ l : List UInt8, (pcs b l).length = l.count b + 1
  | [] => rfl
  | c :: r => by
    have ih := pcs_count b r
    simp only [pcs]
    by_cases h : c = b
    · subst h; simp [ih]
    · rw [if_neg h, List.count_cons_of_ne h, ← ih]
      cases hp : pcs b r with
      | nil => exact absurd hp (pcs_ne b r)
      | cons p ps => simp
theorem pcs_no (b : UInt8) : ∀ (l : List UInt8), ∀ p ∈ pcs b l, b ∉ p
  | [], p, h => by simp [pcs] at h; simp [h]
  | c :: r, p, h => by
    simp only [pcs] at h
    by_cases hc : c = b
    · rw [if_pos hc] at h
      rcases List.mem_cons.1 h with h | h
      · simp [h]
      · exact pcs_no b r p h
    · rw [if_neg hc] at h
      cases hp : pcs b r with
      | nil => exact absurd hp (pcs_ne b r)
      | cons q qs =>
        rw [hp] at h
        rcases List.mem_cons.1 h with h | h
        · subst h
          have := pcs_no b r q (by rw [hp]; simp)
          simp [this, Ne.symm hc]
        · exact pcs_no b r p (by rw [hp]; simp [h])
theorem join_two (p q : List UInt8) (ps : List (List UInt8)) (sep : List UInt8) : join (p :: q :: ps) sep = p ++ (sep ++ join (q :: ps) sep) := by
  rw [join_cons, join_cons]; simp [joinTail]
theorem join_pcs (b : UInt8) : ∀ l : List UInt8, join (pcs b l) [b] = l
  | [] => by simp [pcs, join_one]
  | c :: r => by
    have ih := join_pcs b r
    cases hp : pcs b r with
    | nil => exact absurd hp (pcs_ne b r)
    | cons q qs =>
      rw [hp] at ih
      by_cases hc : c = b
      · simp only [pcs, if_pos hc, hp]
        rw [join_two, ih, hc]; simp
      · simp only [pcs, if_neg hc, hp]
        rw [join_cons] at ih ⊢
        rw [List.cons_append, ih]
theorem pcs_join (b : UInt8) : ∀ ps : List (List UInt8), ps ≠ [] → (∀ p ∈ ps, b ∉ p) → pcs b (join ps [b]) = ps
  | [], h, _ => absurd rfl h
  | [p], _, h => by rw [join_one]; exact pcs_none b p (h p (by simp))
  | p :: q :: ps, _, h => by
    rw [join_two, List.singleton_append, pcs_hit b _ p (h p (by simp)), pcs_join b (q :: ps) (by simp) (fun x hx => h x (by simp [hx]))]
theorem pcs_split : ∀ (n : Nat) (b : UInt8) (l : List UInt8), l.length ≤ n → b ∈ l → ∃ p r, l = p ++ b :: r ∧ b ∉ p
  | 0, b, l, hn, h => by cases l with
    | nil => cases h
    | cons c r => simp at hn
  | n + 1, b, l, hn, h => by
    cases l with
    | nil => cases h
    | cons c r =>
      by_cases hc : c = b
      · exact ⟨[], r, by simp [hc], by simp⟩
      · obtain ⟨p, s, h1, h2⟩ := pcs_split n b r (by simpa using hn) (by rcases List.mem_cons.1 h with h | h; exact absurd h.symm hc; exact h)
        exact ⟨c :: p, s, by simp [h1], by simp [h2, Ne.symm hc]⟩
theorem index_none (b : UInt8) : ∀ l : List UInt8, b ∉ l → index l [b] = -1
  | [], _ => rfl
  | c :: r, h => by
    have h1 : b ≠ c := fun e => h (by simp [e])
    have h2 : b ∉ r := fun e => h (by simp [e])
    simp only [index, List.isPrefixOf, index_none b r h2]
    simp [h1]
theorem index_hit (b : UInt8) (r : List UInt8) : ∀ p : List UInt8, b ∉ p → index (p ++ b :: r) [b] = (p.length : Int)
  | [], _ => by simp [index, List.isPrefixOf]
  | c :: q, h => by
    have h1 : b ≠ c := fun e => h (by simp [e])
    have h2 : b ∉ q := fun e => h (by simp [e])
    simp only [List.cons_append, index, List.isPrefixOf, index_hit b r q h2]
    have h3 : ¬ ((q.length : Int) = -1) := by omega
    simp [h1, h3]
theorem splitK_pcs (b : UInt8) : ∀ (k : Nat) (l : List UInt8), l.count b = k → splitK [b] 0 k l = pcs b l
  | 0, l, h => by
    have : b ∉ l := fun e => by have := List.count_pos_iff.2 e; omega
    rw [pcs_none b l this]; rfl
  | k + 1, l, h => by
    have : b ∈ l := List.count_pos_iff.1 (by omega)
    obtain ⟨p, r, rfl, hp⟩ := pcs_split _ b l (Nat.le_refl _) this
    have hc : r.count b = k := by
      rw [List.count_append, List.count_eq_zero.2 hp, List.count_cons_self] at h
      omega
    unfold splitK
    rw [index_hit b r p hp, pcs_hit b r p hp]
    have h3 : ¬ ((p.length : Int) = -1) := by omega
    have h4 : (((p.length : Int) == -1) = true) = False := by simp [h3]
    rw [if_neg (by rw [h4]; exact id)]
    simp only [Int.toNat_natCast, Nat.add_zero, List.take_left', List.length_singleton]
    rw [show List.drop (p.length + 1) (p ++ b :: r) = r by rw [← List.singleton_append (x := b), ← List.append_assoc]; exact List.drop_left' (by simp)]
    rw [splitK_pcs b k r hc]
theorem countB_one (s : ByteArray) (b : UInt8) : countB s ⟨#[b]⟩ = s.data.toList.count b := by
  unfold countB; exact count_one b _
/-- The library's pieces at one byte. -/
theorem splitB_pcs (s : ByteArray) (b : UInt8) : splitB ⟨#[b]⟩ 0 (countB s ⟨#[b]⟩) s = (pcs b s.data.toList).map fun l => ⟨l.toArray⟩ := by
  have h1 := splitB_data ⟨#[b]⟩ 0 (countB s ⟨#[b]⟩) s
  have h2 : splitK [b] 0 (countB s ⟨#[b]⟩) s.data.toList = pcs b s.data.toList := splitK_pcs b _ _ (countB_one s b).symm
  have h3 := congrArg (List.map fun l : List UInt8 => (⟨l.toArray⟩ : ByteArray)) (h1.trans h2)
  rw [← h3, List.map_map]
  exact (List.map_id _).symm.trans (List.map_congr_left fun x _ => by cases x; rfl)
/-- The text up to a byte and behind it. -/
theorem cut_one_none (b : UInt8) (l : List UInt8) (h : b ∉ l) : cut l [b] = (l, [], false) := by
  unfold cut; rw [index_none b l h, if_neg (by decide)]
theorem cut_one_hit (b : UInt8) (p r : List UInt8) (h : b ∉ p) : cut (p ++ b :: r) [b] = (p, r, true) := by
  unfold cut; rw [index_hit b r p h, if_pos (by omega)]
  simp only [Int.toNat_natCast, List.length_singleton]
  rw [List.take_left' rfl, show List.drop (p.length + 1) (p ++ b :: r) = r by rw [← List.singleton_append (x := b), ← List.append_assoc]; exact List.drop_left' (by simp)]
end Go.Proofs.YtbailpfjgjcbdaaGreatDoor

namespace Go.Proofs.YtbailpfjgjcbdaaGreatDoor
open Go.Lib
/-! numbers: what is read is what is written -/
theorem num_itoa {l : List UInt8} {n : Int} (h : num l = some n) : itoa n = l := by
  rw [← num2_eq] at h
  unfold num2 at h
  split at h
  · cases h
  · split at h
    · split at h
      · injection h with h; subst h; assumption
      · cases h
    · cases h
theorem num_bounds {l : List UInt8} {n : Int} (h : num l = some n) : -1000000000000000000 < n ∧ n < 1000000000000000000 := by
  unfold num at h
  split at h
  · cases h
  · split at h
    · rename_i c r _
      cases hd : numD r true with
      | none => rw [hd] at h; cases h
      | some u =>
        rw [hd] at h
        simp only [Option.map_some, Option.some.injEq] at h
        obtain ⟨_, h1, h2, h3, _⟩ := numD_some hd
        have := dval_small h1 h2
        omega
    · rename_i c r _
      cases hd : numD (c :: r) (decide (1 < (c :: r).length)) with
      | none => rw [hd] at h; cases h
      | some u =>
        rw [hd] at h
        simp only [Option.map_some, Option.some.injEq] at h
        obtain ⟨_, h1, h2, h3, _⟩ := numD_some hd
        have := dval_small h1 h2
        omega
theorem dec_digs (u : Nat) : (decDigits u).all isDig = true := by
  induction u using Nat.strongRecOn with
  | _ u ih =>
    have hd : isDig (UInt8.ofNat (48 + u % 10)) = true := by simp only [isDig, UInt8.toNat_ofNat', decide_eq_true_eq]; omega
    by_cases h : u < 10
    · rw [decDigits, dif_pos h]
      rw [Nat.mod_eq_of_lt h] at hd
      rw [List.all_cons, hd]; rfl
    · rw [decDigits, dif_neg h, List.all_append, ih (u / 10) (by omega), List.all_cons, hd]; rfl
theorem dval_dec (u : Nat) : dval 0 (decDigits u) = u := by
  induction u using Nat.strongRecOn with
  | _ u ih =>
    by_cases h : u < 10
    · rw [decDigits, dif_pos h, dval_cons, dval_nil, UInt8.toNat_ofNat']
      omega
    · rw [decDigits, dif_neg h, dval_app, ih (u / 10) (by omega), dval_cons, dval_nil, UInt8.toNat_ofNat']
      omega
theorem dec_short {u : Nat} (h : u < 1000000000000000000) : (decDigits u).length ≤ 18 := by
  rw [decDigits_length]
  refine Nat.le_of_not_lt fun hlt => ?_
  have h1 : ∀ (k u : Nat), u < 10 ^ (k + 1) → nDigits u ≤ k + 1 := by
    intro k
    induction k with
    | zero => intro u h; rw [nDigits_small (by simpa using h)]; omega
    | succ k ih =>
      intro u h
      by_cases hu : u < 10
      · rw [nDigits_small hu]; omega
      · rw [nDigits_big hu]
        have := ih (u / 10) (by rw [Nat.pow_succ] at h; omega)
        omega
  have := h1 17 u (Nat.lt_of_lt_of_le h (by decide))
  omega
theorem num_of_nat {u : Nat} (h : u < 1000000000000000000) : num (itoa (u : Int)) = some (u : Int) := by
  rw [itoa_nat]
  obtain ⟨c, r, h1, h2, h3, h4⟩ := dec_head u
  have ha := dec_digs u
  have hv := dval_dec u
  have hl := dec_short h
  have hc : c ≠ 45 := by rintro rfl; revert h2; decide
  rw [h1] at ha hv hl ⊢
  simp only [num, if_neg hc]
  have : numD (c :: r) (decide (1 < (c :: r).length)) = some u := by
    unfold numD
    rw [if_neg, if_pos ha, hv]
    rintro (e | e | ⟨e, e'⟩)
    · cases e
    · omega
    · have := h4 (h3 (by simpa using e))
      subst this
      simp at e'
  rw [this]; rfl
theorem num_of_neg {u : Nat} (h : u < 1000000000000000000) (h0 : u ≠ 0) : num (itoa (-(u : Int))) = some (-(u : Int)) := by
  rw [itoa_neg h0]
  obtain ⟨c, r, h1, h2, h3, h4⟩ := dec_head u
  have ha := dec_digs u
  have hv := dval_dec u
  have hl := dec_short h
  rw [h1] at ha hv hl ⊢
  simp only [num, if_pos]
  have : numD (c :: r) true = some u := by
    unfold numD
    rw [if_neg, if_pos ha, hv]
    rintro (e | e | ⟨e, e'⟩)
    · cases e
    · omega
    · exact h0 (h3 (by simpa using e))
  rw [this]; rfl
theorem num_of {n : Int} (h1 : -1000000000000000000 < n) (h2 : n < 1000000000000000000) : num (itoa n) = some n := by
  by_cases h : 0 ≤ n
  · obtain ⟨u, rfl⟩ := Int.eq_ofNat_of_zero_le h
    exact num_of_nat (by omega)
  · obtain ⟨u, hu⟩ := Int.eq_ofNat_of_zero_le (show 0 ≤ -n by omega)
    have hn : n = -(u : Int) := by omega
    subst hn
    exact num_of_neg (by omega) (by omega)
theorem itoa_bytes (n : Int) : ∀ c ∈ itoa n, isDig c = true ∨ c = 45 := by
  intro c hc
  unfold itoa at hc
  split at hc
  · rcases List.mem_cons.1 hc with h | h
    · exact Or.inr h
    · exact Or.inl (List.all_eq_true.1 (dec_digs _) c h)
  · exact Or.inl (List.all_eq_true.1 (dec_digs _) c hc)
theorem itoa_no44 (n : Int) : (44 : UInt8) ∉ itoa n := fun h => by
  rcases itoa_bytes n 44 h with h | h
  · revert h; decide
  · revert h; decide
theorem itoa_ne (n : Int) : itoa n ≠ [] := by
  unfold itoa
  split
  · simp
  · obtain ⟨c, r, h, _⟩ := dec_head n.toNat
    rw [h]; simp
/-! lists of numbers -/
def decs (vs : List Int) : List UInt8 := join (vs.map itoa) [44]
/-- The pieces ps are the numbers vs, all of them within P. -/
def Read (P : Int → Bool) (ps : List (List UInt8)) (vs : List Int) : Prop := ps.map num = vs.map some ∧ vs.all P = true
theorem Read.length {P : Int → Bool} {ps : List (List UInt8)} {vs : List Int} (h : Read P ps vs) : ps.length = vs.length := by
  have := congrArg List.length h.1
  simpa using this
theorem Read.itoa : ∀ {ps : List (List UInt8)} {vs : List Int} {P : Int → Bool}, Read P ps vs → vs.map Lib.itoa = ps
  | [], vs, _, h => by
    have := h.length
    cases vs with
    | nil => rfl
    | cons v vs => simp at this
  | p :: ps, vs, P, h => by
    cases vs with
    | nil => have := h.length; simp at this
    | cons v vs =>
      obtain ⟨h1, h2⟩ := h
      simp only [List.map_cons, List.cons.injEq] at h1
      simp only [List.all_cons, Bool.and_eq_true] at h2
      simp only [List.map_cons]
      rw [num_itoa h1.1, Read.itoa (P := P) ⟨h1.2, h2.2⟩]
theorem Read.decs {P : Int → Bool} {l : List UInt8} {vs : List Int} (h : Read P (pcs 44 l) vs) : Go.Proofs.YtbailpfjgjcbdaaGreatDoor.decs vs = l := by
  unfold Go.Proofs.YtbailpfjgjcbdaaGreatDoor.decs
  rw [h.itoa, join_pcs]
theorem Read.inj {P Q : Int → Bool} {ps : List (List UInt8)} {vs us : List Int} (h : Read P ps vs) (h' : Read Q ps us) : vs = us := by
  have := h.1.symm.trans h'.1
  exact (List.map_inj_right (fun _ _ e => Option.some.inj e)).1 this
theorem Read.ne {P : Int → Bool} {b : UInt8} {l : List UInt8} {vs : List Int} (h : Read P (pcs b l) vs) : vs ≠ [] := by
  rintro rfl
  have := h.length
  exact pcs_ne b l (List.length_eq_zero_iff.1 (by simpa using this))
theorem decs_pcs {vs : List Int} (h : vs ≠ []) : pcs 44 (decs vs) = vs.map itoa :=
  pcs_join 44 _ (by simpa using h) (fun p hp => by
    obtain ⟨v, _, rfl⟩ := List.mem_map.1 hp
    exact itoa_no44 v)
theorem read_of_decs {vs : List Int} {P : Int → Bool} (h : vs ≠ []) (hP : vs.all P = true) (hb : ∀ v ∈ vs, -1000000000000000000 < v ∧ v < 1000000000000000000) : Read P (pcs 44 (decs vs)) vs := by
  rw [decs_pcs h]
  refine ⟨?_, hP⟩
  rw [List.map_map]
  exact List.map_congr_left fun v hv => num_of (hb v hv).1 (hb v hv).2
theorem Read.step {P : Int → Bool} {ps : List (List UInt8)} {vs : List Int} {k : Nat} {p : List UInt8} {n : Int} (h : Read P (ps.take k) vs) (hk : ps[k]? = some p) (hn : num p = some n) (hP : P n = true) : Read P (ps.take (k + 1)) (vs ++ [n]) := by
  have : ps.take (k + 1) = ps.take k ++ [p] := by rw [List.take_add_one, hk]; rfl
  rw [this]
  refine ⟨?_, ?_⟩
  · rw [List.map_append, List.map_append, h.1]; simp [hn]
  · rw [List.all_append, h.2]; simp [hP]
theorem read_stop {P : Int → Bool} {ps : List (List UInt8)} {k : Nat} {p : List UInt8} (hk : ps[k]? = some p) (hn : num p = none) (vs : List Int) : ¬ Read P ps vs := by
  intro h
  have := congrArg (fun l => l[k]?) h.1
  simp only [List.getElem?_map, hk, Option.map_some, hn] at this
  cases hv : vs[k]? with
  | none => rw [hv] at this; cases this
  | some v => rw [hv] at this; simp at this
theorem read_out {P : Int → Bool} {ps : List (List UInt8)} {k : Nat} {p : List UInt8} {n : Int} (hk : ps[k]? = some p) (hn : num p = some n) (hP : P n = false) (vs : List Int) : ¬ Read P ps vs := by
  intro h
  have := congrArg (fun l => l[k]?) h.1
  simp only [List.getElem?_map, hk, Option.map_some, hn] at this
  cases hv : vs[k]? with
  | none => rw [hv] at this; cases this
  | some v =>
    rw [hv] at this
    simp at this
    subst this
    have h2 := List.all_eq_true.1 h.2 n (List.mem_of_getElem? hv)
    rw [hP] at h2; cases h2
theorem Read.weaken {P Q : Int → Bool} {ps : List (List UInt8)} {vs : List Int} (h : Read P ps vs) (hq : vs.all Q = true) : Read Q ps vs := ⟨h.1, hq⟩
/-! labels -/
def inMod (v : Int) : Bool := decide (0 ≤ v ∧ v ≤ 63)
def yes (_ : Int) : Bool := true
theorem all_yes (vs : List Int) : vs.all yes = true := by simp [yes]
theorem inMod_bounds {vs : List Int} (h : vs.all inMod = true) : ∀ v ∈ vs, -1000000000000000000 < v ∧ v < 1000000000000000000 := fun v hv => by
  have := List.all_eq_true.1 h v hv
  simp only [inMod, decide_eq_true_eq] at this
  omega
def tauB : List UInt8 := [116, 97, 117]
def make (nm : List UInt8) (vs : List Int) : List UInt8 := if vs = [] then nm else nm ++ 40 :: (decs vs ++ [41])
def LabOk (nm : List UInt8) (vs : List Int) : Prop := nameP nm ∧ vs.length ≤ 2 ∧ (nm = tauB → vs = []) ∧ vs.all inMod = true
open Classical in
noncomputable def labText (nm : List UInt8) (vs : List Int) : List UInt8 := if LabOk nm vs then make nm vs else []
theorem labText_yes {nm : List UInt8} {vs : List Int} (h : LabOk nm vs) : labText nm vs = make nm vs := by unfold labText; rw [if_pos h]
theorem labText_no {nm : List UInt8} {vs : List Int} (h : ¬ LabOk nm vs) : labText nm vs = [] := by unfold labText; rw [if_neg h]
theorem make_ne {nm : List UInt8} {vs : List Int} (h : nameP nm) : make nm vs ≠ [] := by
  have : nm ≠ [] := by rintro rfl; have := h.1; simp at this
  unfold make
  split
  · exact this
  · simp
theorem name_no40 {nm : List UInt8} (h : nameP nm) : (40 : UInt8) ∉ nm := fun hm => by
  obtain ⟨i, hi, he⟩ := List.getElem_of_mem hm
  have := h.2.2 i 40 (by rw [List.getElem?_eq_getElem hi, he])
  rcases this with h | ⟨_, h⟩
  · revert h; decide
  · revert h; decide
/-- l is a label with the values vs. -/
def LabR (l : List UInt8) (vs : List Int) : Prop := ∃ nm, LabOk nm vs ∧ make nm vs = l
theorem app_inj {p p' r r' : List UInt8} {b : UInt8} (h : p ++ b :: r = p' ++ b :: r') (hp : b ∉ p) (hp' : b ∉ p') : p = p' ∧ r = r' := by
  have h1 := pcs_hit b r p hp
  have h2 := pcs_hit b r' p' hp'
  rw [h, h2] at h1
  injection h1 with h1 _
  subst h1
  have := List.append_cancel_left h
  injection this with _ h3
  exact ⟨rfl, h3⟩
theorem lab_plain {l : List UInt8} (h : (40 : UInt8) ∉ l) {vs : List Int} : LabR l vs ↔ nameP l ∧ vs = [] := by
  constructor
  · rintro ⟨nm, hok, hm⟩
    unfold make at hm
    split at hm
    · rename_i hv; subst hm; exact ⟨hok.1, hv⟩
    · exact absurd (by rw [← hm]; simp) h
  · rintro ⟨h1, rfl⟩
    exact ⟨l, ⟨h1, by simp, fun _ => rfl, rfl⟩, by simp [make]⟩
theorem lab_open {p r : List UInt8} (h : (40 : UInt8) ∉ p) {vs : List Int} : LabR (p ++ 40 :: r) vs ↔ ∃ q, r = q ++ [41] ∧ nameP p ∧ p ≠ tauB ∧ Read inMod (pcs 44 q) vs ∧ vs.length ≤ 2 := by
  constructor
  · rintro ⟨nm, hok, hm⟩
    unfold make at hm
    split at hm
    · subst hm
      exact absurd (by simp) (name_no40 hok.1)
    · rename_i hv
      obtain ⟨h1, h2⟩ := app_inj hm (name_no40 hok.1) h
      subst h1
      exact ⟨decs vs, h2.symm, hok.1, fun e => hv (hok.2.2.1 e), read_of_decs hv hok.2.2.2 (inMod_bounds hok.2.2.2), hok.2.1⟩
  · rintro ⟨q, rfl, h1, h2, h3, h4⟩
    refine ⟨p, ⟨h1, h4, fun e => absurd e h2, h3.2⟩, ?_⟩
    unfold make
    rw [if_neg h3.ne, h3.decs]
theorem lab_inj {l : List UInt8} {vs us : List Int} (h : LabR l vs) (h' : LabR l us) : vs = us := by
  by_cases hm : (40 : UInt8) ∈ l
  · obtain ⟨p, r, rfl, hp⟩ := pcs_split _ 40 l (Nat.le_refl _) hm
    obtain ⟨q, e1, _, _, h1, _⟩ := (lab_open hp).1 h
    obtain ⟨q', e2, _, _, h2, _⟩ := (lab_open hp).1 h'
    have : q = q' := List.append_cancel_right (e1.symm.trans e2)
    subst this
    exact h1.inj h2
  · rw [((lab_plain hm).1 h).2, ((lab_plain hm).1 h').2]
open Classical in
/-- The values of a label. -/
noncomputable def labVals (l : List UInt8) : Option (List Int) := if h : ∃ vs, LabR l vs then some h.choose else none
theorem labVals_yes {l : List UInt8} {vs : List Int} (h : LabR l vs) : labVals l = some vs := by
  unfold labVals
  have hex : ∃ vs, LabR l vs := ⟨vs, h⟩
  rw [dif_pos hex, lab_inj hex.choose_spec h]
theorem labVals_no {l : List UInt8} (h : ∀ vs, ¬ LabR l vs) : labVals l = none := by
  unfold labVals
  rw [dif_neg (fun ⟨vs, hv⟩ => h vs hv)]
/-- The name of a label: what stands ahead of the parenthesis. -/
def preL (l : List UInt8) : List UInt8 := l.takeWhile (fun c => c != 40)
theorem preL_plain {l : List UInt8} (h : (40 : UInt8) ∉ l) : preL l = l := by
  unfold preL
  induction l with
  | nil => rfl
  | cons c r ih =>
    have h1 : c ≠ 40 := fun e => h (by simp [e])
    have h2 : (40 : UInt8) ∉ r := fun e => h (by simp [e])
    rw [List.takeWhile_cons_of_pos (by simpa using h1), ih h2]
theorem preL_open {p : List UInt8} (h : (40 : UInt8) ∉ p) (r : List UInt8) : preL (p ++ 40 :: r) = p := by
  unfold preL
  rw [List.takeWhile_append_of_pos]
  · simp
  · intro x hx
    simp only [bne_iff_ne, ne_eq]
    rintro rfl
    exact h hx
/-- A text is a label exactly if it is the text of what is read from it. -/
theorem lab_text {l nm : List UInt8} {vs : List Int} (h : labText nm vs = l) (hne : l ≠ []) : LabR l vs := by
  by_cases hok : LabOk nm vs
  · rw [labText_yes hok] at h
    exact ⟨nm, hok, h⟩
  · rw [labText_no hok] at h
    exact absurd h.symm hne
theorem lab_back_open {p r q : List UInt8} {vs : List Int} (hp : (40 : UInt8) ∉ p) (hq : r = q ++ [41] ∨ (q = r ∧ r.getLast? ≠ some 41)) (h : Read yes (pcs 44 q) vs) (hl : ∃ us, LabR (p ++ 40 :: r) us) : labText p vs = p ++ 40 :: r := by
  obtain ⟨us, hl⟩ := hl
  obtain ⟨q', e, h1, h2, h3, h4⟩ := (lab_open hp).1 hl
  have hqq : q = q' := by
    rcases hq with hq | ⟨_, hq⟩
    · exact List.append_cancel_right (hq.symm.trans e)
    · exact absurd (by rw [e]; simp) hq
  subst hqq
  have := h.inj h3
  subst this
  rw [labText_yes ⟨h1, h4, fun e => absurd e h2, h3.2⟩]
  unfold make
  rw [if_neg h3.ne, h3.decs, e]
end Go.Proofs.YtbailpfjgjcbdaaGreatDoor

namespace Go.Proofs.YtbailpfjgjcbdaaGreatDoor
open Go.Lib
theorem join_snoc (sep : List UInt8) : ∀ (ps : List (List UInt8)) (p : List UInt8), ps ≠ [] → join (ps ++ [p]) sep = join ps sep ++ (sep ++ p)
  | [], _, h => absurd rfl h
  | [q], p, _ => by
    show join (q :: p :: []) sep = _
    rw [join_two, join_one, join_one]
  | q :: r :: ps, p, _ => by
    show join (q :: r :: (ps ++ [p])) sep = _
    rw [join_two, join_two]
    have := join_snoc sep (r :: ps) p (by simp)
    rw [List.cons_append] at this
    rw [this]
    simp
theorem decs_one (v : Int) : decs [v] = itoa v := by unfold decs; exact join_one _ _
theorem decs_snoc {vs : List Int} (h : vs ≠ []) (v : Int) : decs (vs ++ [v]) = decs vs ++ [44] ++ itoa v := by
  unfold decs
  rw [List.map_append]
  show join (vs.map itoa ++ [itoa v]) [44] = _
  rw [join_snoc _ _ _ (by simpa using h)]
  simp
theorem decs_first (vs : List Int) (v : Int) (h : vs[0]? = some v) : decs (vs.take 1) = itoa v := by
  rw [show vs.take 1 = [v] by cases vs with
    | nil => cases h
    | cons a r => injection h with h; subst h; rfl]
  exact decs_one v
theorem decs_next (vs : List Int) (k : Nat) (v : Int) (hk : k ≠ 0) (h : vs[k]? = some v) : decs (vs.take (k + 1)) = decs (vs.take k) ++ [44] ++ itoa v := by
  have e : vs.take (k + 1) = vs.take k ++ [v] := by rw [List.take_add_one, h]; rfl
  rw [e]
  refine decs_snoc ?_ v
  intro e2
  have := congrArg List.length e2
  obtain ⟨hlt, _⟩ := List.getElem?_eq_some_iff.1 h
  rw [List.length_take, List.length_nil] at this
  omega
def inMax (v : Int) : Bool := decide (-1000000000000 ≤ v ∧ v ≤ 1000000000000)
/-- The text of a list of numbers. -/
def listT (vs : List Int) : List UInt8 := if vs = [] then [45] else decs vs
def fitsL (vs : List Int) : Bool := decide (vs.length ≤ 64) && vs.all inMax
def listText (vs : List Int) : List UInt8 := if fitsL vs = true then listT vs else []
open Classical in
/-- What is read of the text of a list. -/
noncomputable def readL (l : List UInt8) : Option (List Int) :=
  if l = [45] then some [] else if h : ∃ vs, Read inMax (pcs 44 l) vs ∧ vs.length ≤ 64 then some h.choose else none
theorem readL_dash : readL [45] = some [] := by unfold readL; rw [if_pos rfl]
theorem readL_yes {l : List UInt8} {vs : List Int} (hl : l ≠ [45]) (h : Read inMax (pcs 44 l) vs) (hn : vs.length ≤ 64) : readL l = some vs := by
  unfold readL
  have hex : ∃ vs, Read inMax (pcs 44 l) vs ∧ vs.length ≤ 64 := ⟨vs, h, hn⟩
  rw [if_neg hl, dif_pos hex, hex.choose_spec.1.inj h]
theorem readL_no {l : List UInt8} (hl : l ≠ [45]) (h : ∀ vs, Read inMax (pcs 44 l) vs → ¬ vs.length ≤ 64) : readL l = none := by
  unfold readL
  rw [if_neg hl, dif_neg (fun ⟨vs, h1, h2⟩ => h vs h1 h2)]
theorem dec_ge (n : Int) : 1 ≤ (itoa n).length := List.length_pos_iff.2 (itoa_ne n)
theorem decs_len (vs : List Int) : vs.length ≤ (decs vs).length := by
  unfold decs
  have : ∀ (ps : List (List UInt8)), (∀ p ∈ ps, 1 ≤ p.length) → ps.length ≤ (join ps [44]).length := by
    intro ps
    induction ps with
    | nil => intro _; simp
    | cons p ps ih =>
      intro hp
      cases ps with
      | nil => rw [join_one]; simpa using hp p (by simp)
      | cons q qs =>
        rw [join_two, List.length_append, List.length_append]
        have h1 := ih (fun x hx => hp x (by simp [hx]))
        have h2 := hp p (by simp)
        simp only [List.length_cons, List.length_nil] at *
        omega
  have := this (vs.map itoa) (fun p hp => by obtain ⟨v, _, rfl⟩ := List.mem_map.1 hp; exact dec_ge v)
  simpa using this
theorem itoa_le {n : Int} (h : -9223372036854775808 ≤ n) (h1 : n ≤ 9223372036854775807) : (itoa n).length ≤ 21 := itoa_length_le n h h1
/-- The texts of at most 64 numbers are short. -/
theorem decs_short : ∀ (vs : List Int), (∀ v ∈ vs, -9223372036854775808 ≤ v ∧ v ≤ 9223372036854775807) → (decs vs).length ≤ 22 * vs.length
  | [], _ => by simp [decs, join]
  | [v], h => by rw [decs_one]; have := itoa_le (h v (by simp)).1 (h v (by simp)).2; simp; omega
  | v :: u :: r, h => by
    have ih := decs_short (u :: r) (fun x hx => h x (by simp [hx]))
    have h1 := itoa_le (h v (by simp)).1 (h v (by simp)).2
    have e : decs (v :: u :: r) = itoa v ++ ([44] ++ decs (u :: r)) := by unfold decs; simp only [List.map_cons]; exact join_two _ _ _ _
    rw [e, List.length_append, List.length_append]
    simp only [List.length_cons, List.length_nil] at *
    omega
end Go.Proofs.YtbailpfjgjcbdaaGreatDoor
