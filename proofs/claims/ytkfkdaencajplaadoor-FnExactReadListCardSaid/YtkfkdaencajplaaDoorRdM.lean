/- A number as a text is read: the model's way and the program's, as mathematics. -/
import Derived.Lib.ItoaNum
import Derived.Lib.ParseIntBCases
import Derived.Lib.ParseIntBTie
import Derived.Lib.Strings
namespace Go.Proofs.YtkfkdaencajplaaDoor
open Go.Lib
def isDig (c : UInt8) : Bool := decide (48 ≤ c.toNat ∧ c.toNat ≤ 57)
def dval (acc : Nat) (l : List UInt8) : Nat := l.foldl (fun a c => a * 10 + (c.toNat - 48)) acc
theorem dval_nil (acc : Nat) : dval acc [] = acc := rfl
theorem dval_cons (acc : Nat) (c : UInt8) (r : List UInt8) : dval acc (c :: r) = dval (acc * 10 + (c.toNat - 48)) r := by unfold dval; rw [List.foldl_cons]
theorem dval_app (a b : List UInt8) (acc : Nat) : dval acc (a ++ b) = dval (dval acc a) b := by unfold dval; exact List.foldl_append
theorem dval_ge : ∀ (d : List UInt8) (acc : Nat), acc ≤ dval acc d
  | [], _ => Nat.le_refl _
  | c :: r, acc => by
    simp only [dval_cons]
    have := dval_ge r (acc * 10 + (c.toNat - 48))
    omega
theorem dval_lt : ∀ (d : List UInt8) (acc : Nat), d.all isDig = true → dval acc d < (acc + 1) * 10 ^ d.length
  | [], acc, _ => by simp [dval_nil]
  | c :: r, acc, h => by
    simp only [List.all_cons, Bool.and_eq_true] at h
    have hc : 48 ≤ c.toNat ∧ c.toNat ≤ 57 := by simpa [isDig] using h.1
    have h1 := dval_lt r (acc * 10 + (c.toNat - 48)) h.2
    simp only [dval_cons, List.length_cons, Nat.pow_succ]
    refine Nat.lt_of_lt_of_le h1 ?_
    rw [Nat.mul_comm (10 ^ r.length) 10, ← Nat.mul_assoc]
    exact Nat.mul_le_mul_right _ (by omega)
theorem parse_digits (M : Nat) (hM : 1000000000000000000 ≤ M) : ∀ (d : List UInt8) (acc : Nat), (acc + 1) * 10 ^ d.length ≤ 1000000000000000000 →
    parseUintM M acc d = if d.all isDig then .ok (dval acc d) else .syntax
  | [], acc, _ => by simp [parseUintM, dval_nil]
  | c :: r, acc, h => by
    have hp : 1 ≤ 10 ^ r.length := Nat.one_le_pow _ _ (by decide)
    simp only [List.length_cons, Nat.pow_succ] at h
    rw [Nat.mul_comm (10 ^ r.length) 10, ← Nat.mul_assoc] at h
    have ha : (acc + 1) * 10 ≤ 1000000000000000000 := Nat.le_trans (Nat.le_mul_of_pos_right _ hp) h
    simp only [parseUintM]
    by_cases hc : 48 ≤ c.toNat ∧ c.toNat ≤ 57
    · rw [if_pos hc, if_neg (by omega), if_neg (by omega), parse_digits M hM r _ (Nat.le_trans (Nat.mul_le_mul_right _ (by omega)) h)]
      have : isDig c = true := by simp [isDig, hc]
      simp [this, dval_cons]
    · rw [if_neg hc]
      have : isDig c = false := by simp only [isDig, decide_eq_false_iff_not]; exact hc
      simp [this]
theorem dval_zero_head {c : UInt8} {r : List UInt8} (h : (c :: r).all isDig = true) (h0 : c ≠ 48) : 1 ≤ dval 0 (c :: r) := by
  simp only [List.all_cons, Bool.and_eq_true] at h
  have hc : 48 ≤ c.toNat ∧ c.toNat ≤ 57 := by simpa [isDig] using h.1
  have hn : c.toNat ≠ 48 := fun e => h0 (UInt8.toNat_inj.1 e)
  have := dval_ge r (0 * 10 + (c.toNat - 48))
  simp only [dval_cons]
  omega
theorem ofNat_dig {c : UInt8} (h : isDig c = true) : UInt8.ofNat (48 + (c.toNat - 48)) = c := by
  have hc : 48 ≤ c.toNat ∧ c.toNat ≤ 57 := by simpa [isDig] using h
  apply UInt8.toNat_inj.1
  rw [UInt8.toNat_ofNat']
  omega
/-- Digits without a leading zero are the decimal form of their number. -/
theorem dec_of_digits : ∀ (n : Nat) (d : List UInt8), d.length = n → d ≠ [] → d.all isDig = true → (d.head? ≠ some 48 ∨ d.length = 1) → decDigits (dval 0 d) = d
  | 0, d, hn, hne, _, _ => absurd (List.length_eq_zero_iff.1 hn) hne
  | n + 1, d, hn, hne, hd, hz => by
    obtain ⟨r, c, rfl⟩ : ∃ r c, d = r ++ [c] := ⟨d.dropLast, d.getLast hne, (List.dropLast_concat_getLast hne).symm⟩
    rw [List.all_append, Bool.and_eq_true] at hd
    have hc : isDig c = true := by simpa using hd.2
    have hc' : 48 ≤ c.toNat ∧ c.toNat ≤ 57 := by simpa [isDig] using hc
    rw [dval_app, dval_cons, dval_nil]
    cases r with
    | nil =>
      simp only [dval_nil, List.nil_append]
      rw [decDigits, dif_pos (by omega)]
      rw [show 0 * 10 + (c.toNat - 48) = c.toNat - 48 by omega, ofNat_dig hc]
    | cons b r =>
      have hb : b ≠ 48 := by
        rcases hz with hz | hz
        · intro e; subst e; exact hz rfl
        · simp at hz
      have h1 := dval_zero_head hd.1 hb
      generalize hu : dval 0 (b :: r) = u at h1
      rw [decDigits, dif_neg (by omega), show (u * 10 + (c.toNat - 48)) / 10 = u by omega, show (u * 10 + (c.toNat - 48)) % 10 = c.toNat - 48 by omega, ofNat_dig hc, ← hu]
      rw [dec_of_digits n (b :: r) (by simpa using hn) (by simp) hd.1 (Or.inl (by simpa using hb))]
theorem dec_head (u : Nat) : ∃ c r, decDigits u = c :: r ∧ isDig c = true ∧ (c = 48 → u = 0) ∧ (u = 0 → r = []) := by
  induction u using Nat.strongRecOn with
  | _ u ih =>
    by_cases h : u < 10
    · refine ⟨UInt8.ofNat (48 + u), [], by rw [decDigits, dif_pos h], ?_, ?_, fun _ => rfl⟩
      · simp only [isDig, UInt8.toNat_ofNat', decide_eq_true_eq]; omega
      · intro e
        have := congrArg UInt8.toNat e
        rw [UInt8.toNat_ofNat'] at this
        have h48 : (48 : UInt8).toNat = 48 := rfl
        omega
    · obtain ⟨c, r, h1, h2, h3, h4⟩ := ih (u / 10) (by omega)
      refine ⟨c, r ++ [UInt8.ofNat (48 + u % 10)], by rw [decDigits, dif_neg h, h1]; rfl, h2, fun e => ?_, fun e => by omega⟩
      have := h3 e
      omega
/-- The digits of a number, the model's conditions: at most 18, no zero ahead of others. -/
def numD (d : List UInt8) (long : Bool) : Option Nat :=
  if d = [] ∨ 18 < d.length ∨ (d.head? = some 48 ∧ long = true) then none else if d.all isDig then some (dval 0 d) else none
/-- What the model reads. -/
def num (l : List UInt8) : Option Int :=
  match l with
  | [] => none
  | c :: r => if c = 45 then Option.map (fun u : Nat => -(u : Int)) (numD r true) else Option.map (fun u : Nat => (u : Int)) (numD (c :: r) (decide (1 < (c :: r).length)))
/-- What the program reads. -/
def num2 (l : List UInt8) : Option Int :=
  if 18 < (trimPrefix l [45]).length then none else
  match parseIntB 64 l with
  | .ok v => if itoa v = l then some v else none
  | _ => none
theorem numD_some {d : List UInt8} {b : Bool} {u : Nat} (h : numD d b = some u) : d ≠ [] ∧ d.length ≤ 18 ∧ d.all isDig = true ∧ u = dval 0 d ∧ ¬ (d.head? = some 48 ∧ b = true) := by
  unfold numD at h
  split at h
  · cases h
  · rename_i hn
    split at h
    · rename_i ha
      injection h with h
      exact ⟨fun e => hn (Or.inl e), by omega, ha, h.symm, fun e => hn (Or.inr (Or.inr e))⟩
    · cases h
theorem parse64 {d : List UInt8} (hne : d ≠ []) (hl : d.length ≤ 18) : parseUintB 64 d = if d.all isDig then .ok (dval 0 d) else .syntax := by
  unfold parseUintB
  rw [if_neg hne]
  refine parse_digits _ (by decide) d 0 ?_
  rw [Nat.zero_add, Nat.one_mul]
  exact Nat.le_trans (Nat.pow_le_pow_right (by decide) hl) (by decide)
theorem dval_small {d : List UInt8} (hl : d.length ≤ 18) (h : d.all isDig = true) : dval 0 d < 1000000000000000000 := by
  have := dval_lt d 0 h
  rw [Nat.zero_add, Nat.one_mul] at this
  exact Nat.lt_of_lt_of_le this (Nat.le_trans (Nat.pow_le_pow_right (by decide) hl) (by decide))
theorem itoa_nat (u : Nat) : itoa (u : Int) = decDigits u := by unfold itoa; rw [if_neg (by omega)]; rfl
theorem itoa_neg {u : Nat} (h : u ≠ 0) : itoa (-(u : Int)) = 45 :: decDigits u := by unfold itoa; rw [if_pos (by omega)]; simp
theorem trim_minus (r : List UInt8) : trimPrefix (45 :: r) [45] = r := by simp [trimPrefix, hasPrefix]
theorem trim_other {c : UInt8} (r : List UInt8) (h : c ≠ 45) : trimPrefix (c :: r) [45] = c :: r := by
  have e : hasPrefix (c :: r) [45] = false := by
    have h2 : ((45 : UInt8) == c) = false := by simp [Ne.symm h]
    simp [hasPrefix, List.isPrefixOf, h2]
  unfold trimPrefix
  rw [e]
  rfl
/-- Both read the same. -/
theorem num2_eq (l : List UInt8) : num2 l = num l := by
  cases l with
  | nil => simp [num2, num, parseIntB]
  | cons c r =>
    by_cases hc : c = 45
    · subst hc
      unfold num2 num
      simp only [if_true]
      rw [trim_minus, parseIntB_minus]
      by_cases hl : 18 < r.length
      · rw [if_pos hl]
        have : numD r true = none := by unfold numD; rw [if_pos (Or.inr (Or.inl hl))]
        rw [this]; rfl
      · rw [if_neg hl]
        by_cases hr : r = []
        · subst hr
          simp [parseUintB, signedC, numD]
        · rw [parse64 hr (by omega)]
          cases ha : r.all isDig with
          | false =>
            rw [if_neg (by decide)]
            have : numD r true = none := by unfold numD; rw [ha]; simp
            rw [this]; rfl
          | true =>
            rw [if_pos rfl]
            have hs := dval_small (by omega) ha
            simp only [signedC]
            rw [if_neg (by have : (2 : Nat) ^ (64 - 1) = 9223372036854775808 := by decide
                           omega)]
            obtain ⟨c, d, h1, h2, h3, h4⟩ := dec_head (dval 0 r)
            by_cases hz : r.head? = some 48
            · have : numD r true = none := by unfold numD; rw [if_pos (Or.inr (Or.inr ⟨hz, rfl⟩))]
              rw [this]
              by_cases hu : dval 0 r = 0
              · rw [hu]
                have : itoa (-((0 : Nat) : Int)) = [48] := by rw [show (-((0 : Nat) : Int)) = ((0 : Nat) : Int) by rfl, itoa_nat, decDigits, dif_pos (by decide)]; rfl
                simp only []
                rw [this, if_neg (by simp)]; rfl
              · simp only []
                rw [itoa_neg hu, if_neg]; rfl
                rw [h1]
                intro e
                injection e with _ e
                rw [← e] at hz
                simp at hz
                exact hu (h3 hz)
            · have hd := dec_of_digits _ r rfl hr ha (Or.inl hz)
              have hu : dval 0 r ≠ 0 := by
                cases r with
                | nil => exact absurd rfl hr
                | cons b r => have := dval_zero_head ha (by simpa using hz); omega
              simp only []
              rw [itoa_neg hu, hd, if_pos rfl]
              have : numD r true = some (dval 0 r) := by unfold numD; rw [if_neg (by simp [hr, hz]; omega), if_pos ha]
              rw [this]; rfl
    · have e0 : num (c :: r) = Option.map (fun u : Nat => (u : Int)) (numD (c :: r) (decide (1 < (c :: r).length))) := by simp only [num]; rw [if_neg hc]
      rw [e0]
      unfold num2
      rw [trim_other r hc]
      by_cases hl : 18 < (c :: r).length
      · rw [if_pos hl]
        have : numD (c :: r) (decide (1 < (c :: r).length)) = none := by unfold numD; rw [if_pos (Or.inr (Or.inl hl))]
        rw [this]; rfl
      · rw [if_neg hl]
        by_cases hp : c = 43
        · subst hp
          have hd : isDig 43 = false := by decide
          have : numD (43 :: r) (decide (1 < (43 :: r : List UInt8).length)) = none := by unfold numD; simp [hd]
          rw [this, parseIntB_plus]
          have hnot : ∀ u : Nat, itoa (u : Int) ≠ 43 :: r := by
            intro u e
            obtain ⟨c, d, h1, h2, h3, h4⟩ := dec_head u
            rw [itoa_nat, h1] at e
            injection e with e _
            subst e
            rw [hd] at h2
            cases h2
          cases parseUintB 64 r with
          | «syntax» => rfl
          | range => rfl
          | ok u =>
            simp only [signlessC]
            split
            · rename_i hh; split at hh
              · cases hh
              · injection hh with hh
                subst hh
                rw [if_neg (hnot u)]; rfl
            · rfl
        · rw [parseIntB_plain 64 c r (fun e => hp (UInt8.toNat_inj.1 e)) (fun e => hc (UInt8.toNat_inj.1 e)), parse64 (by simp) (by omega)]
          cases ha : (c :: r).all isDig with
          | false =>
            rw [if_neg (by decide)]
            have : numD (c :: r) (decide (1 < (c :: r).length)) = none := by unfold numD; rw [ha]; simp
            rw [this]; rfl
          | true =>
            rw [if_pos rfl]
            have hs := dval_small (by omega) ha
            simp only [signlessC]
            rw [if_neg (by have : (2 : Nat) ^ (64 - 1) = 9223372036854775808 := by decide
                           omega)]
            simp only []
            rw [itoa_nat]
            by_cases hz : c = 48 ∧ 1 < (c :: r).length
            · have : numD (c :: r) (decide (1 < (c :: r).length)) = none := by
                unfold numD; rw [if_pos (Or.inr (Or.inr ⟨by simp [hz.1], by simpa using hz.2⟩))]
              rw [this]
              obtain ⟨b, d, h1, h2, h3, h4⟩ := dec_head (dval 0 (c :: r))
              rw [if_neg]; rfl
              rw [h1]
              intro e
              injection e with e1 e2
              have := h4 (h3 (e1.trans hz.1))
              subst this
              rw [← e2] at hz
              simp at hz
            · have hq : (c :: r).head? ≠ some 48 ∨ (c :: r).length = 1 := by
                by_cases h : c = 48
                · right
                  have h3 : ¬ 1 < (c :: r).length := fun h2 => hz ⟨h, h2⟩
                  simp only [List.length_cons] at h3 ⊢
                  omega
                · left; simpa using h
              rw [dec_of_digits _ (c :: r) rfl (by simp) ha hq, if_pos rfl]
              have : numD (c :: r) (decide (1 < (c :: r).length)) = some (dval 0 (c :: r)) := by
                unfold numD
                rw [if_neg, if_pos ha]
                rintro (h | h | ⟨h, h'⟩)
                · cases h
                · exact hl h
                · exact hz ⟨by simpa using h, by simpa using h'⟩
              rw [this]; rfl
end Go.Proofs.YtkfkdaencajplaaDoor
