/- Decimal digits from the back, as the model's loop makes them. -/
import Derived.Lib.ItoaNum
import Derived.Lib.Hide
import Derived.WalkKit
namespace Go.Proofs.YtkfkdaencajplaaDoor
open Go.Lib
/-- The digits that are still to come. -/
def pre (u : Nat) : List UInt8 := if u = 0 then [] else decDigits u
def dig (u : Nat) : UInt8 := UInt8.ofNat (48 + u % 10)
theorem pre_step {u : Nat} (h : u ≠ 0) : pre u = pre (u / 10) ++ [dig u] := by
  unfold pre dig
  rw [if_neg h]
  by_cases hu : u < 10
  · rw [decDigits, dif_pos hu, if_pos (by omega), Nat.mod_eq_of_lt hu]; rfl
  · rw [decDigits, dif_neg hu, if_neg (by omega)]
theorem dig_toNat (u : Nat) : (dig u).toNat = 48 + u % 10 := by
  unfold dig
  rw [UInt8.toNat_ofNat']
  omega
theorem nDigits_le : ∀ (k u : Nat), u < 10 ^ (k + 1) → nDigits u ≤ k + 1
  | 0, u, h => by rw [nDigits_small (by simpa using h)]; omega
  | k + 1, u, h => by
    by_cases hu : u < 10
    · rw [nDigits_small hu]; omega
    · rw [nDigits_big hu]
      have := nDigits_le k (u / 10) (by rw [Nat.pow_succ] at h; omega)
      omega
theorem itoa_pos (n : Int) : 1 ≤ (itoa n).length := by
  unfold itoa
  split
  · simp
  · rw [decDigits_length]; exact nDigits_pos _
theorem dec_len {u : Nat} (h : u < 9223372036854775809) : (decDigits u).length ≤ 19 := by
  rw [decDigits_length]
  exact nDigits_le 18 u (Nat.lt_of_lt_of_le h (by decide))
theorem pre_next {m : Nat} {ds D : List UInt8} (h : m ≠ 0) (hD : pre m ++ ds.reverse = D) : pre (m / 10) ++ (ds ++ [dig m]).reverse = D := by
  rw [← hD, pre_step h]
  simp
theorem rev_len {m : Nat} {ds D : List UInt8} (hD : pre m ++ ds.reverse = D) (h : D.length ≤ 19) : ds.length ≤ 19 := by
  rw [← hD] at h
  simp at h
  omega
/-- The bytes as the memory holds them. -/
def bv (l : List UInt8) : List Value := l.map fun b => Value.int .u8 (b.toNat : Int)
theorem bv_app (l m : List UInt8) : bv l ++ bv m = bv (l ++ m) := by simp [bv]
theorem bv_len (l : List UInt8) : (bv l).length = l.length := by simp [bv]
theorem bv_dig (u : Nat) : [Value.int .u8 (48 + (u % 10 : Nat) : Int)] = bv [dig u] := by
  simp [bv, dig_toNat]
/-- What has been turned round when the places from k on are done. -/
def back (l : List UInt8) (k : Nat) : List UInt8 := (l.drop k).reverse
theorem back_step {l : List UInt8} {k : Nat} (h : k < l.length) : back l k = back l (k + 1) ++ [l.getD k 0] := by
  unfold back
  rw [List.drop_eq_getElem_cons h, List.reverse_cons, List.getD_eq_getElem?_getD, List.getElem?_eq_getElem h]
  rfl
theorem back_len (l : List UInt8) (k : Nat) : (back l k).length = l.length - k := by simp [back]
theorem back_start (l : List UInt8) : back l l.length = [] := by simp [back]
theorem back_end (l : List UInt8) : back l 0 = l.reverse := by simp [back]
end Go.Proofs.YtkfkdaencajplaaDoor
