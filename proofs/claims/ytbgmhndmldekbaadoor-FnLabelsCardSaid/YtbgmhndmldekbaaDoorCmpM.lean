/- Plain words for comparing lists. -/
import Derived.WalkKit
import Derived.Test.YtbgmhndmldekbaaDoorLow
namespace Go.Proofs.YtbgmhndmldekbaaDoor
open Go.RowKit
def cmpL : List Int → List Int → Int
  | [], [] => 0
  | [], _ :: _ => -1
  | _ :: _, [] => 1
  | x :: xs, y :: ys => if x < y then -1 else if y < x then 1 else cmpL xs ys
theorem cmpL_lt {xs ys : List Int} {k : Nat} {u v : Int} (hx : xs[k]? = some u) (hy : ys[k]? = some v) (h : u < v) : cmpL (xs.drop k) (ys.drop k) = -1 := by
  rw [drop_one _ _ _ hx, drop_one _ _ _ hy, cmpL, if_pos h]
theorem cmpL_gt {xs ys : List Int} {k : Nat} {u v : Int} (hx : xs[k]? = some u) (hy : ys[k]? = some v) (h : v < u) : cmpL (xs.drop k) (ys.drop k) = 1 := by
  rw [drop_one _ _ _ hx, drop_one _ _ _ hy, cmpL, if_neg (by omega), if_pos h]
theorem cmpL_eq {xs ys : List Int} {k : Nat} {u v : Int} (hx : xs[k]? = some u) (hy : ys[k]? = some v) (h : u = v) : cmpL (xs.drop k) (ys.drop k) = cmpL (xs.drop (k + 1)) (ys.drop (k + 1)) := by
  rw [drop_one _ _ _ hx, drop_one _ _ _ hy, cmpL, if_neg (by omega), if_neg (by omega)]
theorem cmpL_end {xs ys : List Int} {k : Nat} (h : xs.length ≤ k ∨ ys.length ≤ k) (hx : k ≤ xs.length) (hy : k ≤ ys.length) :
    cmpL (xs.drop k) (ys.drop k) = if xs.length < ys.length then -1 else if ys.length < xs.length then 1 else 0 := by
  rcases h with h | h
  · have e : xs.drop k = [] := List.drop_eq_nil_of_le h
    rw [e]
    rcases Nat.lt_or_ge k ys.length with h2 | h2
    · rw [List.drop_eq_getElem_cons h2, cmpL, if_pos (by omega)]
    · rw [List.drop_eq_nil_of_le h2, cmpL, if_neg (by omega), if_neg (by omega)]
  · have e : ys.drop k = [] := List.drop_eq_nil_of_le h
    rw [e]
    rcases Nat.lt_or_ge k xs.length with h2 | h2
    · rw [List.drop_eq_getElem_cons h2, cmpL, if_neg (by omega), if_pos (by omega)]
    · rw [List.drop_eq_nil_of_le h2, cmpL, if_neg (by omega), if_neg (by omega)]
end Go.Proofs.YtbgmhndmldekbaaDoor
