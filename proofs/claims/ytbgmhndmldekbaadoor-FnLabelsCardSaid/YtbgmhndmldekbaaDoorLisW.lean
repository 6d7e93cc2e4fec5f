/- The text of a list of numbers: the model's function and the program's give one answer. -/
import Derived.Test.YtbgmhndmldekbaaDoorProg
import Derived.WalkKit
import Derived.ProofKit
import Derived.Outline
import Derived.Test.YtbgmhndmldekbaaDoorLow
import Derived.Test.YtbgmhndmldekbaaDoorDecW
import Derived.Test.YtbgmhndmldekbaaDoorL00
import Derived.Test.YtbgmhndmldekbaaDoorMath
import Derived.Test.YtbgmhndmldekbaaDoorRdI
import Derived.Conc.MuLone
namespace Go.Proofs.YtbgmhndmldekbaaDoor
open Go.RowKit Go.Lib
theorem str_app (a b : ByteArray) : (a ++ b : ByteArray) = ⟨(a.data.toList ++ b.data.toList).toArray⟩ := by
  apply ByteArray.ext
  apply Array.ext'
  simp [ByteArray.data_append]
def Wf (xs : List Int) : Prop := ∀ x ∈ xs, -9223372036854775808 ≤ x ∧ x ≤ 9223372036854775807
theorem Wf.at_ {xs : List Int} (h : Wf xs) {k : Nat} {u : Int} (hk : xs[k]? = some u) : -9223372036854775808 ≤ u ∧ u ≤ 9223372036854775807 := h u (List.mem_of_getElem? hk)
theorem Wf.take {xs : List Int} (h : Wf xs) (k : Nat) : Wf (xs.take k) := fun x hx => h x (List.mem_of_mem_take hx)
theorem part_short {xs : List Int} (h : Wf xs) (h64 : xs.length ≤ 64) (k : Nat) : (decs (xs.take k)).length ≤ 1408 := by
  have := decs_short (xs.take k) (h.take k)
  rw [List.length_take] at this
  omega
/-! the bounds of a list of numbers -/
theorem fits_bad {xs : List Int} {k : Nat} {u : Int} (hk : xs[k]? = some u) (h : inMax u = false) : fitsL xs = false := by
  unfold fitsL
  have : xs.all inMax = false := by
    rw [Bool.eq_false_iff]
    intro ha
    have := List.all_eq_true.1 ha u (List.mem_of_getElem? hk)
    rw [h] at this; cases this
  rw [this, Bool.and_false]
theorem inMax_yes {u : Int} (h : -1000000000000 ≤ u ∧ u ≤ 1000000000000) : inMax u = true := by unfold inMax; exact decide_eq_true h
theorem inMax_no {u : Int} (h : u < -1000000000000 ∨ 1000000000000 < u) : inMax u = false := by unfold inMax; exact decide_eq_false (by omega)
end Go.Proofs.YtbgmhndmldekbaaDoor
