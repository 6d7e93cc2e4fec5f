/- ListText: the model's and the program's answers are one; the law. -/
import Derived.Test.YtbgmhndmldekbaaDoorLisJ
import Derived.ChangeOld
import Derived.Below
namespace Go.Proofs.YtbgmhndmldekbaaDoor
open Go.RowKit Go.Lib
theorem listText_yes {xs : List Int} (h : fitsL xs = true) : listText xs = listT xs := by unfold listText; rw [if_pos h]
theorem listText_no {xs : List Int} (h : fitsL xs = false) : listText xs = [] := by unfold listText; rw [if_neg (by rw [h]; exact Bool.false_ne_true)]
theorem fits_len {xs : List Int} (h : fitsL xs = true) : xs.length ≤ 64 := by unfold fitsL at h; simp at h; exact h.1
theorem any_not (xs : List Int) (p : Int → Bool) : xs.any (fun u => !p u) = !xs.all p := by
  induction xs with
  | nil => rfl
  | cons x r ih => rw [List.any_cons, List.all_cons, ih, Bool.not_and]
end Go.Proofs.YtbgmhndmldekbaaDoor
