/- For every text, the law of IsLabel returns true: the program's answer is the model's. -/
import Derived.Test.YtkfkdaencajplaaDoorLvS
import Derived.Test.YtkfkdaencajplaaDoorLawI
import Derived.Test.YtkfkdaencajplaaDoorLawI2
import Derived.ChangeOld
import Derived.Below
namespace Go.Proofs.YtkfkdaencajplaaDoor
open Go.RowKit Go.Lib
set_option maxRecDepth 100000 in
theorem lawIsLabel_any (a0 : ByteArray) (w : World) (ht : TxtTabs w) :
    Calls Tryd.prog 5 #[.string a0] w fun e w' => e = .returned (.bool true) ∧ Below w.heap.size w w' := by
  have HT := Lib.hid ht
  clear ht
  by_cases hl0 : 1048576 < a0.size
  · have hl0p : (1048576 : Int) < (a0.size : Int) := by omega
    go_enter Tryd.func5, Tryd.ntmps5
    go_wp2
    go_ret
    exact ⟨rfl, Below.refl _ _⟩
  have hn0 : ¬ (1048576 : Int) < (a0.size : Int) := by omega
  go_enter Tryd.func5, Tryd.ntmps5
  have hne0 : ((lvR a0.data.toList).2 != (lvR a0.data.toList).2) = false := by simp
  go_wp2_with fail
  refine (specIsLabel_any a0 _ (by omega)).mono ?_
  rintro e v1 ⟨rfl, b1⟩
  have s1 : w.heap.size ≤ v1.heap.size := b1.size
  have c1 : Below w.heap.size w v1 := b1
  go_wp2_with fail
  refine (implIsLabel_any a0 _ (by omega) (HT.out.below c1)).mono ?_
  rintro e v2 ⟨rfl, b2⟩
  have s2 : v1.heap.size ≤ v2.heap.size := b2.size
  have c2 : Below w.heap.size w v2 := c1.trans (b2.mono (by omega))
  clear c1
  go_wp2
  go_ret
  exact ⟨rfl, c2⟩
end Go.Proofs.YtkfkdaencajplaaDoor
