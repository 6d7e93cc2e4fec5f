/- For every text, the law of LabelValues returns true: the program's list and its truth are the model's, and no memory is shared. -/
import Derived.Test.YtkfkdaencajplaaDoorLvS
import Derived.Test.YtkfkdaencajplaaDoorLawI
import Derived.Test.YtkfkdaencajplaaDoorLawI2
import Derived.Test.YtkfkdaencajplaaDoorTurn
import Derived.Test.YtkfkdaencajplaaDoorLawIt
import Derived.ChangeOld
import Derived.Below
namespace Go.Proofs.YtkfkdaencajplaaDoor
open Go.RowKit Go.Lib
set_option maxRecDepth 100000 in
theorem lawLabelValues_any (a0 : ByteArray) (w : World) (ht : TxtTabs w) :
    Calls Tryd.prog 7 #[.string a0] w fun e w' => e = .returned (.bool true) ∧ Below w.heap.size w w' := by
  have HT := Lib.hid ht
  clear ht
  by_cases hl0 : 1048576 < a0.size
  · have hl0p : (1048576 : Int) < (a0.size : Int) := by omega
    go_enter Tryd.func7, Tryd.ntmps7
    go_wp2
    go_ret
    exact ⟨rfl, Below.refl _ _⟩
  have hn0 : ¬ (1048576 : Int) < (a0.size : Int) := by omega
  go_enter Tryd.func7, Tryd.ntmps7
  have hne1 : ((lvR a0.data.toList).2 != (lvR a0.data.toList).2) = false := by simp
  go_wp2_with fail
  refine (specLabelValues_any a0 _ (by omega)).mono ?_
  rintro e v1 ⟨AW0, nW0, cW0, rfl, oW0_1, b1⟩
  have s1 : w.heap.size ≤ v1.heap.size := b1.size
  have kW0 : nW0 ≤ 2000000 := by have h1 := oW0_1.len; have h2 := lvR_len a0.data.toList; simp at h1; omega
  have c1 : Below w.heap.size w v1 := b1
  go_wp2_with fail
  refine (implLabelValues_any a0 _ (by omega) (HT.out.below c1)).mono ?_
  rintro e v2 ⟨AG0, nG0, cG0, rfl, oG0_2, b2⟩
  have s2 : v1.heap.size ≤ v2.heap.size := b2.size
  have oW0_2 := oW0_1.below b2 (by omega)
  clear oW0_1
  have kG0 : nG0 ≤ 2000000 := by have h1 := oG0_2.len; have h2 := lvR_len a0.data.toList; simp at h1; omega
  have c2 : Below w.heap.size w v2 := c1.trans (b2.mono (by omega))
  clear c1
  go_wp2_with fail
  refine (eqI_own _ _ _ _ _ _ _ _ _ _ _ _ oG0_2 oW0_2 kG0).mono ?_
  rintro e v3 ⟨rfl, d3⟩
  have b3 := d3.below v2.heap.size
  clear d3
  have s3 : v2.heap.size ≤ v3.heap.size := b3.size
  have oW0_3 := oW0_2.below b3 (by omega)
  clear oW0_2
  have oG0_3 := oG0_2.below b3 (by omega)
  clear oG0_2
  have c3 : Below w.heap.size w v3 := c2.trans (b3.mono (by omega))
  clear c2
  go_wp2_with fail
  refine (markI_turn _ _ _ _ _ _ _ _ oG0_3 kG0 (by omega) (by omega)).mono ?_
  rintro e v4 ⟨rfl, oG0_4, g4⟩
  have s4 : v3.heap.size ≤ v4.heap.size := g4.size
  have oW0_4 := oW0_3.turn g4 (by omega)
  clear oW0_3
  have c4 : Below w.heap.size w v4 := c3.trans (g4.below (by omega) (by omega))
  clear c3
  clear oG0_3 g4
  go_wp2_with fail
  refine (heldI_own _ _ _ _ _ _ _ oG0_4 kG0 (by omega) (by omega)).mono ?_
  rintro e v4h ⟨rfl, rfl⟩
  have hnq : ((1 + (nG0 : Int)) != (1 + (nG0 : Int))) = false := by simp
  go_wp2_with fail
  refine (implLabelValues_any a0 _ (by omega) (HT.out.below c4)).mono ?_
  rintro e v5 ⟨AH0, nH0, cH0, rfl, oH0_5, b5⟩
  have s5 : v4.heap.size ≤ v5.heap.size := b5.size
  have oW0_5 := oW0_4.below b5 (by omega)
  clear oW0_4
  have oG0_5 := oG0_4.below b5 (by omega)
  clear oG0_4
  have kH0 : nH0 ≤ 2000000 := by have h1 := oH0_5.len; have h2 := lvR_len a0.data.toList; simp at h1; omega
  have c5 : Below w.heap.size w v5 := c4.trans (b5.mono (by omega))
  clear c4
  go_wp2_with fail
  refine (eqI_own _ _ _ _ _ _ _ _ _ _ _ _ oH0_5 oW0_5 kH0).mono ?_
  rintro e v6 ⟨rfl, d6⟩
  have b6 := d6.below v5.heap.size
  clear d6
  have s6 : v5.heap.size ≤ v6.heap.size := b6.size
  have oW0_6 := oW0_5.below b6 (by omega)
  clear oW0_5
  have oG0_6 := oG0_5.below b6 (by omega)
  clear oG0_5
  have oH0_6 := oH0_5.below b6 (by omega)
  clear oH0_5
  have c6 : Below w.heap.size w v6 := c5.trans (b6.mono (by omega))
  clear c5
  go_wp2_with fail
  refine (heldI_own _ _ _ _ _ _ _ oG0_6 kG0 (by omega) (by omega)).mono ?_
  rintro e v6h ⟨rfl, rfl⟩
  go_wp2
  go_ret
  exact ⟨rfl, c6⟩
end Go.Proofs.YtkfkdaencajplaaDoor
