/- LabelName: the law. -/
import Derived.Test.YtkfkdaencajplaaDoorLvS
import Derived.ChangeOld
import Derived.Below
namespace Go.Proofs.YtkfkdaencajplaaDoor
open Go.RowKit Go.Lib
set_option maxRecDepth 100000 in
theorem lawLabelName_any (a0 : ByteArray) (w : World) (ht : TxtTabs w) :
    Calls Tryd.prog 6 #[.string a0] w fun e w' => e = .returned (.bool true) ∧ Below w.heap.size w w' := by
  have HT := Lib.hid ht
  clear ht
  by_cases hl0 : 1048576 < a0.size
  · have hl0p : (1048576 : Int) < (a0.size : Int) := by omega
    go_enter Tryd.func6, Tryd.ntmps6
    go_wp2
    go_ret
    exact ⟨rfl, Below.refl _ _⟩
  have hn0 : ¬ (1048576 : Int) < (a0.size : Int) := by omega
  have HC := Lib.hid (fun W => specLabelName_any a0 W (by omega))
  have HC2 := Lib.hid (fun W h => implLabelName_any a0 W (by omega) h)
  have hq : ((⟨(labName a0.data.toList).toArray⟩ : ByteArray).toList == (⟨(labName a0.data.toList).toArray⟩ : ByteArray).toList) = true := by simp
  generalize (⟨(labName a0.data.toList).toArray⟩ : ByteArray) = tx at *
  go_enter Tryd.func6, Tryd.ntmps6
  go_wp2_with fail
  refine (HC.out _).mono ?_; rintro e w1 ⟨rfl, hb⟩
  have HB := Lib.hid hb
  have hs1 := hb.size
  clear hb
  go_wp2_with fail
  refine (HC2.out _ (HT.out.below HB.out)).mono ?_; rintro e w2 ⟨rfl, hb2⟩
  have HB2 := Lib.hid (HB.out.trans (hb2.mono hs1))
  clear hb2
  go_wp2
  go_ret
  exact ⟨rfl, HB2.out⟩
end Go.Proofs.YtkfkdaencajplaaDoor
