/- LabelText: the law. -/
import Derived.Test.YtkfkdaencajplaaDoorLabS
import Derived.Test.YtkfkdaencajplaaDoorLabJ
import Derived.ChangeOld
import Derived.Below
namespace Go.Proofs.YtkfkdaencajplaaDoor
open Go.RowKit Go.Lib
set_option maxRecDepth 100000 in
theorem lawLabelText_any (s : ByteArray) (A : Option Addr) (n c : Nat) (xs : List Int) (w : World) (hr : IRow w w.heap.size A xs) (hn : xs.length = n) (hwf : Wf xs) :
    Calls Tryd.prog 8 #[.string s, .slice A n c] w fun e w' => e = .returned (.bool true) ∧ Below w.heap.size w w' := by
  have HR := Lib.hid hr
  have HL := Lib.hid hn
  have HW := Lib.hid hwf
  clear hr hn hwf
  by_cases hs : 1048576 < s.size
  · have hs' : (1048576 : Int) < (s.size : Int) := by omega
    go_enter Tryd.func8, Tryd.ntmps8
    go_wp2
    go_ret
    exact ⟨rfl, Below.refl _ _⟩
  have hs' : ¬ (1048576 : Int) < (s.size : Int) := by omega
  by_cases hm : 1048576 < n
  · have hm' : (1048576 : Int) < (n : Int) := by omega
    go_enter Tryd.func8, Tryd.ntmps8
    go_wp2
    go_ret
    exact ⟨rfl, Below.refl _ _⟩
  have hm' : ¬ (1048576 : Int) < (n : Int) := by omega
  have hm2 : n ≤ 2000000 := by omega
  go_enter Tryd.func8, Tryd.ntmps8
  go_wp2_with fail
  refine (toI_any A n c xs w _ HR.out (Nat.le_refl _) HL.out hm2).mono ?_; rintro e w1 ⟨rfl, ho1, hb1⟩
  have HB1 := Lib.hid hb1
  have hs1 := hb1.size
  have HO1 := Lib.hid (Row.of_own ho1)
  clear ho1 hb1
  go_wp2_with fail
  refine (specLabelText_any s _ n n xs w1 HO1.out HL.out (by omega) HW.out).mono ?_; rintro e w2 ⟨rfl, hb2⟩
  have HB2 := Lib.hid (HB1.out.trans (hb2.mono hs1))
  have hs2 := HB2.out.size
  clear hb2 HO1
  go_wp2_with fail
  refine (toI_any A n c xs w2 _ (HR.out.below HB2.out) hs2 HL.out hm2).mono ?_; rintro e w3 ⟨rfl, ho3, hb3⟩
  have HB3 := Lib.hid (HB2.out.trans (hb3.mono hs2))
  have hs3 := hb3.size
  have HO3 := Lib.hid (Row.of_own ho3)
  clear ho3 hb3
  go_wp2_with fail
  refine (implLabelText_any s _ n n xs w3 HO3.out HL.out (by omega)).mono ?_; rintro e w4 ⟨rfl, hb4⟩
  have HB4 := Lib.hid (HB3.out.trans (hb4.mono (Nat.le_trans hs2 hs3)))
  have hs4 := hb4.size
  have HO4 := Lib.hid (IRow.below HO3.out hb4)
  clear hb4 HO3
  have hq : ((⟨(labText s.data.toList xs).toArray⟩ : ByteArray).toList == (⟨(labText s.data.toList xs).toArray⟩ : ByteArray).toList) = true := by simp
  generalize (⟨(labText s.data.toList xs).toArray⟩ : ByteArray) = tx at *
  go_wp2_with fail
  refine (toI_any A n c xs w4 _ (HR.out.below HB4.out) (Nat.le_trans hs2 (Nat.le_trans hs3 hs4)) HL.out hm2).mono ?_; rintro e w5 ⟨rfl, ho5, hb5⟩
  have HB5 := Lib.hid (HB4.out.trans (hb5.mono (Nat.le_trans hs2 (Nat.le_trans hs3 hs4))))
  have HO5 := Lib.hid (Row.of_own ho5)
  have HO6 := Lib.hid (IRow.more (IRow.below HO4.out (hb5.mono hs4)) (Nat.le_trans hs4 hb5.size))
  clear ho5 hb5 HO4
  go_wp2_with fail
  refine (eqI_yes _ _ n n n n xs w5 _ HO6.out HO5.out HL.out HL.out hm2).mono ?_; rintro e w6 ⟨rfl, hd⟩
  have HD := Lib.hid hd
  clear hd
  go_wp2
  go_ret
  exact ⟨rfl, HB5.out.trans (HD.out.below _)⟩
end Go.Proofs.YtkfkdaencajplaaDoor
