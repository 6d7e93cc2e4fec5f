/- The law of SplitWords, walked. -/
import Derived.BigQuiet
import Derived.Outline
import Derived.Test.YtjnmndjhlllfkaaWdI
import Derived.Test.YtjnmndjhlllfkaaDatI
import Derived.Test.YtjnmndjhlllfkaaMrkI
import Derived.Test.YtjnmndjhlllfkaaLawB
namespace Go.Proofs.Ytjnmndjhlllfkaa
open Go.RowKit
set_option maxRecDepth 100000 in
set_option maxHeartbeats 8000000 in
theorem lawSplitWords_any (u : ByteArray) (w : World) :
    Calls Try.prog 3 #[.string u] w fun e w' => e = .returned (.bool true) ∧ Below w.heap.size w w' := by
  by_cases K_n : (u.size : Int) > 1048576
  · go_enter Try.func3, Try.ntmps3
    go_wp2
    go_ret
    exact ⟨rfl, Below.refl _ _⟩
  have hn_u : ¬ (1048576 : Int) < (u.size : Int) := by omega
  have KU := Lib.hid (show u.size ≤ 1048576 by omega)
  have HB := Lib.hid (Below.refl w.heap.size w)
  clear K_n
  have KR := Lib.hid (ok_words KU.out)
  have WR := Lib.hid (cnt_words KU.out)
  go_enter Try.func3, Try.ntmps3
  go_wp2_with fail
  refine (specWd_any u w KU.out).mono ?_
  rintro e v1 ⟨Aw, cw, rfl, hO, b3⟩
  have HWw := Lib.hid HB.out.size
  have HW := Lib.hid (hO)
  have HB := Lib.hid (HB.out.trans (b3.mono HB.out.size))
  have HWb := Lib.hid (Nat.le_refl v1.heap.size)
  clear b3 hO
  go_wp2_with fail
  refine (implWd_any u v1 KU.out).mono ?_
  rintro e v2 ⟨Ag, cg, rfl, hO, b3⟩
  have O_HW_HG := HWb
  have HGw := Lib.hid HB.out.size
  have HG := Lib.hid (hO)
  have HB := Lib.hid (HB.out.trans (b3.mono HB.out.size))
  have HW := Lib.hid (OL.nb HW.out b3 HWb.out)
  have HWb := Lib.hid (Nat.le_trans HWb.out b3.size)
  have HGb := Lib.hid (Nat.le_refl v2.heap.size)
  clear b3 hO
  go_wp2_with fail
  refine (eqDStringS_yes _ _ _ _ _ _ (wordsB u) _ _ _ HG.out.lrow HW.out.lrow (fun b h => Nat.lt_of_lt_of_le h.2 HGb.out) (fun b h => Nat.lt_of_lt_of_le h.2 HWb.out) rfl rfl KR.out).mono ?_
  rintro e v3 ⟨rfl, b3⟩
  have HB := Lib.hid (HB.out.trans (b3.mono HB.out.size))
  have HW := Lib.hid (OL.nb HW.out b3 HWb.out)
  have HWb := Lib.hid (Nat.le_trans HWb.out b3.size)
  have HG := Lib.hid (OL.nb HG.out b3 HGb.out)
  have HGb := Lib.hid (Nat.le_trans HGb.out b3.size)
  clear b3
  go_wp2_with fail
  have wr := WR.out
  refine (markOStringS_any Ag _ cg 1 (wordsB u) _ _ HG.out (by omega) (by omega)).mono ?_
  rintro e v4 ⟨rfl, hO, t3⟩
  have HB := Lib.hid (Below.nt HB.out t3 HGw.out)
  have HW := Lib.hid (OL.nt HW.out t3 (Or.inl O_HW_HG.out))
  have HWb := Lib.hid (Nat.le_trans HWb.out t3.size)
  have HGb := Lib.hid (Nat.le_trans HGb.out t3.size)
  have HG := Lib.hid hO
  clear t3 hO
  have hq0 : ¬ (1 + ((cntL txtM (wordsB u) : Nat) : Int) < 0) := by omega
  have hqm : ((1 + ((cntL txtM (wordsB u) : Nat) : Int)) != (1 + ((cntL txtM (wordsB u) : Nat) : Int))) = false := by simp
  have HL := Lib.hid (show (wordsB u).length ≤ maxLen by have := KR.out.1; unfold maxLen; omega)
  go_wp2_with fail
  refine (heldOStringS_any Ag _ cg 1 (wordsB u) _ _ HG.out.lrow (fun b h => Nat.lt_of_lt_of_le h.2 HGb.out) rfl HL.out (by omega) (by omega)).mono ?_
  rintro e v5 ⟨rfl, b3⟩
  have HB := Lib.hid (HB.out.trans (b3.mono HB.out.size))
  have HW := Lib.hid (OL.nb HW.out b3 HWb.out)
  have HWb := Lib.hid (Nat.le_trans HWb.out b3.size)
  have HG := Lib.hid (OL.nb HG.out b3 HGb.out)
  have HGb := Lib.hid (Nat.le_trans HGb.out b3.size)
  clear b3
  go_wp2_with fail
  refine (implWd_any u v5 KU.out).mono ?_
  rintro e v6 ⟨Ah, ch, rfl, hO, b3⟩
  have O_HW_HH := HWb
  have O_HG_HH := HGb
  have HHw := Lib.hid HB.out.size
  have HH := Lib.hid (hO)
  have HB := Lib.hid (HB.out.trans (b3.mono HB.out.size))
  have HW := Lib.hid (OL.nb HW.out b3 HWb.out)
  have HWb := Lib.hid (Nat.le_trans HWb.out b3.size)
  have HG := Lib.hid (OL.nb HG.out b3 HGb.out)
  have HGb := Lib.hid (Nat.le_trans HGb.out b3.size)
  have HHb := Lib.hid (Nat.le_refl v6.heap.size)
  clear b3 hO
  go_wp2_with fail
  refine (eqDStringS_yes _ _ _ _ _ _ (wordsB u) _ _ _ HH.out.lrow HW.out.lrow (fun b h => Nat.lt_of_lt_of_le h.2 HHb.out) (fun b h => Nat.lt_of_lt_of_le h.2 HWb.out) rfl rfl KR.out).mono ?_
  rintro e v7 ⟨rfl, b3⟩
  have HB := Lib.hid (HB.out.trans (b3.mono HB.out.size))
  have HW := Lib.hid (OL.nb HW.out b3 HWb.out)
  have HWb := Lib.hid (Nat.le_trans HWb.out b3.size)
  have HG := Lib.hid (OL.nb HG.out b3 HGb.out)
  have HGb := Lib.hid (Nat.le_trans HGb.out b3.size)
  have HH := Lib.hid (OL.nb HH.out b3 HHb.out)
  have HHb := Lib.hid (Nat.le_trans HHb.out b3.size)
  clear b3
  go_wp2_with fail
  refine (heldOStringS_any Ag _ cg 1 (wordsB u) _ _ HG.out.lrow (fun b h => Nat.lt_of_lt_of_le h.2 HGb.out) rfl HL.out (by omega) (by omega)).mono ?_
  rintro e v8 ⟨rfl, b3⟩
  have HB := Lib.hid (HB.out.trans (b3.mono HB.out.size))
  have HW := Lib.hid (OL.nb HW.out b3 HWb.out)
  have HWb := Lib.hid (Nat.le_trans HWb.out b3.size)
  have HG := Lib.hid (OL.nb HG.out b3 HGb.out)
  have HGb := Lib.hid (Nat.le_trans HGb.out b3.size)
  have HH := Lib.hid (OL.nb HH.out b3 HHb.out)
  have HHb := Lib.hid (Nat.le_trans HHb.out b3.size)
  clear b3
  go_wp2
  go_ret
  exact ⟨rfl, HB.out⟩
end Go.Proofs.Ytjnmndjhlllfkaa
