/- The value of an expression without variables: the program's answer is that of the plain function. -/
import Derived.Test.YtkcbmblpalmmhaaProg
import Derived.WalkKit
import Derived.ProofKit
import Derived.OwnWalk
import Derived.Outline
import Derived.Conc.MuLone
import Derived.Lib.Hide
import Derived.Test.YtkcbmblpalmmhaaMem
import Derived.Test.YtkcbmblpalmmhaaOwn
import Derived.Test.YtkcbmblpalmmhaaTmM
import Derived.Test.YtkcbmblpalmmhaaTmW
import Derived.Test.YtkcbmblpalmmhaaTmI
import Derived.Test.YtkcbmblpalmmhaaTmV
import Derived.Test.YtkcbmblpalmmhaaRet
import Derived.Test.YtkcbmblpalmmhaaApp
import Derived.Test.YtkcbmblpalmmhaaShift
import Derived.Test.YtkcbmblpalmmhaaBuildT
import Derived.Test.YtkcbmblpalmmhaaConc
import Derived.Test.YtkcbmblpalmmhaaJoin
import Derived.Test.YtkcbmblpalmmhaaExM
import Derived.Test.YtkcbmblpalmmhaaCut
import Derived.Test.YtkcbmblpalmmhaaOpnd
import Derived.Test.YtkcbmblpalmmhaaEvM
import Derived.Test.YtkcbmblpalmmhaaEvA
import Derived.Test.YtkcbmblpalmmhaaEvN
import Derived.Test.YtkcbmblpalmmhaaEvI
import Derived.Test.YtkcbmblpalmmhaaFoldM
import Derived.Test.YtkcbmblpalmmhaaFoldS
import Derived.Test.YtkcbmblpalmmhaaFoN
import Derived.Test.YtkcbmblpalmmhaaFoI
import Derived.Test.YtkcbmblpalmmhaaFoldI
namespace Go.Proofs.Ytkcbmblpalmmhaa
open Go.RowKit
set_option maxRecDepth 100000 in
set_option maxHeartbeats 1000000 in
theorem implConst_any (A : Option Addr) (n c : Nat) (es : List Tm) (w : World) (T : TypeId) (lo hi : Nat) (h : OwnV w lo hi T 2 A n c (tvs es)) (hB : hi ≤ w.heap.size) (l : es.length = n) (m : n ≤ 2000000) :
    Calls Try.prog 30 #[.slice A n c] w fun e w' => e = .returned (.tuple #[.int .i64 (constR es).1, .int .i64 (constR es).2]) ∧ Below w.heap.size w w' := by
  have C := Lib.hid (implFold_any A n c es w T lo hi h hB l m)
  clear h hB l
  rcases hv : exB 29 60 es with _ | _
  · have H := Lib.hid (constR_no hv)
    have HF := Lib.hid (foldR_no hv)
    clear hv
    go_enter Try.func30, Try.ntmps30
    go_wp2_with (go_at_call 13; refine (C.out).mono ?_; rw [HF.out]; rintro e w1 ⟨A1, n1, c1, rfl, ho1, hb⟩; clear ho1)
    go_ret2
    exact ⟨by rw [H.out]; rfl, hb⟩
  · have HF := Lib.hid (foldR_yes hv)
    obtain ⟨hflat, hok⟩ := treeOf_ok hv
    have HR := Lib.hid (Ex.flat_root (foldX (treeOf es)))
    have HN := Lib.hid (isNum_root (foldX_ok hok))
    rcases hn : (foldX (treeOf es)).isNum with _ | _
    · have H := Lib.hid (constR_var hv hn)
      have hk : (foldX (treeOf es)).root.k ≠ 0 := by have := HN.out; rw [hn] at this; exact of_decide_eq_false this.symm
      have HD := Lib.hid (show decide ((foldX (treeOf es)).root.k ≠ 0) = true from decide_eq_true hk)
      clear hv hn hflat hok hk HN
      go_enter Try.func30, Try.ntmps30
      go_wp2_with (first
        | (go_at_call 13; refine (C.out).mono ?_; rw [HF.out]; rintro e w1 ⟨A1, n1, c1, rfl, ho1, hb1⟩; have ho2 := ho1.own; rw [HR.out] at ho2; obtain ⟨g1, rfl, h11, h12, hp1⟩ := own_head ho2; have hg1 := (ho2.lt g1 rfl).2; have HB1 := Lib.hid hb1; have CN := Lib.hid (isNo_any (foldX (treeOf es)).root w1); clear ho1 ho2 hb1)
        | (go_at_call 55; refine (CN.out).mono ?_; rw [HD.out]; rintro e w2 ⟨rfl, hb2⟩; have HB2 := Lib.hid (HB1.out.trans (hb2.mono HB1.out.size)); clear hb2))
      go_ret2
      exact ⟨by rw [H.out]; rfl, HB2.out⟩
    · have H := Lib.hid (constR_num hv hn)
      have hk : (foldX (treeOf es)).root.k = 0 := by have := HN.out; rw [hn] at this; exact of_decide_eq_true this.symm
      have HD := Lib.hid (show decide ((foldX (treeOf es)).root.k ≠ 0) = false from decide_eq_false (fun e => e hk))
      clear hv hn hflat hok hk HN
      go_enter Try.func30, Try.ntmps30
      go_wp2_with (first
        | (go_at_call 13; refine (C.out).mono ?_; rw [HF.out]; rintro e w1 ⟨A1, n1, c1, rfl, ho1, hb1⟩; have ho2 := ho1.own; rw [HR.out] at ho2; obtain ⟨g1, rfl, h11, h12, hp1⟩ := own_head ho2; have hg1 := (ho2.lt g1 rfl).2; have HB1 := Lib.hid hb1; have CN := Lib.hid (isNo_any (foldX (treeOf es)).root w1); clear ho1 ho2 hb1)
        | (go_at_call 55; refine (CN.out).mono ?_; rw [HD.out]; rintro e w2 ⟨rfl, hb2⟩; have hd12 := (hb2.cell (p := ⟨g1, 1, none⟩) hg1).trans h12; have HB2 := Lib.hid (HB1.out.trans (hb2.mono HB1.out.size)); clear hb2))
      go_ret2
      exact ⟨by rw [H.out]; rfl, HB2.out⟩
set_option maxRecDepth 100000 in
set_option maxHeartbeats 1000000 in
theorem specConst_any (A : Option Addr) (n c : Nat) (es : List Tm) (w : World) (T : TypeId) (lo hi : Nat) (h : OwnV w lo hi T 2 A n c (tvs es)) (hB : hi ≤ w.heap.size) (l : es.length = n) (m : n ≤ 2000000) :
    Calls Try.prog 29 #[.slice A n c] w fun e w' => e = .returned (.tuple #[.int .i64 (constR es).1, .int .i64 (constR es).2]) ∧ Below w.heap.size w w' := by
  have hcap := own_cap h.own
  have hrow := h.trow.more hB
  clear h hB
  have C := Lib.hid (specAny_any A n c es w w.heap.size hrow l m)
  rcases hv : exB 29 60 es with _ | _
  · have H := Lib.hid (constR_no hv)
    have HV := Lib.hid hv
    clear hv l
    go_enter Try.func29, Try.ntmps29
    go_wp2_with (go_at_call 51; refine (C.out).mono ?_; rw [HV.out]; rintro e w' ⟨rfl, rfl⟩)
    go_ret2
    exact ⟨by rw [H.out]; rfl, Below.refl _ _⟩
  · have HV := Lib.hid hv
    have hn60 := (exB_scan hv).2
    obtain ⟨hflat, hok⟩ := treeOf_ok hv
    have HR := Lib.hid (show foldK (treeOf es) = _ from Ex.flat_root (foldX (treeOf es)))
    have HN := Lib.hid (isNum_root (foldX_ok hok))
    have CF := Lib.hid (l03Fold_any (treeOf es) A n c w (by rw [hflat]; exact hrow) (by rw [hflat]; exact l) (by omega) hcap hok)
    by_cases hk : (foldX (treeOf es)).root.k = 0
    · have H := Lib.hid (constR_num hv (by rw [HN.out]; exact decide_eq_true hk))
      have hk' : ((foldX (treeOf es)).root.k != 0) = false := by simp [hk]
      clear hv l hflat hok hrow hn60 hk
      go_enter Try.func29, Try.ntmps29
      go_wp2_with (first
        | (go_at_call 51; refine (C.out).mono ?_; rw [HV.out]; rintro e w' ⟨rfl, rfl⟩)
        | (go_at_call 54; refine (CF.out).mono ?_; rintro e w2 ⟨A2, n2, c2, rfl, ho2, hb2⟩; rw [HR.out] at ho2; obtain ⟨g1, rfl, h11, h12, hp1⟩ := own_head ho2; have hg1 := (ho2.lt g1 rfl).2; have HB2 := Lib.hid hb2; clear ho2 hb2))
      go_ret2
      exact ⟨by rw [H.out]; rfl, HB2.out⟩
    · have H := Lib.hid (constR_var hv (by rw [HN.out]; exact decide_eq_false hk))
      have hk' : ((foldX (treeOf es)).root.k != 0) = true := by simp [hk]
      clear hv l hflat hok hrow hn60 hk
      go_enter Try.func29, Try.ntmps29
      go_wp2_with (first
        | (go_at_call 51; refine (C.out).mono ?_; rw [HV.out]; rintro e w' ⟨rfl, rfl⟩)
        | (go_at_call 54; refine (CF.out).mono ?_; rintro e w2 ⟨A2, n2, c2, rfl, ho2, hb2⟩; rw [HR.out] at ho2; obtain ⟨g1, rfl, h11, h12, hp1⟩ := own_head ho2; have hg1 := (ho2.lt g1 rfl).2; have HB2 := Lib.hid hb2; clear ho2 hb2))
      go_ret2
      exact ⟨by rw [H.out]; rfl, HB2.out⟩
end Go.Proofs.Ytkcbmblpalmmhaa
