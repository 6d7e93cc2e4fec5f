/- The value of an expression without variables: the program's answer is that of the plain function. -/
import Derived.Test.YtfoopgnnhgdfaaaProg
import Derived.WalkKit
import Derived.ProofKit
import Derived.OwnWalk
import Derived.Outline
import Derived.Conc.MuLone
import Derived.Lib.Hide
import Derived.Test.YtfoopgnnhgdfaaaMem
import Derived.Test.YtfoopgnnhgdfaaaOwn
import Derived.Test.YtfoopgnnhgdfaaaTmM
import Derived.Test.YtfoopgnnhgdfaaaTmW
import Derived.Test.YtfoopgnnhgdfaaaTmI
import Derived.Test.YtfoopgnnhgdfaaaTmV
import Derived.Test.YtfoopgnnhgdfaaaRet
import Derived.Test.YtfoopgnnhgdfaaaApp
import Derived.Test.YtfoopgnnhgdfaaaShift
import Derived.Test.YtfoopgnnhgdfaaaBuildT
import Derived.Test.YtfoopgnnhgdfaaaConc
import Derived.Test.YtfoopgnnhgdfaaaJoin
import Derived.Test.YtfoopgnnhgdfaaaExM
import Derived.Test.YtfoopgnnhgdfaaaCut
import Derived.Test.YtfoopgnnhgdfaaaOpnd
import Derived.Test.YtfoopgnnhgdfaaaEvM
import Derived.Test.YtfoopgnnhgdfaaaEvA
import Derived.Test.YtfoopgnnhgdfaaaEvN
import Derived.Test.YtfoopgnnhgdfaaaEvI
import Derived.Test.YtfoopgnnhgdfaaaFoldM
import Derived.Test.YtfoopgnnhgdfaaaFoldS
import Derived.Test.YtfoopgnnhgdfaaaFoN
import Derived.Test.YtfoopgnnhgdfaaaFoI
import Derived.Test.YtfoopgnnhgdfaaaFoldI
namespace Go.Proofs.Ytfoopgnnhgdfaaa
open Go.RowKit
set_option maxRecDepth 100000 in
set_option maxHeartbeats 1000000 in
theorem implConst_any (A : Option Addr) (n c : Nat) (es : List Tm) (w : World) (T : TypeId) (lo hi : Nat) (h : OwnV w lo hi T 2 A n c (tvs es)) (hB : hi ≤ w.heap.size) (l : es.length = n) (m : n ≤ 2000000) :
    Calls Try.prog 46 #[.slice A n c] w fun e w' => e = .returned (.tuple #[.int .i64 (constR es).1, .int .i64 (constR es).2]) ∧ Below w.heap.size w w' := by
  have C := Lib.hid (implFold_any A n c es w T lo hi h hB l m)
  clear h hB l
  rcases hv : exB 29 60 es with _ | _
  · have H := Lib.hid (constR_no hv)
    have HF := Lib.hid (foldR_no hv)
    clear hv
    go_enter Try.func46, Try.ntmps46
    go_wp2_with (go_at_call 19; refine (C.out).mono ?_; rw [HF.out]; rintro e w1 ⟨A1, n1, c1, rfl, ho1, hb⟩; clear ho1)
    go_ret2
    exact ⟨by rw [H.out]; rfl, hb⟩
  · have HF := Lib.hid (foldR_yes hv)
    obtain ⟨hflat, hok⟩ := treeOf_ok hv
    have HR := Lib.hid (Ex.flat_root (foldX (treeOf es)))
    have HN := Lib.hid (isNum_root (foldX_ok hok))
    rcases hn : (foldX (treeOf es)).isNum with _ | _
    · have H := Lib.hid (constR_var hv hn)
      have hk : (foldX (treeOf es)).root.k ≠ 0 := by have := HN.out; rw [hn] at this; exact of_decide_eq_false this.symm
      have HD := Lib.hid (show decide ((foldX (treeOf es)).root.k ≠ 0) = true from decide_eq_true hk)
      clear hv hn hflat hok hk HN
      go_enter Try.func46, Try.ntmps46
      go_wp2_with (first
        | (go_at_call 19; refine (C.out).mono ?_; rw [HF.out]; rintro e w1 ⟨A1, n1, c1, rfl, ho1, hb1⟩; have ho2 := ho1.own; rw [HR.out] at ho2; obtain ⟨g1, rfl, h11, h12, hp1⟩ := own_head ho2; have hg1 := (ho2.lt g1 rfl).2; have HB1 := Lib.hid hb1; have CN := Lib.hid (isNo_any (foldX (treeOf es)).root w1); clear ho1 ho2 hb1)
        | (go_at_call 84; refine (CN.out).mono ?_; rw [HD.out]; rintro e w2 ⟨rfl, hb2⟩; have HB2 := Lib.hid (HB1.out.trans (hb2.mono HB1.out.size)); clear hb2))
      go_ret2
      exact ⟨by rw [H.out]; rfl, HB2.out⟩
    · have H := Lib.hid (constR_num hv hn)
      have hk : (foldX (treeOf es)).root.k = 0 := by have := HN.out; rw [hn] at this; exact of_decide_eq_true this.symm
      have HD := Lib.hid (show decide ((foldX (treeOf es)).root.k ≠ 0) = false from decide_eq_false (fun e => e hk))
      clear hv hn hflat hok hk HN
      go_enter Try.func46, Try.ntmps46
      go_wp2_with (first
        | (go_at_call 19; refine (C.out).mono ?_; rw [HF.out]; rintro e w1 ⟨A1, n1, c1, rfl, ho1, hb1⟩; have ho2 := ho1.own; rw [HR.out] at ho2; obtain ⟨g1, rfl, h11, h12, hp1⟩ := own_head ho2; have hg1 := (ho2.lt g1 rfl).2; have HB1 := Lib.hid hb1; have CN := Lib.hid (isNo_any (foldX (treeOf es)).root w1); clear ho1 ho2 hb1)
        | (go_at_call 84; refine (CN.out).mono ?_; rw [HD.out]; rintro e w2 ⟨rfl, hb2⟩; have hd12 := (hb2.cell (p := ⟨g1, 1, none⟩) hg1).trans h12; have HB2 := Lib.hid (HB1.out.trans (hb2.mono HB1.out.size)); clear hb2))
      go_ret2
      exact ⟨by rw [H.out]; rfl, HB2.out⟩
set_option maxRecDepth 100000 in
set_option maxHeartbeats 1000000 in
theorem specConst_any (A : Option Addr) (n c : Nat) (es : List Tm) (w : World) (T : TypeId) (lo hi : Nat) (h : OwnV w lo hi T 2 A n c (tvs es)) (hB : hi ≤ w.heap.size) (l : es.length = n) (m : n ≤ 2000000) :
    Calls Try.prog 45 #[.slice A n c] w fun e w' => e = .returned (.tuple #[.int .i64 (constR es).1, .int .i64 (constR es).2]) ∧ Below w.heap.size w w' := by
  have hcap := own_cap h.own
  have hrow := h.trow.more hB
  clear h hB
  have C := Lib.hid (specAny_any A n c es w w.heap.size hrow l m)
  rcases hv : exB 29 60 es with _ | _
  · have H := Lib.hid (constR_no hv)
    have HV := Lib.hid hv
    clear hv l
    go_enter Try.func45, Try.ntmps45
    go_wp2_with (go_at_call 74; refine (C.out).mono ?_; rw [HV.out]; rintro e w' ⟨rfl, rfl⟩)
    go_ret2
    exact ⟨by rw [H.out]; rfl, Below.refl _ _⟩
  · have HV := Lib.hid hv
    have hn60 := (exB_scan hv).2
    obtain ⟨hflat, hok⟩ := treeOf_ok hv
    have HR := Lib.hid (show foldK (treeOf es) = _ from Ex.flat_root (foldX (treeOf es)))
    have HN := Lib.hid (isNum_root (foldX_ok hok))
    have CF := Lib.hid (l03Fold_any (treeOf es) A n c w (by rw [hflat]; exact hrow) (by rw [hflat]; exact l) (by omega) hcap hok)
    by_cases hk : (foldX (treeOf es)).root.k = 0
    · have H := Lib.hid (constR_num hv (by rw [HN.out]; exact decide_eq_true hk))
      have hk' : ((foldX (treeOf es)).root.k != 0) = false := by simp [hk]
      clear hv l hflat hok hrow hn60 hk
      go_enter Try.func45, Try.ntmps45
      go_wp2_with (first
        | (go_at_call 74; refine (C.out).mono ?_; rw [HV.out]; rintro e w' ⟨rfl, rfl⟩)
        | (go_at_call 83; refine (CF.out).mono ?_; rintro e w2 ⟨A2, n2, c2, rfl, ho2, hb2⟩; rw [HR.out] at ho2; obtain ⟨g1, rfl, h11, h12, hp1⟩ := own_head ho2; have hg1 := (ho2.lt g1 rfl).2; have HB2 := Lib.hid hb2; clear ho2 hb2))
      go_ret2
      exact ⟨by rw [H.out]; rfl, HB2.out⟩
    · have H := Lib.hid (constR_var hv (by rw [HN.out]; exact decide_eq_false hk))
      have hk' : ((foldX (treeOf es)).root.k != 0) = true := by simp [hk]
      clear hv l hflat hok hrow hn60 hk
      go_enter Try.func45, Try.ntmps45
      go_wp2_with (first
        | (go_at_call 74; refine (C.out).mono ?_; rw [HV.out]; rintro e w' ⟨rfl, rfl⟩)
        | (go_at_call 83; refine (CF.out).mono ?_; rintro e w2 ⟨A2, n2, c2, rfl, ho2, hb2⟩; rw [HR.out] at ho2; obtain ⟨g1, rfl, h11, h12, hp1⟩ := own_head ho2; have hg1 := (ho2.lt g1 rfl).2; have HB2 := Lib.hid hb2; clear ho2 hb2))
      go_ret2
      exact ⟨by rw [H.out]; rfl, HB2.out⟩
end Go.Proofs.Ytfoopgnnhgdfaaa
