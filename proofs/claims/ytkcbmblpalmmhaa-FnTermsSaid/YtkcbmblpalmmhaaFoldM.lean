/- Folding, as a plain function of trees. -/
import Derived.WalkKit
import Derived.Lib.Hide
import Derived.Test.YtkcbmblpalmmhaaMem
import Derived.Test.YtkcbmblpalmmhaaTmM
import Derived.Test.YtkcbmblpalmmhaaShiftM
import Derived.Test.YtkcbmblpalmmhaaExM
import Derived.Test.YtkcbmblpalmmhaaOpr
import Derived.Test.YtkcbmblpalmmhaaEvM
namespace Go.Proofs.Ytkcbmblpalmmhaa
open Go.RowKit
/-- The first term. -/
def Ex.root : Ex → Tm
  | .leaf t => t
  | .one t _ => t
  | .two t _ _ => t
def Ex.isNum : Ex → Bool
  | .leaf t => decide (t.k = 0)
  | .one _ _ => false
  | .two _ _ _ => false
def foldX : Ex → Ex
  | .leaf t => .leaf t
  | .one t a => if (foldX a).isNum = true then .leaf ⟨0, evX [] (.one t (foldX a))⟩ else .one t (foldX a)
  | .two t a b => if (foldX a).isNum = true ∧ (foldX b).isNum = true then .leaf ⟨0, evX [] (.two t (foldX a) (foldX b))⟩ else .two t (foldX a) (foldX b)
theorem Ex.flat_root (y : Ex) : y.flat = y.root :: (y.kids.map Ex.flat).flatten := by cases y <;> simp [Ex.flat, Ex.root, Ex.kids]
theorem isNum_root {v : Int} {y : Ex} (h : y.ok v) : y.isNum = decide (y.root.k = 0) := by
  cases y with
  | leaf t => rfl
  | one t a =>
    have := tm_one h.2.1
    show false = decide (t.k = 0)
    rw [this]; rfl
  | two t a b =>
    have := (tm_two h.1 h.2.1).1
    show false = decide (t.k = 0)
    rw [this]; rfl
theorem anyNo {v : Int} {y : Ex} (h : y.ok v) : y.flat.any (fun t => decide (t.k ≠ 0)) = !y.isNum := by
  cases y with
  | leaf t => simp [Ex.flat, Ex.isNum]
  | one t a =>
    have := tm_one h.2.1
    simp [Ex.flat, Ex.isNum, this]
  | two t a b =>
    have := (tm_two h.1 h.2.1).1
    simp [Ex.flat, Ex.isNum, this]
theorem num_leaf {y : Ex} (h : y.isNum = true) : ∃ t, y = .leaf t ∧ t.k = 0 := by
  cases y with
  | leaf t => exact ⟨t, rfl, of_decide_eq_true h⟩
  | one t a => cases h
  | two t a b => cases h
theorem num_ok {v v' : Int} {y : Ex} (h : y.ok v) (hn : y.isNum = true) : y.ok v' := by
  obtain ⟨t, rfl, h0⟩ := num_leaf hn
  refine ⟨?_, h.2⟩
  have := h.1
  rw [tmB_num h0] at this ⊢
  exact this
theorem leaf_num {v n : Int} (h : 0 ≤ n ∧ n ≤ 63) : (Ex.leaf ⟨0, n⟩).ok v := by
  refine ⟨?_, ar_zero (by simp) (by simp)⟩
  rw [tmB_num rfl]
  exact decide_eq_true h
theorem foldX_ok {v : Int} : ∀ {x : Ex}, x.ok v → (foldX x).ok v := by
  intro x
  induction x with
  | leaf t => exact fun h => h
  | one t a ih =>
    intro h
    unfold foldX
    split
    · exact leaf_num (tr_bd _)
    · exact ⟨h.1, h.2.1, ih h.2.2⟩
  | two t a b iha ihb =>
    intro h
    unfold foldX
    split
    · exact leaf_num (opV_bd _ _ _)
    · exact ⟨h.1, h.2.1, iha h.2.2.1, ihb h.2.2.2⟩
theorem foldX_len : ∀ x : Ex, (foldX x).flat.length ≤ x.flat.length := by
  intro x
  induction x with
  | leaf t => exact Nat.le_refl _
  | one t a ih =>
    unfold foldX
    split
    · simp [Ex.flat]
    · simp [Ex.flat]; exact ih
  | two t a b iha ihb =>
    unfold foldX
    split
    · simp [Ex.flat]
    · simp [Ex.flat]; omega
noncomputable def foldR (es : List Tm) : List Tm × Int := if exB 29 60 es = true then ((foldX (treeOf es)).flat, 0) else ([], 1)
theorem foldR_no {es : List Tm} (h : exB 29 60 es = false) : foldR es = ([], 1) := by unfold foldR; rw [if_neg (by rw [h]; simp)]
theorem foldR_yes {es : List Tm} (h : exB 29 60 es = true) : foldR es = ((foldX (treeOf es)).flat, 0) := by unfold foldR; rw [if_pos h]
theorem foldR_len (es : List Tm) : (foldR es).1.length ≤ 2000000 := by
  rcases h : exB 29 60 es with _ | _
  · rw [foldR_no h]; simp
  · rw [foldR_yes h]
    have h1 := foldX_len (treeOf es)
    rw [(treeOf_ok h).1] at h1
    have h2 := (exB_scan h).2
    simp only; omega
noncomputable def constR (es : List Tm) : Int × Int := if exB 29 60 es = true then (if (foldX (treeOf es)).isNum = true then ((foldX (treeOf es)).root.v, 0) else (0, 3)) else (0, 1)
theorem constR_no {es : List Tm} (h : exB 29 60 es = false) : constR es = (0, 1) := by unfold constR; rw [if_neg (by rw [h]; simp)]
theorem constR_var {es : List Tm} (h : exB 29 60 es = true) (h2 : (foldX (treeOf es)).isNum = false) : constR es = (0, 3) := by unfold constR; rw [if_pos h, if_neg (by rw [h2]; simp)]
theorem constR_num {es : List Tm} (h : exB 29 60 es = true) (h2 : (foldX (treeOf es)).isNum = true) : constR es = ((foldX (treeOf es)).root.v, 0) := by unfold constR; rw [if_pos h, if_pos h2]
/-- What an operation folds to, from what its operands do. -/
def foldK (x : Ex) : List Tm := (foldX x).flat
theorem foldX_leaf (t : Tm) : foldK (.leaf t) = [t] := rfl
theorem foldX_one_num {t : Tm} {a : Ex} (h : (foldX a).isNum = true) : foldK (.one t a) = [⟨0, evX [] (.one t (foldX a))⟩] := by unfold foldK; rw [foldX, if_pos h]; rfl
theorem foldX_one_no {t : Tm} {a : Ex} (h : (foldX a).isNum = false) : foldK (.one t a) = t :: foldK a := by unfold foldK; rw [foldX, if_neg (by rw [h]; simp)]; rfl
theorem foldX_two_num {t : Tm} {a b : Ex} (h : (foldX a).isNum = true) (h2 : (foldX b).isNum = true) : foldK (.two t a b) = [⟨0, evX [] (.two t (foldX a) (foldX b))⟩] := by unfold foldK; rw [foldX, if_pos ⟨h, h2⟩]; rfl
theorem foldX_two_no {t : Tm} {a b : Ex} (h : ¬ ((foldX a).isNum = true ∧ (foldX b).isNum = true)) : foldK (.two t a b) = t :: (foldK a ++ foldK b) := by unfold foldK; rw [foldX, if_neg h]; rfl
/-- An operation whose operands have been folded. -/
def preX : Ex → Ex
  | .leaf t => .leaf t
  | .one t a => .one t (foldX a)
  | .two t a b => .two t (foldX a) (foldX b)
def noB (es : List Tm) : Bool := es.any fun t => decide (t.k ≠ 0)
theorem preX_flat (x : Ex) : (preX x).flat = x.root :: (x.kids.map foldK).flatten := by cases x <;> simp [preX, Ex.flat, Ex.root, Ex.kids, foldK]
theorem preX_len (x : Ex) : (preX x).flat.length ≤ x.flat.length := by
  cases x with
  | leaf t => exact Nat.le_refl _
  | one t a => have := foldX_len a; simp [preX, Ex.flat]; omega
  | two t a b => have := foldX_len a; have := foldX_len b; simp [preX, Ex.flat]; omega
theorem noB_append (a b : List Tm) : noB (a ++ b) = (noB a || noB b) := by unfold noB; rw [List.any_append]
theorem noB_fold {v : Int} {y : Ex} (h : y.ok v) : noB (foldK y) = !(foldX y).isNum := anyNo (foldX_ok h)
theorem preX_leaf {x : Ex} (h : x.kids = []) : foldK x = x.root :: (x.kids.map foldK).flatten := by
  cases x with
  | leaf t => rfl
  | one t a => simp [Ex.kids] at h
  | two t a b => simp [Ex.kids] at h
theorem preX_no {v : Int} {x : Ex} (ho : x.ok v) (h : noB (x.kids.map foldK).flatten = true) : foldK x = x.root :: (x.kids.map foldK).flatten := by
  cases x with
  | leaf t => rfl
  | one t a =>
    simp [Ex.kids] at h
    rw [noB_fold ho.2.2] at h
    rw [foldX_one_no (by simpa using h)]
    simp [Ex.root, Ex.kids]
  | two t a b =>
    simp [Ex.kids] at h
    rw [noB_append, noB_fold ho.2.2.1, noB_fold ho.2.2.2] at h
    rw [foldX_two_no (by rintro ⟨h1, h2⟩; rw [h1, h2] at h; cases h)]
    simp [Ex.root, Ex.kids]
theorem preX_num {v : Int} {x : Ex} (ho : x.ok v) (hk : x.kids ≠ []) (h : noB (x.kids.map foldK).flatten = false) : foldK x = [⟨0, evX [] (preX x)⟩] ∧ (preX x).ok 0 := by
  cases x with
  | leaf t => simp [Ex.kids] at hk
  | one t a =>
    simp [Ex.kids] at h
    rw [noB_fold ho.2.2] at h
    have hn : (foldX a).isNum = true := by simpa using h
    refine ⟨foldX_one_num hn, ?_, ho.2.1, num_ok (foldX_ok ho.2.2) hn⟩
    have h3 := tm_one ho.2.1
    have := ho.1
    rw [tmB_not h3] at this ⊢
    exact this
  | two t a b =>
    simp [Ex.kids] at h
    rw [noB_append, noB_fold ho.2.2.1, noB_fold ho.2.2.2] at h
    have hn : (foldX a).isNum = true ∧ (foldX b).isNum = true := by
      rcases e1 : (foldX a).isNum with _ | _ <;> rcases e2 : (foldX b).isNum with _ | _ <;> rw [e1, e2] at h <;> simp at h <;> simp
    refine ⟨foldX_two_num hn.1 hn.2, ?_, ho.2.1, num_ok (foldX_ok ho.2.2.1) hn.1, num_ok (foldX_ok ho.2.2.2) hn.2⟩
    have h3 := (tm_two ho.1 ho.2.1).1
    have := ho.1
    rw [tmB_op h3] at this ⊢
    exact this
end Go.Proofs.Ytkcbmblpalmmhaa
