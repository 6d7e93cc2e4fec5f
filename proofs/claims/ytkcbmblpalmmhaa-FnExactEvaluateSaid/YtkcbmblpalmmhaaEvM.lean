/- The value of an expression, as a plain function of its tree. -/
import Derived.WalkKit
import Derived.Lib.Hide
import Derived.Test.YtkcbmblpalmmhaaMem
import Derived.Test.YtkcbmblpalmmhaaTmM
import Derived.Test.YtkcbmblpalmmhaaShiftM
import Derived.Test.YtkcbmblpalmmhaaExM
import Derived.Test.YtkcbmblpalmmhaaOpr
namespace Go.Proofs.Ytkcbmblpalmmhaa
open Go.RowKit
def evX (vals : List Int) : Ex → Int
  | .leaf t => if t.k = 0 then t.v else vals.getD t.v.toNat 0
  | .one _ a => tr (evX vals a == 0)
  | .two t a b => opV t.v (evX vals a) (evX vals b)
def dataB (vals : List Int) : Bool := vals.all fun v => decide (0 ≤ v ∧ v ≤ 63)
theorem dataB_at {vals : List Int} (h : dataB vals = true) {k : Nat} {v : Int} (hk : vals[k]? = some v) : 0 ≤ v ∧ v ≤ 63 := by
  have := (List.all_eq_true.1 h) v (List.mem_of_getElem? hk)
  exact of_decide_eq_true this
theorem dataB_no {vals : List Int} {k : Nat} {v : Int} (hk : vals[k]? = some v) (h : v < 0 ∨ 63 < v) : dataB vals = false := by
  rcases e : dataB vals with _ | _
  · rfl
  · have := dataB_at e hk
    omega
theorem dataB_all {vals : List Int} (h : ∀ v ∈ vals, 0 ≤ v ∧ v ≤ 63) : dataB vals = true := List.all_eq_true.2 fun v hv => decide_eq_true (h v hv)
/-- A term of few variables is one of more. -/
theorem tmB_more {v v' : Int} {t : Tm} (h : tmB v t = true) (hv : v ≤ v') : tmB v' t = true := by
  unfold tmB at h ⊢
  split
  · rename_i h0; rw [if_pos h0] at h; exact h
  · rename_i h0; rw [if_neg h0] at h
    split
    · rename_i h1; rw [if_pos h1] at h
      have := of_decide_eq_true h
      exact decide_eq_true (by omega)
    · rename_i h1; rw [if_neg h1] at h; exact h
theorem scan_more {v v' : Int} (hv : v ≤ v') : ∀ {es : List Tm} {n : Int}, scan v es n = true → scan v' es n = true := by
  intro es
  induction es with
  | nil => intro n h; exact h
  | cons t r ih =>
    intro n h
    unfold scan at h ⊢
    split at h
    · cases h
    · rename_i hn
      have ht : tmB v t = true := by
        rcases e : tmB v t with _ | _
        · exact absurd (.inr e) hn
        · rfl
      rw [if_neg (by
        rintro (h0 | h0)
        · exact hn (.inl h0)
        · rw [tmB_more ht hv] at h0; cases h0)]
      exact ih h
theorem exB_more {v v' m : Int} {es : List Tm} (h : exB v m es = true) (hv : v ≤ v') : exB v' m es = true :=
  exB_mk (scan_more hv (exB_scan h).1) (exB_scan h).2
theorem ok_less {v v' : Int} : ∀ {x : Ex}, x.ok v → (∀ t ∈ x.flat, tmB v' t = true) → x.ok v' := by
  intro x
  induction x with
  | leaf t => intro h ha; exact ⟨ha t (by simp [Ex.flat]), h.2⟩
  | one t a ih => intro h ha; exact ⟨ha t (by simp [Ex.flat]), h.2.1, ih h.2.2 (fun u hu => ha u (by simp [Ex.flat, hu]))⟩
  | two t a b iha ihb => intro h ha; exact ⟨ha t (by simp [Ex.flat]), h.2.1, iha h.2.2.1 (fun u hu => ha u (by simp [Ex.flat, hu])), ihb h.2.2.2 (fun u hu => ha u (by simp [Ex.flat, hu]))⟩
/-- What the terms of a tree are. -/
theorem tm_leaf {v : Int} {t : Tm} (h : tmB v t = true) (h0 : ar t = 0) : (t.k = 0 ∧ 0 ≤ t.v ∧ t.v ≤ 63) ∨ (t.k = 1 ∧ 0 ≤ t.v ∧ t.v < v) := by
  have h2 : t.k ≠ 2 := fun e => by rw [ar_two e] at h0; omega
  have h3 : t.k ≠ 3 := fun e => by rw [ar_one e] at h0; omega
  by_cases k0 : t.k = 0
  · rw [tmB_num k0] at h
    exact .inl ⟨k0, of_decide_eq_true h⟩
  · by_cases k1 : t.k = 1
    · rw [tmB_var k1] at h
      exact .inr ⟨k1, of_decide_eq_true h⟩
    · rw [tmB_none k0 k1 h2 h3] at h
      cases h
theorem tm_one {t : Tm} (h1 : ar t = 1) : t.k = 3 := by
  unfold ar at h1
  split at h1
  · omega
  · split at h1
    · assumption
    · omega
theorem tm_two {v : Int} {t : Tm} (h : tmB v t = true) (h2 : ar t = 2) : t.k = 2 ∧ 0 ≤ t.v ∧ t.v ≤ 8 := by
  have hk : t.k = 2 := by
    unfold ar at h2
    split at h2
    · assumption
    · split at h2 <;> omega
  rw [tmB_op hk] at h
  exact ⟨hk, of_decide_eq_true h⟩
theorem evX_bd {v : Int} {vals : List Int} (hv : v = (vals.length : Int)) (hd : dataB vals = true) : ∀ {x : Ex}, x.ok v → 0 ≤ evX vals x ∧ evX vals x ≤ 63 := by
  intro x
  cases x with
  | leaf t =>
    intro h
    unfold evX
    rcases tm_leaf h.1 h.2 with ⟨h0, h1⟩ | ⟨h0, h1⟩
    · rw [if_pos h0]; exact h1
    · rw [if_neg (by omega)]
      have hlt : t.v.toNat < vals.length := by omega
      rw [List.getD_eq_getElem?_getD, List.getElem?_eq_getElem hlt]
      exact dataB_at hd (List.getElem?_eq_getElem hlt)
  | one t a => intro _; exact tr_bd _
  | two t a b => intro _; exact opV_bd _ _ _
noncomputable def evalR (es : List Tm) (vals : List Int) : Int × Int :=
  if vals.length ≤ 29 ∧ dataB vals = true ∧ exB vals.length 60 es = true then (evX vals (treeOf es), 0) else (0, 1)
theorem evalR_yes {es : List Tm} {vals : List Int} (h1 : vals.length ≤ 29) (h2 : dataB vals = true) (h3 : exB vals.length 60 es = true) : evalR es vals = (evX vals (treeOf es), 0) := by unfold evalR; rw [if_pos ⟨h1, h2, h3⟩]
theorem evalR_no {es : List Tm} {vals : List Int} (h : ¬ (vals.length ≤ 29 ∧ dataB vals = true ∧ exB vals.length 60 es = true)) : evalR es vals = (0, 1) := by unfold evalR; rw [if_neg h]
theorem treeOf_okV {es : List Tm} {v : Int} (h : exB v 60 es = true) (hv : v ≤ 29) : (treeOf es).flat = es ∧ (treeOf es).ok v := by
  obtain ⟨h1, h2⟩ := treeOf_ok (exB_more h hv)
  exact ⟨h1, ok_less h2 (by rw [h1]; exact scan_all (exB_scan h).1)⟩
end Go.Proofs.Ytkcbmblpalmmhaa
