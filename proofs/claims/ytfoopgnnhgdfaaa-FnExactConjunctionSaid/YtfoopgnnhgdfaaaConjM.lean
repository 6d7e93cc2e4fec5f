/- The conjunction of expressions, as a plain function. -/
import Derived.WalkKit
import Derived.Lib.Hide
import Derived.Test.YtfoopgnnhgdfaaaMem
import Derived.Test.YtfoopgnnhgdfaaaTmM
import Derived.Test.YtfoopgnnhgdfaaaShiftM
import Derived.Test.YtfoopgnnhgdfaaaExM
namespace Go.Proofs.Ytfoopgnnhgdfaaa
open Go.RowKit
def allL : List (List Tm) → List Tm
  | [] => []
  | [x] => x
  | x :: y :: r => ⟨2, 7⟩ :: (x ++ allL (y :: r))
def conjL (oss : List (List Tm)) : List Tm := if oss = [] then [⟨0, 1⟩] else allL oss
/-- One more than each list's length, all together. -/
def sm : List (List Tm) → Nat
  | [] => 0
  | x :: r => x.length + 1 + sm r
theorem sm_flat : ∀ oss : List (List Tm), oss.flatten.length + oss.length = sm oss := by
  intro oss
  induction oss with
  | nil => rfl
  | cons x r ih => simp [sm] at ih ⊢; omega
theorem allL_len : ∀ oss : List (List Tm), oss ≠ [] → (allL oss).length + 1 = sm oss := by
  intro oss
  induction oss with
  | nil => exact fun h => absurd rfl h
  | cons x r ih =>
    intro _
    cases r with
    | nil => simp [allL, sm]
    | cons y r =>
      have := ih (by simp)
      simp [allL, sm] at this ⊢
      omega
theorem sm_ge {oss : List (List Tm)} (h : ∀ x ∈ oss, 1 ≤ x.length) : 2 * oss.length ≤ sm oss := by
  induction oss with
  | nil => simp [sm]
  | cons x r ih =>
    have h1 := h x (by simp)
    have h2 := ih fun y hy => h y (by simp [hy])
    simp [sm] at h2 ⊢
    omega
theorem sm_le {oss : List (List Tm)} (h : ∀ x ∈ oss, x.length ≤ 60) : sm oss ≤ 61 * oss.length := by
  induction oss with
  | nil => simp [sm]
  | cons x r ih =>
    have h1 := h x (by simp)
    have h2 := ih fun y hy => h y (by simp [hy])
    simp [sm] at h2 ⊢
    omega
def conjR (oss : List (List Tm)) : List Tm × Int :=
  if oss.all (exB 29 60) then (if 61 < sm oss then ([], 5) else (conjL oss, 0)) else ([], 1)
theorem exB_pos {es : List Tm} (h : exB 29 60 es = true) : 1 ≤ es.length ∧ es.length ≤ 60 := by
  obtain ⟨hf, _⟩ := treeOf_ok h
  have h1 := Ex.flat_pos (treeOf es)
  rw [hf] at h1
  have h2 := (exB_scan h).2
  omega
theorem conjR_bad {oss : List (List Tm)} {k : Nat} {x : List Tm} (hx : oss[k]? = some x) (h : exB 29 60 x = false) : conjR oss = ([], 1) := by
  have : oss.all (exB 29 60) = false := by
    rw [List.all_eq_false]
    exact ⟨x, List.mem_of_getElem? hx, by rw [h]; simp⟩
  unfold conjR
  rw [this]
  rfl
theorem all_take {oss : List (List Tm)} {n : Nat} (hn : oss.length = n) (h : ∀ i x, i < n → oss[i]? = some x → exB 29 60 x = true) : ∀ x ∈ oss, exB 29 60 x = true := by
  intro x hx
  obtain ⟨i, hi⟩ := List.getElem?_of_mem hx
  have := (List.getElem?_eq_some_iff.1 hi).1
  exact h i x (by omega) hi
theorem conjR_full {oss : List (List Tm)} (h : ∀ x ∈ oss, exB 29 60 x = true) (hs : 61 < sm oss) : conjR oss = ([], 5) := by
  unfold conjR
  rw [if_pos (List.all_eq_true.2 h), if_pos hs]
theorem conjR_ok {oss : List (List Tm)} (h : ∀ x ∈ oss, exB 29 60 x = true) (hs : sm oss ≤ 61) : conjR oss = (conjL oss, 0) := by
  unfold conjR
  rw [if_pos (List.all_eq_true.2 h), if_neg (by omega)]
theorem conjL_len {oss : List (List Tm)} : oss = [] ∧ (conjL oss).length = 1 ∨ oss ≠ [] ∧ conjL oss = allL oss ∧ (conjL oss).length + 1 = sm oss := by
  by_cases h : oss = []
  · left; subst h; exact ⟨rfl, rfl⟩
  · right
    have e : conjL oss = allL oss := by unfold conjL; rw [if_neg h]
    exact ⟨h, e, by rw [e]; exact allL_len oss h⟩
theorem conjR_bound (oss : List (List Tm)) : (conjR oss).1.length ≤ 2000000 := by
  unfold conjR
  split
  · split
    · simp
    · rcases conjL_len (oss := oss) with ⟨_, h⟩ | ⟨_, _, h⟩
      · simp only; omega
      · simp only; omega
  · simp
theorem drop_sm {oss : List (List Tm)} {k : Nat} {x : List Tm} (h : oss[k]? = some x) : sm (oss.drop k) = x.length + 1 + sm (oss.drop (k + 1)) := by
  rw [drop_one _ _ _ h]; rfl
/-- A round of the model's loop, before the last list. -/
theorem allL_step {oss : List (List Tm)} {k : Nat} {x : List Tm} (h : oss[k]? = some x) (hk : k + 1 < oss.length) : allL (oss.drop k) = [⟨2, 7⟩] ++ (x ++ allL (oss.drop (k + 1))) := by
  rw [drop_one _ _ _ h]
  rcases e : oss.drop (k + 1) with _ | ⟨y, r⟩
  · have := congrArg List.length e
    simp at this
    omega
  · rfl
theorem allL_last {oss : List (List Tm)} {k : Nat} {x : List Tm} (h : oss[k]? = some x) (hk : ¬ k + 1 < oss.length) : allL (oss.drop k) = x ∧ allL (oss.drop (k + 1)) = [] := by
  have e : oss.drop (k + 1) = [] := List.drop_eq_nil_of_le (by omega)
  rw [drop_one _ _ _ h, e]
  exact ⟨rfl, rfl⟩
end Go.Proofs.Ytfoopgnnhgdfaaa
