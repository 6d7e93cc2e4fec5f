/- Plain words for replacing a variable by an expression. -/
import Derived.WalkKit
import Derived.Lib.Hide
import Derived.Test.YtkcbmblpalmmhaaMem
import Derived.Test.YtkcbmblpalmmhaaTmM
import Derived.Test.YtkcbmblpalmmhaaShiftM
namespace Go.Proofs.Ytkcbmblpalmmhaa
open Go.RowKit
def putT (k : Int) (by_ : List Tm) (t : Tm) : List Tm := if t.k = 1 ∧ t.v = k then by_ else [t]
def putL (k : Int) (by_ es : List Tm) : List Tm := es.flatMap (putT k by_)
theorem putT_yes {k : Int} {by_ : List Tm} {t : Tm} (h1 : t.k = 1) (h2 : t.v = k) : putT k by_ t = by_ := by unfold putT; rw [if_pos ⟨h1, h2⟩]
theorem putT_kind {k : Int} {by_ : List Tm} {t : Tm} (h : t.k ≠ 1) : putT k by_ t = [t] := by unfold putT; rw [if_neg (fun e => h e.1)]
theorem putT_other {k : Int} {by_ : List Tm} {t : Tm} (h : t.v ≠ k) : putT k by_ t = [t] := by unfold putT; rw [if_neg (fun e => h e.2)]
theorem putL_nil (k : Int) (by_ : List Tm) : putL k by_ [] = [] := rfl
theorem putL_snoc {k : Int} {by_ es : List Tm} {i : Nat} {t : Tm} (h : es[i]? = some t) : putL k by_ (es.take (i + 1)) = putL k by_ (es.take i) ++ putT k by_ t := by
  rw [take_one _ _ _ h]; unfold putL; rw [List.flatMap_append]; simp
theorem putT_len {k : Int} {by_ : List Tm} {t : Tm} (h : by_.length ≤ 60) : (putT k by_ t).length ≤ 60 := by
  unfold putT; split
  · exact h
  · simp
theorem putL_len {k : Int} {by_ : List Tm} (h : by_.length ≤ 60) : ∀ es : List Tm, (putL k by_ es).length ≤ es.length * 60 := by
  intro es
  induction es with
  | nil => simp [putL]
  | cons t r ih =>
    have := putT_len (k := k) (t := t) h
    have e : putL k by_ (t :: r) = putT k by_ t ++ putL k by_ r := rfl
    rw [e, List.length_append, List.length_cons]
    omega
theorem putL_len' {k : Int} {by_ es : List Tm} {i : Nat} (h : by_.length ≤ 60) (hi : es.length ≤ 60) : (putL k by_ (es.take i)).length ≤ 3600 := by
  have := putL_len (k := k) h (es.take i)
  have hl : (es.take i).length ≤ 60 := by rw [List.length_take]; omega
  omega
/-- The result of replacing a variable, and its code. -/
def subR (es : List Tm) (k : Int) (by_ : List Tm) : List Tm × Int :=
  if ¬ (exB 29 60 es = true ∧ exB 29 60 by_ = true) then ([], 1) else if ¬ (0 ≤ k ∧ k ≤ 28) then ([], 2) else if 60 < (putL k by_ es).length then ([], 5) else (putL k by_ es, 0)
theorem subR_bad {es by_ : List Tm} {k : Int} (h : exB 29 60 es = false ∨ exB 29 60 by_ = false) : subR es k by_ = ([], 1) := by
  unfold subR; rw [if_pos]
  rintro ⟨h1, h2⟩
  rcases h with h | h
  · rw [h1] at h; cases h
  · rw [h2] at h; cases h
theorem subR_far {es by_ : List Tm} {k : Int} (h1 : exB 29 60 es = true) (h2 : exB 29 60 by_ = true) (h : ¬ (0 ≤ k ∧ k ≤ 28)) : subR es k by_ = ([], 2) := by
  unfold subR; rw [if_neg (fun e => e ⟨h1, h2⟩), if_pos h]
theorem subR_full {es by_ : List Tm} {k : Int} (h1 : exB 29 60 es = true) (h2 : exB 29 60 by_ = true) (h : 0 ≤ k ∧ k ≤ 28) (h3 : 60 < (putL k by_ es).length) : subR es k by_ = ([], 5) := by
  unfold subR; rw [if_neg (fun e => e ⟨h1, h2⟩), if_neg (fun e => e h), if_pos h3]
theorem subR_yes {es by_ : List Tm} {k : Int} (h1 : exB 29 60 es = true) (h2 : exB 29 60 by_ = true) (h : 0 ≤ k ∧ k ≤ 28) (h3 : ¬ 60 < (putL k by_ es).length) : subR es k by_ = (putL k by_ es, 0) := by
  unfold subR; rw [if_neg (fun e => e ⟨h1, h2⟩), if_neg (fun e => e h), if_neg h3]
theorem subR_len (es : List Tm) (k : Int) (by_ : List Tm) : (subR es k by_).1.length ≤ 2000000 := by
  unfold subR
  split
  · simp
  · split
    · simp
    · split
      · simp
      · simp only; omega
theorem exB_len {v m : Int} {es : List Tm} (h : exB v m es = true) : (es.length : Int) ≤ m := (exB_scan h).2
end Go.Proofs.Ytkcbmblpalmmhaa
