/- What folding and replacing do to the value of an expression. -/
import Derived.WalkKit
import Derived.Lib.Hide
import Derived.Test.YtkcbmblpalmmhaaMem
import Derived.Test.YtkcbmblpalmmhaaTmM
import Derived.Test.YtkcbmblpalmmhaaShiftM
import Derived.Test.YtkcbmblpalmmhaaExM
import Derived.Test.YtkcbmblpalmmhaaOpr
import Derived.Test.YtkcbmblpalmmhaaEvM
import Derived.Test.YtkcbmblpalmmhaaSubM
import Derived.Test.YtkcbmblpalmmhaaStkM
import Derived.Test.YtkcbmblpalmmhaaFoldM
import Derived.Test.YtkcbmblpalmmhaaFoldS
namespace Go.Proofs.Ytkcbmblpalmmhaa
open Go.RowKit
theorem ok_more {v v' : Int} (h : v ≤ v') : ∀ {x : Ex}, x.ok v → x.ok v' := by
  intro x
  induction x with
  | leaf t => exact fun h' => ⟨tmB_more h'.1 h, h'.2⟩
  | one t a ih => exact fun h' => ⟨tmB_more h'.1 h, h'.2.1, ih h'.2.2⟩
  | two t a b iha ihb => exact fun h' => ⟨tmB_more h'.1 h, h'.2.1, iha h'.2.2.1, ihb h'.2.2.2⟩
theorem ex_exB {v m : Int} {x : Ex} (h : x.ok v) (hl : (x.flat.length : Int) ≤ m) : exB v m x.flat = true := by
  have hs := scan_list (v := v) [x] 1 (fun y hy => by rw [List.mem_singleton] at hy; subst hy; exact h) (by omega)
  refine exB_mk ?_ hl
  simpa using hs
theorem treeOf_flat {x : Ex} (h : x.ok 29) (hl : x.flat.length ≤ 60) : treeOf x.flat = x := by
  have he := ex_exB h (m := 60) (by omega)
  have := suf_done he (l := [x]) (by simp) (fun y hy => by rw [List.mem_singleton] at hy; subst hy; exact h)
  simpa using this.symm
theorem evalR_tree {x : Ex} {vals : List Int} (h : x.ok 3) (hl : x.flat.length ≤ 60) (hv : vals.length = 3) (hd : dataB vals = true) : evalR x.flat vals = (evX vals x, 0) := by
  rw [evalR_yes (by omega) hd (by rw [hv]; exact ex_exB h (by omega)), treeOf_flat (ok_more (by omega) h) hl]
theorem foldR_tree {x : Ex} (h : x.ok 3) (hl : x.flat.length ≤ 60) : foldR x.flat = ((foldX x).flat, 0) := by
  rw [foldR_yes (ex_exB (ok_more (by omega) h) (by omega)), treeOf_flat (ok_more (by omega) h) hl]
theorem fold_ev (vals : List Int) : ∀ x : Ex, evX vals (foldX x) = evX vals x := by
  intro x
  induction x with
  | leaf t => rfl
  | one t a ih =>
    rw [foldX]
    split
    · rename_i hn
      have h1 := num_ev (vals := vals) hn
      have h2 := num_ev (vals := []) hn
      show evX [] (.one t (foldX a)) = tr (evX vals a == 0)
      show tr (evX [] (foldX a) == 0) = _
      rw [h2, ← h1, ih]
    · show tr (evX vals (foldX a) == 0) = tr (evX vals a == 0)
      rw [ih]
  | two t a b iha ihb =>
    rw [foldX]
    split
    · rename_i hn
      have h1 := num_ev (vals := vals) hn.1
      have h2 := num_ev (vals := []) hn.1
      have h3 := num_ev (vals := vals) hn.2
      have h4 := num_ev (vals := []) hn.2
      show opV t.v (evX [] (foldX a)) (evX [] (foldX b)) = opV t.v (evX vals a) (evX vals b)
      rw [h2, h4, ← h1, ← h3, iha, ihb]
    · show opV t.v (evX vals (foldX a)) (evX vals (foldX b)) = opV t.v (evX vals a) (evX vals b)
      rw [iha, ihb]
/-- A variable replaced. -/
def subX (k : Int) (b : Ex) : Ex → Ex
  | .leaf t => if t.k = 1 ∧ t.v = k then b else .leaf t
  | .one t a => .one t (subX k b a)
  | .two t a c => .two t (subX k b a) (subX k b c)
theorem subX_flat {v k : Int} {b : Ex} : ∀ {x : Ex}, x.ok v → (subX k b x).flat = putL k b.flat x.flat := by
  intro x
  induction x with
  | leaf t =>
    intro _
    unfold subX
    split
    · rename_i h; simp [putL, Ex.flat, putT, h]
    · rename_i h; simp [putL, Ex.flat, putT, h]
  | one t a ih =>
    intro h
    have h3 := tm_one h.2.1
    show t :: (subX k b a).flat = putL k b.flat (t :: a.flat)
    rw [ih h.2.2]
    simp [putL, putT_kind (show t.k ≠ 1 by omega)]
  | two t a c iha ihc =>
    intro h
    have h3 := (tm_two h.1 h.2.1).1
    show t :: ((subX k b a).flat ++ (subX k b c).flat) = putL k b.flat (t :: (a.flat ++ c.flat))
    rw [iha h.2.2.1, ihc h.2.2.2]
    simp [putL, putT_kind (show t.k ≠ 1 by omega)]
theorem subX_ok {v k : Int} {b : Ex} (hb : b.ok v) : ∀ {x : Ex}, x.ok v → (subX k b x).ok v := by
  intro x
  induction x with
  | leaf t =>
    intro h
    unfold subX
    split
    · exact hb
    · exact h
  | one t a ih => exact fun h => ⟨h.1, h.2.1, ih h.2.2⟩
  | two t a c iha ihc => exact fun h => ⟨h.1, h.2.1, iha h.2.2.1, ihc h.2.2.2⟩
theorem subX_ev {v : Int} {k : Nat} {b : Ex} {vals : List Int} (hk : k < vals.length) : ∀ {x : Ex}, x.ok v → evX vals (subX k b x) = evX (vals.set k (evX vals b)) x := by
  intro x
  induction x with
  | leaf t =>
    intro h
    unfold subX
    split
    · rename_i hc
      show evX vals b = if t.k = 0 then t.v else (vals.set k (evX vals b)).getD t.v.toNat 0
      rw [if_neg (by omega), hc.2, Int.toNat_natCast, List.getD_eq_getElem?_getD, List.getElem?_set_self hk]
      rfl
    · rename_i hc
      show (if t.k = 0 then t.v else vals.getD t.v.toNat 0) = if t.k = 0 then t.v else (vals.set k (evX vals b)).getD t.v.toNat 0
      by_cases h0 : t.k = 0
      · rw [if_pos h0, if_pos h0]
      · rw [if_neg h0, if_neg h0]
        rcases tm_leaf h.1 h.2 with ⟨e, _⟩ | ⟨e, e1, e2⟩
        · exact absurd e h0
        · have hne : t.v ≠ (k : Int) := fun e3 => hc ⟨e, e3⟩
          rw [List.getD_eq_getElem?_getD, List.getD_eq_getElem?_getD, List.getElem?_set_ne (by omega)]
  | one t a ih => intro h; show tr _ = tr _; rw [ih h.2.2]
  | two t a c iha ihc => intro h; show opV _ _ _ = opV _ _ _; rw [iha h.2.2.1, ihc h.2.2.2]
theorem data_set {vals : List Int} {k : Nat} {u : Int} (h : dataB vals = true) (hu : 0 ≤ u ∧ u ≤ 63) : dataB (vals.set k u) = true := by
  refine dataB_all fun v hv => ?_
  rcases List.mem_or_eq_of_mem_set hv with h1 | h1
  · obtain ⟨i, hi⟩ := List.getElem?_of_mem h1
    exact dataB_at h hi
  · subst h1; exact hu
theorem subR_tree {x y : Ex} {k : Nat} (hx : x.ok 3) (hxl : x.flat.length ≤ 60) (hy : y.ok 3) (hyl : y.flat.length ≤ 60) (hk : k < 3) :
    (subR x.flat k y.flat = ([], 5)) ∨ (subR x.flat k y.flat = ((subX k y x).flat, 0) ∧ (subX k y x).flat.length ≤ 60) := by
  have h1 := ex_exB (ok_more (v' := 29) (by omega) hx) (m := 60) (by omega)
  have h2 := ex_exB (ok_more (v' := 29) (by omega) hy) (m := 60) (by omega)
  have hf := subX_flat (k := (k : Int)) (b := y) hx
  by_cases hl : 60 < (putL k y.flat x.flat).length
  · exact .inl (subR_full h1 h2 (by omega) hl)
  · right
    rw [hf]
    exact ⟨subR_yes h1 h2 (by omega) hl, by omega⟩
end Go.Proofs.Ytkcbmblpalmmhaa
