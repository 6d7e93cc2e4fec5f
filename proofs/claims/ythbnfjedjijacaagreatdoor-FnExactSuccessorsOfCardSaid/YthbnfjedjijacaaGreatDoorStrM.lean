/- Texts compared; increasing lists: plain mathematics. -/
import Derived.WalkKit
import Derived.Lib.Hide
import Derived.Test.YthbnfjedjijacaaGreatDoorLow
namespace Go.Proofs.YthbnfjedjijacaaGreatDoor
open Go.RowKit
theorem bl_irrefl : ∀ l : List UInt8, Op.bytesLess l l = false
  | [] => rfl
  | a :: l => by
    unfold Op.bytesLess
    rw [bl_irrefl l, Bool.and_false, Bool.or_false]
    exact decide_eq_false (by simp [UInt8.lt_irrefl])
theorem bl_asymm : ∀ {x y : List UInt8}, Op.bytesLess x y = true → Op.bytesLess y x = false
  | [], [], h => by simp [Op.bytesLess] at h
  | [], _ :: _, _ => by simp [Op.bytesLess]
  | _ :: _, [], h => by simp [Op.bytesLess] at h
  | a :: x, b :: y, h => by
    unfold Op.bytesLess at h ⊢
    rw [Bool.or_eq_true, Bool.and_eq_true] at h
    rw [Bool.or_eq_false_iff]
    rcases h with h | ⟨h1, h2⟩
    · have h' := of_decide_eq_true h
      refine ⟨decide_eq_false fun h3 => absurd (UInt8.lt_trans h' h3) (UInt8.lt_irrefl a), ?_⟩
      have : (b == a) = false := by
        rw [Bool.eq_false_iff]
        intro e
        rw [beq_iff_eq] at e
        rw [e] at h'; exact UInt8.lt_irrefl a h'
      rw [this]; rfl
    · have e : a = b := by simpa using h1
      subst e
      exact ⟨decide_eq_false (by simp [UInt8.lt_irrefl]), by rw [bl_asymm h2]; simp⟩
theorem bl_tri : ∀ {x y : List UInt8}, Op.bytesLess x y = false → Op.bytesLess y x = false → x = y
  | [], [], _, _ => rfl
  | [], _ :: _, h, _ => by simp [Op.bytesLess] at h
  | _ :: _, [], _, h => by simp [Op.bytesLess] at h
  | a :: x, b :: y, h1, h2 => by
    unfold Op.bytesLess at h1 h2
    rw [Bool.or_eq_false_iff] at h1 h2
    have k1 := of_decide_eq_false h1.1
    have k2 := of_decide_eq_false h2.1
    have e : a = b := UInt8.le_antisymm (UInt8.not_lt.1 k2) (UInt8.not_lt.1 k1)
    subst e
    rw [beq_self_eq_true, Bool.true_and] at h1 h2
    rw [bl_tri h1.2 h2.2]
def lsB (a b : ByteArray) : Bool := Op.bytesLess a.toList b.toList
def eqB (a b : ByteArray) : Bool := a.toList == b.toList
theorem lsB_irrefl (a : ByteArray) : lsB a a = false := bl_irrefl _
theorem lsB_asymm {a b : ByteArray} (h : lsB a b = true) : lsB b a = false := bl_asymm h
theorem eqB_tri {a b : ByteArray} (h : lsB a b = false) : eqB a b = !(lsB b a) := by
  unfold eqB
  rcases e : lsB b a with _ | _
  · rw [bl_tri h e]; simp
  · rw [Bool.not_true, Bool.eq_false_iff]
    intro h2
    have h3 : a.toList = b.toList := by simpa using h2
    unfold lsB at e
    rw [h3, bl_irrefl] at e; cases e
theorem eqB_less {a b : ByteArray} (h : lsB a b = true) : eqB a b = false := by
  unfold eqB
  rw [Bool.eq_false_iff]
  intro h2
  have h3 : a.toList = b.toList := by simpa using h2
  unfold lsB at h
  rw [h3, bl_irrefl] at h; cases h
/-- Go's test 'greater' on texts is 'less' the other way round. -/
theorem gtr_eq (a b : ByteArray) : (!(lsB a b || eqB a b)) = lsB b a := by
  rcases e : lsB a b with _ | _
  · rw [eqB_tri e]; simp
  · rw [lsB_asymm e]; rfl
theorem leq_eq (a b : ByteArray) : (lsB a b || eqB a b) = !(lsB b a) := by
  rw [← gtr_eq a b]; simp
def cmS (a b : ByteArray) : Int := if lsB a b = true then -1 else if lsB b a = true then 1 else 0
/-- Each element is less than the next one. -/
def inc {α : Type} (c : α → α → Int) : List α → Bool
  | [] => true
  | [_] => true
  | x :: y :: r => decide (c x y < 0) && inc c (y :: r)
theorem inc_snoc {α : Type} (c : α → α → Int) : ∀ (l : List α) (x y : α), inc c (l ++ [x, y]) = (inc c (l ++ [x]) && decide (c x y < 0))
  | [], x, y => by simp [inc]
  | [a], x, y => by simp [inc]
  | a :: b :: l, x, y => by
    have h := inc_snoc c (b :: l) x y
    simp only [List.cons_append] at h ⊢
    simp only [inc]
    rw [h, Bool.and_assoc]
theorem inc_step {α : Type} {c : α → α → Int} {xs : List α} {k : Nat} {x y : α} (hx : xs[k]? = some x) (hy : xs[k + 1]? = some y) : inc c (xs.take (k + 2)) = (inc c (xs.take (k + 1)) && decide (c x y < 0)) := by
  rw [take_one _ _ _ hy, take_one _ _ _ hx, List.append_assoc]
  exact inc_snoc c _ x y
theorem inc_pre {α : Type} (c : α → α → Int) : ∀ (l r : List α), inc c (l ++ r) = true → inc c l = true
  | [], _, _ => rfl
  | [_], _, _ => rfl
  | a :: b :: l, r, h => by
    simp only [List.cons_append, inc] at h ⊢
    rw [Bool.and_eq_true] at h ⊢
    exact ⟨h.1, inc_pre c (b :: l) r h.2⟩
theorem inc_bad {α : Type} {c : α → α → Int} {xs : List α} {k : Nat} {x y : α} (hx : xs[k]? = some x) (hy : xs[k + 1]? = some y) (h : ¬ c x y < 0) : inc c xs = false := by
  rcases e : inc c xs with _ | _
  · rfl
  · have h1 := inc_pre c (xs.take (k + 2)) (xs.drop (k + 2)) (by rw [List.take_append_drop]; exact e)
    rw [inc_step hx hy, decide_eq_false h] at h1
    simp at h1
theorem inc_short {α : Type} (c : α → α → Int) (xs : List α) : inc c (xs.take 1) = true := by
  rcases xs with _ | ⟨x, xs⟩ <;> simp [inc]
theorem all_take_next {α : Type} {p : α → Bool} {xs : List α} {k : Nat} {x : α} (h : (xs.take k).all p = true) (hx : xs[k]? = some x) (hp : p x = true) : (xs.take (k + 1)).all p = true := by
  rw [take_one _ _ _ hx, List.all_append, h]; simp [hp]
theorem all_false {α : Type} {p : α → Bool} {xs : List α} {k : Nat} {x : α} (hx : xs[k]? = some x) (hp : p x = false) : xs.all p = false := by
  rw [Bool.eq_false_iff]
  intro h
  have := (List.all_eq_true.1 h) x (List.mem_of_getElem? hx)
  rw [hp] at this; cases this
theorem any_take_next {α : Type} {p : α → Bool} {xs : List α} {k : Nat} {x : α} (h : (xs.take k).any p = false) (hx : xs[k]? = some x) (hp : p x = false) : (xs.take (k + 1)).any p = false := by
  rw [take_one _ _ _ hx, List.any_append, h]; simp [hp]
theorem any_true {α : Type} {p : α → Bool} {xs : List α} {k : Nat} {x : α} (hx : xs[k]? = some x) (hp : p x = true) : xs.any p = true :=
  List.any_eq_true.2 ⟨x, List.mem_of_getElem? hx, hp⟩
end Go.Proofs.YthbnfjedjijacaaGreatDoor
