/- The variables of an expression, rising, as a plain function; what the library's sort and its removal of doubles leave. -/
import Derived.WalkKit
import Derived.Lib.Hide
import Derived.Lib.SlicesCompact
import Derived.Test.YtkcbmblpalmmhaaMem
import Derived.Test.YtkcbmblpalmmhaaTmM
import Derived.Test.YtkcbmblpalmmhaaShiftM
import Derived.Test.YtkcbmblpalmmhaaExM
namespace Go.Proofs.Ytkcbmblpalmmhaa
open Go.RowKit
/-- A number put into a rising list, if it is not there. -/
def putG (n : Int) : Bool → List Int → List Int
  | d, [] => if d then [] else [n]
  | d, x :: r => if d = false ∧ n ≤ x then (if n < x then [n, x] else [x]) ++ putG n true r else x :: putG n d r
theorem putG_true (n : Int) : ∀ r : List Int, putG n true r = r := by
  intro r
  induction r with
  | nil => rfl
  | cons x r ih => rw [putG, if_neg (by simp), ih]
theorem putG_mem (n : Int) : ∀ (l : List Int), l.Pairwise (· < ·) → (putG n false l).Pairwise (· < ·) ∧ ∀ y, y ∈ putG n false l ↔ y = n ∨ y ∈ l := by
  intro l
  induction l with
  | nil => intro _; simp [putG]
  | cons x r ih =>
    intro h
    obtain ⟨h1, h2⟩ := List.pairwise_cons.1 h
    obtain ⟨i1, i2⟩ := ih h2
    rw [putG]
    by_cases hn : n ≤ x
    · rw [if_pos ⟨rfl, hn⟩, putG_true]
      by_cases hl : n < x
      · rw [if_pos hl]
        refine ⟨?_, fun y => by simp⟩
        show (n :: x :: r).Pairwise (· < ·)
        refine List.pairwise_cons.2 ⟨fun y hy => ?_, h⟩
        rcases List.mem_cons.1 hy with rfl | hy
        · exact hl
        · have := h1 y hy; omega
      · rw [if_neg hl]
        obtain rfl : n = x := by omega
        exact ⟨h, fun y => by simp⟩
    · rw [if_neg (fun e => hn e.2)]
      refine ⟨List.pairwise_cons.2 ⟨fun y hy => ?_, i1⟩, fun y => by rw [List.mem_cons, i2, List.mem_cons]; exact ⟨fun e => e.elim (fun e => .inr (.inl e)) (fun e => e.elim .inl (fun e => .inr (.inr e))), fun e => e.elim (fun e => .inr (.inl e)) (fun e => e.elim .inl (fun e => .inr (.inr e)))⟩⟩
      rcases (i2 y).1 hy with rfl | hy
      · omega
      · exact h1 y hy
theorem putG_len (n : Int) : ∀ (l : List Int) (d : Bool), (putG n d l).length ≤ l.length + 1 := by
  intro l
  induction l with
  | nil => intro d; cases d <;> simp [putG]
  | cons x r ih =>
    intro d
    rw [putG]
    split
    · rw [putG_true]
      split <;> simp
    · have := ih d; simp; exact this
/-- The variables among the first terms. -/
def varsOf (es : List Tm) : List Int := es.flatMap fun t => if t.k = 1 then [t.v] else []
def namesOf (es : List Tm) : List Int := es.foldl (fun acc t => if t.k = 1 then putG t.v false acc else acc) []
theorem varsOf_snoc (es : List Tm) (t : Tm) : varsOf (es ++ [t]) = varsOf es ++ (if t.k = 1 then [t.v] else []) := by simp [varsOf]
theorem namesOf_snoc (es : List Tm) (t : Tm) : namesOf (es ++ [t]) = if t.k = 1 then putG t.v false (namesOf es) else namesOf es := by simp [namesOf]
theorem varsOf_len (es : List Tm) : (varsOf es).length ≤ es.length := by
  induction es with
  | nil => simp [varsOf]
  | cons t r ih =>
    have : varsOf (t :: r) = (if t.k = 1 then [t.v] else []) ++ varsOf r := rfl
    rw [this, List.length_append, List.length_cons]
    split <;> simp <;> omega
theorem foldl_put : ∀ (es : List Tm) (acc : List Int), acc.Pairwise (· < ·) →
    (es.foldl (fun acc t => if t.k = 1 then putG t.v false acc else acc) acc).Pairwise (· < ·) ∧ (∀ y, y ∈ es.foldl (fun acc t => if t.k = 1 then putG t.v false acc else acc) acc ↔ y ∈ acc ∨ y ∈ varsOf es) ∧ (es.foldl (fun acc t => if t.k = 1 then putG t.v false acc else acc) acc).length ≤ acc.length + es.length := by
  intro es
  induction es with
  | nil => intro acc h; exact ⟨h, fun y => by simp [varsOf], by simp⟩
  | cons t r ih =>
    intro acc h
    have hv : varsOf (t :: r) = (if t.k = 1 then [t.v] else []) ++ varsOf r := rfl
    rw [List.foldl_cons]
    by_cases hk : t.k = 1
    · rw [if_pos hk, hv, if_pos hk]
      obtain ⟨p1, p2⟩ := putG_mem t.v acc h
      obtain ⟨q1, q2, q3⟩ := ih _ p1
      refine ⟨q1, fun y => ?_, ?_⟩
      · rw [q2, p2]; simp; exact ⟨fun e => e.elim (fun e => e.elim (fun e => .inr (.inl e)) .inl) (fun e => .inr (.inr e)), fun e => e.elim (fun e => .inl (.inr e)) (fun e => e.elim (fun e => .inl (.inl e)) .inr)⟩
      · have := putG_len t.v acc false; simp; omega
    · rw [if_neg hk, hv, if_neg hk, List.nil_append]
      obtain ⟨q1, q2, q3⟩ := ih acc h
      exact ⟨q1, q2, by simp; omega⟩
theorem lt_ext : ∀ (l1 l2 : List Int), l1.Pairwise (· < ·) → l2.Pairwise (· < ·) → (∀ x, x ∈ l1 ↔ x ∈ l2) → l1 = l2 := by
  intro l1
  induction l1 with
  | nil =>
    intro l2 _ _ h
    rcases l2 with _ | ⟨y, r⟩
    · rfl
    · have := (h y).2 (by simp); cases this
  | cons x r ih =>
    intro l2 h1 h2 h
    rcases l2 with _ | ⟨y, s⟩
    · have := (h x).1 (by simp); cases this
    · obtain ⟨a1, a2⟩ := List.pairwise_cons.1 h1
      obtain ⟨b1, b2⟩ := List.pairwise_cons.1 h2
      have e : x = y := by
        rcases List.mem_cons.1 ((h x).1 (by simp)) with e | e
        · exact e
        · rcases List.mem_cons.1 ((h y).2 (by simp)) with e' | e'
          · exact e'.symm
          · have := b1 x e; have := a1 y e'; omega
      subst e
      rw [ih s a2 b2 fun z => ?_]
      constructor
      · intro hz
        rcases List.mem_cons.1 ((h z).1 (by simp [hz])) with e | e
        · subst e; have := a1 z hz; omega
        · exact e
      · intro hz
        rcases List.mem_cons.1 ((h z).2 (by simp [hz])) with e | e
        · subst e; have := b1 z hz; omega
        · exact e
open Go.Lib in
theorem compact_up (d : Array Int) (hs : ∀ i j, i ≤ j → j < d.size → d[i]! ≤ d[j]!) : ∀ m, m ≤ d.size → (compactUpTo d m).Pairwise (· < ·) ∧ (∀ y, y ∈ compactUpTo d m ↔ ∃ j, j < m ∧ d[j]! = y) ∧ (compactUpTo d m).length ≤ m := by
  intro m
  induction m with
  | zero => intro _; exact ⟨by simp [compactUpTo], by simp [compactUpTo], by simp [compactUpTo]⟩
  | succ m ih =>
    intro hm
    obtain ⟨i1, i2, i3⟩ := ih (by omega)
    rw [compactUpTo_succ]
    rcases hk : keeps d m with _ | _
    · have h0 : ¬ (m = 0 ∨ d[m]! ≠ d[m - 1]!) := of_decide_eq_false hk
      have hm0 : m ≠ 0 := fun e => h0 (.inl e)
      have he : d[m]! = d[m - 1]! := by
        by_cases e : d[m]! = d[m - 1]!
        · exact e
        · exact absurd (.inr e) h0
      simp only [Bool.false_eq_true, if_false, List.append_nil]
      refine ⟨i1, fun y => ?_, by omega⟩
      rw [i2]
      constructor
      · rintro ⟨j, hj, rfl⟩; exact ⟨j, by omega, rfl⟩
      · rintro ⟨j, hj, rfl⟩
        by_cases e : j = m
        · subst e; exact ⟨j - 1, by omega, he.symm⟩
        · exact ⟨j, by omega, rfl⟩
    · have h0 : m = 0 ∨ d[m]! ≠ d[m - 1]! := of_decide_eq_true hk
      simp only [if_true]
      refine ⟨List.pairwise_append.2 ⟨i1, by simp, fun y hy z hz => ?_⟩, fun y => ?_, by simp; omega⟩
      · rw [List.mem_singleton] at hz
        subst hz
        obtain ⟨j, hj, rfl⟩ := (i2 y).1 hy
        have h1 := hs j (m - 1) (by omega) (by omega)
        have h2 := hs (m - 1) m (by omega) (by omega)
        rcases h0 with h0 | h0
        · omega
        · omega
      · rw [List.mem_append, i2, List.mem_singleton]
        constructor
        · rintro (⟨j, hj, rfl⟩ | rfl)
          · exact ⟨j, by omega, rfl⟩
          · exact ⟨m, by omega, rfl⟩
        · rintro ⟨j, hj, rfl⟩
          by_cases e : j = m
          · subst e; exact .inr rfl
          · exact .inl ⟨j, by omega, rfl⟩
def sortI (xs : List Int) : List Int := xs.mergeSort fun x y => decide (x ≤ y)
theorem sortI_len (xs : List Int) : (sortI xs).length = xs.length := by simp [sortI]
theorem sortI_le (xs : List Int) : (sortI xs).Pairwise (· ≤ ·) := by
  have h := List.pairwise_mergeSort (le := fun (x y : Int) => decide (x ≤ y)) (fun a b c h1 h2 => by simp at *; omega) (fun a b => by simp; omega) xs
  exact h.imp fun h => by simpa using h
theorem sortI_mem (xs : List Int) (y : Int) : y ∈ sortI xs ↔ y ∈ xs := by simp [sortI, List.mem_mergeSort]
open Go.Lib in
/-- Sorted and without doubles: the variables, rising. -/
theorem names_sorted (es : List Tm) : compactUpTo (sortI (varsOf es)).toArray (sortI (varsOf es)).length = namesOf es := by
  obtain ⟨p1, p2, _⟩ := foldl_put es [] List.Pairwise.nil
  have hs : ∀ i j, i ≤ j → j < (sortI (varsOf es)).toArray.size → (sortI (varsOf es)).toArray[i]! ≤ (sortI (varsOf es)).toArray[j]! := by
    intro i j hij hj
    have hj' : j < (sortI (varsOf es)).length := by simpa using hj
    have e1 : (sortI (varsOf es)).toArray[i]! = (sortI (varsOf es))[i]'(by omega) := by rw [getElem!_pos _ i (by simp; omega)]; simp
    have e2 : (sortI (varsOf es)).toArray[j]! = (sortI (varsOf es))[j]'hj' := by rw [getElem!_pos _ j (by simpa using hj')]; simp
    rw [e1, e2]
    rcases Nat.eq_or_lt_of_le hij with e | e
    · subst e; exact Int.le_refl _
    · exact List.pairwise_iff_getElem.1 (sortI_le (varsOf es)) i j (by omega) hj' e
  obtain ⟨q1, q2, _⟩ := compact_up _ hs (sortI (varsOf es)).length (by simp)
  refine lt_ext _ _ q1 p1 fun x => ?_
  rw [q2]
  have hp := p2 x
  simp only [List.not_mem_nil, false_or] at hp
  show _ ↔ x ∈ namesOf es
  unfold namesOf
  rw [hp, ← sortI_mem]
  constructor
  · rintro ⟨j, hj, rfl⟩
    rw [getElem!_pos _ j (by simpa using hj)]
    simp
  · intro hx
    obtain ⟨j, hj, e⟩ := List.mem_iff_getElem.1 hx
    exact ⟨j, hj, by rw [getElem!_pos _ j (by simpa using hj)]; simpa using e⟩
theorem namesOf_len (es : List Tm) : (namesOf es).length ≤ es.length := by have := (foldl_put es [] List.Pairwise.nil).2.2; simpa [namesOf] using this
theorem namesOf_up (es : List Tm) : (namesOf es).Pairwise (· < ·) := (foldl_put es [] List.Pairwise.nil).1
theorem namesOf_mem (es : List Tm) (y : Int) : y ∈ namesOf es ↔ y ∈ varsOf es := by have := (foldl_put es [] List.Pairwise.nil).2.1 y; simpa [namesOf] using this
def varR (es : List Tm) : List Int × Int := if exB 29 60 es = true then (namesOf es, 0) else ([], 1)
theorem varR_no {es : List Tm} (h : exB 29 60 es = false) : varR es = ([], 1) := by unfold varR; rw [if_neg (by rw [h]; simp)]
theorem varR_yes {es : List Tm} (h : exB 29 60 es = true) : varR es = (namesOf es, 0) := by unfold varR; rw [if_pos h]
theorem varR_len (es : List Tm) : (varR es).1.length ≤ 2000000 := by
  rcases h : exB 29 60 es with _ | _
  · rw [varR_no h]; simp
  · rw [varR_yes h]
    have h1 := namesOf_len es
    have h2 := (exB_scan h).2
    simp only; omega
end Go.Proofs.Ytkcbmblpalmmhaa
