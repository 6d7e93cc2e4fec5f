/- Plain words for the join of two partitions: the classes that equal numbers of a list make, one place after another. -/
import Derived.WalkKit
import Derived.Lib.Hide
import Derived.Test.YthnopigibjmgbaaMem
import Derived.Test.YthnopigibjmgbaaPartM
import Derived.Test.YthnopigibjmgbaaForM
namespace Go.Proofs.Ythnopigibjmgbaa
open Go.RowKit
/-- The first place of the number at place k. -/
def firstOf (q : List Int) (k : Nat) : Nat := q.idxOf (q.getD k 0)
theorem firstOf_eq {q : List Int} {k : Nat} {u : Int} (h : q[k]? = some u) : firstOf q k = q.idxOf u := by rw [firstOf, List.getD_eq_getElem?_getD, h]; rfl
theorem firstOf_at {q : List Int} {k : Nat} {u : Int} (h : q[k]? = some u) : q[firstOf q k]? = some u := by
  rw [firstOf_eq h]
  have hm : u ∈ q := List.mem_of_getElem? h
  have h1 := List.idxOf_lt_length_iff.2 hm
  rw [List.getElem?_eq_getElem h1, List.getElem_idxOf h1]
theorem firstOf_le {q : List Int} {k j : Nat} {u : Int} (h : q[k]? = some u) (h2 : q[j]? = some u) : firstOf q k ≤ j := by
  rw [firstOf_eq h]
  obtain ⟨hj, e⟩ := List.getElem?_eq_some_iff.1 h2
  rcases Nat.lt_or_ge j (q.idxOf u) with hlt | hge
  · have := List.not_of_lt_findIdx (p := fun x => x == u) (xs := q) (i := j) hlt
    simp at this
    exact absurd e this
  · exact hge
theorem firstOf_self {q : List Int} {k : Nat} {u : Int} (h : q[k]? = some u) : firstOf q k ≤ k := firstOf_le h h
theorem firstOf_congr {q : List Int} {k j : Nat} {u : Int} (h : q[k]? = some u) (h2 : q[j]? = some u) : firstOf q k = firstOf q j := by rw [firstOf_eq h, firstOf_eq h2]
/-- The classes of R with those of equal numbers at the places below k. -/
def blocksR (R : Nat → Nat) (q : List Int) : Nat → Nat → Nat
  | 0 => R
  | k + 1 => uniR (blocksR R q k) k (firstOf q k)
theorem uniR_keep {R : Nat → Nat} {a b x y : Nat} (h : R x = R y) : uniR R a b x = uniR R a b y := by unfold uniR; rw [h]
theorem uniR_join (R : Nat → Nat) (a b : Nat) : uniR R a b a = uniR R a b b := by unfold uniR; split <;> split <;> omega
theorem blocksR_same {R : Nat → Nat} {q : List Int} : ∀ {i k : Nat}, k < i → blocksR R q i k = blocksR R q i (firstOf q k) := by
  intro i
  induction i with
  | zero => intro k h; omega
  | succ i ih =>
    intro k h
    by_cases e : k = i
    · subst e; exact uniR_join _ _ _
    · exact uniR_keep (ih (by omega))
theorem uniR_iff {R : Nat → Nat} {a b x y : Nat} : uniR R a b x = uniR R a b y ↔ R x = R y ∨ (R x = R a ∧ R y = R b) ∨ (R x = R b ∧ R y = R a) := by
  unfold uniR; split <;> split <;> omega
/-- From single items on, the classes are those of equal numbers. -/
theorem blocksR_id {q : List Int} {n : Nat} (hq : q.length = n) : ∀ i, i ≤ n → ∀ x y, x < n → y < n → (blocksR (fun j => j) q i x = blocksR (fun j => j) q i y ↔ x = y ∨ (x < i ∧ y < i ∧ q[x]? = q[y]?)) := by
  intro i
  induction i with
  | zero => intro _ x y _ _; show x = y ↔ _; omega
  | succ i ih =>
    intro hi x y hx hy
    obtain ⟨u, hu⟩ : ∃ u, q[i]? = some u := ⟨_, List.getElem?_eq_getElem (by omega)⟩
    have hf := firstOf_at hu
    have hfi := firstOf_self hu
    have ihxy := ih (by omega) x y hx hy
    have ihxi := ih (by omega) x i hx (by omega)
    have ihyi := ih (by omega) y i hy (by omega)
    have ihxf := ih (by omega) x (firstOf q i) hx (by omega)
    have ihyf := ih (by omega) y (firstOf q i) hy (by omega)
    show uniR (blocksR (fun j => j) q i) i (firstOf q i) x = uniR (blocksR (fun j => j) q i) i (firstOf q i) y ↔ _
    rw [uniR_iff, ihxy, ihxi, ihyi, ihxf, ihyf, hf]
    constructor
    · rintro ((h | ⟨h1, h2, h3⟩) | ⟨h1, h2⟩ | ⟨h1, h2⟩)
      · exact .inl h
      · exact .inr ⟨by omega, by omega, h3⟩
      · have hxi : x = i := by omega
        have hy' : q[y]? = some u := by
          rcases h2 with e | ⟨_, _, e⟩
          · rw [e]; exact hf
          · exact e
        exact .inr ⟨by omega, by rcases h2 with e | e <;> omega, by rw [hxi, hu, hy']⟩
      · have hyi : y = i := by omega
        have hx' : q[x]? = some u := by
          rcases h1 with e | ⟨_, _, e⟩
          · rw [e]; exact hf
          · exact e
        exact .inr ⟨by rcases h1 with e | e <;> omega, by omega, by rw [hyi, hu, hx']⟩
    · rintro (h | ⟨h1, h2, h3⟩)
      · exact .inl (.inl h)
      · by_cases hxi : x = i
        · by_cases hyi : y = i
          · exact .inl (.inl (by omega))
          · have hy' : q[y]? = some u := by rw [← h3, hxi]; exact hu
            have := firstOf_le hu hy'
            exact .inr (.inl ⟨.inl hxi, .inr ⟨by omega, by omega, hy'⟩⟩)
        · by_cases hyi : y = i
          · have hx' : q[x]? = some u := by rw [h3, hyi]; exact hu
            have := firstOf_le hu hx'
            exact .inr (.inr ⟨.inr ⟨by omega, by omega, hx'⟩, .inl hyi⟩)
          · exact .inl (.inr ⟨by omega, by omega, h3⟩)
theorem blocksR_lt {R : Nat → Nat} {q : List Int} {n : Nat} (hR : ∀ x, x < n → R x < n) (hq : q.length = n) : ∀ i, i ≤ n → ∀ x, x < n → blocksR R q i x < n := by
  intro i
  induction i with
  | zero => intro _; exact hR
  | succ i ih =>
    intro hi x hx
    obtain ⟨u, hu⟩ : ∃ u, q[i]? = some u := ⟨_, List.getElem?_eq_getElem (by omega)⟩
    have := firstOf_self hu
    show uniR (blocksR R q i) i (firstOf q i) x < n
    unfold uniR; split
    · exact ih (by omega) _ (by omega)
    · exact ih (by omega) _ hx
/-- A partition makes the classes of its own numbers. -/
theorem Ker.self {p : List Int} {n : Nat} (hp : p.length = n) : Ker p n (blocksR (fun j => j) p n) := by
  refine ⟨hp, fun i j u v hu hv => ?_⟩
  have hi := (List.getElem?_eq_some_iff.1 hu).1
  have hj := (List.getElem?_eq_some_iff.1 hv).1
  rw [blocksR_id hp n (Nat.le_refl _) i j (by omega) (by omega), hu, hv]
  constructor
  · intro e; exact .inr ⟨by omega, by omega, by rw [e]⟩
  · rintro (e | ⟨_, _, e⟩)
    · subst e; rw [hu] at hv; injection hv
    · injection e
/-- Inside the round of place i: the places below k have been looked at. -/
def joinMid (R : Nat → Nat) (q : List Int) (i k : Nat) : Nat → Nat := if firstOf q i < k then uniR (blocksR R q i) i (firstOf q i) else blocksR R q i
theorem joinMid_zero (R : Nat → Nat) (q : List Int) (i : Nat) : joinMid R q i 0 = blocksR R q i := by unfold joinMid; rw [if_neg (by omega)]
theorem joinMid_all {R : Nat → Nat} {q : List Int} {i : Nat} {u : Int} (h : q[i]? = some u) {x y : Nat} : joinMid R q i i x = joinMid R q i i y ↔ blocksR R q (i + 1) x = blocksR R q (i + 1) y := by
  have := firstOf_self h
  unfold joinMid
  split
  · rfl
  · have e : firstOf q i = i := by omega
    show _ ↔ uniR (blocksR R q i) i (firstOf q i) x = uniR (blocksR R q i) i (firstOf q i) y
    rw [e]; unfold uniR; split <;> split <;> omega
theorem joinMid_no {R : Nat → Nat} {q : List Int} {i k : Nat} {u v : Int} (hi : q[i]? = some u) (hk : q[k]? = some v) (h : u ≠ v) : joinMid R q i (k + 1) = joinMid R q i k := by
  have hne : firstOf q i ≠ k := fun e => by
    have := firstOf_at hi
    rw [e, hk] at this; injection this with this; exact h this.symm
  unfold joinMid
  by_cases e : firstOf q i < k
  · rw [if_pos e, if_pos (by omega)]
  · rw [if_neg e, if_neg (by omega)]
theorem joinMid_yes {R : Nat → Nat} {q : List Int} {i k : Nat} {u : Int} (hi : q[i]? = some u) (hk : q[k]? = some u) (hki : k < i) (x y : Nat) : uniR (joinMid R q i k) k i x = uniR (joinMid R q i k) k i y ↔ joinMid R q i (k + 1) x = joinMid R q i (k + 1) y := by
  have hF := firstOf_le hi hk
  have hs := blocksR_same (R := R) (q := q) hki
  rw [firstOf_congr hk hi] at hs
  unfold joinMid
  rw [if_pos (show firstOf q i < k + 1 by omega)]
  generalize hG : firstOf q i = F at *
  by_cases e : F < k
  · rw [if_pos e]
    have e1 : uniR (blocksR R q i) i F k = uniR (blocksR R q i) i F i := (uniR_keep hs).trans (uniR_join _ _ _).symm
    generalize uniR (blocksR R q i) i F = S at *
    unfold uniR; split <;> split <;> omega
  · rw [if_neg e]
    have : F = k := by omega
    subst this
    generalize blocksR R q i = S at *
    unfold uniR; split <;> split <;> split <;> split <;> omega
end Go.Proofs.Ythnopigibjmgbaa
