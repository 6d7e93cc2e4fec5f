/- Plain words for blocks: which block each item is put into, one item after another. -/
import Derived.WalkKit
import Derived.Lib.Hide
import Derived.Test.YthnopigibjmgbaaMem
import Derived.Test.YthnopigibjmgbaaPartM
import Derived.Test.YthnopigibjmgbaaRelM
import Derived.Test.YthnopigibjmgbaaForM
namespace Go.Proofs.Ythnopigibjmgbaa
open Go.RowKit
def OwnF := Int → Option Nat
def putF (f : OwnF) (x : Int) (b : Nat) : OwnF := fun y => if y = x then some b else f y
def stepP (b : Nat) (s : Option OwnF) (x : Int) : Option OwnF := match s with
  | none => none
  | some f => match f x with
    | some _ => none
    | none => some (putF f x b)
def rowP (s : Option OwnF) (b : Nat) (xs : List Int) : Option OwnF := xs.foldl (stepP b) s
def allP (r : List (List Int)) : Nat → Option OwnF
  | 0 => some fun _ => none
  | k + 1 => rowP (allP r k) k (r.getD k [])
def partP (r : List (List Int)) (i j : Nat) : Option OwnF := rowP (allP r i) i ((r.getD i []).take j)
theorem rowP_none (b : Nat) (xs : List Int) : rowP none b xs = none := by
  induction xs with
  | nil => rfl
  | cons a xs ih => exact ih
theorem allP_none {r : List (List Int)} {k : Nat} (h : allP r k = none) : ∀ m, k ≤ m → allP r m = none := by
  intro m hm
  induction m with
  | zero => have : k = 0 := by omega
            subst this; exact h
  | succ m ih =>
    by_cases e : k = m + 1
    · subst e; exact h
    · show rowP (allP r m) m _ = none
      rw [ih (by omega)]; exact rowP_none _ _
theorem partP_zero (r : List (List Int)) (i : Nat) : partP r i 0 = allP r i := rfl
theorem partP_all {r : List (List Int)} {i j : Nat} {xs : List Int} (h : r[i]? = some xs) (hj : xs.length ≤ j) : partP r i j = allP r (i + 1) := by
  have e : r.getD i [] = xs := by rw [List.getD_eq_getElem?_getD, h]; rfl
  show rowP (allP r i) i ((r.getD i []).take j) = rowP (allP r i) i (r.getD i [])
  rw [e, List.take_of_length_le hj]
theorem partP_next {r : List (List Int)} {i j : Nat} {xs : List Int} {x : Int} (h : r[i]? = some xs) (hx : xs[j]? = some x) : partP r i (j + 1) = stepP i (partP r i j) x := by
  have e : r.getD i [] = xs := by rw [List.getD_eq_getElem?_getD, h]; rfl
  rw [partP, partP, e, take_one _ _ _ hx, rowP, List.foldl_append]; rfl
theorem stepP_free {f : OwnF} {x : Int} {b : Nat} (h : f x = none) : stepP b (some f) x = some (putF f x b) := by simp [stepP, h]
theorem stepP_taken {f : OwnF} {x : Int} {b c : Nat} (h : f x = some c) : stepP b (some f) x = none := by simp [stepP, h]
theorem partP_dead {r : List (List Int)} {i j : Nat} {xs : List Int} {x : Int} {f : OwnF} {c : Nat} (h : r[i]? = some xs) (hx : xs[j]? = some x) (hp : partP r i j = some f) (hf : f x = some c) : allP r r.length = none := by
  have h1 : partP r i (j + 1) = none := by rw [partP_next h hx, hp, stepP_taken hf]
  have hi := (List.getElem?_eq_some_iff.1 h).1
  refine allP_none (k := i + 1) ?_ _ (by omega)
  have e : r.getD i [] = xs := by rw [List.getD_eq_getElem?_getD, h]; rfl
  show rowP (allP r i) i (r.getD i []) = none
  rw [partP, e] at h1
  rw [e, ← List.take_append_drop (j + 1) xs, rowP, List.foldl_append]
  show rowP (rowP (allP r i) i (xs.take (j + 1))) i _ = none
  rw [h1]; exact rowP_none _ _
/-- Only items are put anywhere, and into blocks that there are. -/
theorem allP_some {n : Int} {r : List (List Int)} (h : onlyP n r) : ∀ (k : Nat) (f : OwnF), k ≤ r.length → allP r k = some f → ∀ x b, f x = some b → 0 ≤ x ∧ x < n ∧ b < k := by
  intro k
  induction k with
  | zero => intro f _ hf x b hb; injection hf with hf; subst hf; cases hb
  | succ k ih =>
    intro f hk hf
    obtain ⟨xs, hxs⟩ : ∃ xs, r[k]? = some xs := ⟨_, List.getElem?_eq_getElem (by omega)⟩
    have e : r.getD k [] = xs := by rw [List.getD_eq_getElem?_getD, hxs]; rfl
    have hx := h xs (List.mem_of_getElem? hxs)
    have hf : rowP (allP r k) k xs = some f := by rw [← e]; exact hf
    have aux : ∀ (ys : List Int) (s : Option OwnF) (f : OwnF), (∀ y ∈ ys, 0 ≤ y ∧ y < n) → (∀ g, s = some g → ∀ x b, g x = some b → 0 ≤ x ∧ x < n ∧ b < k + 1) → rowP s k ys = some f → ∀ x b, f x = some b → 0 ≤ x ∧ x < n ∧ b < k + 1 := by
      intro ys
      induction ys with
      | nil => intro s f _ hs hf; exact hs f hf
      | cons y ys ihy =>
        intro s f hy hs hf
        refine ihy (stepP k s y) f (fun z hz => hy z (List.mem_cons_of_mem _ hz)) ?_ hf
        intro g hg x b hb
        rcases s with _ | s
        · cases hg
        · rcases hsy : s y with _ | c
          · rw [stepP_free hsy] at hg
            injection hg with hg
            subst hg
            unfold putF at hb
            split at hb
            · rename_i e; subst e; injection hb with hb; subst hb; have := hy x (List.mem_cons_self ..); omega
            · exact hs s rfl x b hb
          · rw [stepP_taken hsy] at hg; cases hg
    exact aux xs _ f hx (fun g hg x b hb => by have := ih g (by omega) hg x b hb; omega) hf
def noEmpty (r : List (List Int)) : Prop := ∀ xs ∈ r, xs.length ≠ 0
def keysL (f : OwnF) (n : Nat) : List Int := (List.range n).map fun (i : Nat) => (((f i).getD 0 : Nat) : Int)
theorem keysL_length (f : OwnF) (n : Nat) : (keysL f n).length = n := by simp [keysL]
theorem keysL_at {f : OwnF} {n i b : Nat} (h : i < n) (hb : f (i : Int) = some b) : (keysL f n)[i]? = some (b : Int) := by simp [keysL, h, hb]
def allOwned (f : OwnF) (n : Nat) : Prop := ∀ i, i < n → f ((i : Nat) : Int) ≠ none
open Classical in
noncomputable def fromL (n : Int) (r : List (List Int)) : List Int × Int :=
  if ¬ noEmpty r then ([], 1) else if ¬ (1 ≤ n ∧ n ≤ 40 ∧ onlyP n r) then ([], 2) else match allP r r.length with
    | none => ([], 4)
    | some f => if allOwned f n.toNat then (normL (keysL f n.toNat), 0) else ([], 3)
open Classical in
theorem from_empty {n : Int} {r : List (List Int)} {i : Nat} {xs : List Int} (h : r[i]? = some xs) (hl : xs.length = 0) : fromL n r = ([], 1) := by
  unfold fromL; rw [if_pos (fun hn => hn xs (List.mem_of_getElem? h) hl)]
open Classical in
theorem from_range {n : Int} {r : List (List Int)} (h : noEmpty r) (h2 : ¬ (1 ≤ n ∧ n ≤ 40 ∧ onlyP n r)) : fromL n r = ([], 2) := by
  unfold fromL; rw [if_neg (fun hn => hn h), if_pos h2]
open Classical in
theorem from_exists {n : Int} {r : List (List Int)} (h : noEmpty r) (h2 : 1 ≤ n ∧ n ≤ 40 ∧ onlyP n r) (h3 : allP r r.length = none) : fromL n r = ([], 4) := by
  unfold fromL; rw [if_neg (fun hn => hn h), if_neg (fun hn => hn h2), h3]
open Classical in
theorem from_missing {n : Nat} {r : List (List Int)} {f : OwnF} {i : Nat} (h : noEmpty r) (h2 : 1 ≤ (n : Int) ∧ (n : Int) ≤ 40 ∧ onlyP n r) (h3 : allP r r.length = some f) (hi : i < n) (hf : f (i : Int) = none) : fromL n r = ([], 3) := by
  unfold fromL; rw [if_neg (fun hn => hn h), if_neg (fun hn => hn h2), h3]
  show (if allOwned f _ then _ else _) = _
  rw [if_neg]
  intro ha
  exact ha i (by rw [Int.toNat_natCast]; exact hi) hf
open Classical in
theorem from_ok {n : Nat} {r : List (List Int)} {f : OwnF} (h : noEmpty r) (h2 : 1 ≤ (n : Int) ∧ (n : Int) ≤ 40 ∧ onlyP n r) (h3 : allP r r.length = some f) (ha : allOwned f n) : fromL n r = (normL (keysL f n), 0) := by
  unfold fromL; rw [if_neg (fun hn => hn h), if_neg (fun hn => hn h2), h3]
  show (if allOwned f _ then _ else _) = _
  rw [Int.toNat_natCast, if_pos ha]
open Classical in
theorem fromL_len (n : Int) (r : List (List Int)) : (fromL n r).1.length ≤ 2000000 := by
  unfold fromL
  split
  · simp
  · split
    · simp
    · rename_i h
      split
      · simp
      · split
        · show (normL _).length ≤ _
          rw [normL_length, keysL_length]
          have := Classical.not_not.1 h
          omega
        · simp
theorem onlyP_not {n : Int} {r : List (List Int)} {i j : Nat} {xs : List Int} {x : Int} (h : r[i]? = some xs) (h2 : xs[j]? = some x) (hb : x < 0 ∨ n - 1 < x) : ¬ onlyP n r :=
  fun hp => by have := hp xs (List.mem_of_getElem? h) x (List.mem_of_getElem? h2); omega
theorem onlyP_all {n : Int} {r : List (List Int)} (h : ∀ (i : Nat) xs, r[i]? = some xs → ∀ x ∈ xs, 0 ≤ x ∧ x < n) : onlyP n r :=
  fun xs hxs => by obtain ⟨i, hi⟩ := List.getElem?_of_mem hxs; exact h i xs hi
theorem noEmpty_all {r : List (List Int)} (h : ∀ (i : Nat) xs, r[i]? = some xs → xs.length ≠ 0) : noEmpty r :=
  fun xs hxs => by obtain ⟨i, hi⟩ := List.getElem?_of_mem hxs; exact h i xs hi
/-- The model's list: an item's block, or -1. -/
def markL (f : OwnF) (n : Nat) : List Int := (List.range n).map fun (i : Nat) => match f (i : Int) with
  | some b => (b : Int)
  | none => -1
theorem markL_length (f : OwnF) (n : Nat) : (markL f n).length = n := by simp [markL]
theorem markL_none {f : OwnF} {n i : Nat} (h : i < n) (hf : f (i : Int) = none) : (markL f n)[i]? = some (-1) := by simp [markL, h, hf]
theorem markL_some {f : OwnF} {n i b : Nat} (h : i < n) (hf : f (i : Int) = some b) : (markL f n)[i]? = some (b : Int) := by simp [markL, h, hf]
theorem markL_put {f : OwnF} {n i b : Nat} (h : i < n) : (markL f n).set i (b : Int) = markL (putF f (i : Int) b) n := by
  refine List.ext_getElem? fun j => ?_
  rw [List.getElem?_set]
  by_cases hj : j < n
  · by_cases e : i = j
    · subst e
      rw [if_pos rfl, if_pos (by rw [markL_length]; exact h), markL_some (b := b) h (by simp [putF])]
    · rw [if_neg e]
      have e2 : putF f (i : Int) b (j : Int) = f (j : Int) := by unfold putF; rw [if_neg (by omega)]
      rcases hf : f (j : Int) with _ | c
      · rw [markL_none hj hf, markL_none hj (e2.trans hf)]
      · rw [markL_some hj hf, markL_some hj (e2.trans hf)]
  · rw [List.getElem?_eq_none (by rw [markL_length]; omega)]
    rw [if_neg (by omega), List.getElem?_eq_none (by rw [markL_length]; omega)]
theorem markL_new (n : Nat) : markL (fun _ => none) n = List.replicate n (-1) := by simp [markL, List.map_const']
theorem markL_keys {f : OwnF} {n : Nat} (h : allOwned f n) : markL f n = keysL f n := by
  refine List.ext_getElem? fun i => ?_
  by_cases hi : i < n
  · rcases hf : f (i : Int) with _ | b
    · exact absurd hf (h i hi)
    · rw [markL_some hi hf, keysL_at hi hf]
  · rw [List.getElem?_eq_none (by rw [markL_length]; omega), List.getElem?_eq_none (by rw [keysL_length]; omega)]
end Go.Proofs.Ythnopigibjmgbaa
