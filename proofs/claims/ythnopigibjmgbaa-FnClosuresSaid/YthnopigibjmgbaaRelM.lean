/- Plain words for relations: which lists of lists are relations, and the list of the pairs that a test picks. -/
import Derived.WalkKit
import Derived.Lib.Hide
import Derived.Test.YthnopigibjmgbaaMem
import Derived.Test.YthnopigibjmgbaaCmpM
import Derived.Test.YthnopigibjmgbaaPartM
namespace Go.Proofs.Ythnopigibjmgbaa
open Go.RowKit
/-- All numbers of the lists are items. -/
def onlyP (n : Int) (r : List (List Int)) : Prop := ∀ xs ∈ r, ∀ x ∈ xs, 0 ≤ x ∧ x < n
open Classical in
noncomputable def onlyB (n : Int) (r : List (List Int)) : Bool := decide (onlyP n r)
open Classical in
theorem onlyB_yes {n : Int} {r : List (List Int)} (h : onlyP n r) : onlyB n r = true := by unfold onlyB; exact decide_eq_true h
open Classical in
theorem onlyB_no {n : Int} {r : List (List Int)} (h : ¬ onlyP n r) : onlyB n r = false := by unfold onlyB; exact decide_eq_false h
open Classical in
theorem onlyB_iff {n : Int} {r : List (List Int)} : onlyB n r = true ↔ onlyP n r := by unfold onlyB; exact decide_eq_true_iff
theorem onlyB_bad {n : Int} {r : List (List Int)} {i j : Nat} {xs : List Int} {x : Int} (h : r[i]? = some xs) (h2 : xs[j]? = some x) (hb : x < 0 ∨ n ≤ x) : onlyB n r = false :=
  onlyB_no fun hp => by have := hp xs (List.mem_of_getElem? h) x (List.mem_of_getElem? h2); omega
theorem onlyB_all {n : Int} {r : List (List Int)} (h : ∀ (i : Nat) xs, r[i]? = some xs → ∀ x ∈ xs, 0 ≤ x ∧ x < n) : onlyB n r = true :=
  onlyB_yes fun xs hxs => by obtain ⟨i, hi⟩ := List.getElem?_of_mem hxs; exact h i xs hi
/-- A pair of items. -/
def PairOf (n : Int) (xs : List Int) (a b : Int) : Prop := xs = [a, b] ∧ 0 ≤ a ∧ a < n ∧ 0 ≤ b ∧ b < n
def relP (n : Int) (r : List (List Int)) : Prop :=
  1 ≤ n ∧ n ≤ 40 ∧ (∀ (i : Nat) xs, r[i]? = some xs → ∃ a b, PairOf n xs a b) ∧ ∀ (i : Nat) xs ys, r[i]? = some xs → r[i + 1]? = some ys → cmpL xs ys < 0
open Classical in
noncomputable def relB (n : Int) (r : List (List Int)) : Bool := decide (relP n r)
open Classical in
theorem relB_yes {n : Int} {r : List (List Int)} (h : relP n r) : relB n r = true := by unfold relB; exact decide_eq_true h
open Classical in
theorem relB_no {n : Int} {r : List (List Int)} (h : ¬ relP n r) : relB n r = false := by unfold relB; exact decide_eq_false h
open Classical in
theorem relB_iff {n : Int} {r : List (List Int)} : relB n r = true ↔ relP n r := by unfold relB; exact decide_eq_true_iff
theorem rel_count {n : Int} {r : List (List Int)} (h : n < 1 ∨ 40 < n) : relB n r = false := relB_no fun ⟨h1, h2, _⟩ => by omega
theorem rel_only {n : Int} {r : List (List Int)} (h : onlyB n r = false) : relB n r = false := relB_no fun ⟨_, _, h3, _⟩ => by
  have : onlyB n r = true := onlyB_all fun i xs hi x hx => by
    obtain ⟨a, b, rfl, h⟩ := h3 i xs hi
    simp at hx
    rcases hx with rfl | rfl <;> omega
  rw [h] at this; cases this
theorem rel_len {n : Int} {r : List (List Int)} {i : Nat} {xs : List Int} (h : r[i]? = some xs) (hl : xs.length ≠ 2) : relB n r = false := relB_no fun ⟨_, _, h3, _⟩ => by
  obtain ⟨a, b, rfl, _⟩ := h3 i xs h
  exact hl rfl
theorem rel_out {n : Int} {r : List (List Int)} {i j : Nat} {xs : List Int} {x : Int} (h : r[i]? = some xs) (h2 : xs[j]? = some x) (hb : x < 0 ∨ n - 1 < x) : relB n r = false :=
  rel_only (onlyB_bad h h2 (by omega))
theorem rel_order {n : Int} {r : List (List Int)} {i : Nat} {xs ys : List Int} (h : r[i]? = some xs) (h2 : r[i + 1]? = some ys) (hb : ¬ cmpL xs ys < 0) : relB n r = false := relB_no fun ⟨_, _, _, h4⟩ => hb (h4 i xs ys h h2)
/-- What a loop over the pairs has seen up to place k. -/
def RelTo (n : Int) (r : List (List Int)) (k : Nat) : Prop :=
  (∀ (i : Nat) xs, i < k → r[i]? = some xs → ∃ a b, PairOf n xs a b) ∧ ∀ (i : Nat) xs ys, i + 1 < k → r[i]? = some xs → r[i + 1]? = some ys → cmpL xs ys < 0
theorem RelTo.zero (n : Int) (r : List (List Int)) : RelTo n r 0 := ⟨fun i xs h => by omega, fun i xs ys h => by omega⟩
theorem RelTo.done {n : Int} {r : List (List Int)} {k : Nat} (h : RelTo n r k) (hk : r.length ≤ k) (h1 : 1 ≤ n) (h2 : n ≤ 40) : relB n r = true :=
  relB_yes ⟨h1, h2, fun i xs hi => h.1 i xs (by have := (List.getElem?_eq_some_iff.1 hi).1; omega) hi, fun i xs ys hi hj => h.2 i xs ys (by have := (List.getElem?_eq_some_iff.1 hj).1; omega) hi hj⟩
theorem RelTo.next {n : Int} {r : List (List Int)} {k : Nat} {ys : List Int} {a b : Int} (h : RelTo n r k) (hy : r[k]? = some ys) (hp : PairOf n ys a b) (ho : ∀ xs, r[k - 1]? = some xs → 0 < k → cmpL xs ys < 0) : RelTo n r (k + 1) := by
  refine ⟨fun i xs hi hx => ?_, fun i xs zs hi hx hz => ?_⟩
  · by_cases e : i = k
    · subst e; rw [hy] at hx; injection hx with hx; subst hx; exact ⟨a, b, hp⟩
    · exact h.1 i xs (by omega) hx
  · by_cases e : i + 1 = k
    · subst e; rw [hy] at hz; injection hz with hz; subst hz; exact ho xs hx (by omega)
    · exact h.2 i xs zs (by omega) hx hz
theorem pair_of {n : Int} {xs : List Int} {a b : Int} (hl : xs.length = 2) (ha : xs[0]? = some a) (hb : xs[1]? = some b) (h1 : 0 ≤ a) (h2 : a < n) (h3 : 0 ≤ b) (h4 : b < n) : PairOf n xs a b := by
  match xs, hl with
  | [x, y], _ => simp at ha hb; subst ha; subst hb; exact ⟨rfl, h1, h2, h3, h4⟩
theorem cmp_pair {a b c d : Int} (hb : 0 ≤ b) (hb2 : b < 40) (hd : 0 ≤ d) (hd2 : d < 40) : cmpL [a, b] [c, d] < 0 ↔ a * 40 + b < c * 40 + d := by
  simp only [cmpL]
  split
  · constructor <;> intro <;> omega
  · split
    · constructor <;> intro <;> omega
    · split
      · constructor <;> intro <;> omega
      · split
        · constructor <;> intro <;> omega
        · constructor <;> intro <;> omega
/-- The pairs of items that a test picks, in order: those in the rows before a, and in row a those before b. -/
def pickRow (f : Nat → Nat → Bool) (a b : Nat) : List (List Int) := ((List.range b).filter (f a)).map fun (c : Nat) => [(a : Int), (c : Int)]
def picked (f : Nat → Nat → Bool) (n : Nat) : Nat → List (List Int)
  | 0 => []
  | a + 1 => picked f n a ++ pickRow f a n
def pickTo (f : Nat → Nat → Bool) (n a b : Nat) : List (List Int) := picked f n a ++ pickRow f a b
theorem pickTo_zero (f : Nat → Nat → Bool) (n a : Nat) : pickTo f n a 0 = picked f n a := by simp [pickTo, pickRow]
theorem pickRow_none {f : Nat → Nat → Bool} {a b : Nat} (h : ∀ c, c < b → f a c = false) : pickRow f a b = [] := by
  have e : (List.range b).filter (f a) = [] := by
    rw [List.filter_eq_nil_iff]
    intro c hc
    rw [h c (List.mem_range.1 hc)]; simp
  rw [pickRow, e]; rfl
theorem pickTo_start {f : Nat → Nat → Bool} {n a b : Nat} (h : ∀ c, c < b → f a c = false) : pickTo f n a b = picked f n a := by
  rw [pickTo, pickRow_none h, List.append_nil]
/-- Places i < k that hold equal numbers. -/
def twin (p : List Int) (i k : Nat) : Bool := decide (i < k ∧ p[i]? = p[k]?)
theorem twin_yes {p : List Int} {i k : Nat} {u : Int} (h : i < k) (h1 : p[i]? = some u) (h2 : p[k]? = some u) : twin p i k = true := decide_eq_true ⟨h, h1.trans h2.symm⟩
theorem twin_no {p : List Int} {i k : Nat} {u v : Int} (h1 : p[i]? = some u) (h2 : p[k]? = some v) (h : u ≠ v) : twin p i k = false := decide_eq_false fun ⟨_, e⟩ => by rw [h1, h2] at e; injection e with e; exact h e
theorem twin_low {p : List Int} {i k : Nat} (h : k < i + 1) : twin p i k = false := decide_eq_false fun ⟨e, _⟩ => by omega
def pairsL (p : List Int) : List (List Int) × Int := if partB p = true then (picked (twin p) p.length p.length, 0) else ([], 1)
theorem pairsL_yes {p : List Int} (h : partB p = true) : pairsL p = (picked (twin p) p.length p.length, 0) := by unfold pairsL; rw [if_pos h]
theorem pairsL_no {p : List Int} (h : partB p = false) : pairsL p = ([], 1) := by unfold pairsL; rw [if_neg (by rw [h]; simp)]
theorem pickTo_all (f : Nat → Nat → Bool) (n a : Nat) : pickTo f n a n = picked f n (a + 1) := rfl
theorem pickTo_yes {f : Nat → Nat → Bool} {n a b : Nat} (h : f a b = true) : pickTo f n a (b + 1) = pickTo f n a b ++ [[(a : Int), (b : Int)]] := by
  simp [pickTo, pickRow, List.range_succ, List.filter_append, h]
theorem pickTo_no {f : Nat → Nat → Bool} {n a b : Nat} (h : f a b = false) : pickTo f n a (b + 1) = pickTo f n a b := by
  simp [pickTo, pickRow, List.range_succ, List.filter_append, h]
theorem pickRow_length (f : Nat → Nat → Bool) (a b : Nat) : (pickRow f a b).length ≤ b := by
  have := List.length_filter_le (f a) (List.range b)
  simpa [pickRow] using this
theorem picked_length (f : Nat → Nat → Bool) (n : Nat) : ∀ a, (picked f n a).length ≤ a * n := by
  intro a
  induction a with
  | zero => simp [picked]
  | succ a ih =>
    have := pickRow_length f a n
    rw [picked, List.length_append, Nat.add_mul, Nat.one_mul]; omega
theorem pickTo_length (f : Nat → Nat → Bool) (n a b : Nat) : (pickTo f n a b).length ≤ a * n + b := by
  have h1 := picked_length f n a
  have h2 := pickRow_length f a b
  rw [pickTo, List.length_append]; omega
theorem picked_congr {f g : Nat → Nat → Bool} {n : Nat} : ∀ {a : Nat}, (∀ i j, i < a → j < n → f i j = g i j) → picked f n a = picked g n a := by
  intro a
  induction a with
  | zero => intro _; rfl
  | succ a ih =>
    intro h
    rw [picked, picked, ih fun i j hi hj => h i j (by omega) hj, pickRow, pickRow, List.filter_congr fun c hc => h a c (by omega) (List.mem_range.1 hc)]
theorem picked_inner (f : Nat → Nat → Bool) (n : Nat) : ∀ a, ∀ xs ∈ picked f n a, xs.length = 2 := by
  intro a
  induction a with
  | zero => simp [picked]
  | succ a ih =>
    intro xs hx
    rw [picked, List.mem_append] at hx
    rcases hx with hx | hx
    · exact ih xs hx
    · simp only [pickRow, List.mem_map] at hx
      obtain ⟨c, _, rfl⟩ := hx
      rfl
theorem pairsL_len (p : List Int) : (pairsL p).1.length ≤ 2000000 := by
  rcases h : partB p with _ | _
  · rw [pairsL_no h]; simp
  · rw [pairsL_yes h]
    have h1 := picked_length (twin p) p.length p.length
    have h2 := (partB_iff.1 h).2.1
    have h3 : p.length * p.length ≤ 40 * 40 := Nat.mul_le_mul h2 h2
    show (picked (twin p) p.length p.length).length ≤ 2000000
    omega
theorem pairsL_inner (p : List Int) : ∀ xs ∈ (pairsL p).1, xs.length ≤ 2000000 := by
  rcases h : partB p with _ | _
  · rw [pairsL_no h]; simp
  · rw [pairsL_yes h]
    intro xs hx
    have := picked_inner _ _ _ xs hx
    omega
end Go.Proofs.Ythnopigibjmgbaa
