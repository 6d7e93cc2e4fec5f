/- Plain words for relations that are kept as rows of bits, and for matrices of bools. -/
import Derived.WalkKit
import Derived.Lib.Hide
import Derived.Laws.BitsAllLaws
import Derived.Test.YthnopigibjmgbaaMem
import Derived.Test.YthnopigibjmgbaaRelM
namespace Go.Proofs.Ythnopigibjmgbaa
open Go.RowKit
/-- The word x keeps the test f of the items below 40. -/
def WordIs (f : Nat → Bool) (x : Int) : Prop := 0 ≤ x ∧ x < 1099511627776 ∧ ∀ b, b < 40 → x.toNat.testBit b = f b
theorem WordIs.zero : WordIs (fun _ => false) 0 := ⟨by omega, by omega, fun b _ => by simp⟩
theorem WordIs.congr {f g : Nat → Bool} {x : Int} (h : WordIs f x) (e : ∀ b, b < 40 → f b = g b) : WordIs g x := ⟨h.1, h.2.1, fun b hb => (h.2.2 b hb).trans (e b hb)⟩
theorem or_small {a b : Nat} (ha : a < 1099511627776) (hb : b < 1099511627776) : a ||| b < 1099511627776 := Nat.or_lt_two_pow (n := 40) ha hb
theorem word_or {x y : Int} (h1 : 0 ≤ x) (h2 : x < 1099511627776) (h3 : 0 ≤ y) (h4 : y < 1099511627776) : bits .or .u64 x y = ((x.toNat ||| y.toNat : Nat) : Int) := u64_or x y h1 (by omega) h3 (by omega)
theorem WordIs.or {f g : Nat → Bool} {x y : Int} (h : WordIs f x) (h2 : WordIs g y) : WordIs (fun b => f b || g b) (bits .or .u64 x y) := by
  rw [word_or h.1 h.2.1 h2.1 h2.2.1]
  refine ⟨by omega, ?_, fun b hb => ?_⟩
  · have := or_small (a := x.toNat) (b := y.toNat) (by have := h.2.1; have := h.1; omega) (by have := h2.2.1; have := h2.1; omega)
    omega
  · rw [Int.toNat_natCast, Nat.testBit_or, h.2.2 b hb, h2.2.2 b hb]
theorem two_pow_bd {b : Nat} (hb : b < 40) : 1 ≤ 2 ^ b ∧ (2 : Nat) ^ b < 1099511627776 := ⟨Nat.one_le_two_pow, Nat.pow_lt_pow_right (a := 2) (by omega) hb⟩
theorem WordIs.bit {b : Nat} (hb : b < 40) : WordIs (fun c => decide (c = b)) ((2 ^ b : Nat) : Int) := by
  have := two_pow_bd hb
  refine ⟨by omega, by omega, fun c _ => ?_⟩
  rw [Int.toNat_natCast, Nat.testBit_two_pow]
  by_cases e : c = b
  · simp [e]
  · simp [e, Ne.symm e]
/-- A relation on the items below 40, a word a row. -/
def Bits (f : Nat → Nat → Bool) (xs : List Int) : Prop := xs.length = 40 ∧ ∀ a x, xs[a]? = some x → WordIs (f a) x
theorem Bits.zero : Bits (fun _ _ => false) (List.replicate 40 0) := ⟨by simp, fun a x h => by
  rw [List.getElem?_replicate] at h
  split at h
  · injection h with h; subst h; exact WordIs.zero
  · cases h⟩
theorem Bits.congr {f g : Nat → Nat → Bool} {xs : List Int} (h : Bits f xs) (e : ∀ a b, a < 40 → b < 40 → f a b = g a b) : Bits g xs :=
  ⟨h.1, fun a x hx => (h.2 a x hx).congr fun b hb => e a b (by have := (List.getElem?_eq_some_iff.1 hx).1; have := h.1; omega) hb⟩
theorem Bits.set {f : Nat → Nat → Bool} {xs : List Int} {a : Nat} {g : Nat → Bool} {y : Int} (h : Bits f xs) (hy : WordIs g y) : Bits (fun i => if i = a then g else f i) (xs.set a y) := by
  refine ⟨by rw [List.length_set]; exact h.1, fun i x hi => ?_⟩
  rw [List.getElem?_set] at hi
  by_cases e : a = i
  · subst e
    rw [if_pos rfl] at hi
    split at hi
    · injection hi with hi; subst hi; show WordIs (if a = a then g else f a) y; rw [if_pos rfl]; exact hy
    · cases hi
  · rw [if_neg e] at hi
    show WordIs (if i = a then g else f i) x
    rw [if_neg (fun e' : i = a => e e'.symm)]; exact h.2 i x hi
/-- One pair more. -/
def addF (f : Nat → Nat → Bool) (a b : Nat) (i j : Nat) : Bool := f i j || (decide (i = a) && decide (j = b))
/-- A row is joined to another. -/
def rowF (f : Nat → Nat → Bool) (a : Nat) (g : Nat → Bool) (i j : Nat) : Bool := f i j || (decide (i = a) && g j)
theorem Bits.row {f : Nat → Nat → Bool} {xs : List Int} {a : Nat} {g : Nat → Bool} {x y : Int} (h : Bits f xs) (hx : xs[a]? = some x) (hy : WordIs g y) : Bits (rowF f a g) (xs.set a (bits .or .u64 x y)) :=
  (h.set (a := a) ((h.2 a x hx).or hy)).congr fun i j _ _ => by
    by_cases e : i = a <;> simp [rowF, e]
theorem Bits.add {f : Nat → Nat → Bool} {xs : List Int} {a b : Nat} {x : Int} (h : Bits f xs) (hx : xs[a]? = some x) (hb : b < 40) : Bits (addF f a b) (xs.set a (bits .or .u64 x ((2 ^ b : Nat) : Int))) :=
  (h.row hx (WordIs.bit hb)).congr fun i j _ _ => rfl
theorem fdiv_pow (n b : Nat) : (n : Int).fdiv (2 ^ b) = ((n / 2 ^ b : Nat) : Int) := by
  have e : (2 : Int) ^ b = ((2 ^ b : Nat) : Int) := by simp
  rw [e, Int.fdiv_eq_ediv_of_nonneg _ (Int.natCast_nonneg _), Int.natCast_ediv]
theorem WordIs.test {f : Nat → Bool} {x : Int} {b : Nat} (h : WordIs f x) (hb : b < 40) : bits .and .u64 (x.fdiv (2 ^ b)) 1 = if f b then 1 else 0 := by
  obtain ⟨h1, h2, h3⟩ := h
  obtain ⟨n, rfl⟩ : ∃ n : Nat, x = n := ⟨x.toNat, by omega⟩
  have ht := h3 b hb
  rw [Int.toNat_natCast, Nat.testBit_eq_decide_div_mod_eq] at ht
  have hlt : n / 2 ^ b ≤ n := Nat.div_le_self _ _
  rw [fdiv_pow]
  generalize n / 2 ^ b = d at *
  have := u64_and_nat d 1 (by omega) (by omega)
  rw [show ((1 : Nat) : Int) = 1 from rfl] at this
  rw [this, Nat.and_one_is_mod]
  rcases hf : f b with _ | _
  · rw [hf] at ht; rw [if_neg (by simp)]; have := of_decide_eq_false ht; omega
  · rw [hf] at ht; rw [if_pos rfl]; have := of_decide_eq_true ht; omega
theorem WordIs.test' {f : Nat → Bool} {x : Int} {b : Nat} (h : WordIs f x) (hb : b < 40) : bits .and .u64 (x / 2 ^ b) 1 = if f b then 1 else 0 := by
  rw [← h.test hb, Int.fdiv_eq_ediv_of_nonneg _ (by have e : (2 : Int) ^ b = ((2 ^ b : Nat) : Int) := by simp
                                                    rw [e]; exact Int.natCast_nonneg _)]
/-- The pairs that a list of lists holds. -/
def memF (r : List (List Int)) (i j : Nat) : Bool := decide ([(i : Int), (j : Int)] ∈ r)
def memTo (r : List (List Int)) (k i j : Nat) : Bool := memF (r.take k) i j
theorem memTo_zero (r : List (List Int)) (i j : Nat) : memTo r 0 i j = false := by simp [memTo, memF]
theorem memTo_next {r : List (List Int)} {k a b : Nat} (h : r[k]? = some [(a : Int), (b : Int)]) (i j : Nat) : memTo r (k + 1) i j = addF (memTo r k) a b i j := by
  rw [memTo, take_one _ _ _ h, addF, memTo, memF, memF]
  simp only [List.mem_append, List.mem_singleton, List.cons.injEq, and_true]
  rw [Bool.eq_iff_iff]
  simp only [decide_eq_true_eq, Bool.or_eq_true, Bool.and_eq_true]
  constructor
  · rintro (h | ⟨h1, h2⟩)
    · exact .inl h
    · exact .inr ⟨by omega, by omega⟩
  · rintro (h | ⟨h1, h2⟩)
    · exact .inl h
    · exact .inr ⟨by omega, by omega⟩
theorem memTo_all (r : List (List Int)) {k : Nat} (h : r.length ≤ k) : memTo r k = memF r := by funext i j; rw [memTo, List.take_of_length_le h]
/-- What a relation's pairs are. -/
theorem rel_pair {n : Int} {r : List (List Int)} (h : relB n r = true) {k : Nat} (hk : k < r.length) : ∃ a b : Nat, r[k]? = some [(a : Int), (b : Int)] ∧ (a : Int) < n ∧ (b : Int) < n := by
  obtain ⟨_, _, h3, _⟩ := relB_iff.1 h
  obtain ⟨a, b, hp, h1, h2, h4, h5⟩ := h3 k _ (List.getElem?_eq_getElem hk)
  refine ⟨a.toNat, b.toNat, ?_, by omega, by omega⟩
  rw [List.getElem?_eq_getElem hk, hp]
  congr 2
  · omega
  · congr 1; omega
theorem rel_small {n : Int} {r : List (List Int)} (h : relB n r = true) : 1 ≤ n ∧ n ≤ 40 := ⟨(relB_iff.1 h).1, (relB_iff.1 h).2.1⟩
theorem memF_lt {n : Int} {r : List (List Int)} (h : relB n r = true) {i j : Nat} (hm : memF r i j = true) : (i : Int) < n ∧ (j : Int) < n := by
  unfold memF at hm
  obtain ⟨k, hk⟩ := List.getElem?_of_mem (of_decide_eq_true hm)
  obtain ⟨a, b, he, h1, h2⟩ := rel_pair h (List.getElem?_eq_some_iff.1 hk).1
  rw [hk] at he
  injection he with he
  injection he with h3 h4
  injection h4 with h4
  omega
/-- The composition: up to place k of the first relation. -/
def compStep (g : Nat → Nat → Bool) (f : Nat → Nat → Bool) (xs : List Int) : Nat → Nat → Bool := rowF f (xs.getD 0 0).toNat (g (xs.getD 1 0).toNat)
def compTo (r : List (List Int)) (g : Nat → Nat → Bool) (k : Nat) : Nat → Nat → Bool := (r.take k).foldl (compStep g) fun _ _ => false
theorem compTo_next {r : List (List Int)} {g : Nat → Nat → Bool} {k a b : Nat} (h : r[k]? = some [(a : Int), (b : Int)]) : compTo r g (k + 1) = rowF (compTo r g k) a (g b) := by
  rw [compTo, take_one _ _ _ h, List.foldl_append]; rfl
theorem compTo_all (r : List (List Int)) (g : Nat → Nat → Bool) {k : Nat} (h : r.length ≤ k) : compTo r g k = compTo r g r.length := by
  rw [compTo, compTo, List.take_of_length_le h, List.take_of_length_le (Nat.le_refl _)]
/-- The inverse: up to place k. -/
def invTo (r : List (List Int)) (k i j : Nat) : Bool := memTo r k j i
theorem invTo_zero (r : List (List Int)) (i j : Nat) : invTo r 0 i j = false := memTo_zero r j i
theorem invTo_next {r : List (List Int)} {k a b : Nat} (h : r[k]? = some [(a : Int), (b : Int)]) (i j : Nat) : invTo r (k + 1) i j = addF (invTo r k) b a i j := by
  rw [invTo, memTo_next h, addF, addF, invTo, Bool.and_comm]
/-- The closure: the diagonal up to place k, and the steps through b of the rows below a. -/
def diagTo (f : Nat → Nat → Bool) (k i j : Nat) : Bool := f i j || (decide (i = j) && decide (i < k))
theorem diagTo_zero (f : Nat → Nat → Bool) (i j : Nat) : diagTo f 0 i j = f i j := by simp [diagTo]
theorem diagTo_next (f : Nat → Nat → Bool) (k i j : Nat) : diagTo f (k + 1) i j = addF (diagTo f k) k k i j := by
  simp only [diagTo, addF]
  rw [Bool.eq_iff_iff]
  simp only [Bool.or_eq_true, Bool.and_eq_true, decide_eq_true_eq]
  constructor
  · rintro (h | ⟨rfl, h⟩)
    · exact .inl (.inl h)
    · by_cases e : i = k
      · exact .inr ⟨e, e⟩
      · exact .inl (.inr ⟨rfl, by omega⟩)
  · rintro ((h | ⟨rfl, h⟩) | ⟨rfl, rfl⟩)
    · exact .inl h
    · exact .inr ⟨rfl, by omega⟩
    · exact .inr ⟨rfl, by omega⟩
def wStep (f : Nat → Nat → Bool) (b a : Nat) : Nat → Nat → Bool := if f a b = true then rowF f a (f b) else f
def wRow (f : Nat → Nat → Bool) (b : Nat) : Nat → Nat → Nat → Bool
  | 0 => f
  | a + 1 => wStep (wRow f b a) b a
def wAll (f : Nat → Nat → Bool) (n : Nat) : Nat → Nat → Nat → Bool
  | 0 => f
  | b + 1 => wRow (wAll f n b) b n
def wTo (f : Nat → Nat → Bool) (n b a : Nat) : Nat → Nat → Bool := wRow (wAll f n b) b a
theorem wTo_yes {f : Nat → Nat → Bool} {n b a : Nat} (h : wTo f n b a a b = true) : wTo f n b (a + 1) = rowF (wTo f n b a) a (wTo f n b a b) := by
  show wStep (wTo f n b a) b a = _
  rw [wStep, if_pos h]
theorem wTo_no {f : Nat → Nat → Bool} {n b a : Nat} (h : wTo f n b a a b = false) : wTo f n b (a + 1) = wTo f n b a := by
  show wStep (wTo f n b a) b a = _
  rw [wStep, if_neg (by rw [h]; simp)]
/-- A row is joined to another up to place c. -/
def rowTo (f : Nat → Nat → Bool) (a b c i j : Nat) : Bool := f i j || (decide (i = a) && (decide (j < c) && f b j))
theorem rowTo_zero (f : Nat → Nat → Bool) (a b i j : Nat) : rowTo f a b 0 i j = f i j := by simp [rowTo]
theorem rowTo_at (f : Nat → Nat → Bool) (a b c j : Nat) : rowTo f a b c b j = f b j := by
  simp only [rowTo]
  rw [Bool.eq_iff_iff]
  simp only [Bool.or_eq_true, Bool.and_eq_true, decide_eq_true_eq]
  constructor
  · rintro (h | ⟨_, _, h⟩) <;> exact h
  · exact .inl
theorem rowTo_yes {f : Nat → Nat → Bool} {a b c : Nat} (h : f b c = true) (i j : Nat) : rowTo f a b (c + 1) i j = addF (rowTo f a b c) a c i j := by
  simp only [rowTo, addF]
  rw [Bool.eq_iff_iff]
  simp only [Bool.or_eq_true, Bool.and_eq_true, decide_eq_true_eq]
  constructor
  · rintro (h | ⟨rfl, h1, h2⟩)
    · exact .inl (.inl h)
    · by_cases e : j = c
      · exact .inr ⟨rfl, e⟩
      · exact .inl (.inr ⟨rfl, by omega, h2⟩)
  · rintro ((h | ⟨rfl, h1, h2⟩) | ⟨rfl, rfl⟩)
    · exact .inl h
    · exact .inr ⟨rfl, by omega, h2⟩
    · exact .inr ⟨rfl, by omega, h⟩
theorem rowTo_no {f : Nat → Nat → Bool} {a b c : Nat} (h : f b c = false) (i j : Nat) : rowTo f a b (c + 1) i j = rowTo f a b c i j := by
  simp only [rowTo]
  rw [Bool.eq_iff_iff]
  simp only [Bool.or_eq_true, Bool.and_eq_true, decide_eq_true_eq]
  constructor
  · rintro (h' | ⟨rfl, h1, h2⟩)
    · exact .inl h'
    · by_cases e : j = c
      · subst e; rw [h] at h2; cases h2
      · exact .inr ⟨rfl, by omega, h2⟩
  · rintro (h | ⟨rfl, h1, h2⟩)
    · exact .inl h
    · exact .inr ⟨rfl, by omega, h2⟩
theorem rowTo_all {f : Nat → Nat → Bool} {a b n i j : Nat} (hj : j < n) : rowTo f a b n i j = rowF f a (f b) i j := by simp [rowTo, rowF, hj]
/-- A matrix as a list. -/
def matL (f : Nat → Nat → Bool) (n : Nat) : List Value := (List.range (n * n)).map fun i => .bool (f (i / n) (i % n))
theorem matL_length (f : Nat → Nat → Bool) (n : Nat) : (matL f n).length = n * n := by simp [matL]
theorem mat_place {n a b : Nat} (ha : a < n) (hb : b < n) : a * n + b < n * n ∧ (a * n + b) / n = a ∧ (a * n + b) % n = b := by
  have h : 0 < n := by omega
  refine ⟨?_, ?_, ?_⟩
  · have : (a + 1) * n ≤ n * n := Nat.mul_le_mul_right n ha
    rw [Nat.add_mul, Nat.one_mul] at this; omega
  · rw [Nat.mul_comm, Nat.mul_add_div h, Nat.div_eq_of_lt hb, Nat.add_zero]
  · rw [Nat.mul_comm, Nat.mul_add_mod, Nat.mod_eq_of_lt hb]
theorem matL_at {f : Nat → Nat → Bool} {n a b : Nat} (ha : a < n) (hb : b < n) : (matL f n)[a * n + b]? = some (.bool (f a b)) := by
  obtain ⟨h1, h2, h3⟩ := mat_place ha hb
  simp [matL, h1, h2, h3]
theorem matL_congr {f g : Nat → Nat → Bool} {n : Nat} (h : ∀ i j, i < n → j < n → f i j = g i j) : matL f n = matL g n := by
  refine List.map_congr_left fun i hi => ?_
  have hi := List.mem_range.1 hi
  have hn : 0 < n := by rcases Nat.eq_zero_or_pos n with e | e <;> simp_all
  rw [h _ _ (Nat.div_lt_of_lt_mul hi) (Nat.mod_lt _ hn)]
theorem matL_zero (n : Nat) : matL (fun _ _ => false) n = List.replicate (n * n) (.bool false) := by
  simp [matL, List.map_const']
theorem matL_set {f : Nat → Nat → Bool} {n a b : Nat} (ha : a < n) (hb : b < n) : (matL f n).set (a * n + b) (.bool true) = matL (addF f a b) n := by
  obtain ⟨h1, h2, h3⟩ := mat_place ha hb
  refine List.ext_getElem? fun i => ?_
  rw [List.getElem?_set]
  by_cases e : a * n + b = i
  · subst e
    rw [if_pos rfl, if_pos (by rw [matL_length]; exact h1), matL_at ha hb]
    simp [addF]
  · rw [if_neg e]
    by_cases hi : i < n * n
    · have hne : ¬ (i / n = a ∧ i % n = b) := fun ⟨e1, e2⟩ => e (by rw [← e1, ← e2, Nat.mul_comm]; exact Nat.div_add_mod i n)
      have : addF f a b (i / n) (i % n) = f (i / n) (i % n) := by
        unfold addF
        by_cases e1 : i / n = a
        · by_cases e2 : i % n = b
          · exact absurd ⟨e1, e2⟩ hne
          · simp [e2]
        · simp [e1]
      simp [matL, hi, this]
    · rw [List.getElem?_eq_none (by rw [matL_length]; omega), List.getElem?_eq_none (by rw [matL_length]; omega)]
end Go.Proofs.Ythnopigibjmgbaa
