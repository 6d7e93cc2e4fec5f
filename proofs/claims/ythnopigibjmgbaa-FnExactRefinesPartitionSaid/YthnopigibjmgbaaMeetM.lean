/- Plain words for the meet of two partitions. -/
import Derived.WalkKit
import Derived.Lib.Hide
import Derived.Test.YthnopigibjmgbaaMem
import Derived.Test.YthnopigibjmgbaaPartM
import Derived.Test.YthnopigibjmgbaaForM
import Derived.Test.YthnopigibjmgbaaNum2
namespace Go.Proofs.Ythnopigibjmgbaa
open Go.RowKit
def fin64 (u : Int) : Fin 64 := ⟨u.toNat % 64, Nat.mod_lt _ (by decide)⟩
theorem fin64_val {u : Int} (h0 : 0 ≤ u) (h : u < 64) : ((fin64 u).val : Int) = u := by
  show ((u.toNat % 64 : Nat) : Int) = u
  omega
def pairsP (p q : List Int) : List Pr := List.zipWith (fun u v => ⟨fin64 u, fin64 v⟩) p q
def meetV (p q : List Int) : List Int := List.zipWith (fun u v => u * 40 + v) p q
theorem pairsP_length {p q : List Int} {n : Nat} (h1 : p.length = n) (h2 : q.length = n) : (pairsP p q).length = n := by simp [pairsP, h1, h2]
theorem meetV_length {p q : List Int} {n : Nat} (h1 : p.length = n) (h2 : q.length = n) : (meetV p q).length = n := by simp [meetV, h1, h2]
theorem pairsP_at {p q : List Int} {k : Nat} {u v : Int} (h1 : p[k]? = some u) (h2 : q[k]? = some v) : (pairsP p q)[k]? = some ⟨fin64 u, fin64 v⟩ := by simp [pairsP, List.getElem?_zipWith, h1, h2]
theorem meetV_at {p q : List Int} {k : Nat} {u v : Int} (h1 : p[k]? = some u) (h2 : q[k]? = some v) : (meetV p q)[k]? = some (u * 40 + v) := by simp [meetV, List.getElem?_zipWith, h1, h2]
theorem part_bd {p : List Int} (h : partB p = true) {k : Nat} {u : Int} (hu : p[k]? = some u) : 0 ≤ u ∧ u < 40 := by
  obtain ⟨h1, h2, h3⟩ := partB_iff.1 h
  have e := normL_at hu
  rw [h3, hu] at e
  injection e with e
  have hk := (List.getElem?_eq_some_iff.1 hu).1
  have h4 := seen_length_le (p.take k)
  rw [List.length_take] at h4
  have h5 : (seen (p.take k)).idxOf u ≤ (seen (p.take k)).length := List.idxOf_le_length
  omega
theorem bounds {p : List Int} (h : partB p = true) : ∀ (k : Nat) u, p[k]? = some u → 0 ≤ u ∧ u < 40 := fun k u hu => part_bd h hu
theorem meet_norm {p q : List Int} {n : Nat} (h1 : p.length = n) (h2 : q.length = n) (b1 : ∀ (k : Nat) u, p[k]? = some u → 0 ≤ u ∧ u < 40) (b2 : ∀ (k : Nat) u, q[k]? = some u → 0 ≤ u ∧ u < 40) : normL (pairsP p q) = normL (meetV p q) := by
  refine normL_ker (by rw [pairsP_length h1 h2, meetV_length h1 h2]) fun i j x x' y y' hx hx' hy hy' => ?_
  have hi : i < n := by have := (List.getElem?_eq_some_iff.1 hx).1; rw [pairsP_length h1 h2] at this; exact this
  have hj : j < n := by have := (List.getElem?_eq_some_iff.1 hx').1; rw [pairsP_length h1 h2] at this; exact this
  obtain ⟨u, hu⟩ : ∃ u, p[i]? = some u := ⟨_, List.getElem?_eq_getElem (by omega)⟩
  obtain ⟨v, hv⟩ : ∃ v, q[i]? = some v := ⟨_, List.getElem?_eq_getElem (by omega)⟩
  obtain ⟨u', hu'⟩ : ∃ u, p[j]? = some u := ⟨_, List.getElem?_eq_getElem (by omega)⟩
  obtain ⟨v', hv'⟩ : ∃ v, q[j]? = some v := ⟨_, List.getElem?_eq_getElem (by omega)⟩
  rw [pairsP_at hu hv] at hx; rw [pairsP_at hu' hv'] at hx'
  rw [meetV_at hu hv] at hy; rw [meetV_at hu' hv'] at hy'
  injection hx with hx; injection hx' with hx'; injection hy with hy; injection hy' with hy'
  subst hx; subst hx'; subst hy; subst hy'
  have c1 := b1 i u hu; have c2 := b2 i v hv; have c3 := b1 j u' hu'; have c4 := b2 j v' hv'
  constructor
  · intro e
    injection e with e1 e2
    have e1 : ((fin64 u).val : Int) = ((fin64 u').val : Int) := by rw [e1]
    have e2 : ((fin64 v).val : Int) = ((fin64 v').val : Int) := by rw [e2]
    rw [fin64_val c1.1 (by omega), fin64_val c3.1 (by omega)] at e1
    rw [fin64_val c2.1 (by omega), fin64_val c4.1 (by omega)] at e2
    rw [e1, e2]
  · intro e
    have e1 : u = u' := by omega
    have e2 : v = v' := by omega
    rw [e1, e2]
/-- p refines q: places with equal numbers in p have equal ones in q. -/
def refP (p q : List Int) : Prop := ∀ (i k : Nat) (u v v' : Int), k < i → p[i]? = some u → p[k]? = some u → q[i]? = some v → q[k]? = some v' → v = v'
theorem meet_refines {p q : List Int} {n : Nat} (hp : partB p = true) (h1 : p.length = n) (h2 : q.length = n) (b2 : ∀ (k : Nat) u, q[k]? = some u → 0 ≤ u ∧ u < 40) : normL (meetV p q) = p ↔ refP p q := by
  have b1 := bounds hp
  have hnp := (partB_iff.1 hp).2.2
  constructor
  · intro h i k u v v' hki hi hk hv hv'
    have := (normL_same (meetV_at hi hv) (meetV_at hk hv')).2 (by rw [h, hi, hk])
    have c2 := b2 i v hv; have c4 := b2 k v' hv'
    omega
  · intro h
    refine (normL_ker (by rw [meetV_length h1 h2, h1]) fun i j x x' y y' hx hx' hy hy' => ?_).trans hnp
    have hi : i < n := by have := (List.getElem?_eq_some_iff.1 hy).1; omega
    have hj : j < n := by have := (List.getElem?_eq_some_iff.1 hy').1; omega
    obtain ⟨v, hv⟩ : ∃ v, q[i]? = some v := ⟨_, List.getElem?_eq_getElem (by omega)⟩
    obtain ⟨v', hv'⟩ : ∃ v, q[j]? = some v := ⟨_, List.getElem?_eq_getElem (by omega)⟩
    rw [meetV_at hy hv] at hx; rw [meetV_at hy' hv'] at hx'
    injection hx with hx; injection hx' with hx'
    subst hx; subst hx'
    have c1 := b1 i y hy; have c2 := b2 i v hv; have c3 := b1 j y' hy'; have c4 := b2 j v' hv'
    constructor
    · intro e; omega
    · intro e
      subst e
      rcases Nat.lt_trichotomy i j with hlt | hlt | hlt
      · have := h j i y v' v hlt hy' hy hv' hv; omega
      · subst hlt; rw [hv] at hv'; injection hv' with e; omega
      · have := h i j y v v' hlt hy hy' hv hv'; omega
theorem flat_length (xs : List Pr) : (xs.flatMap pv).length = xs.length * 2 := by
  induction xs with
  | nil => rfl
  | cons a xs ih => rw [List.flatMap_cons, List.length_append, ih, List.length_cons]; show 2 + _ = _; omega
/-- The cells of the first k pairs, zeros behind them. -/
def halfP (xs : List Pr) (n k : Nat) : List Value := (xs.take k).flatMap pv ++ List.replicate ((n - k) * 2) (.int .i64 0)
theorem halfP_next {xs : List Pr} {n k : Nat} {x : Pr} (hn : xs.length = n) (hx : xs[k]? = some x) : ((halfP xs n k).set (k * 2) (.int .i64 (x.a.val : Int))).set (k * 2 + 1) (.int .i64 (x.b.val : Int)) = halfP xs n (k + 1) := by
  have hk := (List.getElem?_eq_some_iff.1 hx).1
  have hl : ((xs.take k).flatMap pv).length = k * 2 := by rw [flat_length, List.length_take]; congr 1; omega
  have e : (n - k) * 2 = (n - (k + 1)) * 2 + 2 := by omega
  unfold halfP
  rw [e, List.set_append_right _ _ (by omega), hl, Nat.sub_self, List.replicate_succ, List.set_cons_zero, List.set_append_right _ _ (by omega), hl, show k * 2 + 1 - k * 2 = 1 by omega, List.replicate_succ]
  rw [take_one _ _ _ hx, List.flatMap_append, List.append_assoc]
  rfl
theorem halfP_all {xs : List Pr} {n : Nat} (hn : xs.length = n) : halfP xs n n = xs.flatMap pv := by
  unfold halfP; rw [Nat.sub_self, List.take_of_length_le (by omega)]; simp
end Go.Proofs.Ythnopigibjmgbaa
