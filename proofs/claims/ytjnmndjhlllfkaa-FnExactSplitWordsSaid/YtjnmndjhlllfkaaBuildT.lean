/- Slices of lists of terms of the call's own, no two of them sharing memory: how they are built row by row, and what keeps them. -/
import Derived.Test.YtjnmndjhlllfkaaProg
import Derived.WalkKit
import Derived.ProofKit
import Derived.OwnWalk
import Derived.Lib.Hide
import Derived.Test.YtjnmndjhlllfkaaMem
import Derived.Test.YtjnmndjhlllfkaaOwn
import Derived.Test.YtjnmndjhlllfkaaTurn
import Derived.Test.YtjnmndjhlllfkaaTmM
import Derived.Test.YtjnmndjhlllfkaaTmW
import Derived.Test.YtjnmndjhlllfkaaRet
namespace Go.Proofs.Ytjnmndjhlllfkaa
open Go.RowKit
/-- A slice of slices reads as the list of lists of terms xss. -/
def TTRow (w : World) (B : Nat) (A : Option Addr) (xss : List (List Tm)) : Prop :=
  ∃ vs : List Value, Row w B A vs ∧ vs.length = xss.length ∧ ∀ (i : Nat) (xs : List Tm), xss[i]? = some xs → ∃ (A' : Option Addr) (c' : Nat), vs[i]? = some (Value.slice A' xs.length c') ∧ TRow w B A' xs
theorem TTRow.below {w w' : World} {B : Nat} {A : Option Addr} {xss : List (List Tm)} (h : TTRow w B A xss) (hb : Below B w w') : TTRow w' B A xss := by
  obtain ⟨vs, h1, h2, h3⟩ := h
  refine ⟨vs, h1.below hb, h2, fun i xs hi => ?_⟩
  obtain ⟨A', c', e, hr⟩ := h3 i xs hi
  exact ⟨A', c', e, hr.below hb⟩
theorem TTRow.more {w : World} {B B' : Nat} {A : Option Addr} {xss : List (List Tm)} (h : TTRow w B A xss) (hB : B ≤ B') : TTRow w B' A xss := by
  obtain ⟨vs, h1, h2, h3⟩ := h
  refine ⟨vs, h1.more hB, h2, fun i xs hi => ?_⟩
  obtain ⟨A', c', e, hr⟩ := h3 i xs hi
  exact ⟨A', c', e, hr.more hB⟩
theorem TTRow.at_ {w : World} {B : Nat} {A : Option Addr} {xss : List (List Tm)} (h : TTRow w B A xss) {k : Nat} (hk : k < xss.length) :
    ∃ b off A' c' xs, A = some ⟨b, off, none⟩ ∧ b < B ∧ w.cell? ⟨b, off + k, none⟩ = some (.slice A' xs.length c') ∧ TRow w B A' xs ∧ Hid (xss[k]? = some xs) := by
  obtain ⟨vs, h1, h2, h3⟩ := h
  obtain ⟨b, off, e, hb, hc⟩ := h1.at_ (k := k) (by omega)
  obtain ⟨A', c', e', hr⟩ := h3 k xss[k] (List.getElem?_eq_getElem hk)
  rw [List.getElem?_eq_getElem (by omega)] at e'
  injection e' with e'
  exact ⟨b, off, A', c', xss[k], e, hb, by rw [← e']; exact hc, hr, List.getElem?_eq_getElem hk⟩
theorem own_blockT {w : World} {base : Nat} {e : TypeId} {size : Nat} {v : Value} {n g : Nat} {xs : List Value} (h : w.ownsRow base e size v n xs) (hg : v.ownBlock = some g) : ∃ cur, w.heap[g]? = some (.cells cur e (0, 0)) := by
  rcases h.2 with ⟨rfl, _⟩ | ⟨g', cap, cur, rfl, _, hh, _⟩
  · cases hg
  · injection hg with hg; subst hg; exact ⟨cur, hh⟩
/-- Rows of different element types lie in different blocks. -/
theorem own_apart {w : World} {b1 b2 : Nat} {e1 e2 : TypeId} {s1 s2 n1 n2 : Nat} {v1 v2 : Value} {xs ys : List Value} (h1 : w.ownsRow b1 e1 s1 v1 n1 xs) (h2 : w.ownsRow b2 e2 s2 v2 n2 ys) (hne : e1 ≠ e2) : v1.ownBlock = none ∨ v1.ownBlock ≠ v2.ownBlock := by
  rcases e : v1.ownBlock with _ | g
  · exact .inl rfl
  · refine .inr fun he => ?_
    obtain ⟨c1, h1⟩ := own_blockT h1 e
    obtain ⟨c2, h2⟩ := own_blockT h2 he.symm
    rw [h1] at h2
    injection h2 with h2
    injection h2 with _ h2 _
    exact hne h2
/-- Rows of numbers, one for each list, in blocks of their own, none of them the outer row's. -/
structure InnerT (w : World) (lo hi : Nat) (A : Option Addr) (n : Nat) (xss : List (List Tm)) (G : Nat → Option Addr) (C : Nat → Nat) (R : Nat → TypeId) : Prop where
  own : ∀ i, i < n → OwnV w lo hi (R i) 2 (G i) (xss.getD i []).length (C i) (tvs (xss.getD i []))
  one : ∀ i j g, i < n → j < n → G i = some ⟨g, 0, none⟩ → G j = some ⟨g, 0, none⟩ → i = j
  out : ∀ i g, i < n → G i = some ⟨g, 0, none⟩ → A ≠ some ⟨g, 0, none⟩
def innerT (xss : List (List Tm)) (G : Nat → Option Addr) (C : Nat → Nat) (n : Nat) : List Value := (List.range n).map fun i => .slice (G i) (xss.getD i []).length (C i)
theorem innerT_length (xss : List (List Tm)) (G : Nat → Option Addr) (C : Nat → Nat) (n : Nat) : (innerT xss G C n).length = n := by simp [innerT]
theorem innerT_at {xss : List (List Tm)} {G : Nat → Option Addr} {C : Nat → Nat} {n i : Nat} (h : i < n) : (innerT xss G C n)[i]? = some (.slice (G i) (xss.getD i []).length (C i)) := by simp [innerT, h]
/-- A slice of slices of the law's own. -/
def OwnTT (w : World) (lo hi : Nat) (A : Option Addr) (n c : Nat) (xss : List (List Tm)) : Prop :=
  n = xss.length ∧ ∃ (T : TypeId) (G : Nat → Option Addr) (C : Nat → Nat) (R : Nat → TypeId), OwnV w lo hi T 1 A n c (innerT xss G C n) ∧ InnerT w lo hi A n xss G C R
theorem InnerT.turn {w w' : World} {lo hi lo' hi' : Nat} {A : Option Addr} {n : Nat} {xss : List (List Tm)} {G : Nat → Option Addr} {C : Nat → Nat} {R : Nat → TypeId} (h : InnerT w lo hi A n xss G C R) (ht : Turns lo' hi' w w') (hd : hi ≤ lo' ∨ hi' ≤ lo) : InnerT w' lo hi A n xss G C R :=
  ⟨fun i hi => (h.own i hi).turn ht hd, h.one, h.out⟩
theorem InnerT.below {w w' : World} {lo hi B : Nat} {A : Option Addr} {n : Nat} {xss : List (List Tm)} {G : Nat → Option Addr} {C : Nat → Nat} {R : Nat → TypeId} (h : InnerT w lo hi A n xss G C R) (hb : Below B w w') (hB : hi ≤ B) : InnerT w' lo hi A n xss G C R :=
  ⟨fun i hi => (h.own i hi).below hb hB, h.one, h.out⟩
theorem OwnTT.turn {w w' : World} {lo hi lo' hi' : Nat} {A : Option Addr} {n c : Nat} {xss : List (List Tm)} (h : OwnTT w lo hi A n c xss) (ht : Turns lo' hi' w w') (hd : hi ≤ lo' ∨ hi' ≤ lo) : OwnTT w' lo hi A n c xss := by
  obtain ⟨hn, T, G, C, R, h1, h2⟩ := h
  exact ⟨hn, T, G, C, R, h1.turn ht hd, h2.turn ht hd⟩
theorem OwnTT.below {w w' : World} {lo hi B : Nat} {A : Option Addr} {n c : Nat} {xss : List (List Tm)} (h : OwnTT w lo hi A n c xss) (hb : Below B w w') (hB : hi ≤ B) : OwnTT w' lo hi A n c xss := by
  obtain ⟨hn, T, G, C, R, h1, h2⟩ := h
  exact ⟨hn, T, G, C, R, h1.below hb hB, h2.below hb hB⟩
theorem OwnTT.row {w : World} {lo hi : Nat} {A : Option Addr} {n c : Nat} {xss : List (List Tm)} (h : OwnTT w lo hi A n c xss) : TTRow w hi A xss := by
  obtain ⟨hn, T, G, C, R, h1, h2⟩ := h
  refine ⟨innerT xss G C n, h1.row, by rw [innerT_length]; exact hn, fun i xs hi => ?_⟩
  obtain ⟨hlt, rfl⟩ := List.getElem?_eq_some_iff.1 hi
  have e : xss.getD i [] = xss[i] := by rw [List.getD_eq_getElem?_getD, hi]; rfl
  refine ⟨G i, C i, by rw [innerT_at (by omega), e], ?_⟩
  have := (h2.own i (by omega)).trow
  rwa [e] at this
theorem OwnTT.len {w : World} {lo hi : Nat} {A : Option Addr} {n c : Nat} {xss : List (List Tm)} (h : OwnTT w lo hi A n c xss) : xss.length = n := h.1.symm
theorem OwnTT.nil (w : World) (lo hi : Nat) : OwnTT w lo hi none 0 0 [] :=
  ⟨rfl, 0, fun _ => none, fun _ => 0, fun _ => 0, ⟨World.ownsRow_nil _ _ _ _, fun g hg => by cases hg⟩, ⟨fun i h => by omega, fun i j g h => by omega, fun i g h => by omega⟩⟩
theorem getD_ofT {xss : List (List Tm)} {k : Nat} {xs : List Tm} (h : xss[k]? = some xs) : xss.getD k [] = xs := by rw [List.getD_eq_getElem?_getD, h]; rfl
theorem innerT_snoc {xss : List (List Tm)} {G : Nat → Option Addr} {C : Nat → Nat} {k : Nat} {xs : List Tm} {A' : Option Addr} {c' : Nat} (h : xss[k]? = some xs) :
    innerT xss (upd G k A') (upd C k c') (k + 1) = innerT xss G C k ++ [.slice A' xs.length c'] := by
  simp only [innerT, List.range_succ, List.map_append, List.map_cons, List.map_nil, upd_same, getD_ofT h]
  congr 1
  refine List.map_congr_left fun i hi => ?_
  have := List.mem_range.1 hi
  rw [upd_other (by omega), upd_other (by omega)]
theorem InnerT.snoc {w w1 : World} {lo hi lo2 hi2 : Nat} {A : Option Addr} {k : Nat} {xss : List (List Tm)} {G : Nat → Option Addr} {C : Nat → Nat} {R : Nat → TypeId} {T : TypeId} {A' : Option Addr} {c' : Nat} {xs : List Tm}
    (h : InnerT w lo hi A k xss G C R) (hb : Below hi w w1) (ho : OwnV w1 lo2 hi2 T 2 A' xs.length c' (tvs xs)) (hx : xss[k]? = some xs) (h1 : lo ≤ lo2) (h2 : hi ≤ lo2) (h3 : hi ≤ hi2)
    (hA : ∀ g, A = some ⟨g, 0, none⟩ → g < lo2) : InnerT w1 lo hi2 A (k + 1) xss (upd G k A') (upd C k c') (upd R k T) := by
  refine ⟨fun i hi' => ?_, fun i j g hi' hj' e1 e2 => ?_, fun i g hi' e1 e2 => ?_⟩
  · by_cases e : i = k
    · subst e
      rw [upd_same, upd_same, upd_same, getD_ofT hx]
      exact ho.wide h1 (Nat.le_refl _)
    · rw [upd_other e, upd_other e, upd_other e]
      exact ((h.own i (by omega)).below hb (Nat.le_refl _)).wide (Nat.le_refl _) h3
  · by_cases ei : i = k <;> by_cases ej : j = k
    · omega
    · exfalso
      subst ei
      rw [upd_same] at e1; rw [upd_other ej] at e2
      subst e1
      have a := ho.lt_of
      have b := h.own j (by omega)
      rw [e2] at b
      have := b.lt_of
      omega
    · exfalso
      subst ej
      rw [upd_same] at e2; rw [upd_other ei] at e1
      subst e2
      have a := ho.lt_of
      have b := h.own i (by omega)
      rw [e1] at b
      have := b.lt_of
      omega
    · rw [upd_other ei] at e1; rw [upd_other ej] at e2
      exact h.one i j g (by omega) (by omega) e1 e2
  · by_cases ei : i = k
    · subst ei
      rw [upd_same] at e1
      subst e1
      have a := ho.lt_of
      have := hA g e2
      omega
    · rw [upd_other ei] at e1
      exact h.out i g (by omega) e1 e2
theorem InnerT.zero (w : World) (lo hi : Nat) (A : Option Addr) (xss : List (List Tm)) (G : Nat → Option Addr) (C : Nat → Nat) (R : Nat → TypeId) : InnerT w lo hi A 0 xss G C R :=
  ⟨fun i h => by omega, fun i j g h => by omega, fun i g h => by omega⟩
theorem innerT_app {xss : List (List Tm)} {G : Nat → Option Addr} {C : Nat → Nat} {xs : List Tm} {A' : Option Addr} {c' : Nat} :
    innerT (xss ++ [xs]) (upd G xss.length A') (upd C xss.length c') (xss.length + 1) = innerT xss G C xss.length ++ [.slice A' xs.length c'] := by
  rw [innerT_snoc (xs := xs) (by simp)]
  congr 1
  unfold innerT
  refine List.map_congr_left fun i hi => ?_
  have := List.mem_range.1 hi
  rw [List.getD_eq_getElem?_getD, List.getD_eq_getElem?_getD, List.getElem?_append_left this]
end Go.Proofs.Ytjnmndjhlllfkaa
