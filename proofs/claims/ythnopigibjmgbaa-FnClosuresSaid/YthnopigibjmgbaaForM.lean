/- Plain words for forests of parents, for the classes that a list of numbers makes, and for their numbering. -/
import Derived.WalkKit
import Derived.Lib.Hide
import Derived.Test.YthnopigibjmgbaaMem
import Derived.Test.YthnopigibjmgbaaPartM
namespace Go.Proofs.Ythnopigibjmgbaa
open Go.RowKit
/-- Parents whose roots are R; d falls on the way to the root. -/
structure Par (ps : List Int) (n : Nat) (R d : Nat → Nat) : Prop where
  len : ps.length = n
  step : ∀ i, i < n → ∃ p : Nat, ps[i]? = some (p : Int) ∧ p < n ∧ R p = R i ∧ ((p = i ∧ R i = i) ∨ (p ≠ i ∧ d p < d i))
def upN (n : Nat) : List Int := (List.range n).map fun (i : Nat) => (i : Int)
theorem upN_length (n : Nat) : (upN n).length = n := by simp [upN]
theorem upN_at {n i : Nat} (h : i < n) : (upN n)[i]? = some (i : Int) := by simp [upN, h]
theorem Par.new (n : Nat) : Par (upN n) n (fun i => i) (fun _ => 0) := ⟨upN_length n, fun i hi => ⟨i, upN_at hi, hi, rfl, .inl ⟨rfl, rfl⟩⟩⟩
theorem Par.root {ps : List Int} {n : Nat} {R d : Nat → Nat} (h : Par ps n R d) : ∀ (m i : Nat), d i ≤ m → i < n → R i < n ∧ R (R i) = R i ∧ ps[R i]? = some (R i : Int) := by
  intro m
  induction m with
  | zero =>
    intro i hm hi
    obtain ⟨p, hp, hpn, hR, (⟨rfl, e⟩ | ⟨_, e⟩)⟩ := h.step i hi
    · rw [e]; exact ⟨hi, e, hp⟩
    · omega
  | succ m ih =>
    intro i hm hi
    obtain ⟨p, hp, hpn, hR, (⟨rfl, e⟩ | ⟨_, e⟩)⟩ := h.step i hi
    · rw [e]; exact ⟨hi, e, hp⟩
    · have := ih p (by omega) hpn
      rwa [hR] at this
theorem Par.root' {ps : List Int} {n : Nat} {R d : Nat → Nat} (h : Par ps n R d) {i : Nat} (hi : i < n) : R i < n ∧ R (R i) = R i ∧ ps[R i]? = some (R i : Int) := h.root (d i) i (Nat.le_refl _) hi
theorem set_at {xs : List Int} {i j : Nat} {u v : Int} (h : xs[j]? = some v) : (xs.set i u)[j]? = some (if i = j then u else v) := by
  rw [List.getElem?_set]
  have := (List.getElem?_eq_some_iff.1 h).1
  by_cases e : i = j
  · subst e; rw [if_pos rfl, if_pos this, if_pos rfl]
  · rw [if_neg e, if_neg e, h]
theorem Par.halve {ps : List Int} {n : Nat} {R d : Nat → Nat} (h : Par ps n R d) {i p q : Nat} (hi : i < n) (hp : ps[i]? = some (p : Int)) (hq : ps[p]? = some (q : Int)) : Par (ps.set i (q : Int)) n R d := by
  refine ⟨by rw [List.length_set]; exact h.len, fun j hj => ?_⟩
  obtain ⟨p', hp', hpn, hR, hs⟩ := h.step j hj
  by_cases e : i = j
  · subst e
    obtain rfl : p = p' := by rw [hp] at hp'; injection hp' with hp'; omega
    obtain ⟨q', hq', hqn, hR', hs'⟩ := h.step p hpn
    obtain rfl : q = q' := by rw [hq] at hq'; injection hq' with hq'; omega
    refine ⟨q, by rw [set_at hp, if_pos rfl], hqn, hR'.trans hR, ?_⟩
    rcases hs with ⟨e0, e⟩ | ⟨e1, e2⟩
    · rw [e0] at hq; rw [hp] at hq; injection hq with hq
      exact .inl ⟨by omega, e⟩
    · rcases hs' with ⟨rfl, e⟩ | ⟨e3, e4⟩
      · exact .inr ⟨e1, e2⟩
      · exact .inr ⟨by intro e5; subst e5; omega, by omega⟩
  · exact ⟨p', by rw [set_at hp', if_neg e], hpn, hR, hs⟩
def uniR (R : Nat → Nat) (a b x : Nat) : Nat := if R x = R a then R b else R x
theorem Par.unite {ps : List Int} {n : Nat} {R d : Nat → Nat} (h : Par ps n R d) {a b : Nat} (ha : a < n) (hb : b < n) : ∃ d', Par (ps.set (R a) (R b : Int)) n (uniR R a b) d' := by
  obtain ⟨a1, a2, a3⟩ := h.root' ha
  obtain ⟨b1, b2, b3⟩ := h.root' hb
  by_cases hab : R a = R b
  · have e : uniR R a b = R := by funext x; unfold uniR; split <;> omega
    rw [e, ← hab]
    refine ⟨d, by rw [List.length_set]; exact h.len, fun i hi => ?_⟩
    obtain ⟨p, hp, rest⟩ := h.step i hi
    refine ⟨p, ?_, rest⟩
    rw [set_at hp]
    split
    · rename_i e; subst e; rw [a3] at hp; exact hp
    · rfl
  · refine ⟨fun x => if R x = R a then d x + d (R b) + 1 else d x, by rw [List.length_set]; exact h.len, fun i hi => ?_⟩
    obtain ⟨p, hp, hpn, hR, hs⟩ := h.step i hi
    by_cases e : R a = i
    · subst e
      refine ⟨R b, by rw [set_at hp, if_pos rfl], b1, ?_, .inr ⟨fun e => hab e.symm, ?_⟩⟩
      · unfold uniR; rw [b2, a2, if_neg (fun e => hab e.symm), if_pos rfl]
      · show (if R (R b) = R a then _ else _) < (if R (R a) = R a then _ else _)
        rw [b2, a2, if_neg (fun e => hab e.symm), if_pos rfl]; omega
    · refine ⟨p, by rw [set_at hp, if_neg e], hpn, by unfold uniR; rw [hR], ?_⟩
      rcases hs with ⟨e1, e2⟩ | ⟨e1, e2⟩
      · exact .inl ⟨e1, by unfold uniR; rw [if_neg (by omega)]; exact e2⟩
      · refine .inr ⟨e1, ?_⟩
        show (if R p = R a then _ else _) < (if R i = R a then _ else _)
        rw [hR]; split <;> omega
/-- The list makes the classes of R. -/
def Ker (xs : List Int) (n : Nat) (R : Nat → Nat) : Prop := xs.length = n ∧ ∀ (i j : Nat) (u v : Int), xs[i]? = some u → xs[j]? = some v → (u = v ↔ R i = R j)
theorem Ker.congr {xs : List Int} {n : Nat} {R R' : Nat → Nat} (h : Ker xs n R) (e : ∀ i j, i < n → j < n → (R i = R j ↔ R' i = R' j)) : Ker xs n R' :=
  ⟨h.1, fun i j u v hu hv => (h.2 i j u v hu hv).trans (e i j (by have := (List.getElem?_eq_some_iff.1 hu).1; have := h.1; omega) (by have := (List.getElem?_eq_some_iff.1 hv).1; have := h.1; omega))⟩
theorem Ker.new (n : Nat) : Ker (upN n) n (fun i => i) := ⟨upN_length n, fun i j u v hu hv => by
  have hi := (List.getElem?_eq_some_iff.1 hu).1
  have hj := (List.getElem?_eq_some_iff.1 hv).1
  rw [upN_length] at hi hj
  rw [upN_at hi] at hu; rw [upN_at hj] at hv
  injection hu with hu; injection hv with hv
  show u = v ↔ i = j
  omega⟩
def mergeL (xs : List Int) (frm to : Int) : List Int := xs.map fun x => if x = frm then to else x
theorem mergeL_length (xs : List Int) (frm to : Int) : (mergeL xs frm to).length = xs.length := by simp [mergeL]
theorem mergeL_at {xs : List Int} {frm to : Int} {i : Nat} {u : Int} (h : xs[i]? = some u) : (mergeL xs frm to)[i]? = some (if u = frm then to else u) := by simp [mergeL, h]
theorem Ker.merge {xs : List Int} {n : Nat} {R : Nat → Nat} (h : Ker xs n R) {a b : Nat} {xa xb : Int} (ha : xs[a]? = some xa) (hb : xs[b]? = some xb) : Ker (mergeL xs xb xa) n (uniR R a b) := by
  refine ⟨by rw [mergeL_length]; exact h.1, fun i j u v hu hv => ?_⟩
  have hi := (List.getElem?_eq_some_iff.1 hu).1
  have hj := (List.getElem?_eq_some_iff.1 hv).1
  rw [mergeL_length] at hi hj
  obtain ⟨x, hx⟩ : ∃ x, xs[i]? = some x := ⟨_, List.getElem?_eq_getElem hi⟩
  obtain ⟨y, hy⟩ : ∃ y, xs[j]? = some y := ⟨_, List.getElem?_eq_getElem hj⟩
  rw [mergeL_at hx] at hu; rw [mergeL_at hy] at hv
  injection hu with hu; injection hv with hv
  subst hu; subst hv
  have h1 := h.2 i b _ _ hx hb
  have h2 := h.2 i a _ _ hx ha
  have h3 := h.2 j b _ _ hy hb
  have h4 := h.2 j a _ _ hy ha
  have h5 := h.2 i j _ _ hx hy
  have h6 := h.2 a b _ _ ha hb
  unfold uniR
  split <;> split <;> split <;> split <;> omega
section
variable {α β : Type} [DecidableEq α] [DecidableEq β]
theorem idx_one (a x : α) : [a].idxOf x = if a = x then 0 else 1 := by
  by_cases e : a = x
  · subst e; simp
  · rw [if_neg e, List.idxOf_cons]
    have : (a == x) = false := by simp [e]
    rw [this]; simp
theorem mem_iff_idx {L : List α} {x : α} : x ∈ L ↔ L.idxOf x < L.length := List.idxOf_lt_length_iff.symm
/-- Lists with the same classes have the same numbering. -/
theorem seen_ker {xs : List α} {ys : List β} (hl : xs.length = ys.length) (h : ∀ (i j : Nat) x x' y y', xs[i]? = some x → xs[j]? = some x' → ys[i]? = some y → ys[j]? = some y' → (x = x' ↔ y = y')) :
    ∀ k, k ≤ xs.length → (seen (xs.take k)).length = (seen (ys.take k)).length ∧ ∀ (i : Nat) x y, xs[i]? = some x → ys[i]? = some y → (seen (xs.take k)).idxOf x = (seen (ys.take k)).idxOf y := by
  intro k
  induction k with
  | zero => intro _; simp [seen]
  | succ k ih =>
    intro hk
    obtain ⟨ih1, ih2⟩ := ih (by omega)
    have ex : xs[k]? = some xs[k] := List.getElem?_eq_getElem (by omega)
    have hky : k < ys.length := by omega
    have ey : ys[k]? = some ys[k] := List.getElem?_eq_getElem hky
    rw [seen_succ ex, seen_succ ey]
    have hm : xs[k] ∈ seen (xs.take k) ↔ ys[k] ∈ seen (ys.take k) := by rw [mem_iff_idx, mem_iff_idx, ih1, ih2 k _ _ ex ey]
    by_cases e : xs[k] ∈ seen (xs.take k)
    · unfold addNew
      rw [if_pos e, if_pos (hm.1 e)]
      exact ⟨ih1, ih2⟩
    · unfold addNew
      rw [if_neg e, if_neg (fun e' => e (hm.2 e'))]
      refine ⟨by simp [ih1], fun i x y hx hy => ?_⟩
      have h2 : x ∈ seen (xs.take k) ↔ y ∈ seen (ys.take k) := by rw [mem_iff_idx, mem_iff_idx, ih1, ih2 i _ _ hx hy]
      rw [List.idxOf_append, List.idxOf_append]
      by_cases e2 : x ∈ seen (xs.take k)
      · rw [if_pos e2, if_pos (h2.1 e2)]; exact ih2 i x y hx hy
      · rw [if_neg e2, if_neg (fun e' => e2 (h2.2 e')), ih1, idx_one, idx_one]
        have := h k i _ _ _ _ ex hx ey hy
        by_cases e3 : xs[k] = x
        · rw [if_pos e3, if_pos (this.1 e3)]
        · rw [if_neg e3, if_neg (fun e' => e3 (this.2 e'))]
theorem normL_ker {xs : List α} {ys : List β} (hl : xs.length = ys.length) (h : ∀ (i j : Nat) x x' y y', xs[i]? = some x → xs[j]? = some x' → ys[i]? = some y → ys[j]? = some y' → (x = x' ↔ y = y')) : normL xs = normL ys := by
  refine List.ext_getElem? fun k => ?_
  by_cases hk : k < xs.length
  · have ex : xs[k]? = some xs[k] := List.getElem?_eq_getElem hk
    have hky : k < ys.length := by omega
    have ey : ys[k]? = some ys[k] := List.getElem?_eq_getElem hky
    rw [normL_at ex, normL_at ey, (seen_ker hl h k (by omega)).2 k _ _ ex ey]
  · rw [List.getElem?_eq_none (by rw [normL_length]; omega), List.getElem?_eq_none (by rw [normL_length]; omega)]
theorem idx_inj {L : List α} {x y : α} (hx : x ∈ L) (h : L.idxOf x = L.idxOf y) : x = y := by
  have h1 := List.idxOf_lt_length_iff.2 hx
  have e1 := List.getElem_idxOf h1
  have h2 : L.idxOf y < L.length := by omega
  have e2 := List.getElem_idxOf h2
  rw [← e1, ← e2]
  congr 1
/-- Places with the same number hold the same element. -/
theorem normL_same {xs : List α} {i j : Nat} {x y : α} (hx : xs[i]? = some x) (hy : xs[j]? = some y) : x = y ↔ (normL xs)[i]? = (normL xs)[j]? := by
  have key : ∀ (i j : Nat) (x y : α), i ≤ j → xs[i]? = some x → xs[j]? = some y → (normL xs)[i]? = (normL xs)[j]? → x = y := by
    intro i j x y hij hx hy h
    by_cases e : i = j
    · subst e; rw [hx] at hy; injection hy
    · rw [normL_at hx, normL_at hy] at h
      injection h with h
      have h : (seen (xs.take i)).idxOf x = (seen (xs.take j)).idxOf y := by omega
      rw [← seen_idx hx (show i < j by omega)] at h
      have hm : x ∈ seen (xs.take j) := by rw [mem_seen]; exact List.mem_of_getElem? (i := i) (by rw [List.getElem?_take, if_pos (by omega)]; exact hx)
      exact idx_inj hm h
  constructor
  · rintro rfl
    rcases Nat.lt_trichotomy i j with h | h | h
    · rw [normL_at hx, normL_at hy, seen_idx hx h]
    · subst h; rfl
    · rw [normL_at hx, normL_at hy, seen_idx hy h]
  · intro h
    rcases Nat.le_total i j with h' | h'
    · exact key i j x y h' hx hy h
    · exact (key j i y x h' hy hx h.symm).symm
end
theorem Ker.norm {xs : List Int} {n : Nat} {R : Nat → Nat} (h : Ker xs n R) : normL xs = normL ((List.range n).map fun (i : Nat) => (R i : Int)) := by
  refine normL_ker (by simp [h.1]) fun i j x x' y y' hx hx' hy hy' => ?_
  have := h.2 i j x x' hx hx'
  rw [List.getElem?_map] at hy hy'
  have hi : i < n := by have := (List.getElem?_eq_some_iff.1 hx).1; have := h.1; omega
  have hj : j < n := by have := (List.getElem?_eq_some_iff.1 hx').1; have := h.1; omega
  simp [hi, hj] at hy hy'
  rw [this]; omega
end Go.Proofs.Ythnopigibjmgbaa
