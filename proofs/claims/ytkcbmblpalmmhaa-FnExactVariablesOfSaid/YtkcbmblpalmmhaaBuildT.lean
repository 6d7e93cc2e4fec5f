/- Slices of lists of terms of the call's own, no two of them sharing memory: how they are built row by row, and what keeps them. -/
import Derived.Test.YtkcbmblpalmmhaaProg
import Derived.WalkKit
import Derived.ProofKit
import Derived.OwnWalk
import Derived.Lib.Hide
import Derived.Test.YtkcbmblpalmmhaaMem
import Derived.Test.YtkcbmblpalmmhaaOwn
import Derived.Test.YtkcbmblpalmmhaaTurn
import Derived.Test.YtkcbmblpalmmhaaTmM
import Derived.Test.YtkcbmblpalmmhaaTmW
import Derived.Test.YtkcbmblpalmmhaaRet
namespace Go.Proofs.Ytkcbmblpalmmhaa
open Go.RowKit
/-- A slice of slices reads as the list of lists of terms xss. -/
def TTRow (w : World) (B : Nat) (A : Option Addr) (xss : List (List Tm)) : Prop :=
  ∃ vs : List Value, Row w B A vs ∧ vs.length = xss.length ∧ ∀ (i : Nat) (xs : List Tm), xss[i]? = some xs → ∃ (A' : Option Addr) (c' : Nat), vs[i]? = some (Value.slice A' xs.length c') ∧ TRow w B A' xs
theorem TTRow.below {w w' : World} {B : Nat} {A : Option Addr} {xss : List (List Tm)} (h : TTRow w B A xss) (hb : Below B w w') : TTRow w' B A xss := by
  obtain ⟨vs, h1, h2, h3⟩ := h
  refine ⟨vs, h1.below hb, h2, fun i xs hi => ?_⟩
  obtain ⟨A', c', e, hr⟩ := h3 i xs hi
  exact ⟨A', c', e, hr.below hb⟩
theorem TTRow.more {w : World} {B B' : Nat} {A : Option Addr} {xss : List (List Tm)} (h : TTRow w B A xss) (hB : B ≤ B') : TTRow w B' A xss := by
  obtain ⟨vs, h1, h2, h3⟩ := h
  refine ⟨vs, h1.more hB, h2, fun i xs hi => ?_⟩
  obtain ⟨A', c', e, hr⟩ := h3 i xs hi
  exact ⟨A', c', e, hr.more hB⟩
theorem TTRow.at_ {w : World} {B : Nat} {A : Option Addr} {xss : List (List Tm)} (h : TTRow w B A xss) {k : Nat} (hk : k < xss.length) :
    ∃ b off A' c' xs, A = some ⟨b, off, none⟩ ∧ b < B ∧ w.cell? ⟨b, off + k, none⟩ = some (.slice A' xs.length c') ∧ TRow w B A' xs ∧ Hid (xss[k]? = some xs) := by
  obtain ⟨vs, h1, h2, h3⟩ := h
  obtain ⟨b, off, e, hb, hc⟩ := h1.at_ (k := k) (by omega)
  obtain ⟨A', c', e', hr⟩ := h3 k xss[k] (List.getElem?_eq_getElem hk)
  rw [List.getElem?_eq_getElem (by omega)] at e'
  injection e' with e'
  exact ⟨b, off, A', c', xss[k], e, hb, by rw [← e']; exact hc, hr, List.getElem?_eq_getElem hk⟩
theorem own_blockT {w : World} {base : Nat} {e : TypeId} {size : Nat} {v : Value} {n g : Nat} {xs : List Value} (h : w.ownsRow base e size v n xs) (hg : v.ownBlock = some g) : ∃ cur, w.heap[g]? = some (.cells cur e (0, 0)) := by
  rcases h.2 with ⟨rfl, _⟩ | ⟨g', cap, cur, rfl, _, hh, _⟩
  · cases hg
  · injection hg with hg; subst hg; exact ⟨cur, hh⟩
/-- Rows of different element types lie in different blocks. -/
theorem own_apart {w : World} {b1 b2 : Nat} {e1 e2 : TypeId} {s1 s2 n1 n2 : Nat} {v1 v2 : Value} {xs ys : List Value} (h1 : w.ownsRow b1 e1 s1 v1 n1 xs) (h2 : w.ownsRow b2 e2 s2 v2 n2 ys) (hne : e1 ≠ e2) : v1.ownBlock = none ∨ v1.ownBlock ≠ v2.ownBlock := by
  rcases e : v1.ownBlock with _ | g
  · exact .inl rfl
  · refine .inr fun he => ?_
    obtain ⟨c1, h1⟩ := own_blockT h1 e
    obtain ⟨c2, h2⟩ := own_blockT h2 he.symm
    rw [h1] at h2
    injection h2 with h2
    injection h2 with _ h2 _
    exact hne h2
/-- Rows of numbers, one for each list, in blocks of their own, none of them the outer row's. -/
structure InnerT (w : World) (lo hi : Nat) (A : Option Addr) (n : Nat) (xss : List (List Tm)) (G : Nat → Option Addr) (C : Nat → Nat) (R : Nat → TypeId) : Prop where
  own : ∀ i, i < n → OwnV w lo hi (R i) 2 (G i) (xss.getD i []).length (C i) (tvs (xss.getD i []))
  one : ∀ i j g, i < n → j < n → G i = some ⟨g, 0, none⟩ → G j = some ⟨g, 0, none⟩ → i = j
  out : ∀ i g, i < n → G i = some ⟨g, 0, none⟩ → A ≠ some ⟨g, 0, none⟩
def innerT (xss : List (List Tm)) (G : Nat → Option Addr) (C : Nat → Nat) (n : Nat) : List Value := (List.range n).map fun i => .slice (G i) (xss.getD i []).length (C i)
theorem innerT_length (xss : List (List Tm)) (G : Nat → Option Addr) (C : Nat → Nat) (n : Nat) : (innerT xss G C n).length = n := by simp [innerT]
theorem innerT_at {xss : List (List Tm)} {G : Nat → Option Addr} {C : Nat → Nat} {n i : Nat} (h : i < n) : (innerT xss G C n)[i]? = some (.slice (G i) (xss.getD i []).length (C i)) := by simp [innerT, h]
/-- A slice of slices of the law's own. -/
def OwnTT (w : World) (lo hi : Nat) (A : Option Addr) (n c : Nat) (xss : List (List Tm)) : Prop :=
  n = xss.length ∧ ∃ (T : TypeId) (G : Nat → Option Addr) (C : Nat → Nat) (R : Nat → TypeId), OwnV w lo hi T 1 A n c (innerT xss G C n) ∧ InnerT w lo hi A n xss G C R
theorem InnerT.turn {w w' : World} {lo hi lo' hi' : Nat} {A : Option Addr} {n : Nat} {xss : List (List Tm)} {G : Nat → Option Addr} {C : Nat → Nat} {R : Nat → TypeId} (h : InnerT w lo hi A n xss G C R) (ht : Turns lo' hi' w w') (hd : hi ≤ lo' ∨ hi' ≤ lo) : InnerT w' lo hi A n xss G C R :=
  ⟨fun i hi => (h.own i hi).turn ht hd, h.one, h.out⟩
theorem InnerT.below {w w' : World} {lo hi B : Nat} {A : Option Addr} {n : Nat} {xss : List (List Tm)} {G : Nat → Option Addr} {C : Nat → Nat} {R : Nat → TypeId} (h : InnerT w lo hi A n xss G C R) (hb : Below B w w') (hB : hi ≤ B) : InnerT w' lo hi A n xss G C R :=
  ⟨fun i hi => (h.own i hi).below hb hB, h.one, h.out⟩
theorem OwnTT.turn {w w' : World} {lo hi lo' hi' : Nat} {A : Option Addr} {n c : Nat} {xss : List (List Tm)} (h : OwnTT w lo hi A n c xss) (ht : Turns lo' hi' w w') (hd : hi ≤ lo' ∨ hi' ≤ lo) : OwnTT w' lo hi A n c xss := by
  obtain ⟨hn, T, G, C, R, h1, h2⟩ := h
  exact ⟨hn, T, G, C, R, h1.turn ht hd, h2.turn ht hd⟩
theorem OwnTT.below {w w' : World} {lo hi B : Nat} {A : Option Addr} {n c : Nat} {xss : List (List Tm)} (h : OwnTT w lo hi A n c xss) (hb : Below B w w') (hB : hi ≤ B) : OwnTT w' lo hi A n c xss := by
  obtain ⟨hn, T, G, C, R, h1, h2⟩ := h
  exact ⟨hn, T, G, C, R, h1.below hb hB, h2.below hb hB⟩
theorem OwnTT.row {w : World} {lo hi : Nat} {A : Option Addr} {n c : Nat} {xss : List (List Tm)} (h : OwnTT w lo hi A n c xss) : TTRow w hi A xss := by
  obtain ⟨hn, T, G, C, R, h1, h2⟩ := h
  refine ⟨innerT xss G C n, h1.row, by rw [innerT_length]; exact hn, fun i xs hi => ?_⟩
  obtain ⟨hlt, rfl⟩ := List.getElem?_eq_some_iff.1 hi
  have e : xss.getD i [] = xss[i] := by rw [List.getD_eq_getElem?_getD, hi]; rfl
  refine ⟨G i, C i, by rw [innerT_at (by omega), e], ?_⟩
  have := (h2.own i (by omega)).trow
  rwa [e] at this
theorem OwnTT.len {w : World} {lo hi : Nat} {A : Option Addr} {n c : Nat} {xss : List (List Tm)} (h : OwnTT w lo hi A n c xss) : xss.length = n := h.1.symm
theorem OwnTT.nil (w : World) (lo hi : Nat) : OwnTT w lo hi none 0 0 [] :=
  ⟨rfl, 0, fun _ => none, fun _ => 0, fun _ => 0, ⟨World.ownsRow_nil _ _ _ _, fun g hg => by cases hg⟩, ⟨fun i h => by omega, fun i j g h => by omega, fun i g h => by omega⟩⟩
theorem getD_ofT {xss : List (List Tm)} {k : Nat} {xs : List Tm} (h : xss[k]? = some xs) : xss.getD k [] = xs := by rw [List.getD_eq_getElem?_getD, h]; rfl
theorem innerT_snoc {xss : List (List Tm)} {G : Nat → Option Addr} {C : Nat → Nat} {k : Nat} {xs : List Tm} {A' : Option Addr} {c' : Nat} (h : xss[k]? = some xs) :
    innerT xss (upd G k A') (upd C k c') (k + 1) = innerT xss G C k ++ [.slice A' xs.length c'] := by
  simp only [innerT, List.range_succ, List.map_append, List.map_cons, List.map_nil, upd_same, getD_ofT h]
  congr 1
  refine List.map_congr_left fun i hi => ?_
  have := List.mem_range.1 hi
  rw [upd_other (by omega), upd_other (by omega)]
theorem InnerT.snoc {w w1 : World} {lo hi lo2 hi2 : Nat} {A : Option Addr} {k : Nat} {xss : List (List Tm)} {G : Nat → Option Addr} {C : Nat → Nat} {R : Nat → TypeId} {T : TypeId} {A' : Option Addr} {c' : Nat} {xs : List Tm}
    (h : InnerT w lo hi A k xss G C R) (hb : Below hi w w1) (ho : OwnV w1 lo2 hi2 T 2 A' xs.length c' (tvs xs)) (hx : xss[k]? = some xs) (h1 : lo ≤ lo2) (h2 : hi ≤ lo2) (h3 : hi ≤ hi2)
    (hA : ∀ g, A = some ⟨g, 0, none⟩ → g < lo2) : InnerT w1 lo hi2 A (k + 1) xss (upd G k A') (upd C k c') (upd R k T) := by
  refine ⟨fun i hi' => ?_, fun i j g hi' hj' e1 e2 => ?_, fun i g hi' e1 e2 => ?_⟩
  · by_cases e : i = k
    · subst e
      rw [upd_same, upd_same, upd_same, getD_ofT hx]
      exact ho.wide h1 (Nat.le_refl _)
    · rw [upd_other e, upd_other e, upd_other e]
      exact ((h.own i (by omega)).below hb (Nat.le_refl _)).wide (Nat.le_refl _) h3
  · by_cases ei : i = k <;> by_cases ej : j = k
    · omega
    · exfalso
      subst ei
      rw [upd_same] at e1; rw [upd_other ej] at e2
      subst e1
      have a := ho.lt_of
      have b := h.own j (by omega)
      rw [e2] at b
      have := b.lt_of
      omega
    · exfalso
      subst ej
      rw [upd_same] at e2; rw [upd_other ei] at e1
      subst e2
      have a := ho.lt_of
      have b := h.own i (by omega)
      rw [e1] at b
      have := b.lt_of
      omega
    · rw [upd_other ei] at e1; rw [upd_other ej] at e2
      exact h.one i j g (by omega) (by omega) e1 e2
  · by_cases ei : i = k
    · subst ei
      rw [upd_same] at e1
      subst e1
      have a := ho.lt_of
      have := hA g e2
      omega
    · rw [upd_other ei] at e1
      exact h.out i g (by omega) e1 e2
theorem InnerT.zero (w : World) (lo hi : Nat) (A : Option Addr) (xss : List (List Tm)) (G : Nat → Option Addr) (C : Nat → Nat) (R : Nat → TypeId) : InnerT w lo hi A 0 xss G C R :=
  ⟨fun i h => by omega, fun i j g h => by omega, fun i g h => by omega⟩
/-- The rows of numbers lie in blocks of their own. -/
structure RowedT (w : World) (lo : Nat) (n : Nat) (xss : List (List Tm)) (G : Nat → Option Addr) (C : Nat → Nat) : Prop where
  own : ∀ i, i < n → OwnV w lo w.heap.size 68 2 (G i) (xss.getD i []).length (C i) (tvs (xss.getD i []))
  one : ∀ i j g, i < n → j < n → G i = some ⟨g, 0, none⟩ → G j = some ⟨g, 0, none⟩ → i = j
/-- A slice of slices of the call's own, as it grows. -/
def BuildT (w : World) (lo : Nat) (v : Value) (xss : List (List Tm)) : Prop :=
  ∃ (G : Nat → Option Addr) (C : Nat → Nat), w.ownsRow lo 24 1 v xss.length (innerT xss G C xss.length) ∧ RowedT w lo xss.length xss G C
theorem BuildT.nil (w : World) (lo : Nat) : BuildT w lo (.slice none 0 0) [] :=
  ⟨fun _ => none, fun _ => 0, World.ownsRow_nil _ _ _ _, ⟨fun i h => by simp at h, fun i j g h => by simp at h⟩⟩
theorem BuildT.made (w : World) (lo : Nat) (h : lo ≤ w.heap.size) : BuildT (w.alloc (.cells #[] 24)) lo (.slice (some ⟨w.heap.size, 0, none⟩) 0 0) [] :=
  ⟨fun _ => none, fun _ => 0, World.ownsRow_made w #[] 0 h (Nat.zero_le _) rfl, ⟨fun i h => by simp at h, fun i j g h => by simp at h⟩⟩
theorem RowedT.below {w w' : World} {lo n : Nat} {xss : List (List Tm)} {G : Nat → Option Addr} {C : Nat → Nat} (h : RowedT w lo n xss G C) (hb : Below w.heap.size w w') : RowedT w' lo n xss G C :=
  ⟨fun i hi => ((h.own i hi).below hb (Nat.le_refl _)).wide (Nat.le_refl _) hb.size, h.one⟩
theorem BuildT.below {w w' : World} {lo : Nat} {v : Value} {xss : List (List Tm)} (h : BuildT w lo v xss) (hb : Below w.heap.size w w') : BuildT w' lo v xss := by
  obtain ⟨G, C, h1, h2⟩ := h
  exact ⟨G, C, own_below' h1 hb, h2.below hb⟩
theorem BuildT.drawn {w w' : World} {lo : Nat} {v : Value} {xss : List (List Tm)} (h : BuildT w lo v xss) (hd : Drawn w w') : BuildT w' lo v xss := h.below (hd.below _)
theorem BuildT.drewN {w : World} {lo : Nat} {v : Value} {xss : List (List Tm)} (h : BuildT w lo v xss) (n : Nat) : BuildT (w.drewN n) lo v xss := h.drawn ⟨n, rfl⟩
theorem innerT_app {xss : List (List Tm)} {G : Nat → Option Addr} {C : Nat → Nat} {xs : List Tm} {A' : Option Addr} {c' : Nat} :
    innerT (xss ++ [xs]) (upd G xss.length A') (upd C xss.length c') (xss.length + 1) = innerT xss G C xss.length ++ [.slice A' xs.length c'] := by
  rw [innerT_snoc (xs := xs) (by simp)]
  congr 1
  unfold innerT
  refine List.map_congr_left fun i hi => ?_
  have := List.mem_range.1 hi
  rw [List.getD_eq_getElem?_getD, List.getD_eq_getElem?_getD, List.getElem?_append_left this]
/-- A round's append: a new row of numbers in a new block, laid into the slice that grows. -/
theorem BuildT.snoc {w w2 w' : World} {lo : Nat} {v v' : Value} {xss : List (List Tm)} {G : Nat → Option Addr} {C : Nat → Nat} {xs : List Tm} {A' : Option Addr} {c' lo2 : Nat}
    (h1 : w.ownsRow lo 24 1 v xss.length (innerT xss G C xss.length)) (h2 : RowedT w lo xss.length xss G C) (hlo : lo ≤ w.heap.size) (hb : Below w.heap.size w w2) (hl2 : w.heap.size ≤ lo2)
    (hn : OwnV w2 lo2 w2.heap.size 68 2 A' xs.length c' (tvs xs)) (ho : w'.ownsRow lo 24 1 v' (xss.length + 1) (innerT xss G C xss.length ++ [.slice A' xs.length c'])) (hg : w2.grownBy w' v.ownBlock) :
    BuildT w' lo v' (xss ++ [xs]) := by
  have hne : (68 : TypeId) ≠ 24 := by decide
  refine ⟨upd G xss.length A', upd C xss.length c', ?_, ?_, ?_⟩
  · rw [List.length_append, List.length_singleton, innerT_app]; exact ho
  · intro i hi
    rw [List.length_append, List.length_singleton] at hi
    have hv2 := own_below' h1 hb
    by_cases e : i = xss.length
    · subst e
      have e2 : (xss ++ [xs]).getD xss.length [] = xs := by rw [List.getD_eq_getElem?_getD]; simp
      rw [upd_same, upd_same, e2]
      exact (hn.apart hg (own_apart hn.own hv2 hne)).wide (by omega) hg.size
    · have e2 : (xss ++ [xs]).getD i [] = xss.getD i [] := by rw [List.getD_eq_getElem?_getD, List.getD_eq_getElem?_getD, List.getElem?_append_left (by omega)]
      rw [upd_other e, upd_other e, e2]
      have hi2 := (h2.own i (by omega)).below hb (Nat.le_refl _)
      exact (hi2.apart hg (own_apart hi2.own hv2 hne)).wide (Nat.le_refl _) (Nat.le_trans hb.size hg.size)
  · intro i j g hi hj e1 e2
    rw [List.length_append, List.length_singleton] at hi hj
    by_cases ei : i = xss.length <;> by_cases ej : j = xss.length
    · omega
    · exfalso
      subst ei
      rw [upd_same] at e1; rw [upd_other ej] at e2
      subst e1
      have a := hn.lt_of
      have b := h2.own j (by omega)
      rw [e2] at b
      have := b.lt_of
      omega
    · exfalso
      subst ej
      rw [upd_same] at e2; rw [upd_other ei] at e1
      subst e2
      have a := hn.lt_of
      have b := h2.own i (by omega)
      rw [e1] at b
      have := b.lt_of
      omega
    · rw [upd_other ei] at e1; rw [upd_other ej] at e2
      exact h2.one i j g (by omega) (by omega) e1 e2
theorem BuildT.done {w : World} {lo : Nat} {v : Value} {xss : List (List Tm)} (h : BuildT w lo v xss) : ∃ A c, v = .slice A xss.length c ∧ OwnTT w lo w.heap.size A xss.length c xss := by
  obtain ⟨G, C, h1, h2⟩ := h
  obtain ⟨A, c, rfl⟩ := own_slice h1
  refine ⟨A, c, rfl, rfl, 24, G, C, fun _ => 68, OwnV.mk' h1, ⟨h2.own, h2.one, fun i g hi e1 e2 => ?_⟩⟩
  have hr := h2.own i hi
  rcases own_apart hr.own h1 (by decide) with e | e
  · rw [e1] at e; cases e
  · rw [e1, e2] at e; exact e rfl
theorem info_TTo : (Try.prog.info? 24).map (fun i => (i.zero, i.size, i.bytes)) = some (some (.slice none 0 0), 1, 24) := by kernel_rfl
/-- The law of a round's append: a list of terms in new memory joins the slice that grows. -/
theorem wpList_append_trow {ops : Array Oper} {rest : List Oper} {o : Oper} {a : Act} {Q : Exit → Act → World → Prop} (hgd : o.guard = none) (s x : Operand)
    (ho : o.op = .call { callee := .builtin .append, args := #[s, x], argTypes := #[98, 98] }) (wo w2 : World) (lo lo2 : Nat) (xss : List (List Tm)) (xs : List Tm) (A' : Option Addr) (c' : Nat) (val : Value) (hs : a.eval s = val)
    (hb : BuildT wo lo val xss) (hlo : lo ≤ wo.heap.size) (hbel : Below wo.heap.size wo w2) (hl2 : wo.heap.size ≤ lo2) (hn : OwnV w2 lo2 w2.heap.size 68 2 A' xs.length c' (tvs xs))
    (g : Nat) (hx : a.eval x = .slice (some ⟨g, 0, none⟩) 1 1) (hc : w2.cell? ⟨g, 0, none⟩ = some (.slice A' xs.length c')) (hlen : xss.length ≤ 2000000)
    (h : ∀ v' w', BuildT w' lo v' (xss ++ [xs]) → Below lo wo w' → wpList Try.prog ops Q rest (a.put o.dst v') w') : wpList Try.prog ops Q (o :: rest) a w2 := by
  obtain ⟨i0, hi, hz0, hz1, hz2⟩ := info_parts info_TTo
  obtain ⟨G, C, h1, h2⟩ := hb
  refine wpList_append_own _ hgd s x 98 ho lo 24 i0 (.slice none 0 0) 1 24 Try.underlying98 hi hz0 hz1 hz2 rfl (by decide) val xss.length _ hs (own_below' h1 hbel) ⟨g, 0, none⟩ 1 1 [.slice A' xs.length c'] hx rfl ?_ ?_ ?_ ?_ (Nat.le_trans hlo hbel.size) ?_
  · intro j u hj
    match j, hj with
    | 0, hj => simp at hj; subst hj; simpa [Addr.add] using hc
  · intro u hu; simp at hu; subst hu; rfl
  · unfold maxLen; omega
  · omega
  · intro v' w' ho' hg _
    refine h v' w' (BuildT.snoc h1 h2 hlo hbel hl2 hn ho' hg) ?_
    exact (hbel.mono hlo).grown hg (Nat.le_trans hlo hbel.size) fun g' hg' => (h1.lt g' hg').1
end Go.Proofs.Ytkcbmblpalmmhaa
