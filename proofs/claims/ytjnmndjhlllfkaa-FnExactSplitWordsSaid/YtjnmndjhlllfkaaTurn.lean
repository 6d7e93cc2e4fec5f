/- Writes within known bounds of block numbers; a slice of slices of the law's own, no two of them sharing memory. -/
import Derived.WalkKit
import Derived.Lib.Hide
import Derived.Test.YtjnmndjhlllfkaaMem
import Derived.Test.YtjnmndjhlllfkaaOwn
import Derived.Test.YtjnmndjhlllfkaaRRow
namespace Go.Proofs.Ytjnmndjhlllfkaa
open Go.RowKit
/-- From w to w' nothing has turned but blocks from lo on and below hi, and new ones. -/
structure Turns (lo hi : Nat) (w w' : World) : Prop where
  os : w'.os = w.os
  tape : w'.tape = w.tape
  output : w'.output = w.output
  size : w.heap.size ≤ w'.heap.size
  block : ∀ k, k < w.heap.size → k < lo ∨ hi ≤ k → w'.heap[k]? = w.heap[k]?
theorem Turns.refl (lo hi : Nat) (w : World) : Turns lo hi w w := ⟨rfl, rfl, rfl, Nat.le_refl _, fun _ _ _ => rfl⟩
theorem Turns.trans {lo hi : Nat} {a b c : World} (h : Turns lo hi a b) (k : Turns lo hi b c) : Turns lo hi a c :=
  ⟨k.os.trans h.os, k.tape.trans h.tape, k.output.trans h.output, Nat.le_trans h.size k.size, fun i hi' hd => (k.block i (Nat.lt_of_lt_of_le hi' h.size) hd).trans (h.block i hi' hd)⟩
theorem Turns.drawn {lo hi : Nat} {w w' : World} (h : Drawn w w') : Turns lo hi w w' := by
  obtain ⟨n, rfl⟩ := h
  exact ⟨rfl, rfl, rfl, Nat.le_refl _, fun _ _ _ => rfl⟩
theorem Turns.of_grown {lo hi : Nat} {w w' : World} {row : Option Nat} (hg : w.grownBy w' row) (hr : ∀ g, row = some g → lo ≤ g ∧ g < hi) : Turns lo hi w w' :=
  ⟨hg.os, hg.tape, hg.output, hg.size, fun k hk hd => hg.block k hk fun e => by have := hr k e.symm; omega⟩
theorem Turns.below {lo hi B : Nat} {w w' : World} (h : Turns lo hi w w') (hB : B ≤ lo) (hs : B ≤ w.heap.size) : Below B w w' :=
  ⟨h.os, h.tape, h.output, h.size, fun k hk => h.block k (by omega) (.inl (by omega))⟩
theorem OwnV.turn {w w' : World} {lo hi lo' hi' : Nat} {T : TypeId} {s : Nat} {A : Option Addr} {n c : Nat} {vs : List Value} (h : OwnV w lo hi T s A n c vs) (ht : Turns lo' hi' w w') (hd : hi ≤ lo' ∨ hi' ≤ lo) : OwnV w' lo hi T s A n c vs := by
  refine ⟨⟨h.own.1, ?_⟩, h.top⟩
  rcases h.own.2 with hn | ⟨g, cap, cur, e, hb, hg, rest⟩
  · exact .inl hn
  · have h1 := h.top g (by rw [e]; rfl)
    exact .inr ⟨g, cap, cur, e, hb, by rw [ht.block g (Array.getElem?_eq_some_iff.1 hg).1 (by omega)]; exact hg, rest⟩
theorem OwnV.wide {w : World} {lo hi lo' hi' : Nat} {T : TypeId} {s : Nat} {A : Option Addr} {n c : Nat} {vs : List Value} (h : OwnV w lo hi T s A n c vs) (h1 : lo' ≤ lo) (h2 : hi ≤ hi') : OwnV w lo' hi' T s A n c vs := by
  refine ⟨⟨h.own.1, ?_⟩, fun g hg => Nat.lt_of_lt_of_le (h.top g hg) h2⟩
  rcases h.own.2 with hn | ⟨g, cap, cur, e, hb, rest⟩
  · exact .inl hn
  · exact .inr ⟨g, cap, cur, e, Nat.le_trans h1 hb, rest⟩
/-- A write into one row keeps another one that lies in another block. -/
theorem OwnV.apart {w w' : World} {lo hi : Nat} {T : TypeId} {s : Nat} {A : Option Addr} {n c : Nat} {vs : List Value} (h : OwnV w lo hi T s A n c vs) {row : Option Nat} (hg : w.grownBy w' row) (hne : (Value.slice A n c).ownBlock = none ∨ (Value.slice A n c).ownBlock ≠ row) : OwnV w' lo hi T s A n c vs :=
  ⟨h.own.kept hg hne, h.top⟩
/-- Rows of numbers, one for each list, in blocks of their own, none of them the outer row's. -/
structure Inner (w : World) (lo hi : Nat) (A : Option Addr) (n : Nat) (xss : List (List Int)) (G : Nat → Option Addr) (C : Nat → Nat) (R : Nat → TypeId) : Prop where
  own : ∀ i, i < n → OwnV w lo hi (R i) 1 (G i) (xss.getD i []).length (C i) ((xss.getD i []).map (Value.int .i64))
  one : ∀ i j g, i < n → j < n → G i = some ⟨g, 0, none⟩ → G j = some ⟨g, 0, none⟩ → i = j
  out : ∀ i g, i < n → G i = some ⟨g, 0, none⟩ → A ≠ some ⟨g, 0, none⟩
def innerV (xss : List (List Int)) (G : Nat → Option Addr) (C : Nat → Nat) (n : Nat) : List Value := (List.range n).map fun i => .slice (G i) (xss.getD i []).length (C i)
theorem innerV_length (xss : List (List Int)) (G : Nat → Option Addr) (C : Nat → Nat) (n : Nat) : (innerV xss G C n).length = n := by simp [innerV]
theorem innerV_at {xss : List (List Int)} {G : Nat → Option Addr} {C : Nat → Nat} {n i : Nat} (h : i < n) : (innerV xss G C n)[i]? = some (.slice (G i) (xss.getD i []).length (C i)) := by simp [innerV, h]
/-- A slice of slices of the law's own. -/
def OwnVV (w : World) (lo hi : Nat) (A : Option Addr) (n c : Nat) (xss : List (List Int)) : Prop :=
  n = xss.length ∧ ∃ (T : TypeId) (G : Nat → Option Addr) (C : Nat → Nat) (R : Nat → TypeId), OwnV w lo hi T 1 A n c (innerV xss G C n) ∧ Inner w lo hi A n xss G C R
theorem Inner.turn {w w' : World} {lo hi lo' hi' : Nat} {A : Option Addr} {n : Nat} {xss : List (List Int)} {G : Nat → Option Addr} {C : Nat → Nat} {R : Nat → TypeId} (h : Inner w lo hi A n xss G C R) (ht : Turns lo' hi' w w') (hd : hi ≤ lo' ∨ hi' ≤ lo) : Inner w' lo hi A n xss G C R :=
  ⟨fun i hi => (h.own i hi).turn ht hd, h.one, h.out⟩
theorem Inner.below {w w' : World} {lo hi B : Nat} {A : Option Addr} {n : Nat} {xss : List (List Int)} {G : Nat → Option Addr} {C : Nat → Nat} {R : Nat → TypeId} (h : Inner w lo hi A n xss G C R) (hb : Below B w w') (hB : hi ≤ B) : Inner w' lo hi A n xss G C R :=
  ⟨fun i hi => (h.own i hi).below hb hB, h.one, h.out⟩
theorem OwnVV.turn {w w' : World} {lo hi lo' hi' : Nat} {A : Option Addr} {n c : Nat} {xss : List (List Int)} (h : OwnVV w lo hi A n c xss) (ht : Turns lo' hi' w w') (hd : hi ≤ lo' ∨ hi' ≤ lo) : OwnVV w' lo hi A n c xss := by
  obtain ⟨hn, T, G, C, R, h1, h2⟩ := h
  exact ⟨hn, T, G, C, R, h1.turn ht hd, h2.turn ht hd⟩
theorem OwnVV.below {w w' : World} {lo hi B : Nat} {A : Option Addr} {n c : Nat} {xss : List (List Int)} (h : OwnVV w lo hi A n c xss) (hb : Below B w w') (hB : hi ≤ B) : OwnVV w' lo hi A n c xss := by
  obtain ⟨hn, T, G, C, R, h1, h2⟩ := h
  exact ⟨hn, T, G, C, R, h1.below hb hB, h2.below hb hB⟩
theorem OwnVV.row {w : World} {lo hi : Nat} {A : Option Addr} {n c : Nat} {xss : List (List Int)} (h : OwnVV w lo hi A n c xss) : RRow w hi A xss := by
  obtain ⟨hn, T, G, C, R, h1, h2⟩ := h
  refine ⟨innerV xss G C n, h1.row, by rw [innerV_length]; exact hn, fun i xs hi => ?_⟩
  obtain ⟨hlt, rfl⟩ := List.getElem?_eq_some_iff.1 hi
  have e : xss.getD i [] = xss[i] := by rw [List.getD_eq_getElem?_getD, hi]; rfl
  refine ⟨G i, C i, by rw [innerV_at (by omega), e], ?_⟩
  have := (h2.own i (by omega)).row
  rwa [e] at this
theorem OwnVV.len {w : World} {lo hi : Nat} {A : Option Addr} {n c : Nat} {xss : List (List Int)} (h : OwnVV w lo hi A n c xss) : xss.length = n := h.1.symm
theorem OwnVV.nil (w : World) (lo hi : Nat) : OwnVV w lo hi none 0 0 [] :=
  ⟨rfl, 0, fun _ => none, fun _ => 0, fun _ => 0, ⟨World.ownsRow_nil _ _ _ _, fun g hg => by cases hg⟩, ⟨fun i h => by omega, fun i j g h => by omega, fun i g h => by omega⟩⟩
def upd {α : Type} (f : Nat → α) (k : Nat) (v : α) : Nat → α := fun i => if i = k then v else f i
theorem upd_same {α : Type} {f : Nat → α} {k : Nat} {v : α} : upd f k v k = v := by simp [upd]
theorem upd_other {α : Type} {f : Nat → α} {k i : Nat} {v : α} (h : i ≠ k) : upd f k v i = f i := by simp [upd, h]
theorem getD_of {xss : List (List Int)} {k : Nat} {xs : List Int} (h : xss[k]? = some xs) : xss.getD k [] = xs := by rw [List.getD_eq_getElem?_getD, h]; rfl
theorem innerV_snoc {xss : List (List Int)} {G : Nat → Option Addr} {C : Nat → Nat} {k : Nat} {xs : List Int} {A' : Option Addr} {c' : Nat} (h : xss[k]? = some xs) :
    innerV xss (upd G k A') (upd C k c') (k + 1) = innerV xss G C k ++ [.slice A' xs.length c'] := by
  simp only [innerV, List.range_succ, List.map_append, List.map_cons, List.map_nil, upd_same, getD_of h]
  congr 1
  refine List.map_congr_left fun i hi => ?_
  have := List.mem_range.1 hi
  rw [upd_other (by omega), upd_other (by omega)]
theorem OwnV.lt_of {w : World} {lo hi : Nat} {T : TypeId} {s n c g : Nat} {vs : List Value} (h : OwnV w lo hi T s (some ⟨g, 0, none⟩) n c vs) : lo ≤ g ∧ g < hi :=
  ⟨(h.own.lt g rfl).1, h.top g rfl⟩
theorem Inner.snoc {w w1 : World} {lo hi lo2 hi2 : Nat} {A : Option Addr} {k : Nat} {xss : List (List Int)} {G : Nat → Option Addr} {C : Nat → Nat} {R : Nat → TypeId} {T : TypeId} {A' : Option Addr} {c' : Nat} {xs : List Int}
    (h : Inner w lo hi A k xss G C R) (hb : Below hi w w1) (ho : OwnV w1 lo2 hi2 T 1 A' xs.length c' (xs.map (Value.int .i64))) (hx : xss[k]? = some xs) (h1 : lo ≤ lo2) (h2 : hi ≤ lo2) (h3 : hi ≤ hi2)
    (hA : ∀ g, A = some ⟨g, 0, none⟩ → g < lo2) : Inner w1 lo hi2 A (k + 1) xss (upd G k A') (upd C k c') (upd R k T) := by
  refine ⟨fun i hi' => ?_, fun i j g hi' hj' e1 e2 => ?_, fun i g hi' e1 e2 => ?_⟩
  · by_cases e : i = k
    · subst e
      rw [upd_same, upd_same, upd_same, getD_of hx]
      exact ho.wide h1 (Nat.le_refl _)
    · rw [upd_other e, upd_other e, upd_other e]
      exact ((h.own i (by omega)).below hb (Nat.le_refl _)).wide (Nat.le_refl _) h3
  · by_cases ei : i = k <;> by_cases ej : j = k
    · omega
    · exfalso
      subst ei
      rw [upd_same] at e1; rw [upd_other ej] at e2
      subst e1
      have a := ho.lt_of
      have b := h.own j (by omega)
      rw [e2] at b
      have := b.lt_of
      omega
    · exfalso
      subst ej
      rw [upd_same] at e2; rw [upd_other ei] at e1
      subst e2
      have a := ho.lt_of
      have b := h.own i (by omega)
      rw [e1] at b
      have := b.lt_of
      omega
    · rw [upd_other ei] at e1; rw [upd_other ej] at e2
      exact h.one i j g (by omega) (by omega) e1 e2
  · by_cases ei : i = k
    · subst ei
      rw [upd_same] at e1
      subst e1
      have a := ho.lt_of
      have := hA g e2
      omega
    · rw [upd_other ei] at e1
      exact h.out i g (by omega) e1 e2
theorem Inner.zero (w : World) (lo hi : Nat) (A : Option Addr) (xss : List (List Int)) (G : Nat → Option Addr) (C : Nat → Nat) (R : Nat → TypeId) : Inner w lo hi A 0 xss G C R :=
  ⟨fun i h => by omega, fun i j g h => by omega, fun i g h => by omega⟩
end Go.Proofs.Ytjnmndjhlllfkaa
