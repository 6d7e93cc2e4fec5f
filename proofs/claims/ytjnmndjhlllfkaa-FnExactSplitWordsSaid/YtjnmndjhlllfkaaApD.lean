/- Sets of blocks that are apart; how many marks a list takes. -/
import Derived.Test.YtjnmndjhlllfkaaOwnR
import Derived.Test.YtjnmndjhlllfkaaMrkM
namespace Go.Proofs.Ytjnmndjhlllfkaa
open Go.RowKit
/-- Sets of blocks that are apart. -/
def Ap (E : Nat → Nat → Prop) : Prop := ∀ i j b, i ≠ j → E i b → ¬ E j b
/-- An owned list kept by a write into a box ahead of it and by a later call. -/
theorem OL.carry {α : Type} {G : Owd α} {T : TypeId} {w w2 : World} {lo hi : Nat} {A : Option Addr} {n c : Nat} {xs : List α} {p o : Nat} {v : Value} (h : OL G T w (In lo hi) A n c xs) (hh : hi ≤ w.heap.size) (hp : p < lo) (hb : Below (w.setCell ⟨p, o, none⟩ v).heap.size (w.setCell ⟨p, o, none⟩ v) w2) : OL G T w2 (In lo hi) A n c xs := by
  have hs : (w.setCell ⟨p, o, none⟩ v).heap.size = w.heap.size := by simp [World.setCell]
  have h1 : SameB (In lo hi) w (w.setCell ⟨p, o, none⟩ v) := SameB.setCell (SameB.refl _ _) (by intro h; have := h.1; omega)
  exact (h.keep h1).keep (SameB.of_belowB hb fun b hb2 => by rw [hs]; have := hb2.2; omega)
/-- How many marks a record takes is bounded by how many elements its lists hold. -/
theorem cntL_le {α : Type} {M : Mk α} {f : α → Nat} {a : Nat} (h : ∀ x, M.cnt x ≤ a + 3 * f x) (ha : a ≤ 3) : ∀ xs : List α, cntL M xs ≤ 3 * wL f xs := by
  intro xs
  induction xs with
  | nil => simp [cntL]
  | cons x xs ih =>
    have := h x
    unfold wL at ih ⊢
    simp only [cntL, sW, List.length_cons]
    omega
theorem cnt_int (xs : List Int) : cntL intM xs ≤ 3 * wL wtZ xs := cntL_le (a := 1) (fun _ => by show 1 ≤ 1 + _; omega) (by decide) xs
theorem cnt_txt (xs : List ByteArray) : cntL txtM xs ≤ 3 * wL wtZ xs := cntL_le (a := 1) (fun _ => by show 1 ≤ 1 + _; omega) (by decide) xs
theorem TurnS.cell {S : Nat → Prop} {w w' : World} {b o : Nat} (h : TurnS S w w') (hb : b < w.heap.size) (hn : ¬ S b) : w'.cell? ⟨b, o, none⟩ = w.cell? ⟨b, o, none⟩ := World.cell?_of_block (h.block b hb hn)
/-- The sets between bounds that rise. -/
def ivs (l : List Nat) (i : Nat) : Nat → Prop := In (l.getD i 0) (l.getD (i + 1) 0)
theorem getD_le {l : List Nat} (h : l.Pairwise (· ≤ ·)) {i j : Nat} (hij : i ≤ j) (hj : j < l.length) : l.getD i 0 ≤ l.getD j 0 := by
  rw [List.getD_eq_getElem?_getD, List.getD_eq_getElem?_getD, List.getElem?_eq_getElem hj, List.getElem?_eq_getElem (by omega)]
  show l[i] ≤ l[j]
  rcases Nat.eq_or_lt_of_le hij with e | e
  · subst e; exact Nat.le_refl _
  · exact List.pairwise_iff_getElem.1 h i j _ hj e
theorem getD_out {l : List Nat} {i : Nat} (h : l.length ≤ i) : l.getD i 0 = 0 := by
  rw [List.getD_eq_getElem?_getD, List.getElem?_eq_none h]; rfl
theorem ivs_lt {l : List Nat} {i b : Nat} (h : ivs l i b) : i + 1 < l.length := by
  by_cases e : i + 1 < l.length
  · exact e
  · have h2 := h.2
    rw [getD_out (by omega)] at h2
    omega
theorem ap_ivs {l : List Nat} (h : l.Pairwise (· ≤ ·)) : Ap (ivs l) := by
  intro i j b hne hi hj
  have li := ivs_lt hi
  have lj := ivs_lt hj
  rcases Nat.lt_or_gt_of_ne hne with e | e
  · have h1 := hi.2
    have h2 := hj.1
    have h3 := getD_le h (i := i + 1) (j := j) (by omega) (by omega)
    omega
  · have h1 := hj.2
    have h2 := hi.1
    have h3 := getD_le h (i := j + 1) (j := i) (by omega) (by omega)
    omega
theorem ivs_in {l : List Nat} {i b lo hi : Nat} (h : ∀ x ∈ l, lo ≤ x ∧ x ≤ hi) (hb : ivs l i b) : In lo hi b := by
  have li := ivs_lt hb
  have e : ∀ k, k < l.length → lo ≤ l.getD k 0 ∧ l.getD k 0 ≤ hi := fun k hk => by
    rw [List.getD_eq_getElem?_getD, List.getElem?_eq_getElem hk]
    exact h _ (List.getElem_mem hk)
  have h1 := e i (by omega)
  have h2 := e (i + 1) li
  have h3 := hb.1
  have h4 := hb.2
  exact ⟨by omega, by omega⟩
end Go.Proofs.Ytjnmndjhlllfkaa
