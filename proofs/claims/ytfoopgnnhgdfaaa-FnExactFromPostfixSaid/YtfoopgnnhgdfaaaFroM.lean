/- The expression with a postfix form, as a plain function. -/
import Derived.WalkKit
import Derived.Lib.Hide
import Derived.Test.YtfoopgnnhgdfaaaMem
import Derived.Test.YtfoopgnnhgdfaaaTmM
import Derived.Test.YtfoopgnnhgdfaaaShiftM
import Derived.Test.YtfoopgnnhgdfaaaExM
import Derived.Test.YtfoopgnnhgdfaaaEvM
import Derived.Test.YtfoopgnnhgdfaaaStkM
namespace Go.Proofs.Ytfoopgnnhgdfaaa
open Go.RowKit
/-- The operands exchanged. -/
def mir : Ex → Ex
  | .leaf t => .leaf t
  | .one t a => .one t (mir a)
  | .two t a b => .two t (mir b) (mir a)
theorem mir_mir : ∀ x : Ex, mir (mir x) = x := by
  intro x
  induction x with
  | leaf t => rfl
  | one t a ih => simp [mir, ih]
  | two t a b iha ihb => simp [mir, iha, ihb]
theorem mir_ok {v : Int} : ∀ {x : Ex}, x.ok v → (mir x).ok v := by
  intro x
  induction x with
  | leaf t => exact fun h => h
  | one t a ih => exact fun h => ⟨h.1, h.2.1, ih h.2.2⟩
  | two t a b iha ihb => exact fun h => ⟨h.1, h.2.1, ihb h.2.2.2, iha h.2.2.1⟩
theorem mir_flat : ∀ x : Ex, (mir x).flat = (postX x).reverse := by
  intro x
  induction x with
  | leaf t => rfl
  | one t a ih => simp [mir, Ex.flat, postX, ih]
  | two t a b iha ihb => simp [mir, Ex.flat, postX, iha, ihb]
theorem mir_post (x : Ex) : postX (mir x) = x.flat.reverse := by
  have h := mir_flat (mir x)
  rw [mir_mir] at h
  rw [h, List.reverse_reverse]
theorem mir_len (x : Ex) : (mir x).flat.length = x.flat.length := by rw [mir_flat, List.length_reverse, postX_len]
noncomputable def fromR (es : List Tm) : List Tm × Int := if exB 29 60 es.reverse = true then ((postX (treeOf es.reverse)).reverse, 0) else ([], 1)
theorem fromR_no {es : List Tm} (h : exB 29 60 es.reverse = false) : fromR es = ([], 1) := by unfold fromR; rw [if_neg (by rw [h]; simp)]
theorem fromR_yes {es : List Tm} (h : exB 29 60 es.reverse = true) : fromR es = ((postX (treeOf es.reverse)).reverse, 0) := by unfold fromR; rw [if_pos h]
theorem fromR_len (es : List Tm) : (fromR es).1.length ≤ 2000000 := by
  rcases h : exB 29 60 es.reverse with _ | _
  · rw [fromR_no h]; simp
  · rw [fromR_yes h]
    have h1 := postX_len (treeOf es.reverse)
    rw [(treeOf_ok h).1] at h1
    have h2 := (exB_scan h).2
    simp only [List.length_reverse] at h1 h2 ⊢
    omega
/-- The operations read so far. -/
def Read (es : List Tm) (i : Nat) (l : List Ex) : Prop := (l.map mir).flatMap Ex.flat = (es.take i).reverse ∧ ∀ x ∈ l, x.ok 29
theorem read_zero (es : List Tm) : Read es 0 [] := ⟨rfl, by simp⟩
theorem mir_all {l : List Ex} (h : ∀ x ∈ l, x.ok 29) : ∀ x ∈ l.map mir, x.ok 29 := by
  intro x hx
  obtain ⟨y, hy, rfl⟩ := List.mem_map.1 hx
  exact mir_ok (h y hy)
theorem drop_rev {es : List Tm} {i : Nat} (h : i ≤ es.length) : es.reverse.drop (es.length - i) = (es.take i).reverse := by
  rw [List.drop_reverse]
  congr 2
  omega
/-- At a term that cannot stand there the list is none. -/
theorem read_bad {es : List Tm} {i : Nat} {l : List Ex} {t : Tm} (h : Read es i l) (ht : es[i]? = some t) (hb : tmB 29 t = false ∨ (l.length : Int) < ar t) : exB 29 60 es.reverse = false := by
  rcases e : exB 29 60 es.reverse with _ | _
  · rfl
  · exfalso
    have hs := (exB_scan e).1
    have hi := (List.getElem?_eq_some_iff.1 ht).1
    rcases hb with hb | hb
    · have := scan_all hs t (List.mem_reverse.2 (List.mem_of_getElem? ht))
      rw [this] at hb; cases hb
    · have hd : (l.map mir).flatMap Ex.flat = es.reverse.drop ((es.length - (i + 1)) + 1) := by
        rw [show es.length - (i + 1) + 1 = es.length - i by omega, drop_rev (by omega)]; exact h.1
      have hg : es.reverse[es.length - (i + 1)]? = some t := by
        rw [List.getElem?_reverse (by omega), show es.length - 1 - (es.length - (i + 1)) = i by omega]; exact ht
      obtain ⟨x, l', _, _, hl, har, _⟩ := suf_step hs hg hd (mir_all h.2)
      have := congrArg List.length hl
      simp at this
      omega
theorem read_leaf {es : List Tm} {i : Nat} {l : List Ex} {t : Tm} (h : Read es i l) (ht : es[i]? = some t) (hm : tmB 29 t = true) (ha : ar t = 0) : Read es (i + 1) (.leaf t :: l) := by
  refine ⟨?_, fun x hx => ?_⟩
  · rw [take_one _ _ _ ht, List.reverse_append, List.map_cons, List.flatMap_cons, h.1]; rfl
  · rcases List.mem_cons.1 hx with rfl | hx
    · exact ⟨hm, ha⟩
    · exact h.2 x hx
theorem read_one {es : List Tm} {i : Nat} {l : List Ex} {a : Ex} {t : Tm} (h : Read es i (a :: l)) (ht : es[i]? = some t) (hm : tmB 29 t = true) (ha : ar t = 1) : Read es (i + 1) (.one t a :: l) := by
  refine ⟨?_, fun x hx => ?_⟩
  · rw [take_one _ _ _ ht, List.reverse_append, ← h.1]
    simp [mir, Ex.flat]
  · rcases List.mem_cons.1 hx with rfl | hx
    · exact ⟨hm, ha, h.2 a (by simp)⟩
    · exact h.2 x (by simp [hx])
theorem read_two {es : List Tm} {i : Nat} {l : List Ex} {a b : Ex} {t : Tm} (h : Read es i (b :: a :: l)) (ht : es[i]? = some t) (hm : tmB 29 t = true) (ha : ar t = 2) : Read es (i + 1) (.two t a b :: l) := by
  refine ⟨?_, fun x hx => ?_⟩
  · rw [take_one _ _ _ ht, List.reverse_append, ← h.1]
    simp [mir, Ex.flat]
  · rcases List.mem_cons.1 hx with rfl | hx
    · exact ⟨hm, ha, h.2 a (by simp), h.2 b (by simp)⟩
    · exact h.2 x (by simp [hx])
/-- What stands on the stack of the model, from the bottom. -/
def pile (l : List Ex) : List (List Tm) := (l.map Ex.flat).reverse
theorem pile_length (l : List Ex) : (pile l).length = l.length := by simp [pile]
/-- The next operation: it takes its operands off the stack, the lower first. -/
theorem read_next {es : List Tm} {i : Nat} {l : List Ex} {t : Tm} (h : Read es i l) (ht : es[i]? = some t) (hm : tmB 29 t = true) (hb : ¬ (l.length : Int) < ar t) :
    ∃ (y : Ex) (l' : List Ex), Read es (i + 1) (y :: l') ∧ (l.length : Int) - ar t = (l'.length : Nat) ∧ l'.length ≤ l.length ∧ (pile l).take l'.length = pile l' ∧ y.flat = t :: ((pile l).drop l'.length).flatten := by
  have hbd := ar_bd t
  have h3 : ar t = 0 ∨ ar t = 1 ∨ ar t = 2 := by omega
  rcases h3 with h3 | h3 | h3
  · refine ⟨.leaf t, l, read_leaf h ht hm h3, by omega, Nat.le_refl _, ?_, ?_⟩
    · rw [← pile_length l, List.take_length]
    · rw [← pile_length l, List.drop_length]; rfl
  · rcases l with _ | ⟨a, l⟩
    · simp at hb; omega
    · refine ⟨.one t a, l, read_one h ht hm h3, by simp; omega, by simp, ?_, ?_⟩
      · rw [← pile_length l]; simp [pile]
      · rw [← pile_length l]; simp [pile, Ex.flat]
  · rcases l with _ | ⟨b, _ | ⟨a, l⟩⟩
    · simp at hb; omega
    · simp at hb; omega
    · refine ⟨.two t a b, l, read_two h ht hm h3, by simp; omega, by simp; omega, ?_, ?_⟩
      · rw [← pile_length l]; simp [pile]
      · rw [← pile_length l]; simp [pile, Ex.flat]
theorem read_done {es : List Tm} {l : List Ex} (h : Read es es.length l) (hn : es.length ≤ 60) : (∃ y, l = [y] ∧ fromR es = (y.flat, 0)) ∨ (l.length ≠ 1 ∧ fromR es = ([], 1)) := by
  have h1 := h.1
  rw [List.take_length] at h1
  have hs := scan_list (v := 29) (l.map mir) 1 (mir_all h.2) (by omega)
  rw [h1] at hs
  by_cases e : l.length = 1
  · left
    obtain ⟨y, rfl⟩ := List.length_eq_one_iff.1 e
    have he : exB 29 60 es.reverse = true := exB_mk (by rw [hs]; simp) (by rw [List.length_reverse]; omega)
    have hl := suf_done he h1 (mir_all h.2)
    simp at hl
    exact ⟨y, rfl, by rw [fromR_yes he, ← hl, mir_post, List.reverse_reverse]⟩
  · right
    refine ⟨e, fromR_no ?_⟩
    rcases he : exB 29 60 es.reverse with _ | _
    · rfl
    · have := (exB_scan he).1
      rw [hs] at this
      have := of_decide_eq_true this
      simp at this
      omega
theorem read_count {es : List Tm} {i : Nat} {l : List Ex} (h : Read es i l) : l.length ≤ es.length ∧ ∀ x ∈ l, x.flat.length ≤ es.length := by
  have h1 := congrArg List.length h.1
  rw [List.length_reverse, List.length_take] at h1
  have aux : ∀ l : List Ex, l.length ≤ ((l.map mir).flatMap Ex.flat).length ∧ ∀ x ∈ l, x.flat.length ≤ ((l.map mir).flatMap Ex.flat).length := by
    intro l
    induction l with
    | nil => exact ⟨Nat.le_refl _, by simp⟩
    | cons y l ih =>
      have hp := Ex.flat_pos y
      have hm := mir_len y
      rw [List.map_cons, List.flatMap_cons, List.length_append, List.length_cons]
      refine ⟨by omega, fun x hx => ?_⟩
      rcases List.mem_cons.1 hx with rfl | hx
      · omega
      · have := ih.2 x hx; omega
  exact ⟨by have := (aux l).1; omega, fun x hx => by have := (aux l).2 x hx; omega⟩
end Go.Proofs.Ytfoopgnnhgdfaaa
