/- Plain words for partitions: a list's elements numbered by their first occurrences, and which lists are their own numbering. -/
import Derived.WalkKit
import Derived.Lib.Hide
import Derived.Test.YthnopigibjmgbaaMem
namespace Go.Proofs.Ythnopigibjmgbaa
open Go.RowKit
section
variable {α : Type} [DecidableEq α]
def addNew (D : List α) (x : α) : List α := if x ∈ D then D else D ++ [x]
def seen (l : List α) : List α := l.foldl addNew []
def normL (l : List α) : List Int := (List.range l.length).map fun i => match l[i]? with
  | some x => ((seen (l.take i)).idxOf x : Int)
  | none => 0
theorem normL_length (l : List α) : (normL l).length = l.length := by simp [normL]
theorem normL_at {l : List α} {k : Nat} {x : α} (h : l[k]? = some x) : (normL l)[k]? = some ((seen (l.take k)).idxOf x : Int) := by
  obtain ⟨hk, rfl⟩ := List.getElem?_eq_some_iff.1 h
  simp [normL, hk]
theorem seen_succ {l : List α} {k : Nat} {x : α} (h : l[k]? = some x) : seen (l.take (k + 1)) = addNew (seen (l.take k)) x := by
  rw [take_one _ _ _ h, seen, seen, List.foldl_append]; rfl
theorem idxOf_miss {D : List α} {x : α} (h : x ∉ D) : D.idxOf x = D.length := List.idxOf_eq_length h
theorem mem_addNew {D : List α} {x y : α} : y ∈ addNew D x ↔ y ∈ D ∨ y = x := by
  unfold addNew; split
  · constructor
    · exact .inl
    · rintro (h | rfl) <;> assumption
  · simp
theorem mem_seen_aux {l : List α} : ∀ (D : List α) (y : α), y ∈ l.foldl addNew D ↔ y ∈ D ∨ y ∈ l := by
  induction l with
  | nil => simp
  | cons a l ih => intro D y; rw [List.foldl_cons, ih, mem_addNew, List.mem_cons]; exact or_assoc
theorem mem_seen {l : List α} {y : α} : y ∈ seen l ↔ y ∈ l := by unfold seen; rw [mem_seen_aux]; simp
theorem addNew_idx {D : List α} {x y : α} (h : y ∈ D) : (addNew D x).idxOf y = D.idxOf y := by
  unfold addNew; split
  · rfl
  · rw [List.idxOf_append, if_pos h]
theorem seen_idx_aux {y : α} : ∀ (l : List α) (D : List α), y ∈ D → (l.foldl addNew D).idxOf y = D.idxOf y := by
  intro l
  induction l with
  | nil => intro D _; rfl
  | cons a l ih => intro D h; rw [List.foldl_cons, ih _ (mem_addNew.2 (.inl h)), addNew_idx h]
/-- Where an element was met before, its number is the one of that place. -/
theorem seen_idx {l : List α} {j k : Nat} {x : α} (hj : l[j]? = some x) (hjk : j < k) : (seen (l.take k)).idxOf x = (seen (l.take j)).idxOf x := by
  have e : l.take k = l.take (j + 1) ++ (l.take k).drop (j + 1) := by
    have := (List.take_append_drop (j + 1) (l.take k)).symm
    rwa [List.take_take, Nat.min_eq_left (by omega)] at this
  have hm : x ∈ seen (l.take (j + 1)) := by rw [mem_seen, take_one _ _ _ hj]; simp
  rw [e, seen, List.foldl_append]
  show (List.foldl addNew (seen (l.take (j + 1))) _).idxOf x = _
  rw [seen_idx_aux _ _ hm, seen_succ hj]
  unfold addNew; split
  · rfl
  · rename_i hn
    rw [idxOf_miss hn, List.idxOf_append, if_neg hn]; simp
theorem addNew_length {D : List α} {x : α} : (addNew D x).length = if x ∈ D then D.length else D.length + 1 := by
  unfold addNew; split <;> simp
theorem seen_length_le (l : List α) : (seen l).length ≤ l.length := by
  have aux : ∀ (l D : List α), (l.foldl addNew D).length ≤ D.length + l.length := by
    intro l
    induction l with
    | nil => intro D; simp
    | cons a l ih => intro D; rw [List.foldl_cons]; have := ih (addNew D a); rw [addNew_length] at this; split at this <;> simp <;> omega
  simpa [seen] using aux l []
end
/-- The numbers below m. -/
def upTo (m : Nat) : List Int := (List.range m).map Int.ofNat
theorem upTo_length (m : Nat) : (upTo m).length = m := by simp [upTo]
theorem mem_upTo {m : Nat} {u : Int} : u ∈ upTo m ↔ 0 ≤ u ∧ u < m := by
  simp only [upTo, List.mem_map, List.mem_range]
  constructor
  · rintro ⟨a, ha, rfl⟩; simp only [Int.ofNat_eq_natCast]; omega
  · intro ⟨h1, h2⟩; exact ⟨u.toNat, by omega, by simp only [Int.ofNat_eq_natCast]; omega⟩
theorem upTo_succ (m : Nat) : upTo (m + 1) = upTo m ++ [(m : Int)] := by simp [upTo, List.range_succ]
theorem upTo_idx : ∀ (m : Nat) (u : Int), 0 ≤ u → u < m → ((upTo m).idxOf u : Int) = u := by
  intro m
  induction m with
  | zero => intro u h1 h2; omega
  | succ m ih =>
    intro u h1 h2
    rw [upTo_succ, List.idxOf_append]
    by_cases h : u < m
    · rw [if_pos (mem_upTo.2 ⟨h1, h⟩)]; exact ih u h1 h
    · obtain rfl : u = m := by omega
      rw [if_neg (fun hm => by have := mem_upTo.1 hm; omega), upTo_length]; simp
def partB (p : List Int) : Bool := decide (1 ≤ p.length ∧ p.length ≤ 40 ∧ normL p = p)
theorem partB_iff {p : List Int} : partB p = true ↔ 1 ≤ p.length ∧ p.length ≤ 40 ∧ normL p = p := by unfold partB; exact decide_eq_true_iff
theorem partB_no {p : List Int} (h : ¬ (1 ≤ p.length ∧ p.length ≤ 40 ∧ normL p = p)) : partB p = false := by unfold partB; exact decide_eq_false h
/-- Up to place k the list is its own numbering, and it has used the numbers below m. -/
def PartTo (p : List Int) (k m : Nat) : Prop := seen (p.take k) = upTo m ∧ (normL p).take k = p.take k
theorem PartTo.zero (p : List Int) : PartTo p 0 0 := ⟨rfl, rfl⟩
theorem PartTo.bad {p : List Int} {k m : Nat} {u : Int} (h : PartTo p k m) (hu : p[k]? = some u) (hb : u < 0 ∨ m < u) : partB p = false := partB_no fun ⟨_, _, he⟩ => by
  have h1 := normL_at hu
  rw [he, hu, h.1, idxOf_miss (fun hm => by have := mem_upTo.1 hm; omega), upTo_length] at h1
  injection h1 with h1
  omega
theorem PartTo.next {p : List Int} {k m : Nat} {u : Int} (h : PartTo p k m) (hu : p[k]? = some u) (e : u = m) : PartTo p (k + 1) (m + 1) := by
  have hn : u ∉ upTo m := fun hm => by have := mem_upTo.1 hm; omega
  refine ⟨?_, ?_⟩
  · rw [seen_succ hu, h.1]; unfold addNew; rw [if_neg hn, upTo_succ, e]
  · rw [take_one _ _ _ hu, take_one _ _ _ (normL_at hu), h.2, h.1, idxOf_miss hn, upTo_length, e]
theorem PartTo.old {p : List Int} {k m : Nat} {u : Int} (h : PartTo p k m) (hu : p[k]? = some u) (h1 : 0 ≤ u) (h2 : u < m) : PartTo p (k + 1) m := by
  have hn : u ∈ upTo m := mem_upTo.2 ⟨h1, h2⟩
  refine ⟨?_, ?_⟩
  · rw [seen_succ hu, h.1]; unfold addNew; rw [if_pos hn]
  · rw [take_one _ _ _ hu, take_one _ _ _ (normL_at hu), h.2, h.1, upTo_idx m u h1 h2]
theorem PartTo.done {p : List Int} {k m : Nat} (h : PartTo p k m) (hk : k = p.length) (h1 : 1 ≤ p.length) (h2 : p.length ≤ 40) : partB p = true := by
  rw [partB_iff]
  refine ⟨h1, h2, ?_⟩
  have := h.2
  rw [hk, List.take_of_length_le (by rw [normL_length]; exact Nat.le_refl _), List.take_of_length_le (Nat.le_refl _)] at this
  exact this
end Go.Proofs.Ythnopigibjmgbaa
