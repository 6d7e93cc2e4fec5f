/- ReadList: the model's and the program's answers are what the mathematics reads. -/
import Derived.Test.YtbgmhndmldekbaaDoorSplI
import Derived.Test.YtbgmhndmldekbaaDoorLisK
import Derived.Test.YtbgmhndmldekbaaDoorL00
namespace Go.Proofs.YtbgmhndmldekbaaDoor
open Go.RowKit Go.Lib
/-- What is read of the text of a list, and whether there is anything. -/
noncomputable def rlR (l : List UInt8) : List Int × Bool := match readL l with
  | some vs => (vs, true)
  | none => ([], false)
theorem rlR_yes {l : List UInt8} {vs : List Int} (h : readL l = some vs) : rlR l = (vs, true) := by unfold rlR; rw [h]
theorem rlR_no {l : List UInt8} (h : readL l = none) : rlR l = ([], false) := by unfold rlR; rw [h]
theorem readL_len {l : List UInt8} {vs : List Int} (h : readL l = some vs) : vs.length ≤ 64 := by
  unfold readL at h
  split at h
  · injection h with h; subst h; decide
  · split at h
    · rename_i hex
      injection h with h; subst h
      exact hex.choose_spec.2
    · cases h
theorem rlR_len (l : List UInt8) : (rlR l).1.length ≤ 2000000 := by
  unfold rlR
  cases h : readL l with
  | none => simp
  | some vs => have := readL_len h; simp only; omega
/-- A pair of a list in a slice of its own and a truth. -/
def RetIb (w : World) (r : List Int × Bool) (e : Ending) (w' : World) : Prop :=
  ∃ A n c, e = .returned (.tuple #[.slice A n c, .bool r.2]) ∧ OwnV w' w.heap.size w'.heap.size 2 1 A n c (r.1.map (Value.int .i64)) ∧ Below w.heap.size w w'
theorem own_nil (w w' : World) : OwnV w' w.heap.size w'.heap.size 2 1 none 0 0 (([] : List Int).map (Value.int .i64)) :=
  ⟨⟨rfl, .inl ⟨rfl, rfl⟩⟩, fun g h => by cases h⟩
theorem RetIb.nil {w w' : World} {b : Bool} {r : List Int × Bool} (hr : r = ([], b)) (hb : Below w.heap.size w w') : RetIb w r (.returned (.tuple #[.slice none 0 0, .bool b])) w' := by
  subst hr
  exact ⟨none, 0, 0, rfl, own_nil w w', hb⟩
theorem RetIb.mk' {w w' : World} {b : Bool} {xs : List Int} {A : Option Addr} {n c : Nat} {r : List Int × Bool} (hr : r = (xs, b)) (ho : w'.ownsRow w.heap.size 2 1 (.slice A n c) n (xs.map (Value.int .i64))) (hb : Below w.heap.size w w') :
    RetIb w r (.returned (.tuple #[.slice A n c, .bool b])) w' := by
  subst hr
  exact ⟨A, n, c, rfl, OwnV.mk' ho, hb⟩
theorem dash_iff {s : ByteArray} : (s.toList == [45]) = true ↔ s.data.toList = [45] := by
  rw [ByteArray.toList_eq]
  exact beq_iff_eq
theorem dash_no {s : ByteArray} (h : (s.toList == [45]) = false) : s.data.toList ≠ [45] := fun e => by rw [dash_iff.2 e] at h; cases h
theorem yes_max {l : List UInt8} (hl : l ≠ [45]) (h : ∀ vs, ¬ Read yes (pcs 44 l) vs) : readL l = none :=
  readL_no hl (fun vs hv => absurd (hv.weaken (all_yes vs)) (h vs))
theorem list_back {l : List UInt8} {vs : List Int} (hl : l ≠ [45]) (h : Read yes (pcs 44 l) vs) (hf : fitsL vs = true) : listText vs = l ∧ readL l = some vs := by
  have hv := h.ne
  refine ⟨?_, ?_⟩
  · rw [listText_yes hf]
    unfold listT
    rw [if_neg hv, h.decs]
  · unfold fitsL at hf
    simp only [Bool.and_eq_true, decide_eq_true_eq] at hf
    exact readL_yes hl (h.weaken hf.2) hf.1
theorem list_miss {l : List UInt8} {vs : List Int} (hl : l ≠ [45]) (h : Read yes (pcs 44 l) vs) (hf : fitsL vs = false) : listText vs ≠ l ∧ readL l = none := by
  refine ⟨?_, ?_⟩
  · rw [listText_no hf]
    rintro rfl
    have : vs = [] ∨ vs ≠ [] := Classical.em _
    have h1 : (pcs 44 ([] : List UInt8)) = [[]] := rfl
    rw [h1] at h
    cases vs with
    | nil => have := h.length; simp at this
    | cons v r =>
      have := h.1
      simp [num] at this
  · refine readL_no hl (fun us hu hn => ?_)
    have e := h.inj hu
    subst e
    unfold fitsL at hf
    rw [hu.2] at hf
    simp [hn] at hf
theorem read_wf {P : Int → Bool} {ps : List (List UInt8)} {vs : List Int} (h : Read P ps vs) : Wf vs := by
  intro v hv
  obtain ⟨k, hk, rfl⟩ := List.getElem_of_mem hv
  have := congrArg (fun l => l[k]?) h.1
  simp only [List.getElem?_map] at this
  rw [List.getElem?_eq_getElem hk] at this
  cases hp : ps[k]? with
  | none => rw [hp] at this; cases this
  | some p =>
    rw [hp] at this
    simp only [Option.map_some, Option.some.injEq] at this
    have := num_bounds this
    omega
theorem own_len {w : World} {lo hi : Nat} {T : TypeId} {A : Option Addr} {n c : Nat} {vs : List Value} (h : OwnV w lo hi T 1 A n c vs) : vs.length = n := h.len
end Go.Proofs.YtbgmhndmldekbaaDoor
