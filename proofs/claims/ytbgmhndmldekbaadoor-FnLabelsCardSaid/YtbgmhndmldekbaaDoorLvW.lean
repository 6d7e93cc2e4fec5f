/- A label is read: the program's way. -/
import Derived.Test.YtbgmhndmldekbaaDoorSplI
import Derived.Test.YtbgmhndmldekbaaDoorLabJ
import Derived.Test.YtbgmhndmldekbaaDoorRlW
import Derived.Shelf.Strings.Cut
namespace Go.Proofs
open Go.Shelf
shelf_lay Lays.n145 Nm 145 at Tryd as Tryd.laysCut
shelf_lay Lays.n102 Nm 102 at Tryd as Tryd.laysTrimSuffix
end Go.Proofs
namespace Go.Proofs.YtbgmhndmldekbaaDoor
open Go.RowKit Go.Lib
theorem cut_call (s : ByteArray) (w : World) (hsz : s.size ≤ 1048576) (hm : ∃ m, w.cell? ⟨1, 0, none⟩ = some (.int .i64 m)) :
    Calls Tryd.prog 30 #[.string s, .string ⟨#[40]⟩] w fun e w' => e = .returned (.tuple #[.string ⟨(cut s.data.toList [40]).1.toArray⟩, .string ⟨(cut s.data.toList [40]).2.1.toArray⟩, .bool (cut s.data.toList [40]).2.2]) ∧ Drawn w w' := by
  obtain ⟨m, hm⟩ := hm
  exact Any.strings_Cut Tryd.laysCut s ⟨#[40]⟩ m w (by omega) hm
theorem trimSuffix_call (s : ByteArray) (w : World) (hsz : s.size ≤ 1048576) :
    Calls Tryd.prog 32 #[.string s, .string ⟨#[41]⟩] w fun e w' => e = .returned (.string ⟨(trimSuffix s.data.toList [41]).toArray⟩) ∧ w' = w :=
  Any.strings_TrimSuffix Tryd.laysTrimSuffix s ⟨#[41]⟩ w (by omega)
theorem trim_hit (q : List UInt8) : trimSuffix (q ++ [41]) [41] = q := by
  have h : hasSuffix (q ++ [41]) [41] = true := by unfold hasSuffix; rw [List.isSuffixOf_iff_suffix]; exact List.suffix_append _ _
  unfold trimSuffix
  rw [h]
  simp
theorem trim_miss {r : List UInt8} (h : r.getLast? ≠ some 41) : trimSuffix r [41] = r := by
  have h2 : hasSuffix r [41] = false := by
    unfold hasSuffix
    rw [Bool.eq_false_iff]
    intro e
    rw [List.isSuffixOf_iff_suffix] at e
    obtain ⟨q, rfl⟩ := e
    simp at h
  unfold trimSuffix
  rw [h2]
  rfl
/-- What is taken for the values' text: the rest without a parenthesis at its end. -/
theorem trim_cases (r : List UInt8) : (∃ q, r = q ++ [41] ∧ trimSuffix r [41] = q) ∨ (r.getLast? ≠ some 41 ∧ trimSuffix r [41] = r) := by
  by_cases h : r.getLast? = some 41
  · obtain ⟨q, hq⟩ := List.getLast?_eq_some_iff.1 h
    exact .inl ⟨q, hq, by rw [hq]; exact trim_hit q⟩
  · exact .inr ⟨h, trim_miss h⟩
/-- What is read of a label: its name, its values, and whether it is one. -/
def LabRet (w : World) (l : List UInt8) (e : Ending) (w' : World) : Prop :=
  ((∃ vs A c, LabR l vs ∧ e = .returned (.tuple #[.string ⟨(preL l).toArray⟩, .slice A vs.length c, .bool true]) ∧ OwnV w' w.heap.size w'.heap.size 2 1 A vs.length c (vs.map (Value.int .i64))) ∨
   ((∀ vs, ¬ LabR l vs) ∧ e = .returned (.tuple #[.string ⟨#[]⟩, .slice none 0 0, .bool false]))) ∧ Below w.heap.size w w'
theorem own_nil0 (w w' : World) : OwnV w' w.heap.size w'.heap.size 2 1 none ([] : List Int).length 0 (([] : List Int).map (Value.int .i64)) := own_nil w w'
theorem byte_list (l : List UInt8) : (⟨l.toArray⟩ : ByteArray).data.toList = l := rfl
theorem self_bytes (s : ByteArray) : (⟨s.data.toList.toArray⟩ : ByteArray) = s := by cases s; rfl
theorem str_ne {a s : ByteArray} (h : a.data.toList ≠ s.data.toList) : (a.toList == s.toList) = false := by
  rw [ByteArray.toList_eq, ByteArray.toList_eq]
  simpa using h
theorem str_eq {a s : ByteArray} (h : a.data.toList = s.data.toList) : (a.toList == s.toList) = true := by
  rw [ByteArray.toList_eq, ByteArray.toList_eq]
  simpa using h
theorem emp_no {a : ByteArray} (h : a.data.toList ≠ []) : a.toList.isEmpty = false := by
  rw [ByteArray.toList_eq]
  simpa using h
theorem emp_yes {a : ByteArray} (h : a.data.toList = []) : a.toList.isEmpty = true := by
  rw [ByteArray.toList_eq]
  simpa using h
/-- The comparisons of the text that is made with the text that was given decide whether it is a label. -/
theorem lab_decides {s : ByteArray} {nm : List UInt8} {vs : List Int} (hyes : LabR s.data.toList vs → labText nm vs = s.data.toList) :
    (LabR s.data.toList vs ∧ (⟨(labText nm vs).toArray⟩ : ByteArray).toList.isEmpty = false ∧ ((⟨(labText nm vs).toArray⟩ : ByteArray).toList == s.toList) = true) ∨
    (¬ LabR s.data.toList vs ∧ ((⟨(labText nm vs).toArray⟩ : ByteArray).toList.isEmpty = true ∨ ((⟨(labText nm vs).toArray⟩ : ByteArray).toList.isEmpty = false ∧ ((⟨(labText nm vs).toArray⟩ : ByteArray).toList == s.toList) = false))) := by
  by_cases h : LabR s.data.toList vs
  · refine .inl ⟨h, ?_, str_eq (hyes h)⟩
    refine emp_no ?_
    show labText nm vs ≠ []
    rw [hyes h]
    obtain ⟨nm', hok, hm⟩ := h
    rw [← hm]
    exact make_ne hok.1
  · refine .inr ⟨h, ?_⟩
    by_cases he : labText nm vs = []
    · exact .inl (emp_yes he)
    · refine .inr ⟨emp_no he, str_ne ?_⟩
      intro e
      have e' : labText nm vs = s.data.toList := e
      exact h (lab_text e' (by rw [← e']; exact he))
end Go.Proofs.YtbgmhndmldekbaaDoor
