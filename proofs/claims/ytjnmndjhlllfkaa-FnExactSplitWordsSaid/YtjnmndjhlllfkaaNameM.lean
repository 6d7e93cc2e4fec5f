/- Plain words for names: which numbers are small letters or digits, and which lists of bytes are names. -/
import Derived.WalkKit
import Derived.Lib.Hide
namespace Go.Proofs.Ytjnmndjhlllfkaa
open Go.RowKit
def smallI (r : Int) : Bool := decide (97 ≤ r ∧ r ≤ 122)
def digitI (r : Int) : Bool := decide (48 ≤ r ∧ r ≤ 57)
theorem smallI_yes {r : Int} (h : 97 ≤ r ∧ r ≤ 122) : smallI r = true := by unfold smallI; exact decide_eq_true h
theorem smallI_no {r : Int} (h : ¬ (97 ≤ r ∧ r ≤ 122)) : smallI r = false := by unfold smallI; exact decide_eq_false h
theorem digitI_yes {r : Int} (h : 48 ≤ r ∧ r ≤ 57) : digitI r = true := by unfold digitI; exact decide_eq_true h
theorem digitI_no {r : Int} (h : ¬ (48 ≤ r ∧ r ≤ 57)) : digitI r = false := by unfold digitI; exact decide_eq_false h
theorem smallI_iff {r : Int} : smallI r = true ↔ 97 ≤ r ∧ r ≤ 122 := by unfold smallI; exact decide_eq_true_iff
theorem digitI_iff {r : Int} : digitI r = true ↔ 48 ≤ r ∧ r ≤ 57 := by unfold digitI; exact decide_eq_true_iff
theorem ib_ne {a b : Int} (h : a ≠ b) : (a == b) = false := by simp [h]
theorem ib_eq {a b : Int} (h : a = b) : (a == b) = true := by simp [h]
/-- A byte that may stand at place i of a name. -/
def goodB (i : Nat) (b : UInt8) : Prop := smallI b.toNat = true ∨ (i ≠ 0 ∧ digitI b.toNat = true)
def nameP (l : List UInt8) : Prop := 1 ≤ l.length ∧ l.length ≤ 10 ∧ ∀ i b, l[i]? = some b → goodB i b
open Classical in
noncomputable def nameB (l : List UInt8) : Bool := decide (nameP l)
open Classical in
theorem nameB_yes {l : List UInt8} (h : nameP l) : nameB l = true := by unfold nameB; exact decide_eq_true h
open Classical in
theorem nameB_no {l : List UInt8} (h : ¬ nameP l) : nameB l = false := by unfold nameB; exact decide_eq_false h
open Classical in
theorem nameB_iff {l : List UInt8} : nameB l = true ↔ nameP l := by unfold nameB; exact decide_eq_true_iff
theorem byte_at (s : ByteArray) (i : Nat) (h : i < s.size) : s.data.toList[i]? = some s[i] := by
  have h' : i < s.data.toList.length := by simpa using h
  rw [List.getElem?_eq_getElem h']; rfl
theorem byte_len (s : ByteArray) : s.data.toList.length = s.size := by simp
theorem name_short {s : ByteArray} (h : s.size < 1) : nameB s.data.toList = false := nameB_no fun ⟨h1, _⟩ => by rw [byte_len] at h1; omega
theorem name_long {s : ByteArray} (h : 10 < s.size) : nameB s.data.toList = false := nameB_no fun ⟨_, h1, _⟩ => by rw [byte_len] at h1; omega
theorem name_bad {s : ByteArray} (k : Nat) (h : k < s.size) (hb : ¬ goodB k s[k]) : nameB s.data.toList = false := nameB_no fun ⟨_, _, h1⟩ => hb (h1 k _ (byte_at s k h))
theorem name_all {s : ByteArray} (h1 : 1 ≤ s.size) (h2 : s.size ≤ 10) (h : ∀ i (hi : i < s.size), goodB i s[i]) : nameB s.data.toList = true :=
  nameB_yes ⟨by rw [byte_len]; exact h1, by rw [byte_len]; exact h2, fun i b hb => by
    obtain ⟨hi, he⟩ := List.getElem?_eq_some_iff.1 hb
    rw [byte_len] at hi
    have := byte_at s i hi
    rw [hb] at this
    injection this with this
    rw [this]; exact h i hi⟩
theorem not_good_zero {b : UInt8} (h : smallI b.toNat = false) : ¬ goodB 0 b := by
  rintro (h1 | ⟨h1, _⟩)
  · rw [h] at h1; cases h1
  · exact h1 rfl
theorem not_good {i : Nat} {b : UInt8} (h : smallI b.toNat = false) (h2 : digitI b.toNat = false) : ¬ goodB i b := by
  rintro (h1 | ⟨_, h1⟩)
  · rw [h] at h1; cases h1
  · rw [h2] at h1; cases h1
end Go.Proofs.Ytjnmndjhlllfkaa
