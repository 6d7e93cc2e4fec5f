/- A number is read: the model's function and the program's answer as the mathematics does. -/
import Derived.Test.YtbgmhndmldekbaaDoorProg
import Derived.WalkKit
import Derived.ProofKit
import Derived.Outline
import Derived.Test.YtbgmhndmldekbaaDoorLow
import Derived.Test.YtbgmhndmldekbaaDoorName
import Derived.Test.YtbgmhndmldekbaaDoorMath
namespace Go.Proofs.YtbgmhndmldekbaaDoor
open Go.RowKit Go.Lib
/-- What is returned for a number that is read, and for none. -/
def numRet : Option Int → Value
  | some n => .tuple #[.int .i64 n, .bool true]
  | none => .tuple #[.int .i64 0, .bool false]
theorem dig_eq (c : UInt8) : digitI (c.toNat : Int) = isDig c := by
  unfold digitI isDig
  rw [decide_eq_decide]
  omega
theorem l_head {s : ByteArray} (h : 0 < s.size) : ∃ r, s.data.toList = s[0] :: r ∧ r.length + 1 = s.size := by
  have h0 := byte_at s 0 h
  have hl := byte_len s
  cases hd : s.data.toList with
  | nil => rw [hd] at h0; cases h0
  | cons c r =>
    rw [hd] at h0 hl
    injection h0 with h0
    exact ⟨r, by rw [h0], by simpa using hl⟩
theorem num_minus {s : ByteArray} (h : 0 < s.size) (h45 : s[0] = 45) : num s.data.toList = Option.map (fun u : Nat => -(u : Int)) (numD (s.data.toList.drop 1) true) := by
  obtain ⟨r, e, _⟩ := l_head h
  rw [e, h45]
  simp [num]
theorem num_plain {s : ByteArray} (h : 0 < s.size) (h45 : s[0] ≠ 45) : num s.data.toList = Option.map (fun u : Nat => (u : Int)) (numD (s.data.toList.drop 0) (decide (1 < s.size))) := by
  obtain ⟨r, e, hl⟩ := l_head h
  rw [e, List.drop_zero]
  simp only [num, if_neg h45]
  rw [show (s[0] :: r).length = s.size by simpa using hl]
theorem numD_long {d : List UInt8} {b : Bool} (h : 18 < d.length) : numD d b = none := by unfold numD; rw [if_pos (Or.inr (Or.inl h))]
theorem numD_zero {d : List UInt8} {b : Bool} (h : d[0]? = some 48) (hb : b = true) : numD d b = none := by
  unfold numD; rw [if_pos (Or.inr (Or.inr ⟨by rw [List.head?_eq_getElem?]; exact h, hb⟩))]
theorem numD_empty {b : Bool} : numD [] b = none := by unfold numD; rw [if_pos (Or.inl rfl)]
theorem numD_bad {d : List UInt8} {b : Bool} {k : Nat} {c : UInt8} (h : d[k]? = some c) (hc : isDig c = false) : numD d b = none := by
  unfold numD
  split
  · rfl
  · rw [if_neg]
    intro ha
    have := List.all_eq_true.1 ha c (List.mem_of_getElem? h)
    rw [hc] at this; cases this
def ZeroOk (d : List UInt8) (b : Bool) : Prop := ¬ (d[0]? = some 48 ∧ b = true)
theorem numD_all {d : List UInt8} {b : Bool} (h1 : 1 ≤ d.length) (h2 : d.length ≤ 18) (h3 : ZeroOk d b) (ha : d.all isDig = true) : numD d b = some (dval 0 d) := by
  unfold numD
  rw [if_neg, if_pos ha]
  rintro (e | e | e)
  · subst e; simp at h1
  · omega
  · exact h3 (by rw [← List.head?_eq_getElem?]; exact e)
theorem dval_step (d : List UInt8) (k : Nat) (c : UInt8) (h : d[k]? = some c) : dval 0 (d.take (k + 1)) = dval 0 (d.take k) * 10 + (c.toNat - 48) := by
  rw [take_one d k c h, dval_app]; rfl
theorem all_step (d : List UInt8) (k : Nat) (c : UInt8) (h : d[k]? = some c) (ha : (d.take k).all isDig = true) (hc : isDig c = true) : (d.take (k + 1)).all isDig = true := by
  rw [take_one d k c h, List.all_append, ha]; simp [hc]
theorem take_small (d : List UInt8) (k : Nat) (h : d.length ≤ 18) (ha : (d.take k).all isDig = true) : dval 0 (d.take k) < 1000000000000000000 :=
  dval_small (by rw [List.length_take]; omega) ha
end Go.Proofs.YtbgmhndmldekbaaDoor
