/- Operators on values: the model's and the program's answers are those of one plain function. -/
import Derived.Test.YthinoagdgbnphaaDoorProg
import Derived.WalkKit
import Derived.ProofKit
import Derived.Outline
import Derived.Test.YthinoagdgbnphaaDoorMem
import Derived.Test.YthinoagdgbnphaaDoorL00
import Derived.Test.YthinoagdgbnphaaDoorTmM
import Derived.Test.YthinoagdgbnphaaDoorTmI
namespace Go.Proofs.YthinoagdgbnphaaDoor
open Go.RowKit
def tr (b : Bool) : Int := if b then 1 else 0
def opV (op a b : Int) : Int :=
  if op = 0 then (a + b) % 64 else if op = 1 then (a - b + 64) % 64 else if op = 2 then a * b % 64 else if op = 3 then tr (a == b) else if op = 4 then tr (a != b)
  else if op = 5 then tr (decide (a < b)) else if op = 6 then tr (decide (a ≤ b)) else if op = 7 then tr (a != 0 && b != 0) else tr (a != 0 || b != 0)
theorem tr_bd (b : Bool) : 0 ≤ tr b ∧ tr b ≤ 63 := by cases b <;> simp [tr]
theorem opV_bd (op a b : Int) : 0 ≤ opV op a b ∧ opV op a b ≤ 63 := by
  unfold opV
  repeat (first | exact tr_bd _ | omega | split)
def opOk (op a b : Int) : Prop := (0 ≤ op ∧ op ≤ 8) ∧ (0 ≤ a ∧ a ≤ 63) ∧ (0 ≤ b ∧ b ≤ 63)
instance (op a b : Int) : Decidable (opOk op a b) := by unfold opOk; exact inferInstance
def opR (op a b : Int) : Int × Int := if opOk op a b then (opV op a b, 0) else (0, 1)
theorem opR_yes {op a b : Int} (h : opOk op a b) : opR op a b = (opV op a b, 0) := by unfold opR; rw [if_pos h]
theorem opR_no {op a b : Int} (h : ¬ opOk op a b) : opR op a b = (0, 1) := by unfold opR; rw [if_neg h]
theorem mul_bd {a b : Int} (ha : 0 ≤ a ∧ a ≤ 63) (hb : 0 ≤ b ∧ b ≤ 63) : 0 ≤ a * b ∧ a * b ≤ 3969 := by
  have h1 := Int.mul_nonneg ha.1 hb.1
  have h2 : a * b ≤ 63 * 63 := Int.mul_le_mul ha.2 hb.2 hb.1 (by omega)
  omega
/-- The truth value of the operators from 3 on. -/
def opB (op a b : Int) : Bool :=
  if op = 3 then a == b else if op = 4 then a != b else if op = 5 then decide (a < b) else if op = 6 then decide (a ≤ b) else if op = 7 then a != 0 && b != 0 else a != 0 || b != 0
theorem opV_tr {op a b : Int} (h : 3 ≤ op) : opV op a b = tr (opB op a b) := by
  unfold opV opB
  rw [if_neg (by omega), if_neg (by omega), if_neg (by omega)]
  repeat (first | rfl | split)
theorem not_opOk {op a b : Int} (h : ¬ opOk op a b) : (op < 0 ∨ 8 < op) ∨ (0 ≤ op ∧ op ≤ 8) ∧ (a < 0 ∨ 63 < a) ∨ (0 ≤ op ∧ op ≤ 8) ∧ (0 ≤ a ∧ a ≤ 63) ∧ (b < 0 ∨ 63 < b) := by
  unfold opOk at h; omega
end Go.Proofs.YthinoagdgbnphaaDoor
