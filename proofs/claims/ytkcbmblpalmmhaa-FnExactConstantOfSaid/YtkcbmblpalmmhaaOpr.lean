/- Operators on values: the model's and the program's answers are those of one plain function. -/
import Derived.Test.YtkcbmblpalmmhaaProg
import Derived.WalkKit
import Derived.ProofKit
import Derived.Outline
import Derived.Test.YtkcbmblpalmmhaaMem
import Derived.Test.YtkcbmblpalmmhaaL00
import Derived.Test.YtkcbmblpalmmhaaTmM
import Derived.Test.YtkcbmblpalmmhaaTmI
namespace Go.Proofs.Ytkcbmblpalmmhaa
open Go.RowKit
def tr (b : Bool) : Int := if b then 1 else 0
def opV (op a b : Int) : Int :=
  if op = 0 then (a + b) % 64 else if op = 1 then (a - b + 64) % 64 else if op = 2 then a * b % 64 else if op = 3 then tr (a == b) else if op = 4 then tr (a != b)
  else if op = 5 then tr (decide (a < b)) else if op = 6 then tr (decide (a ≤ b)) else if op = 7 then tr (a != 0 && b != 0) else tr (a != 0 || b != 0)
theorem tr_bd (b : Bool) : 0 ≤ tr b ∧ tr b ≤ 63 := by cases b <;> simp [tr]
theorem opV_bd (op a b : Int) : 0 ≤ opV op a b ∧ opV op a b ≤ 63 := by
  unfold opV
  repeat (first | exact tr_bd _ | omega | split)
def opOk (op a b : Int) : Prop := (0 ≤ op ∧ op ≤ 8) ∧ (0 ≤ a ∧ a ≤ 63) ∧ (0 ≤ b ∧ b ≤ 63)
instance (op a b : Int) : Decidable (opOk op a b) := by unfold opOk; exact inferInstance
def opR (op a b : Int) : Int × Int := if opOk op a b then (opV op a b, 0) else (0, 1)
theorem opR_yes {op a b : Int} (h : opOk op a b) : opR op a b = (opV op a b, 0) := by unfold opR; rw [if_pos h]
theorem opR_no {op a b : Int} (h : ¬ opOk op a b) : opR op a b = (0, 1) := by unfold opR; rw [if_neg h]
theorem mul_bd {a b : Int} (ha : 0 ≤ a ∧ a ≤ 63) (hb : 0 ≤ b ∧ b ≤ 63) : 0 ≤ a * b ∧ a * b ≤ 3969 := by
  have h1 := Int.mul_nonneg ha.1 hb.1
  have h2 : a * b ≤ 63 * 63 := Int.mul_le_mul ha.2 hb.2 hb.1 (by omega)
  omega
theorem truthL_any (b : Bool) (w : World) : Calls Try.prog 79 #[.bool b] w fun e w' => e = .returned (.int .i64 (tr b)) ∧ w = w' := by
  cases b
  · go_enter Try.func79, Try.ntmps79
    go_wp2
    go_ret
    exact ⟨rfl, rfl⟩
  · go_enter Try.func79, Try.ntmps79
    go_wp2
    go_ret
    exact ⟨rfl, rfl⟩
theorem truthV_any (b : Bool) (w : World) : Calls Try.prog 86 #[.bool b] w fun e w' => e = .returned (.int .i64 (tr b)) ∧ w = w' := by
  cases b
  · go_enter Try.func86, Try.ntmps86
    go_wp2
    go_ret
    exact ⟨rfl, rfl⟩
  · go_enter Try.func86, Try.ntmps86
    go_wp2
    go_ret
    exact ⟨rfl, rfl⟩
/-- The truth value of the operators from 3 on. -/
def opB (op a b : Int) : Bool :=
  if op = 3 then a == b else if op = 4 then a != b else if op = 5 then decide (a < b) else if op = 6 then decide (a ≤ b) else if op = 7 then a != 0 && b != 0 else a != 0 || b != 0
theorem opV_tr {op a b : Int} (h : 3 ≤ op) : opV op a b = tr (opB op a b) := by
  unfold opV opB
  rw [if_neg (by omega), if_neg (by omega), if_neg (by omega)]
  repeat (first | rfl | split)
theorem isTrue_any (op a b : Int) (ho : 3 ≤ op ∧ op ≤ 8) (w : World) : Calls Try.prog 93 #[.int .i64 op, .int .i64 a, .int .i64 b] w fun e w' => e = .returned (.bool (opB op a b)) ∧ w = w' := by
  have ho' : op = 3 ∨ op = 4 ∨ op = 5 ∨ op = 6 ∨ op = 7 ∨ op = 8 := by omega
  clear ho
  rcases ho' with rfl | rfl | rfl | rfl | rfl | rfl
  · go_enter Try.func93, Try.ntmps93
    go_wp2
    go_ret
    exact ⟨rfl, rfl⟩
  · go_enter Try.func93, Try.ntmps93
    go_wp2
    go_ret
    exact ⟨rfl, rfl⟩
  · go_enter Try.func93, Try.ntmps93
    go_wp2
    go_ret
    exact ⟨rfl, rfl⟩
  · go_enter Try.func93, Try.ntmps93
    go_wp2
    go_ret
    exact ⟨rfl, rfl⟩
  · rcases hz : (a != 0) with _ | _
    · have H := Lib.hid (show opB 7 a b = false by show (a != 0 && b != 0) = false; rw [hz]; rfl)
      go_enter Try.func93, Try.ntmps93
      go_wp2
      go_ret
      exact ⟨ret_bool H.out.symm, rfl⟩
    · have H := Lib.hid (show opB 7 a b = (b != 0) by show (a != 0 && b != 0) = _; rw [hz]; rfl)
      go_enter Try.func93, Try.ntmps93
      go_wp2
      go_ret
      exact ⟨ret_bool H.out.symm, rfl⟩
  · rcases hz : (a != 0) with _ | _
    · have H := Lib.hid (show opB 8 a b = (b != 0) by show (a != 0 || b != 0) = _; rw [hz]; rfl)
      go_enter Try.func93, Try.ntmps93
      go_wp2
      go_ret
      exact ⟨ret_bool H.out.symm, rfl⟩
    · have H := Lib.hid (show opB 8 a b = true by show (a != 0 || b != 0) = _; rw [hz]; rfl)
      go_enter Try.func93, Try.ntmps93
      go_wp2
      go_ret
      exact ⟨ret_bool H.out.symm, rfl⟩
set_option maxHeartbeats 1000000 in
theorem l03Op_any (op a b : Int) (h : opOk op a b) (w : World) : Calls Try.prog 80 #[.int .i64 op, .int .i64 a, .int .i64 b] w fun e w' => e = .returned (.int .i64 (opV op a b)) ∧ w = w' := by
  obtain ⟨ho, ⟨a0, a1⟩, b0, b1⟩ := h
  obtain ⟨m0, m1⟩ := mul_bd ⟨a0, a1⟩ ⟨b0, b1⟩
  have ho' : op = 0 ∨ op = 1 ∨ op = 2 ∨ op = 3 ∨ op = 4 ∨ op = 5 ∨ op = 6 ∨ op = 7 ∨ op = 8 := by omega
  clear ho
  rcases ho' with rfl | rfl | rfl | rfl | rfl | rfl | rfl | rfl | rfl
  iterate 3
    · go_enter Try.func80, Try.ntmps80
      go_wp2
      go_ret
      exact ⟨rfl, rfl⟩
  iterate 4
    · go_enter Try.func80, Try.ntmps80
      go_wp2_with (go_at_call 79; refine (truthL_any _ _).mono ?_; rintro e w' ⟨rfl, rfl⟩)
      go_ret
      exact ⟨rfl, rfl⟩
  · rcases hz : (a != 0) with _ | _
    · have H := Lib.hid (show opV 7 a b = tr false by show tr (a != 0 && b != 0) = _; rw [hz]; rfl)
      go_enter Try.func80, Try.ntmps80
      go_wp2_with (go_at_call 79; refine (truthL_any _ _).mono ?_; rintro e w' ⟨rfl, rfl⟩)
      go_ret
      exact ⟨ret_int H.out.symm, rfl⟩
    · have H := Lib.hid (show opV 7 a b = tr (b != 0) by show tr (a != 0 && b != 0) = _; rw [hz]; rfl)
      go_enter Try.func80, Try.ntmps80
      go_wp2_with (go_at_call 79; refine (truthL_any _ _).mono ?_; rintro e w' ⟨rfl, rfl⟩)
      go_ret
      exact ⟨ret_int H.out.symm, rfl⟩
  · rcases hz : (a != 0) with _ | _
    · have H := Lib.hid (show opV 8 a b = tr (b != 0) by show tr (a != 0 || b != 0) = _; rw [hz]; rfl)
      go_enter Try.func80, Try.ntmps80
      go_wp2_with (go_at_call 79; refine (truthL_any _ _).mono ?_; rintro e w' ⟨rfl, rfl⟩)
      go_ret
      exact ⟨ret_int H.out.symm, rfl⟩
    · have H := Lib.hid (show opV 8 a b = tr true by show tr (a != 0 || b != 0) = _; rw [hz]; rfl)
      go_enter Try.func80, Try.ntmps80
      go_wp2_with (go_at_call 79; refine (truthL_any _ _).mono ?_; rintro e w' ⟨rfl, rfl⟩)
      go_ret
      exact ⟨ret_int H.out.symm, rfl⟩
theorem not_opOk {op a b : Int} (h : ¬ opOk op a b) : (op < 0 ∨ 8 < op) ∨ (0 ≤ op ∧ op ≤ 8) ∧ (a < 0 ∨ 63 < a) ∨ (0 ≤ op ∧ op ≤ 8) ∧ (0 ≤ a ∧ a ≤ 63) ∧ (b < 0 ∨ 63 < b) := by
  unfold opOk at h; omega
set_option maxHeartbeats 2000000 in
theorem implOperate_any (op a b : Int) (w : World) : Calls Try.prog 87 #[.int .i64 op, .int .i64 a, .int .i64 b] w fun e w' => e = .returned (.tuple #[.int .i64 (opR op a b).1, .int .i64 (opR op a b).2]) ∧ w = w' := by
  by_cases h : opOk op a b
  · have H := Lib.hid (opR_yes h)
    obtain ⟨ho, ⟨a0, a1⟩, b0, b1⟩ := h
    obtain ⟨m0, m1⟩ := mul_bd ⟨a0, a1⟩ ⟨b0, b1⟩
    by_cases h3 : 3 ≤ op
    · have HT := Lib.hid (opV_tr (op := op) (a := a) (b := b) h3)
      have d0 : (op == 0) = false := by simp; omega
      have d1 : (op == 1) = false := by simp; omega
      have d2 : (op == 2) = false := by simp; omega
      go_enter Try.func87, Try.ntmps87
      go_wp2_with (first
        | (go_at_call 85; refine (isOp_yes _ (by omega) _).mono ?_; rintro e w' ⟨rfl, rfl⟩)
        | (go_at_call 41; refine (outM_no _ (by omega) _).mono ?_; rintro e w' ⟨rfl, rfl⟩)
        | (go_at_call 93; refine (isTrue_any op a b (by omega) _).mono ?_; rintro e w' ⟨rfl, rfl⟩)
        | (go_at_call 86; refine (truthV_any _ _).mono ?_; rintro e w' ⟨rfl, rfl⟩))
      go_ret2
      exact ⟨by rw [H.out, HT.out]; rfl, rfl⟩
    · have ho' : op = 0 ∨ op = 1 ∨ op = 2 := by omega
      clear ho h3
      rcases ho' with rfl | rfl | rfl
      iterate 3
        · go_enter Try.func87, Try.ntmps87
          go_wp2_with (first
            | (go_at_call 85; refine (isOp_yes _ (by omega) _).mono ?_; rintro e w' ⟨rfl, rfl⟩)
            | (go_at_call 41; refine (outM_no _ (by omega) _).mono ?_; rintro e w' ⟨rfl, rfl⟩))
          go_ret2
          exact ⟨by rw [H.out]; rfl, rfl⟩
  · have H := Lib.hid (opR_no h)
    rcases not_opOk h with ho | ⟨ho, ha⟩ | ⟨ho, ha, hb⟩
    · clear h
      go_enter Try.func87, Try.ntmps87
      go_wp2_with (go_at_call 85; refine (isOp_no _ (by omega) _).mono ?_; rintro e w' ⟨rfl, rfl⟩)
      go_ret2
      exact ⟨by rw [H.out]; rfl, rfl⟩
    · clear h
      go_enter Try.func87, Try.ntmps87
      go_wp2_with (first
        | (go_at_call 85; refine (isOp_yes _ (by omega) _).mono ?_; rintro e w' ⟨rfl, rfl⟩)
        | (go_at_call 41; refine (outM_yes _ (by omega) _).mono ?_; rintro e w' ⟨rfl, rfl⟩))
      go_ret2
      exact ⟨by rw [H.out]; rfl, rfl⟩
    · clear h
      go_enter Try.func87, Try.ntmps87
      go_wp2_with (first
        | (go_at_call 85; refine (isOp_yes _ (by omega) _).mono ?_; rintro e w' ⟨rfl, rfl⟩)
        | (go_at_call 41; refine (outM_no _ (by omega) _).mono ?_; rintro e w' ⟨rfl, rfl⟩)
        | (go_at_call 41; refine (outM_yes _ (by omega) _).mono ?_; rintro e w' ⟨rfl, rfl⟩))
      go_ret2
      exact ⟨by rw [H.out]; rfl, rfl⟩
theorem implOperate_bel (op a b : Int) (w : World) : Calls Try.prog 87 #[.int .i64 op, .int .i64 a, .int .i64 b] w fun e w' => e = .returned (.tuple #[.int .i64 (opR op a b).1, .int .i64 (opR op a b).2]) ∧ Below w.heap.size w w' :=
  (implOperate_any op a b w).mono fun _ _ ⟨h1, h2⟩ => ⟨h1, by subst h2; exact Below.refl _ _⟩
end Go.Proofs.Ytkcbmblpalmmhaa
