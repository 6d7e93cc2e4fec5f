/- The table of operators: levels, texts and operators of texts; the model's and the program's functions by one contract each. -/
import Derived.Test.YthefcnpfefhngaaDoorProg
import Derived.WalkKit
import Derived.ProofKit
import Derived.Outline
import Derived.Lib.Hide
import Derived.ChangeOld
import Derived.Below
namespace Go.Proofs.YthefcnpfefhngaaDoor
open Go.RowKit
def formT : List ByteArray := [⟨#[43]⟩, ⟨#[45]⟩, ⟨#[42]⟩, ⟨#[61]⟩, ⟨#[35]⟩, ⟨#[60]⟩, ⟨#[60, 61]⟩, ⟨#[38]⟩, ⟨#[124]⟩]
def formL : List Int := [4, 4, 5, 3, 3, 3, 3, 2, 1]
def formB : List Bool := [true, false, true, true, true, false, false, true, true]
/-- The program's table lies as its text lays it. -/
def OpTab (w : World) : Prop := ∀ (k : Nat) s l b, formT[k]? = some s → formL[k]? = some l → formB[k]? = some b →
  w.cell? ⟨0, k * 3, none⟩ = some (.string s) ∧ w.cell? ⟨0, k * 3 + 1, none⟩ = some (.int .i64 l) ∧ w.cell? ⟨0, k * 3 + 2, none⟩ = some (.bool b)
theorem OpTab.below {w w' : World} (h : OpTab w) (hb : Below w.heap.size w w') : OpTab w' := fun k s l b h1 h2 h3 => by
  obtain ⟨c1, c2, c3⟩ := h k s l b h1 h2 h3
  exact ⟨(hb.cell (p := ⟨_, _, none⟩) (World.block_lt_of_cell? w _ c1)).trans c1, (hb.cell (p := ⟨_, _, none⟩) (World.block_lt_of_cell? w _ c2)).trans c2, (hb.cell (p := ⟨_, _, none⟩) (World.block_lt_of_cell? w _ c3)).trans c3⟩
theorem ret_txt {a b : ByteArray} (h : a = b) : Ending.returned (.string a) = .returned (.string b) := by rw [h]
theorem ninth {a : Int} (h : ¬ (a < 0 ∨ 8 < a)) : a = 0 ∨ a = 1 ∨ a = 2 ∨ a = 3 ∨ a = 4 ∨ a = 5 ∨ a = 6 ∨ a = 7 ∨ a = 8 := by omega
theorem within_yes (x lo hi : Int) (w : World) (h1 : lo ≤ x) (h2 : x ≤ hi) : Calls Tryd.prog 20 #[.int .i64 x, .int .i64 lo, .int .i64 hi] w fun e w' => e = .returned (.bool true) ∧ w = w' := by
  go_enter Tryd.func20, Tryd.ntmps20
  go_wp2
  go_ret
  exact ⟨rfl, rfl⟩
theorem within_no (x lo hi : Int) (w : World) (h : x < lo ∨ hi < x) : Calls Tryd.prog 20 #[.int .i64 x, .int .i64 lo, .int .i64 hi] w fun e w' => e = .returned (.bool false) ∧ w = w' := by
  by_cases h1 : lo ≤ x
  · have h2 : ¬ x ≤ hi := by omega
    go_enter Tryd.func20, Tryd.ntmps20
    go_wp2
    go_ret
    exact ⟨rfl, rfl⟩
  · go_enter Tryd.func20, Tryd.ntmps20
    go_wp2
    go_ret
    exact ⟨rfl, rfl⟩
theorem oper_yes (v : Int) (h : 0 ≤ v ∧ v ≤ 8) (w : World) : Calls Tryd.prog 22 #[.int .i64 v] w fun e w' => e = .returned (.bool true) ∧ w = w' := by
  obtain ⟨h1, h2⟩ := h
  go_enter Tryd.func22, Tryd.ntmps22
  go_wp2
  go_ret
  exact ⟨rfl, rfl⟩
theorem oper_no (v : Int) (h : v < 0 ∨ 8 < v) (w : World) : Calls Tryd.prog 22 #[.int .i64 v] w fun e w' => e = .returned (.bool false) ∧ w = w' := by
  by_cases h1 : 0 ≤ v
  · have h2 : ¬ v ≤ 8 := by omega
    clear h
    go_enter Tryd.func22, Tryd.ntmps22
    go_wp2
    go_ret
    exact ⟨rfl, rfl⟩
  · clear h
    go_enter Tryd.func22, Tryd.ntmps22
    go_wp2
    go_ret
    exact ⟨rfl, rfl⟩
/-- The level of an operator, and its code. -/
def levR (a : Int) : Int × Int := if 0 ≤ a ∧ a ≤ 8 then (formL.getD a.toNat 0, 0) else (0, 2)
theorem levR_no {a : Int} (h : a < 0 ∨ 8 < a) : levR a = (0, 2) := by unfold levR; rw [if_neg (by omega)]
set_option maxRecDepth 100000 in
theorem specLevel_any (a : Int) (w : World) : Calls Tryd.prog 7 #[.int .i64 a] w fun e w' => e = .returned (.tuple #[.int .i64 (levR a).1, .int .i64 (levR a).2]) ∧ w = w' := by
  by_cases h : a < 0 ∨ 8 < a
  · have H := Lib.hid (levR_no h)
    go_enter Tryd.func7, Tryd.ntmps7
    go_wp2_with (go_at_call 20; refine (within_no _ _ _ _ h).mono ?_; rintro e w' ⟨rfl, rfl⟩)
    go_ret2
    exact ⟨by rw [H.out]; rfl, rfl⟩
  · rcases ninth h with rfl | rfl | rfl | rfl | rfl | rfl | rfl | rfl | rfl
    all_goals
      clear h
      go_enter Tryd.func7, Tryd.ntmps7
      go_wp2_with (first | (go_at_call 20; refine (within_yes _ _ _ _ (by omega) (by omega)).mono ?_; rintro e w' ⟨rfl, rfl⟩) | go_in)
      go_ret2
      exact ⟨rfl, rfl⟩
set_option maxRecDepth 100000 in
theorem implLevel_any (a : Int) (w : World) (ht : OpTab w) : Calls Tryd.prog 8 #[.int .i64 a] w fun e w' => e = .returned (.tuple #[.int .i64 (levR a).1, .int .i64 (levR a).2]) ∧ w = w' := by
  by_cases h : a < 0 ∨ 8 < a
  · have H := Lib.hid (levR_no h)
    clear ht
    go_enter Tryd.func8, Tryd.ntmps8
    go_wp2_with (go_at_call 22; refine (oper_no _ h _).mono ?_; rintro e w' ⟨rfl, rfl⟩)
    go_ret2
    exact ⟨by rw [H.out]; rfl, rfl⟩
  · have c0 : w.cell? ⟨0, 1, none⟩ = some (.int .i64 4) := (ht 0 _ _ _ rfl rfl rfl).2.1
    have c1 : w.cell? ⟨0, 4, none⟩ = some (.int .i64 4) := (ht 1 _ _ _ rfl rfl rfl).2.1
    have c2 : w.cell? ⟨0, 7, none⟩ = some (.int .i64 5) := (ht 2 _ _ _ rfl rfl rfl).2.1
    have c3 : w.cell? ⟨0, 10, none⟩ = some (.int .i64 3) := (ht 3 _ _ _ rfl rfl rfl).2.1
    have c4 : w.cell? ⟨0, 13, none⟩ = some (.int .i64 3) := (ht 4 _ _ _ rfl rfl rfl).2.1
    have c5 : w.cell? ⟨0, 16, none⟩ = some (.int .i64 3) := (ht 5 _ _ _ rfl rfl rfl).2.1
    have c6 : w.cell? ⟨0, 19, none⟩ = some (.int .i64 3) := (ht 6 _ _ _ rfl rfl rfl).2.1
    have c7 : w.cell? ⟨0, 22, none⟩ = some (.int .i64 2) := (ht 7 _ _ _ rfl rfl rfl).2.1
    have c8 : w.cell? ⟨0, 25, none⟩ = some (.int .i64 1) := (ht 8 _ _ _ rfl rfl rfl).2.1
    clear ht
    rcases ninth h with rfl | rfl | rfl | rfl | rfl | rfl | rfl | rfl | rfl
    all_goals
      clear h
      go_enter Tryd.func8, Tryd.ntmps8
      go_wp2_with (go_at_call 22; refine (oper_yes _ (by omega) _).mono ?_; rintro e w' ⟨rfl, rfl⟩)
      go_ret2
      exact ⟨rfl, rfl⟩
set_option maxRecDepth 100000 in
theorem lawLevel_any (a : Int) (w : World) (ht : OpTab w) : Calls Tryd.prog 3 #[.int .i64 a] w fun e w' => e = .returned (.bool true) ∧ Below w.heap.size w w' := by
  have HT := Lib.hid ht
  clear ht
  have h1 : ((levR a).1 != (levR a).1) = false := by simp
  have h2 : ((levR a).2 != (levR a).2) = false := by simp
  go_enter Tryd.func3, Tryd.ntmps3
  go_wp2_with fail
  refine (specLevel_any a w).mono ?_; rintro e w1 ⟨rfl, rfl⟩
  go_wp2_with fail
  refine (implLevel_any a w HT.out).mono ?_; rintro e w2 ⟨rfl, rfl⟩
  go_wp2
  go_ret
  exact ⟨rfl, Below.refl _ _⟩
/-- The text of an operator. -/
def txtR (a : Int) : ByteArray := if 0 ≤ a ∧ a ≤ 8 then formT.getD a.toNat ⟨#[]⟩ else ⟨#[]⟩
theorem txtR_no {a : Int} (h : a < 0 ∨ 8 < a) : txtR a = ⟨#[]⟩ := by unfold txtR; rw [if_neg (by omega)]
set_option maxHeartbeats 2000000 in
set_option maxRecDepth 100000 in
theorem specText_any (a : Int) (w : World) : Calls Tryd.prog 9 #[.int .i64 a] w fun e w' => e = .returned (.string (txtR a)) ∧ Below w.heap.size w w' := by
  by_cases h : a < 0 ∨ 8 < a
  · have H := Lib.hid (txtR_no h)
    go_enter Tryd.func9, Tryd.ntmps9
    go_wp2_with (go_at_call 20; refine (within_no _ _ _ _ h).mono ?_; rintro e w' ⟨rfl, rfl⟩)
    go_ret
    exact ⟨ret_txt H.out.symm, Below.refl _ _⟩
  · rcases ninth h with rfl | rfl | rfl | rfl | rfl | rfl | rfl | rfl | rfl
    all_goals
      clear h
      go_enter Tryd.func9, Tryd.ntmps9
      go_wp2_with (first | (go_at_call 20; refine (within_yes _ _ _ _ (by omega) (by omega)).mono ?_; rintro e w' ⟨rfl, rfl⟩) | go_in)
      go_ret
      exact ⟨rfl, (Below.refl _ _).alloc (Nat.le_refl _) _⟩
set_option maxRecDepth 100000 in
theorem implText_any (a : Int) (w : World) (ht : OpTab w) : Calls Tryd.prog 10 #[.int .i64 a] w fun e w' => e = .returned (.string (txtR a)) ∧ w = w' := by
  by_cases h : a < 0 ∨ 8 < a
  · have H := Lib.hid (txtR_no h)
    clear ht
    go_enter Tryd.func10, Tryd.ntmps10
    go_wp2_with (go_at_call 22; refine (oper_no _ h _).mono ?_; rintro e w' ⟨rfl, rfl⟩)
    go_ret
    exact ⟨ret_txt H.out.symm, rfl⟩
  · have c0 : w.cell? ⟨0, 0, none⟩ = some (.string ⟨#[43]⟩) := (ht 0 _ _ _ rfl rfl rfl).1
    have c1 : w.cell? ⟨0, 3, none⟩ = some (.string ⟨#[45]⟩) := (ht 1 _ _ _ rfl rfl rfl).1
    have c2 : w.cell? ⟨0, 6, none⟩ = some (.string ⟨#[42]⟩) := (ht 2 _ _ _ rfl rfl rfl).1
    have c3 : w.cell? ⟨0, 9, none⟩ = some (.string ⟨#[61]⟩) := (ht 3 _ _ _ rfl rfl rfl).1
    have c4 : w.cell? ⟨0, 12, none⟩ = some (.string ⟨#[35]⟩) := (ht 4 _ _ _ rfl rfl rfl).1
    have c5 : w.cell? ⟨0, 15, none⟩ = some (.string ⟨#[60]⟩) := (ht 5 _ _ _ rfl rfl rfl).1
    have c6 : w.cell? ⟨0, 18, none⟩ = some (.string ⟨#[60, 61]⟩) := (ht 6 _ _ _ rfl rfl rfl).1
    have c7 : w.cell? ⟨0, 21, none⟩ = some (.string ⟨#[38]⟩) := (ht 7 _ _ _ rfl rfl rfl).1
    have c8 : w.cell? ⟨0, 24, none⟩ = some (.string ⟨#[124]⟩) := (ht 8 _ _ _ rfl rfl rfl).1
    clear ht
    rcases ninth h with rfl | rfl | rfl | rfl | rfl | rfl | rfl | rfl | rfl
    all_goals
      clear h
      go_enter Tryd.func10, Tryd.ntmps10
      go_wp2_with (go_at_call 22; refine (oper_yes _ (by omega) _).mono ?_; rintro e w' ⟨rfl, rfl⟩)
      go_ret
      exact ⟨rfl, rfl⟩
set_option maxRecDepth 100000 in
theorem lawText_any (a : Int) (w : World) (ht : OpTab w) : Calls Tryd.prog 4 #[.int .i64 a] w fun e w' => e = .returned (.bool true) ∧ Below w.heap.size w w' := by
  have HT := Lib.hid ht
  clear ht
  go_enter Tryd.func4, Tryd.ntmps4
  go_wp2_with fail
  refine (specText_any a w).mono ?_; rintro e w1 ⟨rfl, hb⟩
  have HB := Lib.hid hb
  clear hb
  go_wp2_with fail
  refine (implText_any a w1 (HT.out.below HB.out)).mono ?_; rintro e w2 ⟨rfl, rfl⟩
  generalize txtR a = s
  have hs : (s.toList == s.toList) = true := by simp
  go_wp2
  go_ret
  exact ⟨rfl, HB.out⟩
end Go.Proofs.YthefcnpfefhngaaDoor
