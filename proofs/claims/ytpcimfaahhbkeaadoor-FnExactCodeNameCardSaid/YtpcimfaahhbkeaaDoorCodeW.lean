/- The names of the error codes: the model's and the program's function by one contract each. -/
import Derived.Test.YtpcimfaahhbkeaaDoorProg
import Derived.WalkKit
import Derived.ProofKit
import Derived.Outline
import Derived.Lib.Hide
import Derived.ChangeOld
import Derived.Below
namespace Go.Proofs.YtpcimfaahhbkeaaDoor
open Go.RowKit
def codeL : List ByteArray := [⟨#[111, 107]⟩, ⟨#[105, 110, 118, 97, 108, 105, 100]⟩, ⟨#[114, 97, 110, 103, 101]⟩, ⟨#[110, 111, 116, 45, 102, 111, 117, 110, 100]⟩, ⟨#[101, 120, 105, 115, 116, 115]⟩, ⟨#[102, 117, 108, 108]⟩, ⟨#[115, 116, 97, 116, 101]⟩, ⟨#[111, 114, 100, 101, 114]⟩, ⟨#[115, 121, 110, 116, 97, 120]⟩, ⟨#[102, 111, 114, 109, 97, 116]⟩, ⟨#[99, 104, 101, 99, 107, 115, 117, 109]⟩, ⟨#[116, 114, 117, 110, 99, 97, 116, 101, 100]⟩]
def codeOf (a : Int) : ByteArray := if 0 ≤ a ∧ a ≤ 11 then codeL.getD a.toNat ⟨#[]⟩ else ⟨#[]⟩
theorem codeOf_out {a : Int} (h : a < 0 ∨ 11 < a) : codeOf a = ⟨#[]⟩ := by unfold codeOf; rw [if_neg (by omega)]
theorem ret_str {a b : ByteArray} (h : a = b) : Ending.returned (.string a) = .returned (.string b) := by rw [h]
/-- The program's table lies as its text lays it. -/
def Table (w : World) : Prop := ∀ (k : Nat) s, codeL[k]? = some s → w.cell? ⟨0, k, none⟩ = some (.string s)
theorem twelve {a : Int} (h : ¬ (a < 0 ∨ 11 < a)) : a = 0 ∨ a = 1 ∨ a = 2 ∨ a = 3 ∨ a = 4 ∨ a = 5 ∨ a = 6 ∨ a = 7 ∨ a = 8 ∨ a = 9 ∨ a = 10 ∨ a = 11 := by omega
theorem inn_yes (x lo hi : Int) (w : World) (h1 : lo ≤ x) (h2 : x ≤ hi) : Calls Tryd.prog 53 #[.int .i64 x, .int .i64 lo, .int .i64 hi] w fun e w' => e = .returned (.bool true) ∧ w = w' := by
  go_enter Tryd.func53, Tryd.ntmps53
  go_wp2
  go_ret
  exact ⟨rfl, rfl⟩
theorem inn_no (x lo hi : Int) (w : World) (h : x < lo ∨ hi < x) : Calls Tryd.prog 53 #[.int .i64 x, .int .i64 lo, .int .i64 hi] w fun e w' => e = .returned (.bool false) ∧ w = w' := by
  by_cases h1 : lo ≤ x
  · have h2 : ¬ x ≤ hi := by omega
    go_enter Tryd.func53, Tryd.ntmps53
    go_wp2
    go_ret
    exact ⟨rfl, rfl⟩
  · go_enter Tryd.func53, Tryd.ntmps53
    go_wp2
    go_ret
    exact ⟨rfl, rfl⟩
set_option maxHeartbeats 2000000 in
set_option maxRecDepth 100000 in
theorem specCode_any (a : Int) (w : World) : Calls Tryd.prog 22 #[.int .i64 a] w fun e w' => e = .returned (.string (codeOf a)) ∧ Below w.heap.size w w' := by
  by_cases h : a < 0 ∨ 11 < a
  · have HC := Lib.hid (codeOf_out h)
    go_enter Tryd.func22, Tryd.ntmps22
    go_wp2_with (go_at_call 53; refine (inn_no _ _ _ _ h).mono ?_; rintro e w' ⟨rfl, rfl⟩)
    go_ret
    exact ⟨ret_str HC.out.symm, (Below.refl _ _).alloc (Nat.le_refl _) _⟩
  · rcases twelve h with rfl | rfl | rfl | rfl | rfl | rfl | rfl | rfl | rfl | rfl | rfl | rfl
    all_goals
      clear h
      go_enter Tryd.func22, Tryd.ntmps22
      go_wp2_with (go_at_call 53; refine (inn_yes _ _ _ _ (by omega) (by omega)).mono ?_; rintro e w' ⟨rfl, rfl⟩)
      go_ret
      exact ⟨rfl, (Below.refl _ _).alloc (Nat.le_refl _) _⟩
set_option maxHeartbeats 2000000 in
set_option maxRecDepth 100000 in
theorem implCode_any (a : Int) (w : World) (ht : Table w) : Calls Tryd.prog 23 #[.int .i64 a] w fun e w' => e = .returned (.string (codeOf a)) ∧ w = w' := by
  by_cases h : a < 0 ∨ 11 < a
  · have HC := Lib.hid (codeOf_out h)
    clear ht
    rcases h with h | h
    · go_enter Tryd.func23, Tryd.ntmps23
      go_wp2
      go_ret
      exact ⟨ret_str HC.out.symm, rfl⟩
    · have h0 : ¬ a < 0 := by omega
      go_enter Tryd.func23, Tryd.ntmps23
      go_wp2
      go_ret
      exact ⟨ret_str HC.out.symm, rfl⟩
  · have c0 := ht 0 _ rfl
    have c1 := ht 1 _ rfl
    have c2 := ht 2 _ rfl
    have c3 := ht 3 _ rfl
    have c4 := ht 4 _ rfl
    have c5 := ht 5 _ rfl
    have c6 := ht 6 _ rfl
    have c7 := ht 7 _ rfl
    have c8 := ht 8 _ rfl
    have c9 := ht 9 _ rfl
    have c10 := ht 10 _ rfl
    have c11 := ht 11 _ rfl
    clear ht
    rcases twelve h with rfl | rfl | rfl | rfl | rfl | rfl | rfl | rfl | rfl | rfl | rfl | rfl
    all_goals
      clear h
      go_enter Tryd.func23, Tryd.ntmps23
      go_wp2
      go_ret
      exact ⟨rfl, rfl⟩
theorem Table.below {w w' : World} (h : Table w) (hb : Below w.heap.size w w') : Table w' := fun k s hs => by
  have hc := h k s hs
  exact (hb.cell (p := ⟨_, k, none⟩) (World.block_lt_of_cell? w _ hc)).trans hc
set_option maxRecDepth 100000 in
theorem lawCode_any (a : Int) (w : World) (ht : Table w) : Calls Tryd.prog 4 #[.int .i64 a] w fun e w' => e = .returned (.bool true) ∧ Below w.heap.size w w' := by
  have HT := Lib.hid ht
  clear ht
  go_enter Tryd.func4, Tryd.ntmps4
  go_wp2_with fail
  refine (specCode_any a w).mono ?_; rintro e w1 ⟨rfl, hb⟩
  have HB := Lib.hid hb
  clear hb
  go_wp2_with fail
  refine (implCode_any a w1 (HT.out.below HB.out)).mono ?_; rintro e w2 ⟨rfl, rfl⟩
  generalize codeOf a = s
  have hs : (s.toList == s.toList) = true := by simp
  go_wp2
  go_ret
  exact ⟨rfl, HB.out⟩
end Go.Proofs.YtpcimfaahhbkeaaDoor
