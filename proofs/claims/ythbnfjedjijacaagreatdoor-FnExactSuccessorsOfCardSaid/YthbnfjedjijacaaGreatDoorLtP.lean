/- Valid transition systems: the program's parts. -/
import Derived.BigQuiet
import Derived.StillTailTactics
import Derived.OwnWalk
import Derived.Outline
import Derived.Test.YthbnfjedjijacaaGreatDoorStrI
import Derived.Test.YthbnfjedjijacaaGreatDoorLtA
import Derived.Test.YthbnfjedjijacaaGreatDoorBx
namespace Go.Proofs.YthbnfjedjijacaaGreatDoor
open Go.RowKit
theorem isIndex_any (k n : Int) (w : World) : Calls Tryz.prog 92 #[.int .i64 k, .int .i64 n] w fun e w' => e = .returned (.bool (idxI k n)) ∧ w = w' := by
  by_cases h1 : 0 ≤ k
  · by_cases h2 : k < n
    · have H := Lib.hid (idxI_yes ⟨h1, h2⟩)
      go_enter Tryz.func92, Tryz.ntmps92
      go_wp2
      go_ret
      exact ⟨by rw [H.out]; rfl, rfl⟩
    · have H := Lib.hid (idxI_no (k := k) (n := n) (fun e => h2 e.2))
      go_enter Tryz.func92, Tryz.ntmps92
      go_wp2
      go_ret
      exact ⟨by rw [H.out]; rfl, rfl⟩
  · have H := Lib.hid (idxI_no (k := k) (n := n) (fun e => h1 e.1))
    go_enter Tryz.func92, Tryz.ntmps92
    go_wp2
    go_ret
    exact ⟨by rw [H.out]; rfl, rfl⟩
theorem hasState_any (st ini k : Int) (A1 A2 : Option Addr) (n1 c1 n2 c2 : Nat) (w : World) : Calls Tryz.prog 70 #[.agg #[.int .i64 st, .int .i64 ini, .slice A1 n1 c1, .slice A2 n2 c2], .int .i64 k] w fun e w' => e = .returned (.bool (idxI k st)) ∧ Below w.heap.size w w' := by
  have HB := Lib.hid (fun o : Obj => (Below.refl w.heap.size w).alloc (Nat.le_refl _) o)
  go_enter Tryz.func70, Tryz.ntmps70
  go_wp2_with (go_at_call 92; refine (isIndex_any _ _ _).mono ?_; rintro e w' ⟨rfl, rfl⟩)
  go_ret
  exact ⟨rfl, HB.out _⟩
theorem isNaNI_any (s : Int) (w : World) : Calls Tryz.prog 110 #[.int .i64 s] w fun e w' => e = .returned (.bool false) ∧ w' = w := by
  have h : (s != s) = false := by simp
  go_enter Tryz.func110, Tryz.ntmps110
  go_wp2
  go_ret
  exact ⟨rfl, rfl⟩
theorem cmpInt_any (a b : Int) (w : World) : Calls Tryz.prog 98 #[.int .i64 a, .int .i64 b] w fun e w' => e = .returned (.int .i64 (cmI a b)) ∧ w' = w := by
  by_cases h1 : a < b
  · have HF := Lib.hid (cmI_lt h1)
    go_enter Tryz.func98, Tryz.ntmps98
    go_wp2_with (go_at_call 110; refine (isNaNI_any _ _).mono ?_; rintro e w' ⟨rfl, rfl⟩)
    go_ret
    exact ⟨by rw [HF.out]; rfl, rfl⟩
  · by_cases h2 : b < a
    · have HF := Lib.hid (cmI_gt h2)
      go_enter Tryz.func98, Tryz.ntmps98
      go_wp2_with (go_at_call 110; refine (isNaNI_any _ _).mono ?_; rintro e w' ⟨rfl, rfl⟩)
      go_ret
      exact ⟨by rw [HF.out]; rfl, rfl⟩
    · obtain rfl : a = b := by omega
      have HF := Lib.hid (cmI_eq a)
      clear h1 h2
      have h1 : ¬ a < a := by omega
      go_enter Tryz.func98, Tryz.ntmps98
      go_wp2_with (go_at_call 110; refine (isNaNI_any _ _).mono ?_; rintro e w' ⟨rfl, rfl⟩)
      go_ret
      exact ⟨by rw [HF.out]; rfl, rfl⟩
theorem truthI_any (b : Bool) (w : World) : Calls Tryz.prog 106 #[.bool b] w fun e w' => e = .returned (.int .i64 (trI b)) ∧ w' = w := by
  cases b
  · go_enter Tryz.func106, Tryz.ntmps106
    go_wp2
    go_ret
    exact ⟨rfl, rfl⟩
  · go_enter Tryz.func106, Tryz.ntmps106
    go_wp2
    go_ret
    exact ⟨rfl, rfl⟩
/-- The first number of a row that is not 0. -/
theorem orN_any (g n : Nat) (xs : List Int) (w : World) (h : ∀ k u, xs[k]? = some u → w.cell? ⟨g, k, none⟩ = some (.int .i64 u)) (l : xs.length = n) (m : n ≤ 100) :
    Calls Tryz.prog 97 #[.slice (some ⟨g, 0, none⟩) n n] w fun e w' => e = .returned (.int .i64 (orL xs)) ∧ Below w.heap.size w w' := by
  have H := Lib.hid h
  have L := Lib.hid l
  clear h l
  go_enter Tryz.func97, Tryz.ntmps97
  go_wp2
  go_loopw [8] (fun i wr => ∃ k : Nat, k ≤ n ∧ i = .int .i64 k ∧ Hid (Drawn w wr) ∧ Hid (orL xs = orL (xs.drop k))) (fun i _ => n - (intOf i).toNat)
  case atStart => exact ⟨0, by omega, rfl, Lib.hid (Drawn.refl _), Lib.hid rfl⟩
  case round =>
    obtain ⟨k, hk, rfl, HD, HE⟩ := hrel
    by_cases hlt : k < n
    · obtain ⟨u, hu⟩ : ∃ u, xs[k]? = some u := ⟨_, List.getElem?_eq_getElem (by rw [L.out]; exact hlt)⟩
      have r := (SameOn.of_drawn (S := fun _ => True) HD.out g k trivial).trans (H.out k u hu)
      have HU := Lib.hid (show orL (xs.drop k) = if u = 0 then orL (xs.drop (k + 1)) else u by rw [drop_one xs k u hu]; rfl)
      clear hu
      by_cases ha : u = 0
      · have hne : (u != 0) = false := by simp [ha]
        have HZ := Lib.hid (show orL xs = orL (xs.drop (k + 1)) by rw [HE.out, HU.out, if_pos ha])
        clear ha
        go_wp2
        go_roundw
        case rel => exact ⟨k + 1, by omega, by go_num, HD, HZ⟩
        case measure => simp [intOf]; omega
      · have hne : (u != 0) = true := by simp [ha]
        have HF := Lib.hid (show orL xs = u by rw [HE.out, HU.out, if_neg ha])
        clear ha
        go_wp2
        go_ret
        exact ⟨by rw [HF.out]; rfl, HD.out.below _⟩
    · have HF := Lib.hid (show orL xs = 0 by rw [HE.out, List.drop_eq_nil_of_le (by rw [L.out]; omega)]; rfl)
      go_wp2
      go_ret
      exact ⟨by rw [HF.out]; rfl, HD.out.below _⟩
end Go.Proofs.YthbnfjedjijacaaGreatDoor
