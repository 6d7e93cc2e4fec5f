/- Comparing lists: the program's function. -/
import Derived.Test.YtbgmhndmldekbaaDoorProg
import Derived.WalkKit
import Derived.ProofKit
import Derived.BigQuiet
import Derived.Outline
import Derived.Test.YtbgmhndmldekbaaDoorLow
import Derived.Test.YtbgmhndmldekbaaDoorCmpM
namespace Go.Proofs.YtbgmhndmldekbaaDoor
open Go.RowKit
theorem minimum_any (a b : Int) (w : World) :
    Calls Tryd.prog 23 #[.int .i64 a, .int .i64 b] w fun e w' => e = .returned (.int .i64 (min a b)) ∧ w = w' := by
  by_cases h : b < a
  · have H := Lib.hid (show min a b = b by omega)
    go_enter Tryd.func23, Tryd.ntmps23
    go_wp2
    go_ret
    exact ⟨ret_int H.out.symm, rfl⟩
  · have H := Lib.hid (show min a b = a by omega)
    go_enter Tryd.func23, Tryd.ntmps23
    go_wp2
    go_ret
    exact ⟨ret_int H.out.symm, rfl⟩
def sgn (a b : Int) : Int := if a < b then -1 else if b < a then 1 else 0
theorem isNaN64_any (a : Int) (w : World) : Calls Tryd.prog 33 #[.int .i64 a] w fun e w' => e = .returned (.bool false) ∧ w = w' := by
  have h : (a != a) = false := by simp
  go_enter Tryd.func33, Tryd.ntmps33
  go_wp2
  go_ret
  exact ⟨rfl, rfl⟩
theorem isNaN_any (a : Int) (w : World) : Calls Tryd.prog 34 #[.int .i64 a] w fun e w' => e = .returned (.bool false) ∧ w = w' := by
  have h : (a != a) = false := by simp
  go_enter Tryd.func34, Tryd.ntmps34
  go_wp2
  go_ret
  exact ⟨rfl, rfl⟩
theorem compare64_any (a b : Int) (w : World) : Calls Tryd.prog 24 #[.int .i64 a, .int .i64 b] w fun e w' => e = .returned (.int .i64 (sgn a b)) ∧ w = w' := by
  rcases Int.lt_trichotomy a b with h | h | h
  · have H := Lib.hid (show sgn a b = -1 by unfold sgn; rw [if_pos h])
    go_enter Tryd.func24, Tryd.ntmps24
    go_wp2_with (go_at_call 33; refine (isNaN64_any _ _).mono ?_; rintro e w' ⟨rfl, rfl⟩)
    go_ret
    exact ⟨ret_int H.out.symm, rfl⟩
  · have H := Lib.hid (show sgn a b = 0 by unfold sgn; rw [if_neg (by omega), if_neg (by omega)])
    have h1 : ¬ a < b := by omega
    have h2 : ¬ b < a := by omega
    clear h
    go_enter Tryd.func24, Tryd.ntmps24
    go_wp2_with (go_at_call 33; refine (isNaN64_any _ _).mono ?_; rintro e w' ⟨rfl, rfl⟩)
    go_ret
    exact ⟨ret_int H.out.symm, rfl⟩
  · have H := Lib.hid (show sgn a b = 1 by unfold sgn; rw [if_neg (by omega), if_pos h])
    have h1 : ¬ a < b := by omega
    go_enter Tryd.func24, Tryd.ntmps24
    go_wp2_with (go_at_call 33; refine (isNaN64_any _ _).mono ?_; rintro e w' ⟨rfl, rfl⟩)
    go_ret
    exact ⟨ret_int H.out.symm, rfl⟩
theorem compare_any (a b : Int) (w : World) : Calls Tryd.prog 25 #[.int .i64 a, .int .i64 b] w fun e w' => e = .returned (.int .i64 (sgn a b)) ∧ w = w' := by
  rcases Int.lt_trichotomy a b with h | h | h
  · have H := Lib.hid (show sgn a b = -1 by unfold sgn; rw [if_pos h])
    go_enter Tryd.func25, Tryd.ntmps25
    go_wp2_with (go_at_call 34; refine (isNaN_any _ _).mono ?_; rintro e w' ⟨rfl, rfl⟩)
    go_ret
    exact ⟨ret_int H.out.symm, rfl⟩
  · have H := Lib.hid (show sgn a b = 0 by unfold sgn; rw [if_neg (by omega), if_neg (by omega)])
    have h1 : ¬ a < b := by omega
    have h2 : ¬ b < a := by omega
    clear h
    go_enter Tryd.func25, Tryd.ntmps25
    go_wp2_with (go_at_call 34; refine (isNaN_any _ _).mono ?_; rintro e w' ⟨rfl, rfl⟩)
    go_ret
    exact ⟨ret_int H.out.symm, rfl⟩
  · have H := Lib.hid (show sgn a b = 1 by unfold sgn; rw [if_neg (by omega), if_pos h])
    have h1 : ¬ a < b := by omega
    go_enter Tryd.func25, Tryd.ntmps25
    go_wp2_with (go_at_call 34; refine (isNaN_any _ _).mono ?_; rintro e w' ⟨rfl, rfl⟩)
    go_ret
    exact ⟨ret_int H.out.symm, rfl⟩
set_option maxHeartbeats 1000000 in
theorem implCmp_any (A1 A2 : Option Addr) (n1 n2 c1 c2 : Nat) (xs ys : List Int) (w : World) (B : Nat) (h1 : IRow w B A1 xs) (h2 : IRow w B A2 ys)
    (l1 : xs.length = n1) (l2 : ys.length = n2) (m1 : n1 ≤ 2000000) (_ : n2 ≤ 2000000) :
    Calls Tryd.prog 12 #[.slice A1 n1 c1, .slice A2 n2 c2] w fun e w' => e = .returned (.int .i64 (cmpL xs ys)) ∧ Drawn w w' := by
  have L1 := Lib.hid l1; have L2 := Lib.hid l2
  clear l1 l2
  have hmin : min (n1 : Int) (n2 : Int) = ((min n1 n2 : Nat) : Int) := by omega
  have HM := Lib.hid hmin
  clear hmin
  obtain ⟨mn, hmn⟩ : ∃ mn, mn = min n1 n2 := ⟨_, rfl⟩
  have hm1 : mn ≤ n1 := by omega
  have hm2 : mn ≤ n2 := by omega
  have hm3 : n1 ≤ mn ∨ n2 ≤ mn := by omega
  have HN := Lib.hid hmn
  clear hmn
  go_enter Tryd.func12, Tryd.ntmps12
  go_wp2_with (go_at_call 23; refine (minimum_any _ _ _).mono ?_; rw [HM.out, ← HN.out]; rintro e w' ⟨rfl, rfl⟩)
  go_loopw [4, 5, 11] (fun r _ i wr => ∃ k : Nat, k ≤ mn ∧ i = .int .i64 k ∧ r = .int .i64 0 ∧ Drawn w wr ∧ Hid (cmpL xs ys = cmpL (xs.drop k) (ys.drop k))) (fun _ _ i _ => mn - (intOf i).toNat)
  case atStart => exact ⟨0, Nat.zero_le _, rfl, rfl, Drawn.refl _, rfl⟩
  case round =>
    obtain ⟨k, hk, rfl, rfl, hD, HE⟩ := hrel
    by_cases hlt : k < mn
    · obtain ⟨b1, o1, u, rfl, hb1, hc1, hu⟩ := (h1.drawn hD).at_ (k := k) (by rw [L1.out]; omega)
      obtain ⟨b2, o2, v, rfl, hb2, hc2, hv⟩ := (h2.drawn hD).at_ (k := k) (by rw [L2.out]; omega)
      have hk1 : k < n1 := by omega
      have hk2 : k < n2 := by omega
      by_cases he : u = v
      · have HR := Lib.hid (HE.out.trans (cmpL_eq hu.out hv.out he))
        have hne : (u != v) = false := by simp [he]
        clear HE
        clear he
        go_wp2
        go_quiet (fail)
        go_wp2
        go_roundw
        case rel => exact ⟨k + 1, by omega, by go_num, rfl, by repeat (first | exact hD | apply Drawn.drewN), HR⟩
        case measure => simp [intOf]; omega
      · have hne : (u != v) = true := by simp [he]
        have HR := Lib.hid (show cmpL xs ys = sgn u v by
          rw [HE.out]; unfold sgn
          rcases Int.lt_trichotomy u v with h | h | h
          · rw [if_pos h]; exact cmpL_lt hu.out hv.out h
          · exact absurd h he
          · rw [if_neg (by omega), if_pos h]; exact cmpL_gt hu.out hv.out h)
        clear he HE
        go_wp2
        go_quiet (fail)
        go_wp2
        go_quiet ((go_at_call 24; exact quiet_same2 (compare64_any _ _ _)))
        go_wp2
        go_ret
        exact ⟨ret_int HR.out.symm, by repeat (first | exact hD | apply Drawn.drewN)⟩
    · obtain rfl : k = mn := by omega
      have HR := Lib.hid (HE.out.trans (cmpL_end (by rw [L1.out, L2.out]; exact hm3) (by rw [L1.out]; omega) (by rw [L2.out]; omega)))
      clear HE
      go_wp2_with (go_at_call 25; refine (compare_any _ _ _).mono ?_; rintro e w' ⟨rfl, rfl⟩)
      go_ret
      refine ⟨ret_int ?_, hD⟩
      rw [HR.out, L1.out, L2.out]
      unfold sgn
      by_cases h5 : n1 < n2
      · rw [if_pos h5, if_pos (by omega)]
      · rw [if_neg h5, if_neg (by omega)]
        by_cases h6 : n2 < n1
        · rw [if_pos h6, if_pos (by omega)]
        · rw [if_neg h6, if_neg (by omega)]
end Go.Proofs.YtbgmhndmldekbaaDoor
