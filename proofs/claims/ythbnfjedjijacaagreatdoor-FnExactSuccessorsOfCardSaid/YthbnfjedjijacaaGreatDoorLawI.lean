/- The laws' own helpers on lists of 64-bit integers: a copy reads as the list; two lists are compared element by element. -/
import Derived.Test.YthbnfjedjijacaaGreatDoorProg
import Derived.WalkKit
import Derived.ProofKit
import Derived.BigQuiet
import Derived.Outline
import Derived.Test.YthbnfjedjijacaaGreatDoorLow
namespace Go.Proofs.YthbnfjedjijacaaGreatDoor
open Go.RowKit
theorem info_i64 : (Tryz.prog.info? 2).map (fun i => (i.zero, i.size, i.bytes)) = some (some (.int .i64 0), 1, 8) := by kernel_rfl
theorem upd_take {α : Type} (xs : List α) (z u : α) (k n : Nat) (hn : xs.length = n) (hu : xs[k]? = some u) :
    (xs.take k ++ List.replicate (n - k) z).set k u = xs.take (k + 1) ++ List.replicate (n - (k + 1)) z := by
  obtain ⟨hk, rfl⟩ := List.getElem?_eq_some_iff.1 hu
  have h1 : n - k = (n - (k + 1)) + 1 := by omega
  have hl : (xs.take k).length = k := by rw [List.length_take]; omega
  rw [h1, List.replicate_succ, List.set_append_right _ _ (by omega), hl, Nat.sub_self, List.set_cons_zero, List.take_succ_eq_append_getElem hk, List.append_assoc]
  rfl
set_option maxHeartbeats 1000000 in
theorem eqI_yes (A1 A2 : Option Addr) (n1 n2 c1 c2 : Nat) (xs : List Int) (w : World) (B : Nat) (h1 : IRow w B A1 xs) (h2 : IRow w B A2 xs)
    (l1 : xs.length = n1) (l2 : xs.length = n2) (m1 : n1 ≤ 2000000) :
    Calls Tryz.prog 22 #[.slice A1 n1 c1, .slice A2 n2 c2] w fun e w' => e = .returned (.bool true) ∧ Drawn w w' := by
  obtain rfl : n1 = n2 := l1.symm.trans l2
  have L1 := Lib.hid l1
  clear l1 l2
  go_enter Tryz.func22, Tryz.ntmps22
  go_wp2
  go_loopw [5] (fun i wr => ∃ k : Nat, k ≤ n1 ∧ i = .int .i64 k ∧ Drawn w wr) (fun i _ => n1 - (intOf i).toNat)
  case atStart => exact ⟨0, Nat.zero_le _, rfl, Drawn.refl _⟩
  case round =>
    obtain ⟨k, hk1, rfl, hD⟩ := hrel
    by_cases hlt1 : k < n1
    · obtain ⟨b1, o1, u, rfl, hb1, hc1, hu⟩ := (h1.drawn hD).at_ (k := k) (by rw [L1.out]; exact hlt1)
      obtain ⟨b2, o2, v, rfl, hb2, hc2, hv⟩ := (h2.drawn hD).at_ (k := k) (by rw [L1.out]; exact hlt1)
      obtain rfl : u = v := by have := hu.out.symm.trans hv.out; injection this
      go_wp2
      go_quiet (fail)
      go_wp2
      go_roundw
      case rel => exact ⟨k + 1, by omega, by go_num, by repeat (first | exact hD | apply Drawn.drewN)⟩
      case measure => simp [intOf]; omega
    · go_wp2
      go_ret
      exact ⟨rfl, hD⟩
end Go.Proofs.YthbnfjedjijacaaGreatDoor
