/- The law of closures: its own comparisons, and the pairs that are looked for. -/
import Derived.Test.YthnopigibjmgbaaProg
import Derived.WalkKit
import Derived.ProofKit
import Derived.BigQuiet
import Derived.Outline
import Derived.IntWalk
import Derived.StillTailTactics
import Derived.Test.YthnopigibjmgbaaMem
import Derived.Test.YthnopigibjmgbaaRRow
namespace Go.Proofs.Ythnopigibjmgbaa
open Go.RowKit
set_option maxHeartbeats 1000000 in
theorem nums_any (A1 A2 : Option Addr) (n1 n2 c1 c2 : Nat) (xs ys : List Int) (w : World) (B1 B2 : Nat) (h1 : IRow w B1 A1 xs) (h2 : IRow w B2 A2 ys) (l1 : xs.length = n1) (l2 : ys.length = n2) (m1 : n1 ≤ 2000000) :
    Calls Try.prog 24 #[.slice A1 n1 c1, .slice A2 n2 c2] w fun e w' => e = .returned (.bool (decide (xs = ys))) ∧ Drawn w w' := by
  by_cases hn : n1 = n2
  · subst hn
    have L1 := Lib.hid l1; have L2 := Lib.hid l2
    have hne : ((n1 : Int) != (n1 : Int)) = false := by simp
    clear l1 l2
    go_enter Try.func24, Try.ntmps24
    go_wp2
    go_loopw [5] (fun i wr => ∃ k : Nat, k ≤ n1 ∧ i = .int .i64 k ∧ Drawn w wr ∧ Hid (xs.take k = ys.take k)) (fun i _ => n1 - (intOf i).toNat)
    case atStart => exact ⟨0, Nat.zero_le _, rfl, Drawn.refl _, rfl⟩
    case round =>
      obtain ⟨k, hk1, rfl, hD, HE⟩ := hrel
      by_cases hlt1 : k < n1
      · obtain ⟨b1, o1, u, rfl, hb1, hc1, hu⟩ := (h1.drawn hD).at_ (k := k) (by rw [L1.out]; exact hlt1)
        obtain ⟨b2, o2, v, rfl, hb2, hc2, hv⟩ := (h2.drawn hD).at_ (k := k) (by rw [L2.out]; exact hlt1)
        by_cases he : u = v
        · subst he
          have hbe : (u != u) = false := by simp
          have HS := Lib.hid (show xs.take (k + 1) = ys.take (k + 1) by rw [take_one _ _ _ hu.out, take_one _ _ _ hv.out, HE.out])
          clear HE
          go_wp2
          go_quiet (fail)
          go_wp2
          go_roundw
          case rel => exact ⟨k + 1, by omega, by go_num, by repeat (first | exact hD | apply Drawn.drewN), HS⟩
          case measure => simp [intOf]; omega
        · have hne2 : (u != v) = true := by simp [he]
          have HR := Lib.hid (show decide (xs = ys) = false from decide_eq_false fun e => he (by
            subst e
            have := hu.out.symm.trans hv.out
            injection this))
          clear he HE
          go_wp2
          go_quiet (fail)
          go_wp2
          go_ret
          exact ⟨ret_bool HR.out.symm, by repeat (first | exact hD | apply Drawn.drewN)⟩
      · have HR := Lib.hid (show decide (xs = ys) = true from decide_eq_true (by
          have := HE.out
          rwa [List.take_of_length_le (by rw [L1.out]; omega), List.take_of_length_le (by rw [L2.out]; omega)] at this))
        clear HE
        go_wp2
        go_ret
        exact ⟨ret_bool HR.out.symm, hD⟩
  · have HR := Lib.hid (show decide (xs = ys) = false from decide_eq_false fun e => hn (by rw [← l1, ← l2, e]))
    have hne : ((n1 : Int) != (n2 : Int)) = true := by simp; omega
    clear l1 l2
    go_enter Try.func24, Try.ntmps24
    go_wp2
    go_ret
    exact ⟨ret_bool HR.out.symm, Drawn.refl _⟩
theorem nums_yes (A1 A2 : Option Addr) (n1 n2 c1 c2 : Nat) (xs : List Int) (w : World) (B1 B2 : Nat) (h1 : IRow w B1 A1 xs) (h2 : IRow w B2 A2 xs) (l1 : xs.length = n1) (l2 : xs.length = n2) (m1 : n1 ≤ 2000000) :
    Calls Try.prog 24 #[.slice A1 n1 c1, .slice A2 n2 c2] w fun e w' => e = .returned (.bool true) ∧ Drawn w w' := by
  have := nums_any A1 A2 n1 n2 c1 c2 xs xs w B1 B2 h1 h2 l1 l2 m1
  rwa [decide_eq_true rfl] at this
set_option maxHeartbeats 1000000 in
set_option maxRecDepth 100000 in
theorem rows_any (A1 A2 : Option Addr) (n c1 c2 : Nat) (r : List (List Int)) (w : World) (B1 B2 : Nat) (h1 : RRow w B1 A1 r) (h2 : RRow w B2 A2 r) (l : r.length = n) (m : n ≤ 2000000) (m2 : ∀ xs ∈ r, xs.length ≤ 2000000) :
    Calls Try.prog 23 #[.slice A1 n c1, .slice A2 n c2] w fun e w' => e = .returned (.bool true) ∧ Drawn w w' := by
  have L := Lib.hid l
  have M2 := Lib.hid m2
  have hne : ((n : Int) != (n : Int)) = false := by simp
  clear l m2
  go_enter Try.func23, Try.ntmps23
  go_wp2
  go_loopw [5] (fun i wr => ∃ k : Nat, k ≤ n ∧ i = .int .i64 k ∧ Drawn w wr) (fun i _ => n - (intOf i).toNat)
  case atStart => exact ⟨0, Nat.zero_le _, rfl, Drawn.refl _⟩
  case round =>
    obtain ⟨k, hk, rfl, hD⟩ := hrel
    by_cases hlt : k < n
    · obtain ⟨b1, o1, A1', c1', xs, rfl, hb1, hc1, hr1, hx⟩ := (h1.drawn hD).at_ (k := k) (by rw [L.out]; exact hlt)
      obtain ⟨b2, o2, A2', c2', ys, rfl, hb2, hc2, hr2, hy⟩ := (h2.drawn hD).at_ (k := k) (by rw [L.out]; exact hlt)
      obtain rfl : xs = ys := by have := hx.out.symm.trans hy.out; injection this
      have hxl := M2.out xs (List.mem_of_getElem? hx.out)
      have C := Lib.hid (fun wx (hd : Drawn wr wx) => nums_any A1' A2' xs.length xs.length c1' c2' xs xs wx B1 B2 (hr1.drawn hd) (hr2.drawn hd) rfl rfl hxl)
      have HY := Lib.hid (show decide (xs = xs) = true from decide_eq_true rfl)
      have hc1d : wr.drew.cell? ⟨b1, o1 + k, none⟩ = some (.slice A1' xs.length c1') := hc1
      have hc2d : wr.drew.cell? ⟨b2, o2 + k, none⟩ = some (.slice A2' xs.length c2') := hc2
      go_wp2
      go_still_tail 8, (by kernel_rfl)
      change wpList _ _ _ _ _ wr.drew
      go_wp2_with (go_at_call 24; refine (C.out _ (Drawn.refl _).drew).mono ?_; rw [HY.out]; rintro e w' ⟨rfl, hd⟩; have HD := Lib.hid hd; clear hd)
      go_roundw
      case rel => exact ⟨k + 1, by omega, by go_num, (hD.trans (Drawn.refl _).drew).trans HD.out⟩
      case measure => simp [intOf]; omega
    · go_wp2
      go_ret
      exact ⟨rfl, hD⟩
end Go.Proofs.Ythnopigibjmgbaa
