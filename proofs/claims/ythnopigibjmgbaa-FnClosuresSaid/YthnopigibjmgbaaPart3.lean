/- IsPartition and NormalPartition: the model's and the program's functions by one contract each. -/
import Derived.Test.YthnopigibjmgbaaProg
import Derived.WalkKit
import Derived.ProofKit
import Derived.BigQuiet
import Derived.Outline
import Derived.Test.YthnopigibjmgbaaMem
import Derived.Test.YthnopigibjmgbaaOwn
import Derived.Test.YthnopigibjmgbaaLawI
import Derived.Test.YthnopigibjmgbaaPartM
import Derived.Test.YthnopigibjmgbaaPart
import Derived.Test.YthnopigibjmgbaaPart2
namespace Go.Proofs.Ythnopigibjmgbaa
open Go.RowKit
/-- A list of numbers in a row of the call's own, and a code. -/
def RetI2 (w : World) (r : List Int × Int) (e : Ending) (w' : World) : Prop :=
  ∃ A n c, e = .returned (.tuple #[.slice A n c, .int .i64 r.2]) ∧ OwnV w' w.heap.size w'.heap.size 2 1 A n c (r.1.map (Value.int .i64)) ∧ Below w.heap.size w w'
theorem RetI2.nil {w w' : World} {code : Int} {r : List Int × Int} (hr : r = ([], code)) (hb : Below w.heap.size w w') : RetI2 w r (.returned (.tuple #[.slice none 0 0, .int .i64 code])) w' := by
  subst hr
  exact ⟨none, 0, 0, rfl, OwnV.mk' (World.ownsRow_nil _ _ _ _), hb⟩
theorem RetI2.mk' {w w' : World} {code : Int} {xs : List Int} {A : Option Addr} {n c : Nat} {r : List Int × Int} (hr : r = (xs, code)) (ho : w'.ownsRow w.heap.size 2 1 (.slice A n c) n (xs.map (Value.int .i64))) (hb : Below w.heap.size w w') : RetI2 w r (.returned (.tuple #[.slice A n c, .int .i64 code])) w' := by
  subst hr
  exact ⟨A, n, c, rfl, OwnV.mk' ho, hb⟩
def normPart (xs : List Int) : List Int × Int := if 1 ≤ xs.length ∧ xs.length ≤ 40 then (normL xs, 0) else ([], 2)
theorem normPart_yes {xs : List Int} (h1 : 1 ≤ xs.length) (h2 : xs.length ≤ 40) : normPart xs = (normL xs, 0) := by unfold normPart; rw [if_pos ⟨h1, h2⟩]
theorem normPart_no {xs : List Int} (h : ¬ (1 ≤ xs.length ∧ xs.length ≤ 40)) : normPart xs = ([], 2) := by unfold normPart; rw [if_neg h]
theorem normPart_len (xs : List Int) (h : xs.length ≤ 2000000) : (normPart xs).1.length ≤ 2000000 := by
  unfold normPart; split
  · rw [normL_length]; exact h
  · simp
theorem specIsPart_bel (A1 : Option Addr) (n1 c1 : Nat) (p : List Int) (w : World) (B1 : Nat) (h1 : IRow w B1 A1 p) (_ : B1 ≤ w.heap.size) (l1 : p.length = n1) (m1 : n1 ≤ 2000000) :
    Calls Try.prog 25 #[.slice A1 n1 c1] w fun e w' => e = .returned (.bool (partB p)) ∧ Below w.heap.size w w' :=
  (specIsPart_any A1 n1 c1 p w B1 h1 l1 m1).mono fun _ _ ⟨h, e⟩ => ⟨h, e ▸ Below.refl _ _⟩
set_option maxHeartbeats 1000000 in
theorem implIsPart_any (A : Option Addr) (n c : Nat) (p : List Int) (w : World) (B : Nat) (h : IRow w B A p) (hB : B ≤ w.heap.size) (l : p.length = n) (m : n ≤ 2000000) (hwf : ∀ x ∈ p, (Lit.int .i64 x).wf = true) :
    Calls Try.prog 27 #[.slice A n c] w fun e w' => e = .returned (.bool (partB p)) ∧ Below w.heap.size w w' := by
  have C := Lib.hid (fun wx (hb : Below w.heap.size w wx) => numberBlocks_any A n c p wx B (h.below (hb.mono hB)) (Nat.le_trans hB hb.size) l m hwf)
  have L := Lib.hid l
  clear l hwf
  by_cases hc : 1 ≤ n ∧ n ≤ 40
  · obtain ⟨hc1, hc2⟩ := hc
    have hc1' : 1 ≤ (n : Int) := by omega
    have hc2' : (n : Int) ≤ 40 := by omega
    have HR := Lib.hid (show partB p = decide (p = normL p) by
      unfold partB
      rw [L.out]
      by_cases e : normL p = p
      · rw [decide_eq_true (show _ from ⟨hc1, hc2, e⟩), decide_eq_true e.symm]
      · rw [decide_eq_false (fun h => e h.2.2), decide_eq_false (fun h => e h.symm)])
    go_enter Try.func27, Try.ntmps27
    go_wp2_with (first
      | (go_at_call 67; refine (itemCount_yes _ _ hc1' hc2').mono ?_; rintro e w' ⟨rfl, rfl⟩)
      | (go_at_call 69; refine (C.out _ (Below.refl _ _)).mono ?_; rintro e w1 ⟨rfl, ho, hb⟩)
      | (go_at_call 68; refine (slicesEqI_any _ _ _ _ _ _ p (normL p) _ B w1.heap.size (h.below (hb.mono hB)) (Row.of_own ho) L.out (by rw [normL_length]; exact L.out) m).mono ?_; rintro e w2 ⟨rfl, hD⟩))
    go_ret
    exact ⟨ret_bool HR.out.symm, hb.trans (hD.below _)⟩
  · have hc' : (n : Int) < 1 ∨ 40 < (n : Int) := by omega
    have HR := Lib.hid (show partB p = false from partB_no fun h => hc (by rw [L.out] at h; exact ⟨h.1, h.2.1⟩))
    clear hc
    go_enter Try.func27, Try.ntmps27
    go_wp2_with (go_at_call 67; refine (itemCount_no _ _ hc').mono ?_; rintro e w' ⟨rfl, rfl⟩)
    go_ret
    exact ⟨ret_bool HR.out.symm, Below.refl _ _⟩
set_option maxHeartbeats 1000000 in
theorem implNorm_any (A : Option Addr) (n c : Nat) (p : List Int) (w : World) (B : Nat) (h : IRow w B A p) (hB : B ≤ w.heap.size) (l : p.length = n) (m : n ≤ 2000000) (hwf : ∀ x ∈ p, (Lit.int .i64 x).wf = true) :
    Calls Try.prog 30 #[.slice A n c] w fun e w' => RetI2 w (normPart p) e w' := by
  have C := Lib.hid (fun wx (hb : Below w.heap.size w wx) => numberBlocks_any A n c p wx B (h.below (hb.mono hB)) (Nat.le_trans hB hb.size) l m hwf)
  have L := Lib.hid l
  clear l hwf
  by_cases hc : 1 ≤ n ∧ n ≤ 40
  · obtain ⟨hc1, hc2⟩ := hc
    have hc1' : 1 ≤ (n : Int) := by omega
    have hc2' : (n : Int) ≤ 40 := by omega
    have HR := Lib.hid (normPart_yes (xs := p) (by rw [L.out]; exact hc1) (by rw [L.out]; exact hc2))
    go_enter Try.func30, Try.ntmps30
    go_wp2_with (first
      | (go_at_call 67; refine (itemCount_yes _ _ hc1' hc2').mono ?_; rintro e w' ⟨rfl, rfl⟩)
      | (go_at_call 69; refine (C.out _ (Below.refl _ _)).mono ?_; rintro e w1 ⟨rfl, ho, hb⟩))
    go_ret2
    exact RetI2.mk' HR.out ho hb
  · have hc' : (n : Int) < 1 ∨ 40 < (n : Int) := by omega
    have HR := Lib.hid (normPart_no (xs := p) (by rw [L.out]; exact hc))
    clear hc
    go_enter Try.func30, Try.ntmps30
    go_wp2_with (go_at_call 67; refine (itemCount_no _ _ hc').mono ?_; rintro e w' ⟨rfl, rfl⟩)
    go_ret2
    exact RetI2.nil HR.out (Below.refl _ _)
set_option maxHeartbeats 1000000 in
theorem specNorm_any (A : Option Addr) (n c : Nat) (p : List Int) (w : World) (B : Nat) (h : IRow w B A p) (hB : B ≤ w.heap.size) (l : p.length = n) (m : n ≤ 2000000) :
    Calls Try.prog 29 #[.slice A n c] w fun e w' => RetI2 w (normPart p) e w' := by
  have C := Lib.hid (l02Norm_any A n c p w B h hB l m)
  have L := Lib.hid l
  clear l
  by_cases hc : n < 1
  · have hc1' : (n : Int) < 1 := by omega
    have HR := Lib.hid (normPart_no (xs := p) (by rw [L.out]; omega))
    go_enter Try.func29, Try.ntmps29
    go_wp2
    go_ret2
    exact RetI2.nil HR.out (Below.refl _ _)
  have hc1' : ¬ (n : Int) < 1 := by omega
  by_cases hc2 : 40 < n
  · have hc2' : (40 : Int) < (n : Int) := by omega
    have HR := Lib.hid (normPart_no (xs := p) (by rw [L.out]; omega))
    go_enter Try.func29, Try.ntmps29
    go_wp2
    go_ret2
    exact RetI2.nil HR.out (Below.refl _ _)
  have hc2' : ¬ (40 : Int) < (n : Int) := by omega
  have HR := Lib.hid (normPart_yes (xs := p) (by rw [L.out]; omega) (by rw [L.out]; omega))
  go_enter Try.func29, Try.ntmps29
  go_wp2_with (go_at_call 70; refine (C.out).mono ?_; rintro e w1 ⟨rfl, ho, hb⟩)
  go_ret2
  exact RetI2.mk' HR.out ho hb
end Go.Proofs.Ythnopigibjmgbaa
