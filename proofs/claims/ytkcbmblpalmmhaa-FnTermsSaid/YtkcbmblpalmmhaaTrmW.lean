/- The law of terms: what it draws. -/
import Derived.Test.YtkcbmblpalmmhaaProg
import Derived.WalkKit
import Derived.ProofKit
import Derived.OwnWalk
import Derived.BigQuiet
import Derived.Outline
import Derived.Lib.Hide
import Derived.Test.YtkcbmblpalmmhaaMem
import Derived.Test.YtkcbmblpalmmhaaOwn
import Derived.Test.YtkcbmblpalmmhaaTmM
import Derived.Test.YtkcbmblpalmmhaaTmW
import Derived.Test.YtkcbmblpalmmhaaRet
import Derived.Test.YtkcbmblpalmmhaaExM
import Derived.Test.YtkcbmblpalmmhaaEvM
import Derived.Test.YtkcbmblpalmmhaaFoN
import Derived.Test.YtkcbmblpalmmhaaVarM
import Derived.Test.YtkcbmblpalmmhaaVarW
import Derived.Test.YtkcbmblpalmmhaaSrcB
import Derived.Test.YtkcbmblpalmmhaaDrawX
namespace Go.Proofs.Ytkcbmblpalmmhaa
open Go.RowKit
set_option maxRecDepth 100000 in
set_option maxHeartbeats 2000000 in
theorem r8Terms_any (A : Option Addr) (n c : Nat) (xs : List Int) (w : World) (hx : BRow w w.heap.size A xs) (l : xs.length = n) (m : n ≤ 1048576) (hb : ∀ u ∈ xs, 0 ≤ u ∧ u ≤ 255) :
    Calls Try.prog 10 #[.slice A n c] w fun e w' => ∃ (x y : Ex) (A1 : Option Addr) (n1 c1 : Nat) (A2 : Option Addr) (n2 c2 : Nat), x.ok 3 ∧ y.ok 3 ∧ x.flat.length ≤ 60 ∧ y.flat.length ≤ 60 ∧ e = .returned (.tuple #[.slice A1 n1 c1, .slice A2 n2 c2]) ∧
      w'.ownsRow w.heap.size 68 2 (.slice A1 n1 c1) n1 (tvs x.flat) ∧ w'.ownsRow w.heap.size 68 2 (.slice A2 n2 c2) n2 (tvs y.flat) ∧ Below w.heap.size w w' := by
  have L := Lib.hid l
  have HBB := Lib.hid hb
  clear l hb
  go_enter Try.func10, Try.ntmps10
  go_wp2_with fail
  refine (from_any A n c w).mono ?_; rintro e w0 ⟨rfl, hs0, hb0⟩
  have HS0 := Lib.hid hs0
  have HB0 := Lib.hid hb0
  have hz0 := hs0.lt
  clear hs0 hb0
  go_wp2_with fail
  refine (pick_any 6 w.heap.size w.heap.size A n c 0 xs w0 w.heap.size HS0.out (hx.below HB0.out) (Nat.le_refl _) L.out m (by omega) HBB.out (by omega) (by omega)).mono ?_; rintro e w1 ⟨k1, hk1, x1, hx1, rfl, hs1, hg1⟩
  have HB1 := Lib.hid (HB0.out.grown hg1 (by omega) (fun g e => by cases e; exact Nat.le_refl _))
  have hz1 := hg1.size
  have HS1 := Lib.hid hs1
  have HQ1 := Lib.hid (show (2 : Int) + (x1 : Int) = ((2 + x1 : Nat) : Int) by omega)
  clear hs1 hg1
  go_wp2_with fail
  rw [HQ1.out]
  refine (drawEx_any w.heap.size w.heap.size A n c xs w.heap.size (Nat.le_refl _) L.out m HBB.out (2 + x1) k1 w1 (by omega) (by omega) HS1.out (hx.below HB1.out)).mono ?_; rintro e w2 ⟨x2, k2, A2, n2, c2, hok2, hl2, hk2, rfl, ho2, hs2, hg2⟩
  have HB2 := Lib.hid (HB1.out.grown hg2 (by omega) (fun g e => by cases e; exact Nat.le_refl _))
  have hz2 := hg2.size
  have HS2 := Lib.hid hs2
  have HO2 := Lib.hid ho2
  have HOK2 := Lib.hid hok2
  clear hs2 hg2 ho2 hok2
  go_wp2_with fail
  refine (pick_any 4 w.heap.size w.heap.size A n c k2 xs w2 w.heap.size HS2.out (hx.below HB2.out) (Nat.le_refl _) L.out m (by omega) HBB.out (by omega) (by omega)).mono ?_; rintro e w3 ⟨k3, hk3, x3, hx3, rfl, hs3, hg3⟩
  have HB3 := Lib.hid (HB2.out.grown hg3 (by omega) (fun g e => by cases e; exact Nat.le_refl _))
  have hz3 := hg3.size
  have HS3 := Lib.hid hs3
  have HO3 := Lib.hid (own_kept HO2.out hg3 (by omega))
  clear hs3 hg3
  go_wp2_with fail
  refine (drawEx_any w.heap.size w.heap.size A n c xs w.heap.size (Nat.le_refl _) L.out m HBB.out x3 k3 w3 (by omega) (by omega) HS3.out (hx.below HB3.out)).mono ?_; rintro e w4 ⟨x4, k4, A4, n4, c4, hok4, hl4, hk4, rfl, ho4, hs4, hg4⟩
  have HB4 := Lib.hid (HB3.out.grown hg4 (by omega) (fun g e => by cases e; exact Nat.le_refl _))
  have HO4 := Lib.hid (own_lower (own_kept HO3.out hg4 (by omega)) (show w.heap.size ≤ w1.heap.size by omega))
  have HO5 := Lib.hid (own_lower ho4 (show w.heap.size ≤ w3.heap.size by omega))
  have HOK4 := Lib.hid hok4
  clear hs4 hg4 ho4 hok4
  go_wp2
  go_ret2
  exact ⟨x2, x4, A2, n2, c2, A4, n4, c4, HOK2.out, HOK4.out, by omega, by omega, rfl, HO4.out, HO5.out, HB4.out⟩
theorem data_snoc {vals : List Int} {v : Int} (h : dataB vals = true) (hv : 0 ≤ v ∧ v ≤ 63) : dataB (vals ++ [v]) = true := by
  refine dataB_all fun u hu => ?_
  rcases List.mem_append.1 hu with h1 | h1
  · obtain ⟨i, hi⟩ := List.getElem?_of_mem h1
    exact dataB_at h hi
  · rw [List.mem_singleton] at h1; subst h1; exact hv
set_option maxRecDepth 100000 in
set_option maxHeartbeats 4000000 in
theorem r8Values_any (A : Option Addr) (n c : Nat) (xs : List Int) (w : World) (hx : BRow w w.heap.size A xs) (l : xs.length = n) (m : n ≤ 1048576) (hb : ∀ u ∈ xs, 0 ≤ u ∧ u ≤ 255) :
    Calls Try.prog 11 #[.slice A n c] w fun e w' => ∃ (vals : List Int), vals.length = 3 ∧ dataB vals = true ∧ RetN1 w vals e w' := by
  have L := Lib.hid l
  have HBB := Lib.hid hb
  clear l hb
  go_enter Try.func11, Try.ntmps11
  go_wp2_with fail
  refine (from_any A n c w).mono ?_; rintro e w0 ⟨rfl, hs0, hb0⟩
  have hz0 := hs0.lt
  have HS0 := Lib.hid (hs0.alloc (.cells #[] 2))
  have HB0 := Lib.hid (hb0.alloc (by omega) (.cells #[] 2))
  have HM0 := Lib.hid (show (w0.alloc (.cells #[] 2)).ownsRow w0.heap.size 2 1 (.slice (some ⟨w0.heap.size, 0, none⟩) 0 0) 0 (([] : List Int).map (Value.int .i64)) from World.ownsRow_made (e := 2) (size := 1) w0 #[] 0 (Nat.le_refl _) (Nat.zero_le _) rfl)
  clear hs0 hb0
  go_wp2
  go_loopw [4, 5] (fun v i wr => ∃ (t k : Nat) (vals : List Int) (A' : Option Addr) (c' : Nat), t ≤ 3 ∧ i = .int .i64 (t : Int) ∧ v = .slice A' t c' ∧ vals.length = t ∧ k ≤ 2 * t ∧ w0.heap.size ≤ wr.heap.size ∧ dataB vals = true ∧ Hid (wr.ownsRow w0.heap.size 2 1 (.slice A' t c') t (vals.map (Value.int .i64))) ∧ Hid (Src wr w.heap.size w.heap.size A n c k) ∧ Hid (Below w.heap.size w wr)) (fun _ i _ => 3 - (intOf i).toNat)
  case atStart => exact ⟨0, 0, [], some ⟨w0.heap.size, 0, none⟩, 0, by omega, rfl, rfl, rfl, by omega, by simp, rfl, HM0, HS0, HB0⟩
  case round =>
    obtain ⟨t, k, vals, A', c', ht, rfl, rfl, hvl, hk, hw0r', hd, HO, HS, HB⟩ := hrel
    have hslt := HS.out.lt
    have hws := HB.out.size
    by_cases hlt : t < 3
    · have hlt' : (t : Int) < 3 := by omega
      have C := Lib.hid (pick_any 64 w.heap.size w.heap.size A n c k xs wr w.heap.size HS.out (hx.below HB.out) (Nat.le_refl _) L.out m (by omega) HBB.out (by omega) (by omega))
      have HD := Lib.hid hd
      have HVL := Lib.hid hvl
      have hw0r : w.heap.size < w0.heap.size := by omega
      clear hd hvl
      go_wp2_with fail
      refine (C.out).mono ?_; rintro e w1 ⟨k1, hk1, x1, hx1, rfl, hs1, hg1⟩
      have hz1 := hg1.size
      have HLR := Lib.hid (lit_row w1 [0, 1, 2, (x1 : Int), 63] 2)
      have HS1 := Lib.hid (hs1.alloc (.cells #[.int .i64 0, .int .i64 1, .int .i64 2, .int .i64 (x1 : Int), .int .i64 63] 2))
      have HB1 := Lib.hid ((HB.out.grown hg1 (by omega) (fun g e => by cases e; exact Nat.le_refl _)).alloc (by omega) (.cells #[.int .i64 0, .int .i64 1, .int .i64 2, .int .i64 (x1 : Int), .int .i64 63] 2))
      have HO1 := Lib.hid ((own_kept HO.out hg1 hw0r).alloc (.cells #[.int .i64 0, .int .i64 1, .int .i64 2, .int .i64 (x1 : Int), .int .i64 63] 2))
      have hz2 : (w1.alloc (.cells #[.int .i64 0, .int .i64 1, .int .i64 2, .int .i64 (x1 : Int), .int .i64 63] 2)).heap.size = w1.heap.size + 1 := by simp
      clear hs1 hg1
      have C2 := Lib.hid (among_any w.heap.size w.heap.size A n c k1 xs _ w.heap.size HS1.out (hx.below HB1.out) (Nat.le_refl _) L.out m (by omega) HBB.out (some ⟨w1.heap.size, 0, none⟩) 5 5 [0, 1, 2, (x1 : Int), 63] (w1.heap.size + 1) HLR.out (by omega) (fun b o e => by injection e with e; injection e with e1 e2; omega) rfl (by omega) (by omega))
      go_wp2_with fail
      refine (C2.out).mono ?_; rintro e w3 ⟨k3, v3, hk3, hv3, rfl, hs3, hg3⟩
      have hz3 := hg3.size
      have hv63 : 0 ≤ v3 ∧ v3 ≤ 63 := by simp at hv3; omega
      have HS3 := Lib.hid (hs3.alloc (.cells #[.int .i64 v3] 2))
      have HB3 := Lib.hid ((HB1.out.grown hg3 (by omega) (fun g e => by cases e; exact Nat.le_refl _)).alloc (by omega) (.cells #[.int .i64 v3] 2))
      have HO3 := Lib.hid ((own_kept HO1.out hg3 hw0r).alloc (.cells #[.int .i64 v3] 2))
      have HD3 := Lib.hid (data_snoc HD.out hv63)
      have HVL3 := Lib.hid (show (vals ++ [v3]).length = t + 1 by rw [List.length_append, HVL.out]; rfl)
      clear hs3 hg3 hv3
      go_wp2_with (at_builtin; refine wpList_append_i rfl _ _ rfl _ w0.heap.size (.slice A' t c') t vals rfl (by exact HO3.out) w3.heap.size 1 v3 rfl (by exact cell_one1 _ _ _) (by omega) (by simp; omega) ?_; intro A7 c7 w7 ho hg; have HO7 := Lib.hid ho; have HS7 := Lib.hid (HS3.out.other hg (fun g e => by have := (HO3.out.lt g e).1; omega)); have HB7 := Lib.hid (HB3.out.grown hg (by simp; omega) (fun g e => by have := (HO3.out.lt g e).1; omega)); have hz7 := hg.size; have hz8 : w0.heap.size ≤ w7.heap.size := (by simp at hz7; omega); clear ho hg hz7)
      go_roundw
      case rel => exact ⟨t + 1, k3, vals ++ [v3], A7, c7, by omega, by first | rfl | go_num, rfl, HVL3.out, by omega, hz8, HD3.out, HO7, HS7, HB7⟩
      case measure => simp [intOf] <;> omega
    · obtain rfl : t = 3 := by omega
      have HO4 := Lib.hid (own_lower HO.out (show w.heap.size ≤ w0.heap.size by omega))
      have HV := Lib.hid (show vals.length = 3 ∧ dataB vals = true from ⟨hvl, hd⟩)
      clear hvl hd
      go_wp2
      go_ret
      exact ⟨vals, HV.out.1, HV.out.2, A', 3, c', rfl, HO4.out, HB.out⟩
theorem r8Long_no (A1 A2 : Option Addr) (n1 c1 n2 c2 : Nat) (w : World) (h1 : n1 ≤ 1048576) (h2 : n2 ≤ 1048576) :
    Calls Try.prog 9 #[.slice A1 n1 c1, .slice A2 n2 c2] w fun e w' => e = .returned (.bool false) ∧ w = w' := by
  have e1 : ¬ (1048576 : Int) < (n1 : Int) := by omega
  have e2 : ¬ (1048576 : Int) < (n2 : Int) := by omega
  go_enter Try.func9, Try.ntmps9
  go_wp2
  go_ret
  exact ⟨rfl, rfl⟩
theorem r8Long_yes (A1 A2 : Option Addr) (n1 c1 n2 c2 : Nat) (w : World) (h : 1048576 < n1 ∨ 1048576 < n2) :
    Calls Try.prog 9 #[.slice A1 n1 c1, .slice A2 n2 c2] w fun e w' => e = .returned (.bool true) ∧ w = w' := by
  by_cases h1 : 1048576 < n1
  · have e1 : (1048576 : Int) < (n1 : Int) := by omega
    go_enter Try.func9, Try.ntmps9
    go_wp2
    go_ret
    exact ⟨rfl, rfl⟩
  · have e1 : ¬ (1048576 : Int) < (n1 : Int) := by omega
    have e2 : (1048576 : Int) < (n2 : Int) := by omega
    go_enter Try.func9, Try.ntmps9
    go_wp2
    go_ret
    exact ⟨rfl, rfl⟩
set_option maxHeartbeats 1000000 in
theorem r8At_any (A : Option Addr) (n c : Nat) (xs : List Int) (w : World) (B : Nat) (hx : BRow w B A xs) (hB : B ≤ w.heap.size) (l : xs.length = n) (hb : ∀ u ∈ xs, 0 ≤ u ∧ u ≤ 255) :
    Calls Try.prog 15 #[.slice A n c, .int .i64 9, .int .i64 3] w fun e w' => ∃ k : Nat, k < 3 ∧ e = .returned (.int .i64 (k : Int)) ∧ w = w' := by
  by_cases h9 : n ≤ 9
  · have e1 : (n : Int) ≤ 9 := by omega
    go_enter Try.func15, Try.ntmps15
    go_wp2
    go_ret
    exact ⟨0, by omega, rfl, rfl⟩
  · have e1 : ¬ (n : Int) ≤ 9 := by omega
    obtain ⟨b, o, u, rfl, hbB, hc, hu⟩ := hx.at_ (k := 9) (by omega)
    obtain ⟨u0, u1⟩ := hb u (List.mem_of_getElem? hu.out)
    have hbw : b < w.heap.size := by omega
    have h9' : 9 < n := by omega
    have HU := Lib.hid (show 0 ≤ u ∧ u ≤ 255 from ⟨u0, u1⟩)
    clear l hb hx
    go_enter Try.func15, Try.ntmps15
    go_wp2
    go_ret
    exact ⟨(u % 3).toNat, by omega, by rw [show (((u % 3).toNat : Nat) : Int) = u % 3 by omega]; rfl, rfl⟩
end Go.Proofs.Ytkcbmblpalmmhaa
