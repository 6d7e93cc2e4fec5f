/- How the laws' own helpers answer on records: how much they hold, a copy, comparing. -/
import Derived.Test.YtbailpfjgjcbdaaGreatDoorProg
import Derived.WalkKit
import Derived.ProofKit
import Derived.BigQuiet
import Derived.StillTailTactics
import Derived.OwnWalk
import Derived.Outline
import Derived.Test.YtbailpfjgjcbdaaGreatDoorLow
namespace Go.Proofs.YtbailpfjgjcbdaaGreatDoor
open Go.RowKit
theorem infoDInt64 : (Tryz.prog.info? 2).map (fun i => (i.zero, i.size, i.bytes)) = some (some (.int .i64 0), 1, 8) := by kernel_rfl
set_option maxHeartbeats 2000000 in
theorem toOInt64S_any (A : Option Addr) (n c : Nat) (xs : List (Int)) (w : World) (S : Nat → Prop) (h : LRow intR w S A xs) (hS : ∀ b, S b → b < w.heap.size) (l : xs.length = n) (m : okList okAny xs) :
    Calls Tryz.prog 10 #[.slice A n c] w (MadeLO intO 2 xs w) := by
  obtain ⟨i0, hi, hz0, hz1, hz2⟩ := info_parts infoDInt64
  have hn : n ≤ 1048576 := by have := m.1; omega
  have L := Lib.hid l
  have M := Lib.hid m.2
  clear l m
  go_enter Tryz.func10, Tryz.ntmps10
  go_wp2_with (at_make; refine wpList_make_full _ rfl _ _ _ rfl w.heap.size 2 i0 (.int .i64 0) 1 Tryz.underlying26 hi hz0 hz1 .i64 .i64 _ _ n rfl rfl rfl rfl (by rw [hz2]; omega) (by unfold maxLen; omega) (Nat.le_refl _) ?_; intro w1 hown1 hg1)
  have H0 := Lib.hid (show w1.ownsRow w.heap.size 2 1 (.slice (some ⟨w.heap.size, 0, none⟩) n n) n ([] ++ (madeCells #[.int .i64 0] ((n - 0) * 1)).toList) from hown1)
  have hb1 := Lib.hid (show Below w.heap.size w w1 from (Below.refl _ _).grown hg1 (Nat.le_refl _) (by simp))
  clear hown1 hg1 hi hz0 hz1 hz2
  go_loopw [4] (fun i wr => ∃ (k : Nat) (vs : List Value), k ≤ n ∧ i = .int .i64 k ∧ Hid (vs.length = k * 1) ∧ Hid (MadeO intO wr w.heap.size k vs xs) ∧ Hid (Below w.heap.size w wr) ∧ Hid (wr.ownsRow w.heap.size 2 1 (.slice (some ⟨w.heap.size, 0, none⟩) n n) n (vs ++ (madeCells #[.int .i64 0] ((n - k) * 1)).toList))) (fun i _ => n - (intOf i).toNat)
  case atStart => exact ⟨0, [], Nat.zero_le _, rfl, Lib.hid (by simp), Lib.hid (MadeO.zero _ _ _ _ _), hb1, H0⟩
  case round =>
    obtain ⟨k, vs, hk, rfl, HV, HE, HB, HO⟩ := hrel
    clear H0 hb1
    by_cases hlt : k < n
    · obtain ⟨b, o, cs, x, rfl, hbS, hR, hx, hc⟩ := (h.keep (SameOn.of_below HB.out hS)).at_ (k := k) (by rw [L.out]; exact hlt)
      have hbw0 := hS b hbS
      have hM := M.out x (List.mem_of_getElem? hx.out)
      have hws : w.heap.size + 1 ≤ wr.heap.size := by
        have := (HO.out.lt _ rfl).2
        exact this
      obtain rfl := hR
      have hc0 : wr.cell? ⟨b, o + k, none⟩ = some (.int .i64 x) := (by have := hc 0 _ rfl; simpa [intR] using this)
      clear hc
      have b2 : Below wr.heap.size wr wr := Below.refl _ _
      obtain ⟨⟨old0, hx0⟩, hf0⟩ := own_some (own_below' HO.out b2) (k := k) (by omega)
      have HR := Lib.hid (show (intO).O wr (In wr.heap.size wr.heap.size) x [.int .i64 x] from rfl)
      have HO2 := Lib.hid HO.out
      have B2 := Lib.hid b2
      clear b2 hM h
      go_wp2
      go_roundw
      case rel =>
        have st0 := HO2.out.stored (k) (.int .i64 x)
        obtain ⟨ml, me⟩ := madeO_step intO (lo := w.heap.size) HV.out HR.out hx.out HE.out B2.out hws st0.2
        refine ⟨k + 1, _, by omega, by go_num, Lib.hid ml, Lib.hid me, Lib.hid ((HB.out.trans (B2.out.mono (by omega))).setCell (Nat.le_refl _) _), Lib.hid ?_⟩
        have e := set_next (F := 1) (z := #[.int .i64 0]) (n := n) HV.out rfl ((intR).len ((intO).rd HR.out)) hlt
        rw [← e]
        simpa [setAll] using st0.1
      case measure => simp [intOf]; omega
    · obtain rfl : k = n := by omega
      have hown := HO.out
      have e0 : (madeCells #[.int .i64 0] ((k - k) * 1)).toList = [] := by simp [madeCells]
      rw [e0, List.append_nil] at hown
      have HD := Lib.hid (madeO_done intO L.out hown HE.out)
      have HLN := Lib.hid (show (.returned (.slice (some ⟨w.heap.size, 0, none⟩) k k) : Ending) = .returned (.slice (some ⟨w.heap.size, 0, none⟩) xs.length xs.length) by rw [L.out])
      clear hown e0
      go_wp2
      go_ret
      exact ⟨HLN.out, (by have h1 := HD.out; rw [← L.out] at h1; exact h1), HB.out⟩
theorem toDInt64S_any (A : Option Addr) (n c : Nat) (xs : List (Int)) (w : World) (S : Nat → Prop) (h : LRow intR w S A xs) (hS : ∀ b, S b → b < w.heap.size) (l : xs.length = n) (m : okList okAny xs) :
    Calls Tryz.prog 10 #[.slice A n c] w (MadeL intR xs w) :=
  (toOInt64S_any A n c xs w S h hS l m).mono fun _ _ h => h.weak
set_option maxRecDepth 100000 in
set_option maxHeartbeats 1000000 in
theorem eqDInt64S_yes (A1 A2 : Option Addr) (n1 n2 c1 c2 : Nat) (xs : List (Int)) (w : World) (S1 S2 : Nat → Prop) (h1 : LRow intR w S1 A1 xs) (h2 : LRow intR w S2 A2 xs) (hS1 : ∀ b, S1 b → b < w.heap.size) (hS2 : ∀ b, S2 b → b < w.heap.size) (l1 : xs.length = n1) (l2 : xs.length = n2) (m : okList okAny xs) :
    Calls Tryz.prog 12 #[.slice A1 n1 c1, .slice A2 n2 c2] w fun e w' => e = .returned (.bool true) ∧ Below w.heap.size w w' := by
  obtain rfl : n1 = n2 := l1.symm.trans l2
  have hn : n1 ≤ 1048576 := by have := m.1; omega
  have L1 := Lib.hid l1
  have M := Lib.hid m.2
  clear l1 l2 m
  go_enter Tryz.func12, Tryz.ntmps12
  go_wp2
  go_loopw [5] (fun i wr => ∃ k : Nat, k ≤ n1 ∧ i = .int .i64 k ∧ Hid (Below w.heap.size w wr)) (fun i _ => n1 - (intOf i).toNat)
  case atStart => exact ⟨0, Nat.zero_le _, rfl, Lib.hid (Below.refl _ _)⟩
  case round =>
    obtain ⟨k, hk1, rfl, HB⟩ := hrel
    by_cases hlt1 : k < n1
    · obtain ⟨b1, o1, cs1, x, rfl, hb1, hR1, hx, hc1⟩ := (h1.keep (SameOn.of_below HB.out hS1)).at_ (k := k) (by rw [L1.out]; exact hlt1)
      obtain ⟨b2, o2, cs2, y, rfl, hb2, hR2, hy, hc2⟩ := (h2.keep (SameOn.of_below HB.out hS2)).at_ (k := k) (by rw [L1.out]; exact hlt1)
      obtain rfl : x = y := by have := hx.out.symm.trans hy.out; injection this
      have hM := M.out x (List.mem_of_getElem? hx.out)
      have hws := HB.out.size
      obtain rfl := hR1
      obtain rfl := hR2
      have p0 : wr.cell? ⟨b1, o1 + k, none⟩ = some (.int .i64 x) := (by have := hc1 0 _ rfl; simpa [intR] using this)
      have q0 : wr.cell? ⟨b2, o2 + k, none⟩ = some (.int .i64 x) := (by have := hc2 0 _ rfl; simpa [intR] using this)
      clear hc1 hc2
      have hne : (x != x) = false := by simp
      have HD := Lib.hid (fun n => (HB.out).trans (below_drewN wr w.heap.size n))
      clear hM
      go_wp2
      go_quiet (fail)
      go_wp2
      go_roundw
      case rel => exact ⟨k + 1, by omega, by go_num, Lib.hid (by first | exact HD.out _ | exact HB.out)⟩
      case measure => simp [intOf]; omega
    · go_wp2
      go_ret
      exact ⟨rfl, HB.out⟩
set_option maxHeartbeats 1000000 in
theorem szDStringS_any (A : Option Addr) (n c : Nat) (xs : List (ByteArray)) (left : Int) (w : World) (S : Nat → Prop) (h : LRow txtR w S A xs) (hS : ∀ b, S b → b < w.heap.size) (l : xs.length = n) (h1 : n ≤ maxLen) (h2 : 0 ≤ left) (h3 : left ≤ 1048576) :
    Calls Tryz.prog 17 #[.slice A n c, .int .i64 left] w (SzRet (okList okTx xs) (wL wtZ xs) left w) := by
  unfold maxLen at h1
  have L := Lib.hid l
  clear l
  by_cases hn : left - n < 0
  · go_enter Tryz.func17, Tryz.ntmps17
    go_wp2
    go_ret
    exact SzRet.no (Below.refl _ _)
  go_enter Tryz.func17, Tryz.ntmps17
  go_wp2
  go_loopw [1, 5] (fun x i wr => ∃ (k : Nat) (r : Int), k ≤ n ∧ i = .int .i64 k ∧ x = .int .i64 r ∧ 0 ≤ r ∧ r + (sW wtZ (xs.take k) : Nat) ≤ left - n ∧ Hid (Below w.heap.size w wr) ∧ Hid (∀ j y, j < k → xs[j]? = some y → okTx y)) (fun _ i _ => n - (intOf i).toNat)
  case atStart => exact ⟨0, left - n, Nat.zero_le _, rfl, rfl, by omega, by simp [sW], Lib.hid (Below.refl _ _), Lib.hid (fun j y hj => by omega)⟩
  case round =>
    obtain ⟨k, r, hk, rfl, rfl, hr0, hr1, HB, HE⟩ := hrel
    by_cases hlt : k < n
    · obtain ⟨b, o, cs, x, rfl, hbS, hR, hx, hc⟩ := (h.keep (SameOn.of_below HB.out hS)).at_ (k := k) (by rw [L.out]; exact hlt)
      have HSW := Lib.hid (sW_succ (f := wtZ) hx.out)
      have hws := HB.out.size
      have hbw : b < wr.heap.size := Nat.lt_of_lt_of_le (hS b hbS) hws
      obtain ⟨rfl, hz'0⟩ := hR
      have hc0 : wr.cell? ⟨b, o + k, none⟩ = some (.string x) := (by have := hc 0 _ rfl; simpa [txtR] using this)
      clear hc
      unfold maxLen at hz'0
      by_cases hs : r - (x.size : Int) < 0
      · go_wp2
        go_ret
        exact SzRet.no HB.out
      · have HOK := Lib.hid (show okTx x from (show x.size ≤ 1048576 by omega))
        have HE2 := Lib.hid (show ∀ j y, j < k + 1 → xs[j]? = some y → okTx y from fun j y hj hy => by
          by_cases e : j = k
          · subst e
            obtain rfl : y = x := by have := hy.symm.trans hx.out; injection this
            exact HOK.out
          · exact HE.out j y (by omega) hy)
        go_wp2
        go_roundw
        case rel => exact ⟨k + 1, _, by omega, by go_num, rfl, by omega, (by have h1 := HSW.out; (try simp only [wtZ] at h1); omega), HB, HE2⟩
        case measure => simp [intOf]; omega
    · have HA := Lib.hid (show okList okTx xs from ⟨by rw [L.out]; omega, fun y hy => by
        obtain ⟨j, hj⟩ := List.getElem?_of_mem hy
        have hjl := (List.getElem?_eq_some_iff.1 hj).1
        rw [L.out] at hjl
        exact HE.out j y (by omega) hj⟩)
      have HWL := Lib.hid (wL_full (f := wtZ) L.out (k := k) (by omega))
      go_wp2
      go_ret
      exact SzRet.yes hr0 (by have h1 := HWL.out; omega) HA.out HB.out
theorem infoDString : (Tryz.prog.info? 9).map (fun i => (i.zero, i.size, i.bytes)) = some (some (.string ⟨#[]⟩), 1, 16) := by kernel_rfl
set_option maxHeartbeats 2000000 in
theorem toOStringS_any (A : Option Addr) (n c : Nat) (xs : List (ByteArray)) (w : World) (S : Nat → Prop) (h : LRow txtR w S A xs) (hS : ∀ b, S b → b < w.heap.size) (l : xs.length = n) (m : okList okTx xs) :
    Calls Tryz.prog 19 #[.slice A n c] w (MadeLO txtO 9 xs w) := by
  obtain ⟨i0, hi, hz0, hz1, hz2⟩ := info_parts infoDString
  have hn : n ≤ 1048576 := by have := m.1; omega
  have L := Lib.hid l
  have M := Lib.hid m.2
  clear l m
  go_enter Tryz.func19, Tryz.ntmps19
  go_wp2_with (at_make; refine wpList_make_full _ rfl _ _ _ rfl w.heap.size 9 i0 (.string ⟨#[]⟩) 1 Tryz.underlying22 hi hz0 hz1 .i64 .i64 _ _ n rfl rfl rfl rfl (by rw [hz2]; omega) (by unfold maxLen; omega) (Nat.le_refl _) ?_; intro w1 hown1 hg1)
  have H0 := Lib.hid (show w1.ownsRow w.heap.size 9 1 (.slice (some ⟨w.heap.size, 0, none⟩) n n) n ([] ++ (madeCells #[.string ⟨#[]⟩] ((n - 0) * 1)).toList) from hown1)
  have hb1 := Lib.hid (show Below w.heap.size w w1 from (Below.refl _ _).grown hg1 (Nat.le_refl _) (by simp))
  clear hown1 hg1 hi hz0 hz1 hz2
  go_loopw [4] (fun i wr => ∃ (k : Nat) (vs : List Value), k ≤ n ∧ i = .int .i64 k ∧ Hid (vs.length = k * 1) ∧ Hid (MadeO txtO wr w.heap.size k vs xs) ∧ Hid (Below w.heap.size w wr) ∧ Hid (wr.ownsRow w.heap.size 9 1 (.slice (some ⟨w.heap.size, 0, none⟩) n n) n (vs ++ (madeCells #[.string ⟨#[]⟩] ((n - k) * 1)).toList))) (fun i _ => n - (intOf i).toNat)
  case atStart => exact ⟨0, [], Nat.zero_le _, rfl, Lib.hid (by simp), Lib.hid (MadeO.zero _ _ _ _ _), hb1, H0⟩
  case round =>
    obtain ⟨k, vs, hk, rfl, HV, HE, HB, HO⟩ := hrel
    clear H0 hb1
    by_cases hlt : k < n
    · obtain ⟨b, o, cs, x, rfl, hbS, hR, hx, hc⟩ := (h.keep (SameOn.of_below HB.out hS)).at_ (k := k) (by rw [L.out]; exact hlt)
      have hbw0 := hS b hbS
      have hM := M.out x (List.mem_of_getElem? hx.out)
      have hws : w.heap.size + 1 ≤ wr.heap.size := by
        have := (HO.out.lt _ rfl).2
        exact this
      obtain ⟨rfl, hz'0⟩ := hR
      have hc0 : wr.cell? ⟨b, o + k, none⟩ = some (.string x) := (by have := hc 0 _ rfl; simpa [txtR] using this)
      clear hc
      have b2 : Below wr.heap.size wr wr := Below.refl _ _
      obtain ⟨⟨old0, hx0⟩, hf0⟩ := own_some (own_below' HO.out b2) (k := k) (by omega)
      have HR := Lib.hid (show (txtO).O wr (In wr.heap.size wr.heap.size) x [.string x] from ⟨rfl, hz'0⟩)
      have HO2 := Lib.hid HO.out
      have B2 := Lib.hid b2
      clear b2 hM h hz'0
      go_wp2
      go_roundw
      case rel =>
        have st0 := HO2.out.stored (k) (.string x)
        obtain ⟨ml, me⟩ := madeO_step txtO (lo := w.heap.size) HV.out HR.out hx.out HE.out B2.out hws st0.2
        refine ⟨k + 1, _, by omega, by go_num, Lib.hid ml, Lib.hid me, Lib.hid ((HB.out.trans (B2.out.mono (by omega))).setCell (Nat.le_refl _) _), Lib.hid ?_⟩
        have e := set_next (F := 1) (z := #[.string ⟨#[]⟩]) (n := n) HV.out rfl ((txtR).len ((txtO).rd HR.out)) hlt
        rw [← e]
        simpa [setAll] using st0.1
      case measure => simp [intOf]; omega
    · obtain rfl : k = n := by omega
      have hown := HO.out
      have e0 : (madeCells #[.string ⟨#[]⟩] ((k - k) * 1)).toList = [] := by simp [madeCells]
      rw [e0, List.append_nil] at hown
      have HD := Lib.hid (madeO_done txtO L.out hown HE.out)
      have HLN := Lib.hid (show (.returned (.slice (some ⟨w.heap.size, 0, none⟩) k k) : Ending) = .returned (.slice (some ⟨w.heap.size, 0, none⟩) xs.length xs.length) by rw [L.out])
      clear hown e0
      go_wp2
      go_ret
      exact ⟨HLN.out, (by have h1 := HD.out; rw [← L.out] at h1; exact h1), HB.out⟩
theorem toDStringS_any (A : Option Addr) (n c : Nat) (xs : List (ByteArray)) (w : World) (S : Nat → Prop) (h : LRow txtR w S A xs) (hS : ∀ b, S b → b < w.heap.size) (l : xs.length = n) (m : okList okTx xs) :
    Calls Tryz.prog 19 #[.slice A n c] w (MadeL txtR xs w) :=
  (toOStringS_any A n c xs w S h hS l m).mono fun _ _ h => h.weak
set_option maxRecDepth 100000 in
set_option maxHeartbeats 1000000 in
theorem eqDStringS_yes (A1 A2 : Option Addr) (n1 n2 c1 c2 : Nat) (xs : List (ByteArray)) (w : World) (S1 S2 : Nat → Prop) (h1 : LRow txtR w S1 A1 xs) (h2 : LRow txtR w S2 A2 xs) (hS1 : ∀ b, S1 b → b < w.heap.size) (hS2 : ∀ b, S2 b → b < w.heap.size) (l1 : xs.length = n1) (l2 : xs.length = n2) (m : okList okTx xs) :
    Calls Tryz.prog 21 #[.slice A1 n1 c1, .slice A2 n2 c2] w fun e w' => e = .returned (.bool true) ∧ Below w.heap.size w w' := by
  obtain rfl : n1 = n2 := l1.symm.trans l2
  have hn : n1 ≤ 1048576 := by have := m.1; omega
  have L1 := Lib.hid l1
  have M := Lib.hid m.2
  clear l1 l2 m
  go_enter Tryz.func21, Tryz.ntmps21
  go_wp2
  go_loopw [5] (fun i wr => ∃ k : Nat, k ≤ n1 ∧ i = .int .i64 k ∧ Hid (Below w.heap.size w wr)) (fun i _ => n1 - (intOf i).toNat)
  case atStart => exact ⟨0, Nat.zero_le _, rfl, Lib.hid (Below.refl _ _)⟩
  case round =>
    obtain ⟨k, hk1, rfl, HB⟩ := hrel
    by_cases hlt1 : k < n1
    · obtain ⟨b1, o1, cs1, x, rfl, hb1, hR1, hx, hc1⟩ := (h1.keep (SameOn.of_below HB.out hS1)).at_ (k := k) (by rw [L1.out]; exact hlt1)
      obtain ⟨b2, o2, cs2, y, rfl, hb2, hR2, hy, hc2⟩ := (h2.keep (SameOn.of_below HB.out hS2)).at_ (k := k) (by rw [L1.out]; exact hlt1)
      obtain rfl : x = y := by have := hx.out.symm.trans hy.out; injection this
      have hM := M.out x (List.mem_of_getElem? hx.out)
      have hws := HB.out.size
      obtain ⟨rfl, hz10⟩ := hR1
      obtain ⟨rfl, hz20⟩ := hR2
      have p0 : wr.cell? ⟨b1, o1 + k, none⟩ = some (.string x) := (by have := hc1 0 _ rfl; simpa [txtR] using this)
      have q0 : wr.cell? ⟨b2, o2 + k, none⟩ = some (.string x) := (by have := hc2 0 _ rfl; simpa [txtR] using this)
      clear hc1 hc2
      have HD := Lib.hid (fun n => (HB.out).trans (below_drewN wr w.heap.size n))
      clear hz10 hz20 hM
      go_wp2
      go_quiet (fail)
      go_wp2
      go_roundw
      case rel => exact ⟨k + 1, by omega, by go_num, Lib.hid (by first | exact HD.out _ | exact HB.out)⟩
      case measure => simp [intOf]; omega
    · go_wp2
      go_ret
      exact ⟨rfl, HB.out⟩
end Go.Proofs.YtbailpfjgjcbdaaGreatDoor
