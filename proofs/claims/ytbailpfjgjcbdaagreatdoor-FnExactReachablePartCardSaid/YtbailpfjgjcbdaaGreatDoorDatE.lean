/- How the laws' own helpers answer on records: how much they hold, a copy, comparing. -/
import Derived.Test.YtbailpfjgjcbdaaGreatDoorProg
import Derived.WalkKit
import Derived.ProofKit
import Derived.BigQuiet
import Derived.StillTailTactics
import Derived.OwnWalk
import Derived.Outline
import Derived.Test.YtbailpfjgjcbdaaGreatDoorLow
namespace Go.Proofs.YtbailpfjgjcbdaaGreatDoor
open Go.RowKit
set_option maxHeartbeats 1000000 in
theorem toOEdge_any (x : Ed) (w : World) :
    Calls Tryz.prog 60 #[.agg #[.int .i64 x.f, .int .i64 x.l, .int .i64 x.t]] w (MadeRO edO x w) := by
  have H : ∀ w' : World, Below w.heap.size w w' → MadeRO edO x w (.returned (.agg #[.int .i64 x.f, .int .i64 x.l, .int .i64 x.t])) w' := fun w' hb => ⟨[.int .i64 x.f, .int .i64 x.l, .int .i64 x.t], rfl, rfl, hb⟩
  have HH := Lib.hid H
  clear H
  go_enter Tryz.func60, Tryz.ntmps60
  go_wp2
  refine bodyPost_ret (v := .agg #[.int .i64 x.f, .int .i64 x.l, .int .i64 x.t]) (by simp [results, Tryz.results60, go_sem]) rfl (HH.out _ ?_)
  repeat (first | exact Below.refl _ _ | refine Below.setCell ?_ (by simp) _ | refine Below.alloc ?_ (by simp <;> omega) _)
theorem toDEdge_any (x : Ed) (w : World) :
    Calls Tryz.prog 60 #[.agg #[.int .i64 x.f, .int .i64 x.l, .int .i64 x.t]] w (MadeR edR x w) :=
  (toOEdge_any x w).mono fun _ _ h => h.weak
set_option maxHeartbeats 1000000 in
theorem eqDEdge_yes (x : Ed) (w : World) :
    Calls Tryz.prog 66 #[.agg #[.int .i64 x.f, .int .i64 x.l, .int .i64 x.t], .agg #[.int .i64 x.f, .int .i64 x.l, .int .i64 x.t]] w fun e w' => e = .returned (.bool true) ∧ Below w.heap.size w w' := by
  have hne0 : (x.f != x.f) = false := by simp
  have hne1 : (x.l != x.l) = false := by simp
  have hne2 : (x.t != x.t) = false := by simp
  go_enter Tryz.func66, Tryz.ntmps66
  go_wp2
  go_ret
  refine ⟨rfl, ?_⟩
  repeat (first | exact Below.refl _ _ | refine Below.setCell ?_ (by simp) _ | refine Below.alloc ?_ (by simp <;> omega) _)
theorem szDEdgeS_any (A : Option Addr) (n c : Nat) (xs : List Ed) (left : Int) (w : World) (l : xs.length = n) (h1 : n ≤ maxLen) (h2 : 0 ≤ left) (h3 : left ≤ 1048576) :
    Calls Tryz.prog 28 #[.slice A n c, .int .i64 left] w (SzRet (okList okAny xs) (wL wtZ xs) left w) := by
  have hwt := wL_z xs
  unfold maxLen at h1
  rw [l] at hwt
  have L := Lib.hid l
  clear l
  by_cases h : left - n < 0
  · go_enter Tryz.func28, Tryz.ntmps28
    go_wp2
    go_ret
    exact SzRet.no (Below.refl _ _)
  · go_enter Tryz.func28, Tryz.ntmps28
    go_wp2
    go_ret
    exact SzRet.yes (by omega) (by omega) ⟨by rw [L.out]; omega, fun _ _ => trivial⟩ (Below.refl _ _)
theorem infoDEdge : (Tryz.prog.info? 79).map (fun i => (i.zero, i.size, i.bytes)) = some (some (.agg #[.int .i64 0, .int .i64 0, .int .i64 0]), 3, 24) := by kernel_rfl
set_option maxHeartbeats 2000000 in
theorem toOEdgeS_any (A : Option Addr) (n c : Nat) (xs : List (Ed)) (w : World) (S : Nat → Prop) (h : LRow edR w S A xs) (hS : ∀ b, S b → b < w.heap.size) (l : xs.length = n) (m : okList okAny xs) :
    Calls Tryz.prog 34 #[.slice A n c] w (MadeLO edO 79 xs w) := by
  obtain ⟨i0, hi, hz0, hz1, hz2⟩ := info_parts infoDEdge
  have hn : n ≤ 1048576 := by have := m.1; omega
  have L := Lib.hid l
  have M := Lib.hid m.2
  clear l m
  go_enter Tryz.func34, Tryz.ntmps34
  go_wp2_with (at_make; refine wpList_make_full _ rfl _ _ _ rfl w.heap.size 79 i0 (.agg #[.int .i64 0, .int .i64 0, .int .i64 0]) 3 Tryz.underlying30 hi hz0 hz1 .i64 .i64 _ _ n rfl rfl rfl rfl (by rw [hz2]; omega) (by unfold maxLen; omega) (Nat.le_refl _) ?_; intro w1 hown1 hg1)
  have H0 := Lib.hid (show w1.ownsRow w.heap.size 79 3 (.slice (some ⟨w.heap.size, 0, none⟩) n n) n ([] ++ (madeCells #[.int .i64 0, .int .i64 0, .int .i64 0] ((n - 0) * 3)).toList) from hown1)
  have hb1 := Lib.hid (show Below w.heap.size w w1 from (Below.refl _ _).grown hg1 (Nat.le_refl _) (by simp))
  clear hown1 hg1 hi hz0 hz1 hz2
  go_loopw [4] (fun i wr => ∃ (k : Nat) (vs : List Value), k ≤ n ∧ i = .int .i64 k ∧ Hid (vs.length = k * 3) ∧ Hid (MadeO edO wr w.heap.size k vs xs) ∧ Hid (Below w.heap.size w wr) ∧ Hid (wr.ownsRow w.heap.size 79 3 (.slice (some ⟨w.heap.size, 0, none⟩) n n) n (vs ++ (madeCells #[.int .i64 0, .int .i64 0, .int .i64 0] ((n - k) * 3)).toList))) (fun i _ => n - (intOf i).toNat)
  case atStart => exact ⟨0, [], Nat.zero_le _, rfl, Lib.hid (by simp), Lib.hid (MadeO.zero _ _ _ _ _), hb1, H0⟩
  case round =>
    obtain ⟨k, vs, hk, rfl, HV, HE, HB, HO⟩ := hrel
    clear H0 hb1
    by_cases hlt : k < n
    · obtain ⟨b, o, cs, x, rfl, hbS, hR, hx, hc⟩ := (h.keep (SameOn.of_below HB.out hS)).at_ (k := k) (by rw [L.out]; exact hlt)
      have hbw0 := hS b hbS
      have hM := M.out x (List.mem_of_getElem? hx.out)
      have hws : w.heap.size + 1 ≤ wr.heap.size := by
        have := (HO.out.lt _ rfl).2
        exact this
      change _ = [Value.int .i64 x.f, Value.int .i64 x.l, Value.int .i64 x.t] at hR
      subst hR
      have hc0 : wr.cell? ⟨b, o + k * 3, none⟩ = some (.int .i64 x.f) := hc 0 _ rfl
      have hc1 : wr.cell? ⟨b, o + k * 3 + 1, none⟩ = some (.int .i64 x.l) := hc 1 _ rfl
      have hc2 : wr.cell? ⟨b, o + k * 3 + 2, none⟩ = some (.int .i64 x.t) := hc 2 _ rfl
      clear hc
      have C := Lib.hid (fun (W : World) (hW : Below wr.heap.size wr W) => toOEdge_any x W)
      clear hM h
      go_wp2_with fail
      refine (C.out _ (Below.refl _ _)).mono ?_
      rintro e w2 ⟨cs, rfl, hR, b2⟩
      have HR := Lib.hid hR
      change _ = [Value.int .i64 x.f, Value.int .i64 x.l, Value.int .i64 x.t] at hR
      subst hR
      obtain ⟨⟨old0, hx0⟩, hf0⟩ := own_some (own_below' HO.out b2) (k := k * 3) (by omega); obtain ⟨⟨old1, hx1⟩, hf1⟩ := own_some (own_below' HO.out b2) (k := k * 3 + 1) (by omega); obtain ⟨⟨old2, hx2⟩, hf2⟩ := own_some (own_below' HO.out b2) (k := k * 3 + 2) (by omega)
      have HO2 := Lib.hid (own_below' HO.out b2)
      have B2 := Lib.hid b2
      clear b2
      go_wp2
      go_roundw
      case rel =>
        have st0 := HO2.out.stored (k * 3) (.int .i64 x.f)
        have st1 := st0.1.stored (k * 3 + 1) (.int .i64 x.l)
        have st2 := st1.1.stored (k * 3 + 2) (.int .i64 x.t)
        obtain ⟨ml, me⟩ := madeO_step edO (lo := w.heap.size) HV.out HR.out hx.out HE.out B2.out hws (grown_trans (grown_trans st0.2 st1.2) st2.2)
        refine ⟨k + 1, _, by omega, by go_num, Lib.hid ml, Lib.hid me, Lib.hid ((((HB.out.trans (B2.out.mono (by omega))).setCell (Nat.le_refl _) _).setCell (Nat.le_refl _) _).setCell (Nat.le_refl _) _), Lib.hid ?_⟩
        have e := set_next (F := 3) (z := #[.int .i64 0, .int .i64 0, .int .i64 0]) (n := n) HV.out rfl ((edR).len ((edO).rd HR.out)) hlt
        rw [← e]
        exact st2.1
      case measure => simp [intOf]; omega
    · obtain rfl : k = n := by omega
      have hown := HO.out
      have e0 : (madeCells #[.int .i64 0, .int .i64 0, .int .i64 0] ((k - k) * 3)).toList = [] := by simp [madeCells]
      rw [e0, List.append_nil] at hown
      have HD := Lib.hid (madeO_done edO L.out hown HE.out)
      have HLN := Lib.hid (show (.returned (.slice (some ⟨w.heap.size, 0, none⟩) k k) : Ending) = .returned (.slice (some ⟨w.heap.size, 0, none⟩) xs.length xs.length) by rw [L.out])
      clear hown e0
      go_wp2
      go_ret
      exact ⟨HLN.out, (by have h1 := HD.out; rw [← L.out] at h1; exact h1), HB.out⟩
theorem toDEdgeS_any (A : Option Addr) (n c : Nat) (xs : List (Ed)) (w : World) (S : Nat → Prop) (h : LRow edR w S A xs) (hS : ∀ b, S b → b < w.heap.size) (l : xs.length = n) (m : okList okAny xs) :
    Calls Tryz.prog 34 #[.slice A n c] w (MadeL edR xs w) :=
  (toOEdgeS_any A n c xs w S h hS l m).mono fun _ _ h => h.weak
set_option maxRecDepth 100000 in
set_option maxHeartbeats 1000000 in
theorem eqDEdgeS_yes (A1 A2 : Option Addr) (n1 n2 c1 c2 : Nat) (xs : List (Ed)) (w : World) (S1 S2 : Nat → Prop) (h1 : LRow edR w S1 A1 xs) (h2 : LRow edR w S2 A2 xs) (hS1 : ∀ b, S1 b → b < w.heap.size) (hS2 : ∀ b, S2 b → b < w.heap.size) (l1 : xs.length = n1) (l2 : xs.length = n2) (m : okList okAny xs) :
    Calls Tryz.prog 37 #[.slice A1 n1 c1, .slice A2 n2 c2] w fun e w' => e = .returned (.bool true) ∧ Below w.heap.size w w' := by
  obtain rfl : n1 = n2 := l1.symm.trans l2
  have hn : n1 ≤ 1048576 := by have := m.1; omega
  have L1 := Lib.hid l1
  have M := Lib.hid m.2
  clear l1 l2 m
  go_enter Tryz.func37, Tryz.ntmps37
  go_wp2
  go_loopw [5] (fun i wr => ∃ k : Nat, k ≤ n1 ∧ i = .int .i64 k ∧ Hid (Below w.heap.size w wr)) (fun i _ => n1 - (intOf i).toNat)
  case atStart => exact ⟨0, Nat.zero_le _, rfl, Lib.hid (Below.refl _ _)⟩
  case round =>
    obtain ⟨k, hk1, rfl, HB⟩ := hrel
    by_cases hlt1 : k < n1
    · obtain ⟨b1, o1, cs1, x, rfl, hb1, hR1, hx, hc1⟩ := (h1.keep (SameOn.of_below HB.out hS1)).at_ (k := k) (by rw [L1.out]; exact hlt1)
      obtain ⟨b2, o2, cs2, y, rfl, hb2, hR2, hy, hc2⟩ := (h2.keep (SameOn.of_below HB.out hS2)).at_ (k := k) (by rw [L1.out]; exact hlt1)
      obtain rfl : x = y := by have := hx.out.symm.trans hy.out; injection this
      have hM := M.out x (List.mem_of_getElem? hx.out)
      have hws := HB.out.size
      change _ = [Value.int .i64 x.f, Value.int .i64 x.l, Value.int .i64 x.t] at hR1
      subst hR1
      change _ = [Value.int .i64 x.f, Value.int .i64 x.l, Value.int .i64 x.t] at hR2
      subst hR2
      have p0 : wr.drew.cell? ⟨b1, o1 + k * 3, none⟩ = some (.int .i64 x.f) := hc1 0 _ rfl
      have p1 : wr.drew.cell? ⟨b1, o1 + k * 3 + 1, none⟩ = some (.int .i64 x.l) := hc1 1 _ rfl
      have p2 : wr.drew.cell? ⟨b1, o1 + k * 3 + 2, none⟩ = some (.int .i64 x.t) := hc1 2 _ rfl
      have q0 : wr.drew.cell? ⟨b2, o2 + k * 3, none⟩ = some (.int .i64 x.f) := hc2 0 _ rfl
      have q1 : wr.drew.cell? ⟨b2, o2 + k * 3 + 1, none⟩ = some (.int .i64 x.l) := hc2 1 _ rfl
      have q2 : wr.drew.cell? ⟨b2, o2 + k * 3 + 2, none⟩ = some (.int .i64 x.t) := hc2 2 _ rfl
      clear hc1 hc2
      have C := Lib.hid (eqDEdge_yes x wr.drew)
      clear hM
      go_wp2
      go_still_tail 8, (by kernel_rfl)
      change wpList _ _ _ _ _ wr.drew
      go_wp2_with (go_at_call 66; refine (C.out).mono ?_; rintro e w2 ⟨rfl, b2⟩; have B2 := Lib.hid b2; clear b2)
      go_roundw
      case rel => exact ⟨k + 1, by omega, by go_num, Lib.hid ((HB.out.drew).trans (B2.out.mono hws))⟩
      case measure => simp [intOf]; omega
    · go_wp2
      go_ret
      exact ⟨rfl, HB.out⟩
end Go.Proofs.YtbailpfjgjcbdaaGreatDoor
