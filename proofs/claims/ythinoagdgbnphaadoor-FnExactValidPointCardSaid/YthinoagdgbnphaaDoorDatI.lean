/- How the laws' own helpers answer on records: how much they hold, a copy, comparing. -/
import Derived.Test.YthinoagdgbnphaaDoorProg
import Derived.WalkKit
import Derived.ProofKit
import Derived.BigQuiet
import Derived.StillTailTactics
import Derived.OwnWalk
import Derived.Outline
import Derived.Test.YthinoagdgbnphaaDoorMem
import Derived.Test.YthinoagdgbnphaaDoorOwn
import Derived.Test.YthinoagdgbnphaaDoorTurn
import Derived.Test.YthinoagdgbnphaaDoorSRow
import Derived.Test.YthinoagdgbnphaaDoorDat
namespace Go.Proofs.YthinoagdgbnphaaDoor
open Go.RowKit
theorem szDInt64S_any (A : Option Addr) (n c : Nat) (xs : List Int) (left : Int) (w : World) (l : xs.length = n) (h1 : n ≤ maxLen) (h2 : 0 ≤ left) (h3 : left ≤ 1048576) :
    Calls Tryd.prog 13 #[.slice A n c, .int .i64 left] w (SzRet (okList okAny xs) left w) := by
  unfold maxLen at h1
  have L := Lib.hid l
  clear l
  by_cases h : left - n < 0
  · go_enter Tryd.func13, Tryd.ntmps13
    go_wp2
    go_ret
    exact SzRet.no (Below.refl _ _)
  · go_enter Tryd.func13, Tryd.ntmps13
    go_wp2
    go_ret
    exact SzRet.yes (by omega) (by omega) ⟨by rw [L.out]; omega, fun _ _ => trivial⟩ (Below.refl _ _)
theorem infoDInt64 : (Tryd.prog.info? 2).map (fun i => (i.zero, i.size, i.bytes)) = some (some (.int .i64 0), 1, 8) := by kernel_rfl
set_option maxHeartbeats 2000000 in
theorem toDInt64S_any (A : Option Addr) (n c : Nat) (xs : List (Int)) (w : World) (S : Nat → Prop) (h : LRow intR w S A xs) (hS : ∀ b, S b → b < w.heap.size) (l : xs.length = n) (m : okList okAny xs) :
    Calls Tryd.prog 17 #[.slice A n c] w (MadeL intR xs w) := by
  obtain ⟨i0, hi, hz0, hz1, hz2⟩ := info_parts infoDInt64
  have hn : n ≤ 1048576 := by have := m.1; omega
  have L := Lib.hid l
  have M := Lib.hid m.2
  clear l m
  go_enter Tryd.func17, Tryd.ntmps17
  go_wp2_with (at_make; refine wpList_make_full _ rfl _ _ _ rfl w.heap.size 2 i0 (.int .i64 0) 1 Tryd.underlying23 hi hz0 hz1 .i64 .i64 _ _ n rfl rfl rfl rfl (by rw [hz2]; omega) (by unfold maxLen; omega) (Nat.le_refl _) ?_; intro w1 hown1 hg1)
  have H0 := Lib.hid (show w1.ownsRow w.heap.size 2 1 (.slice (some ⟨w.heap.size, 0, none⟩) n n) n ([] ++ (madeCells #[.int .i64 0] ((n - 0) * 1)).toList) from hown1)
  have hb1 := Lib.hid (show Below w.heap.size w w1 from (Below.refl _ _).grown hg1 (Nat.le_refl _) (by simp))
  clear hown1 hg1 hi hz0 hz1 hz2
  go_loopw [4] (fun i wr => ∃ (k : Nat) (vs : List Value), k ≤ n ∧ i = .int .i64 k ∧ Hid (vs.length = k * 1) ∧ Hid (∀ j y, j < k → xs[j]? = some y → (intR).R wr (In (w.heap.size + 1) wr.heap.size) y ((vs.drop (j * 1)).take 1)) ∧ Hid (Below w.heap.size w wr) ∧ Hid (wr.ownsRow w.heap.size 2 1 (.slice (some ⟨w.heap.size, 0, none⟩) n n) n (vs ++ (madeCells #[.int .i64 0] ((n - k) * 1)).toList))) (fun i _ => n - (intOf i).toNat)
  case atStart => exact ⟨0, [], Nat.zero_le _, rfl, Lib.hid (by simp), Lib.hid (fun j y hj => by omega), hb1, H0⟩
  case round =>
    obtain ⟨k, vs, hk, rfl, HV, HE, HB, HO⟩ := hrel
    clear H0 hb1
    by_cases hlt : k < n
    · obtain ⟨b, o, cs, x, rfl, hbS, hR, hx, hc⟩ := (h.keep (SameOn.of_below HB.out hS)).at_ (k := k) (by rw [L.out]; exact hlt)
      have hbw0 := hS b hbS
      have hM := M.out x (List.mem_of_getElem? hx.out)
      have hws : w.heap.size + 1 ≤ wr.heap.size := by
        have := (HO.out.lt _ rfl).2
        exact this
      obtain rfl := hR
      have hc0 : wr.cell? ⟨b, o + k, none⟩ = some (.int .i64 x) := (by have := hc 0 _ rfl; simpa [intR] using this)
      clear hc
      have b2 : Below wr.heap.size wr wr := Below.refl _ _
      obtain ⟨⟨old0, hx0⟩, hf0⟩ := own_some (own_below' HO.out b2) (k := k) (by omega)
      have HR := Lib.hid (show (intR).R wr (In wr.heap.size wr.heap.size) x [.int .i64 x] from rfl)
      have HO2 := Lib.hid HO.out
      have B2 := Lib.hid b2
      clear b2 hM h
      go_wp2
      go_roundw
      case rel =>
        have st0 := HO2.out.stored (k) (.int .i64 x)
        obtain ⟨ml, me⟩ := made_step intR (lo := w.heap.size) HV.out HR.out hx.out HE.out B2.out hws st0.2
        refine ⟨k + 1, _, by omega, by go_num, Lib.hid ml, Lib.hid me, Lib.hid ((HB.out.trans (B2.out.mono (by omega))).setCell (Nat.le_refl _) _), Lib.hid ?_⟩
        have e := set_next (F := 1) (z := #[.int .i64 0]) (n := n) HV.out rfl ((intR).len HR.out) hlt
        rw [← e]
        simpa [setAll] using st0.1
      case measure => simp [intOf]; omega
    · obtain rfl : k = n := by omega
      have hown := HO.out
      have e0 : (madeCells #[.int .i64 0] ((k - k) * 1)).toList = [] := by simp [madeCells]
      rw [e0, List.append_nil] at hown
      have HD := Lib.hid (made_done intR L.out hown HE.out)
      have HLN := Lib.hid (show (.returned (.slice (some ⟨w.heap.size, 0, none⟩) k k) : Ending) = .returned (.slice (some ⟨w.heap.size, 0, none⟩) xs.length xs.length) by rw [L.out])
      clear hown e0
      go_wp2
      go_ret
      exact ⟨HLN.out, HD.out, HB.out⟩
set_option maxRecDepth 100000 in
set_option maxHeartbeats 1000000 in
theorem eqDInt64S_yes (A1 A2 : Option Addr) (n1 n2 c1 c2 : Nat) (xs : List (Int)) (w : World) (S1 S2 : Nat → Prop) (h1 : LRow intR w S1 A1 xs) (h2 : LRow intR w S2 A2 xs) (hS1 : ∀ b, S1 b → b < w.heap.size) (hS2 : ∀ b, S2 b → b < w.heap.size) (l1 : xs.length = n1) (l2 : xs.length = n2) (m : okList okAny xs) :
    Calls Tryd.prog 21 #[.slice A1 n1 c1, .slice A2 n2 c2] w fun e w' => e = .returned (.bool true) ∧ Below w.heap.size w w' := by
  obtain rfl : n1 = n2 := l1.symm.trans l2
  have hn : n1 ≤ 1048576 := by have := m.1; omega
  have L1 := Lib.hid l1
  have M := Lib.hid m.2
  clear l1 l2 m
  go_enter Tryd.func21, Tryd.ntmps21
  go_wp2
  go_loopw [5] (fun i wr => ∃ k : Nat, k ≤ n1 ∧ i = .int .i64 k ∧ Hid (Below w.heap.size w wr)) (fun i _ => n1 - (intOf i).toNat)
  case atStart => exact ⟨0, Nat.zero_le _, rfl, Lib.hid (Below.refl _ _)⟩
  case round =>
    obtain ⟨k, hk1, rfl, HB⟩ := hrel
    by_cases hlt1 : k < n1
    · obtain ⟨b1, o1, cs1, x, rfl, hb1, hR1, hx, hc1⟩ := (h1.keep (SameOn.of_below HB.out hS1)).at_ (k := k) (by rw [L1.out]; exact hlt1)
      obtain ⟨b2, o2, cs2, y, rfl, hb2, hR2, hy, hc2⟩ := (h2.keep (SameOn.of_below HB.out hS2)).at_ (k := k) (by rw [L1.out]; exact hlt1)
      obtain rfl : x = y := by have := hx.out.symm.trans hy.out; injection this
      have hM := M.out x (List.mem_of_getElem? hx.out)
      have hws := HB.out.size
      obtain rfl := hR1
      obtain rfl := hR2
      have p0 : wr.cell? ⟨b1, o1 + k, none⟩ = some (.int .i64 x) := (by have := hc1 0 _ rfl; simpa [intR] using this)
      have q0 : wr.cell? ⟨b2, o2 + k, none⟩ = some (.int .i64 x) := (by have := hc2 0 _ rfl; simpa [intR] using this)
      clear hc1 hc2
      have hne : (x != x) = false := by simp
      have HD := Lib.hid (fun n => (HB.out).trans (below_drewN wr w.heap.size n))
      clear hM
      go_wp2
      go_quiet (fail)
      go_wp2
      go_roundw
      case rel => exact ⟨k + 1, by omega, by go_num, Lib.hid (by first | exact HD.out _ | exact HB.out)⟩
      case measure => simp [intOf]; omega
    · go_wp2
      go_ret
      exact ⟨rfl, HB.out⟩
theorem infoDString : (Tryd.prog.info? 9).map (fun i => (i.zero, i.size, i.bytes)) = some (some (.string ⟨#[]⟩), 1, 16) := by kernel_rfl
set_option maxHeartbeats 1000000 in
theorem toDTerm_any (x : Tm) (w : World) :
    Calls Tryd.prog 71 #[.agg #[.int .i64 x.k, .int .i64 x.v]] w (MadeR tmR x w) := by
  have H : ∀ w' : World, Below w.heap.size w w' → MadeR tmR x w (.returned (.agg #[.int .i64 x.k, .int .i64 x.v])) w' := fun w' hb => ⟨[.int .i64 x.k, .int .i64 x.v], rfl, rfl, hb⟩
  have HH := Lib.hid H
  clear H
  go_enter Tryd.func71, Tryd.ntmps71
  go_wp2
  refine bodyPost_ret (v := .agg #[.int .i64 x.k, .int .i64 x.v]) (by simp [results, Tryd.results71, go_sem]) rfl (HH.out _ ?_)
  repeat (first | exact Below.refl _ _ | refine Below.setCell ?_ (by simp) _ | refine Below.alloc ?_ (by simp <;> omega) _)
set_option maxHeartbeats 1000000 in
theorem eqDTerm_yes (x : Tm) (w : World) :
    Calls Tryd.prog 75 #[.agg #[.int .i64 x.k, .int .i64 x.v], .agg #[.int .i64 x.k, .int .i64 x.v]] w fun e w' => e = .returned (.bool true) ∧ Below w.heap.size w w' := by
  have hne0 : (x.k != x.k) = false := by simp
  have hne1 : (x.v != x.v) = false := by simp
  go_enter Tryd.func75, Tryd.ntmps75
  go_wp2
  go_ret
  refine ⟨rfl, ?_⟩
  repeat (first | exact Below.refl _ _ | refine Below.setCell ?_ (by simp) _ | refine Below.alloc ?_ (by simp <;> omega) _)
theorem szDTermS_any (A : Option Addr) (n c : Nat) (xs : List Tm) (left : Int) (w : World) (l : xs.length = n) (h1 : n ≤ maxLen) (h2 : 0 ≤ left) (h3 : left ≤ 1048576) :
    Calls Tryd.prog 65 #[.slice A n c, .int .i64 left] w (SzRet (okList okAny xs) left w) := by
  unfold maxLen at h1
  have L := Lib.hid l
  clear l
  by_cases h : left - n < 0
  · go_enter Tryd.func65, Tryd.ntmps65
    go_wp2
    go_ret
    exact SzRet.no (Below.refl _ _)
  · go_enter Tryd.func65, Tryd.ntmps65
    go_wp2
    go_ret
    exact SzRet.yes (by omega) (by omega) ⟨by rw [L.out]; omega, fun _ _ => trivial⟩ (Below.refl _ _)
theorem infoDTerm : (Tryd.prog.info? 113).map (fun i => (i.zero, i.size, i.bytes)) = some (some (.agg #[.int .i64 0, .int .i64 0]), 2, 16) := by kernel_rfl
set_option maxHeartbeats 2000000 in
theorem toDTermS_any (A : Option Addr) (n c : Nat) (xs : List (Tm)) (w : World) (S : Nat → Prop) (h : LRow tmR w S A xs) (hS : ∀ b, S b → b < w.heap.size) (l : xs.length = n) (m : okList okAny xs) :
    Calls Tryd.prog 68 #[.slice A n c] w (MadeL tmR xs w) := by
  obtain ⟨i0, hi, hz0, hz1, hz2⟩ := info_parts infoDTerm
  have hn : n ≤ 1048576 := by have := m.1; omega
  have L := Lib.hid l
  have M := Lib.hid m.2
  clear l m
  go_enter Tryd.func68, Tryd.ntmps68
  go_wp2_with (at_make; refine wpList_make_full _ rfl _ _ _ rfl w.heap.size 113 i0 (.agg #[.int .i64 0, .int .i64 0]) 2 Tryd.underlying100 hi hz0 hz1 .i64 .i64 _ _ n rfl rfl rfl rfl (by rw [hz2]; omega) (by unfold maxLen; omega) (Nat.le_refl _) ?_; intro w1 hown1 hg1)
  have H0 := Lib.hid (show w1.ownsRow w.heap.size 113 2 (.slice (some ⟨w.heap.size, 0, none⟩) n n) n ([] ++ (madeCells #[.int .i64 0, .int .i64 0] ((n - 0) * 2)).toList) from hown1)
  have hb1 := Lib.hid (show Below w.heap.size w w1 from (Below.refl _ _).grown hg1 (Nat.le_refl _) (by simp))
  clear hown1 hg1 hi hz0 hz1 hz2
  go_loopw [4] (fun i wr => ∃ (k : Nat) (vs : List Value), k ≤ n ∧ i = .int .i64 k ∧ Hid (vs.length = k * 2) ∧ Hid (∀ j y, j < k → xs[j]? = some y → (tmR).R wr (In (w.heap.size + 1) wr.heap.size) y ((vs.drop (j * 2)).take 2)) ∧ Hid (Below w.heap.size w wr) ∧ Hid (wr.ownsRow w.heap.size 113 2 (.slice (some ⟨w.heap.size, 0, none⟩) n n) n (vs ++ (madeCells #[.int .i64 0, .int .i64 0] ((n - k) * 2)).toList))) (fun i _ => n - (intOf i).toNat)
  case atStart => exact ⟨0, [], Nat.zero_le _, rfl, Lib.hid (by simp), Lib.hid (fun j y hj => by omega), hb1, H0⟩
  case round =>
    obtain ⟨k, vs, hk, rfl, HV, HE, HB, HO⟩ := hrel
    clear H0 hb1
    by_cases hlt : k < n
    · obtain ⟨b, o, cs, x, rfl, hbS, hR, hx, hc⟩ := (h.keep (SameOn.of_below HB.out hS)).at_ (k := k) (by rw [L.out]; exact hlt)
      have hbw0 := hS b hbS
      have hM := M.out x (List.mem_of_getElem? hx.out)
      have hws : w.heap.size + 1 ≤ wr.heap.size := by
        have := (HO.out.lt _ rfl).2
        exact this
      change _ = [Value.int .i64 x.k, Value.int .i64 x.v] at hR
      subst hR
      have hc0 : wr.cell? ⟨b, o + k * 2, none⟩ = some (.int .i64 x.k) := hc 0 _ rfl
      have hc1 : wr.cell? ⟨b, o + k * 2 + 1, none⟩ = some (.int .i64 x.v) := hc 1 _ rfl
      clear hc
      have C := Lib.hid (fun (W : World) (hW : Below wr.heap.size wr W) => toDTerm_any x W)
      clear hM h
      go_wp2_with fail
      refine (C.out _ (Below.refl _ _)).mono ?_
      rintro e w2 ⟨cs, rfl, hR, b2⟩
      have HR := Lib.hid hR
      change _ = [Value.int .i64 x.k, Value.int .i64 x.v] at hR
      subst hR
      obtain ⟨⟨old0, hx0⟩, hf0⟩ := own_some (own_below' HO.out b2) (k := k * 2) (by omega); obtain ⟨⟨old1, hx1⟩, hf1⟩ := own_some (own_below' HO.out b2) (k := k * 2 + 1) (by omega)
      have HO2 := Lib.hid (own_below' HO.out b2)
      have B2 := Lib.hid b2
      clear b2
      go_wp2
      go_roundw
      case rel =>
        have st0 := HO2.out.stored (k * 2) (.int .i64 x.k)
        have st1 := st0.1.stored (k * 2 + 1) (.int .i64 x.v)
        obtain ⟨ml, me⟩ := made_step tmR (lo := w.heap.size) HV.out HR.out hx.out HE.out B2.out hws (grown_trans st0.2 st1.2)
        refine ⟨k + 1, _, by omega, by go_num, Lib.hid ml, Lib.hid me, Lib.hid (((HB.out.trans (B2.out.mono (by omega))).setCell (Nat.le_refl _) _).setCell (Nat.le_refl _) _), Lib.hid ?_⟩
        have e := set_next (F := 2) (z := #[.int .i64 0, .int .i64 0]) (n := n) HV.out rfl ((tmR).len HR.out) hlt
        rw [← e]
        exact st1.1
      case measure => simp [intOf]; omega
    · obtain rfl : k = n := by omega
      have hown := HO.out
      have e0 : (madeCells #[.int .i64 0, .int .i64 0] ((k - k) * 2)).toList = [] := by simp [madeCells]
      rw [e0, List.append_nil] at hown
      have HD := Lib.hid (made_done tmR L.out hown HE.out)
      have HLN := Lib.hid (show (.returned (.slice (some ⟨w.heap.size, 0, none⟩) k k) : Ending) = .returned (.slice (some ⟨w.heap.size, 0, none⟩) xs.length xs.length) by rw [L.out])
      clear hown e0
      go_wp2
      go_ret
      exact ⟨HLN.out, HD.out, HB.out⟩
set_option maxRecDepth 100000 in
set_option maxHeartbeats 1000000 in
theorem eqDTermS_yes (A1 A2 : Option Addr) (n1 n2 c1 c2 : Nat) (xs : List (Tm)) (w : World) (S1 S2 : Nat → Prop) (h1 : LRow tmR w S1 A1 xs) (h2 : LRow tmR w S2 A2 xs) (hS1 : ∀ b, S1 b → b < w.heap.size) (hS2 : ∀ b, S2 b → b < w.heap.size) (l1 : xs.length = n1) (l2 : xs.length = n2) (m : okList okAny xs) :
    Calls Tryd.prog 70 #[.slice A1 n1 c1, .slice A2 n2 c2] w fun e w' => e = .returned (.bool true) ∧ Below w.heap.size w w' := by
  obtain rfl : n1 = n2 := l1.symm.trans l2
  have hn : n1 ≤ 1048576 := by have := m.1; omega
  have L1 := Lib.hid l1
  have M := Lib.hid m.2
  clear l1 l2 m
  go_enter Tryd.func70, Tryd.ntmps70
  go_wp2
  go_loopw [5] (fun i wr => ∃ k : Nat, k ≤ n1 ∧ i = .int .i64 k ∧ Hid (Below w.heap.size w wr)) (fun i _ => n1 - (intOf i).toNat)
  case atStart => exact ⟨0, Nat.zero_le _, rfl, Lib.hid (Below.refl _ _)⟩
  case round =>
    obtain ⟨k, hk1, rfl, HB⟩ := hrel
    by_cases hlt1 : k < n1
    · obtain ⟨b1, o1, cs1, x, rfl, hb1, hR1, hx, hc1⟩ := (h1.keep (SameOn.of_below HB.out hS1)).at_ (k := k) (by rw [L1.out]; exact hlt1)
      obtain ⟨b2, o2, cs2, y, rfl, hb2, hR2, hy, hc2⟩ := (h2.keep (SameOn.of_below HB.out hS2)).at_ (k := k) (by rw [L1.out]; exact hlt1)
      obtain rfl : x = y := by have := hx.out.symm.trans hy.out; injection this
      have hM := M.out x (List.mem_of_getElem? hx.out)
      have hws := HB.out.size
      change _ = [Value.int .i64 x.k, Value.int .i64 x.v] at hR1
      subst hR1
      change _ = [Value.int .i64 x.k, Value.int .i64 x.v] at hR2
      subst hR2
      have p0 : wr.drew.cell? ⟨b1, o1 + k * 2, none⟩ = some (.int .i64 x.k) := hc1 0 _ rfl
      have p1 : wr.drew.cell? ⟨b1, o1 + k * 2 + 1, none⟩ = some (.int .i64 x.v) := hc1 1 _ rfl
      have q0 : wr.drew.cell? ⟨b2, o2 + k * 2, none⟩ = some (.int .i64 x.k) := hc2 0 _ rfl
      have q1 : wr.drew.cell? ⟨b2, o2 + k * 2 + 1, none⟩ = some (.int .i64 x.v) := hc2 1 _ rfl
      clear hc1 hc2
      have C := Lib.hid (eqDTerm_yes x wr.drew)
      clear hM
      go_wp2
      go_still_tail 8, (by kernel_rfl)
      change wpList _ _ _ _ _ wr.drew
      go_wp2_with (go_at_call 75; refine (C.out).mono ?_; rintro e w2 ⟨rfl, b2⟩; have B2 := Lib.hid b2; clear b2)
      go_roundw
      case rel => exact ⟨k + 1, by omega, by go_num, Lib.hid ((HB.out.drew).trans (B2.out.mono hws))⟩
      case measure => simp [intOf]; omega
    · go_wp2
      go_ret
      exact ⟨rfl, HB.out⟩
set_option maxHeartbeats 1000000 in
theorem szDTermSS_any (A : Option Addr) (n c : Nat) (xs : List (List Tm)) (left : Int) (w : World) (S : Nat → Prop) (h : LRow (listR tmR) w S A xs) (hS : ∀ b, S b → b < w.heap.size) (l : xs.length = n) (h1 : n ≤ maxLen) (h2 : 0 ≤ left) (h3 : left ≤ 1048576) :
    Calls Tryd.prog 52 #[.slice A n c, .int .i64 left] w (SzRet (okList (okList okAny) xs) left w) := by
  unfold maxLen at h1
  have L := Lib.hid l
  clear l
  by_cases hn : left - n < 0
  · go_enter Tryd.func52, Tryd.ntmps52
    go_wp2
    go_ret
    exact SzRet.no (Below.refl _ _)
  go_enter Tryd.func52, Tryd.ntmps52
  go_wp2
  go_loopw [1, 5] (fun x i wr => ∃ (k : Nat) (r : Int), k ≤ n ∧ i = .int .i64 k ∧ x = .int .i64 r ∧ 0 ≤ r ∧ r ≤ left - n ∧ Hid (Below w.heap.size w wr) ∧ Hid (∀ j y, j < k → xs[j]? = some y → (okList okAny) y)) (fun _ i _ => n - (intOf i).toNat)
  case atStart => exact ⟨0, left - n, Nat.zero_le _, rfl, rfl, by omega, by omega, Lib.hid (Below.refl _ _), Lib.hid (fun j y hj => by omega)⟩
  case round =>
    obtain ⟨k, r, hk, rfl, rfl, hr0, hr1, HB, HE⟩ := hrel
    by_cases hlt : k < n
    · obtain ⟨b, o, cs, x, rfl, hbS, hR, hx, hc⟩ := (h.keep (SameOn.of_below HB.out hS)).at_ (k := k) (by rw [L.out]; exact hlt)
      have hws := HB.out.size
      have hbw : b < wr.heap.size := Nat.lt_of_lt_of_le (hS b hbS) hws
      obtain ⟨A', c', rfl, hlc', hcm', hr'⟩ := hR
      have hc0 : wr.cell? ⟨b, o + k, none⟩ = some (.slice A' x.length c') := (by have := hc 0 _ rfl; simpa [listR] using this)
      clear hc
      have C := Lib.hid (fun (W : World) (hW : Below wr.heap.size wr W) => szDTermS_any A' x.length c' x r W rfl (by omega) hr0 (by omega))
      clear hr' h
      go_wp2_with fail
      refine (C.out _ (Below.refl _ _)).mono ?_
      rintro e w2 ⟨q, rfl, hq, b2⟩
      have HB2 := Lib.hid (HB.out.trans (b2.mono hws))
      clear b2
      rcases hq with hq | ⟨hq0, hq1, hok⟩
      · go_wp2
        go_ret
        exact SzRet.no HB2.out
      · have hq2 : ¬ q < 0 := by omega
        have HOK := Lib.hid hok
        clear hok
        have HE2 := Lib.hid (show ∀ j y, j < k + 1 → xs[j]? = some y → (okList okAny) y from fun j y hj hy => by
          by_cases e : j = k
          · subst e
            obtain rfl : y = x := by have := hy.symm.trans hx.out; injection this
            exact HOK.out
          · exact HE.out j y (by omega) hy)
        go_wp2
        go_roundw
        case rel => exact ⟨k + 1, _, by omega, by go_num, rfl, by omega, by omega, HB2, HE2⟩
        case measure => simp [intOf]; omega
    · have HA := Lib.hid (show okList (okList okAny) xs from ⟨by rw [L.out]; omega, fun y hy => by
        obtain ⟨j, hj⟩ := List.getElem?_of_mem hy
        have hjl := (List.getElem?_eq_some_iff.1 hj).1
        rw [L.out] at hjl
        exact HE.out j y (by omega) hj⟩)
      go_wp2
      go_ret
      exact SzRet.yes hr0 (by omega) HA.out HB.out
theorem infoDTermS : (Tryd.prog.info? 100).map (fun i => (i.zero, i.size, i.bytes)) = some (some (.slice none 0 0), 1, 24) := by kernel_rfl
set_option maxHeartbeats 2000000 in
theorem toDTermSS_any (A : Option Addr) (n c : Nat) (xs : List (List Tm)) (w : World) (S : Nat → Prop) (h : LRow (listR tmR) w S A xs) (hS : ∀ b, S b → b < w.heap.size) (l : xs.length = n) (m : okList (okList okAny) xs) :
    Calls Tryd.prog 56 #[.slice A n c] w (MadeL (listR tmR) xs w) := by
  obtain ⟨i0, hi, hz0, hz1, hz2⟩ := info_parts infoDTermS
  have hn : n ≤ 1048576 := by have := m.1; omega
  have L := Lib.hid l
  have M := Lib.hid m.2
  clear l m
  go_enter Tryd.func56, Tryd.ntmps56
  go_wp2_with (at_make; refine wpList_make_full _ rfl _ _ _ rfl w.heap.size 100 i0 (.slice none 0 0) 1 Tryd.underlying57 hi hz0 hz1 .i64 .i64 _ _ n rfl rfl rfl rfl (by rw [hz2]; omega) (by unfold maxLen; omega) (Nat.le_refl _) ?_; intro w1 hown1 hg1)
  have H0 := Lib.hid (show w1.ownsRow w.heap.size 100 1 (.slice (some ⟨w.heap.size, 0, none⟩) n n) n ([] ++ (madeCells #[.slice none 0 0] ((n - 0) * 1)).toList) from hown1)
  have hb1 := Lib.hid (show Below w.heap.size w w1 from (Below.refl _ _).grown hg1 (Nat.le_refl _) (by simp))
  clear hown1 hg1 hi hz0 hz1 hz2
  go_loopw [4] (fun i wr => ∃ (k : Nat) (vs : List Value), k ≤ n ∧ i = .int .i64 k ∧ Hid (vs.length = k * 1) ∧ Hid (∀ j y, j < k → xs[j]? = some y → ((listR tmR)).R wr (In (w.heap.size + 1) wr.heap.size) y ((vs.drop (j * 1)).take 1)) ∧ Hid (Below w.heap.size w wr) ∧ Hid (wr.ownsRow w.heap.size 100 1 (.slice (some ⟨w.heap.size, 0, none⟩) n n) n (vs ++ (madeCells #[.slice none 0 0] ((n - k) * 1)).toList))) (fun i _ => n - (intOf i).toNat)
  case atStart => exact ⟨0, [], Nat.zero_le _, rfl, Lib.hid (by simp), Lib.hid (fun j y hj => by omega), hb1, H0⟩
  case round =>
    obtain ⟨k, vs, hk, rfl, HV, HE, HB, HO⟩ := hrel
    clear H0 hb1
    by_cases hlt : k < n
    · obtain ⟨b, o, cs, x, rfl, hbS, hR, hx, hc⟩ := (h.keep (SameOn.of_below HB.out hS)).at_ (k := k) (by rw [L.out]; exact hlt)
      have hbw0 := hS b hbS
      have hM := M.out x (List.mem_of_getElem? hx.out)
      have hws : w.heap.size + 1 ≤ wr.heap.size := by
        have := (HO.out.lt _ rfl).2
        exact this
      obtain ⟨A', c', rfl, hlc', hcm', hr'⟩ := hR
      have hc0 : wr.cell? ⟨b, o + k, none⟩ = some (.slice A' x.length c') := (by have := hc 0 _ rfl; simpa [listR] using this)
      clear hc
      have C := Lib.hid (fun (W : World) (hW : Below wr.heap.size wr W) => toDTermS_any A' x.length c' x W S (hr'.keep (SameOn.of_below hW fun b hb => Nat.lt_of_lt_of_le (hS b hb) (by omega))) (fun b hb => Nat.lt_of_lt_of_le (hS b hb) (by have := hW.size; omega)) rfl hM)
      have hxm : x.length ≤ maxLen := by omega
      have HXM := Lib.hid hxm
      clear hr' hM h hxm
      go_wp2_with fail
      refine (C.out _ (Below.refl _ _)).mono ?_
      rintro e w2 ⟨rfl, hl, b2⟩
      have HR := Lib.hid (show (listR tmR).R w2 (In wr.heap.size w2.heap.size) x [.slice (some ⟨wr.heap.size, 0, none⟩) x.length x.length] from ⟨_, _, rfl, Nat.le_refl _, HXM.out, hl⟩)
      obtain ⟨⟨old0, hx0⟩, hf0⟩ := own_some (own_below' HO.out b2) (k := k) (by omega)
      have HO2 := Lib.hid (own_below' HO.out b2)
      have B2 := Lib.hid b2
      clear b2 hl
      go_wp2
      go_roundw
      case rel =>
        have st0 := HO2.out.stored (k) ((.slice (some ⟨wr.heap.size, 0, none⟩) x.length x.length))
        obtain ⟨ml, me⟩ := made_step (listR tmR) (lo := w.heap.size) HV.out HR.out hx.out HE.out B2.out hws st0.2
        refine ⟨k + 1, _, by omega, by go_num, Lib.hid ml, Lib.hid me, Lib.hid ((HB.out.trans (B2.out.mono (by omega))).setCell (Nat.le_refl _) _), Lib.hid ?_⟩
        have e := set_next (F := 1) (z := #[.slice none 0 0]) (n := n) HV.out rfl (((listR tmR)).len HR.out) hlt
        rw [← e]
        simpa [setAll] using st0.1
      case measure => simp [intOf]; omega
    · obtain rfl : k = n := by omega
      have hown := HO.out
      have e0 : (madeCells #[.slice none 0 0] ((k - k) * 1)).toList = [] := by simp [madeCells]
      rw [e0, List.append_nil] at hown
      have HD := Lib.hid (made_done (listR tmR) L.out hown HE.out)
      have HLN := Lib.hid (show (.returned (.slice (some ⟨w.heap.size, 0, none⟩) k k) : Ending) = .returned (.slice (some ⟨w.heap.size, 0, none⟩) xs.length xs.length) by rw [L.out])
      clear hown e0
      go_wp2
      go_ret
      exact ⟨HLN.out, HD.out, HB.out⟩
set_option maxRecDepth 100000 in
set_option maxHeartbeats 1000000 in
theorem eqDTermSS_yes (A1 A2 : Option Addr) (n1 n2 c1 c2 : Nat) (xs : List (List Tm)) (w : World) (S1 S2 : Nat → Prop) (h1 : LRow (listR tmR) w S1 A1 xs) (h2 : LRow (listR tmR) w S2 A2 xs) (hS1 : ∀ b, S1 b → b < w.heap.size) (hS2 : ∀ b, S2 b → b < w.heap.size) (l1 : xs.length = n1) (l2 : xs.length = n2) (m : okList (okList okAny) xs) :
    Calls Tryd.prog 64 #[.slice A1 n1 c1, .slice A2 n2 c2] w fun e w' => e = .returned (.bool true) ∧ Below w.heap.size w w' := by
  obtain rfl : n1 = n2 := l1.symm.trans l2
  have hn : n1 ≤ 1048576 := by have := m.1; omega
  have L1 := Lib.hid l1
  have M := Lib.hid m.2
  clear l1 l2 m
  go_enter Tryd.func64, Tryd.ntmps64
  go_wp2
  go_loopw [5] (fun i wr => ∃ k : Nat, k ≤ n1 ∧ i = .int .i64 k ∧ Hid (Below w.heap.size w wr)) (fun i _ => n1 - (intOf i).toNat)
  case atStart => exact ⟨0, Nat.zero_le _, rfl, Lib.hid (Below.refl _ _)⟩
  case round =>
    obtain ⟨k, hk1, rfl, HB⟩ := hrel
    by_cases hlt1 : k < n1
    · obtain ⟨b1, o1, cs1, x, rfl, hb1, hR1, hx, hc1⟩ := (h1.keep (SameOn.of_below HB.out hS1)).at_ (k := k) (by rw [L1.out]; exact hlt1)
      obtain ⟨b2, o2, cs2, y, rfl, hb2, hR2, hy, hc2⟩ := (h2.keep (SameOn.of_below HB.out hS2)).at_ (k := k) (by rw [L1.out]; exact hlt1)
      obtain rfl : x = y := by have := hx.out.symm.trans hy.out; injection this
      have hM := M.out x (List.mem_of_getElem? hx.out)
      have hws := HB.out.size
      obtain ⟨A1, c1, rfl, hlc1, hcm1, hr1⟩ := hR1
      obtain ⟨A2, c2, rfl, hlc2, hcm2, hr2⟩ := hR2
      have p0 : wr.drew.cell? ⟨b1, o1 + k, none⟩ = some (.slice A1 x.length c1) := (by have := hc1 0 _ rfl; simpa [listR] using this)
      have q0 : wr.drew.cell? ⟨b2, o2 + k, none⟩ = some (.slice A2 x.length c2) := (by have := hc2 0 _ rfl; simpa [listR] using this)
      clear hc1 hc2
      have C := Lib.hid (eqDTermS_yes A1 A2 x.length x.length c1 c2 x wr.drew S1 S2 hr1 hr2 (fun b hb => Nat.lt_of_lt_of_le (hS1 b hb) hws) (fun b hb => Nat.lt_of_lt_of_le (hS2 b hb) hws) rfl rfl hM)
      clear hr1 hr2 hM
      go_wp2
      go_still_tail 8, (by kernel_rfl)
      change wpList _ _ _ _ _ wr.drew
      go_wp2_with (go_at_call 70; refine (C.out).mono ?_; rintro e w2 ⟨rfl, b2⟩; have B2 := Lib.hid b2; clear b2)
      go_roundw
      case rel => exact ⟨k + 1, by omega, by go_num, Lib.hid ((HB.out.drew).trans (B2.out.mono hws))⟩
      case measure => simp [intOf]; omega
    · go_wp2
      go_ret
      exact ⟨rfl, HB.out⟩
end Go.Proofs.YthinoagdgbnphaaDoor
