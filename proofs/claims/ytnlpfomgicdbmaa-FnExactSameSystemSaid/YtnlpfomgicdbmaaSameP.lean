/- Parts, definitions, components compared: the program's functions. -/
import Derived.Test.YtnlpfomgicdbmaaProg
import Derived.WalkKit
import Derived.ProofKit
import Derived.BigQuiet
import Derived.StillTailTactics
import Derived.Laws.StructEq
import Derived.Outline
import Derived.Test.YtnlpfomgicdbmaaMem
import Derived.Test.YtnlpfomgicdbmaaSRow
import Derived.Test.YtnlpfomgicdbmaaDat
import Derived.Test.YtnlpfomgicdbmaaSameM
import Derived.Test.YtnlpfomgicdbmaaSameF
namespace Go.Proofs.Ytnlpfomgicdbmaa
open Go.RowKit
set_option maxRecDepth 100000 in
set_option maxHeartbeats 2000000 in
theorem eqfTs_any (A1 A2 : Option Addr) (n1 n2 c1 c2 : Nat) (xs ys : List (List Tm)) (w : World) (S1 S2 : Nat → Prop) (h1 : LRow (listR tmR) w S1 A1 xs) (h2 : LRow (listR tmR) w S2 A2 ys) (hS1 : ∀ b, S1 b → b < w.heap.size) (hS2 : ∀ b, S2 b → b < w.heap.size) (l1 : xs.length = n1) (l2 : ys.length = n2) (m1 : n1 ≤ maxLen) :
    Calls Try.prog 48 #[.slice A1 n1 c1, .slice A2 n2 c2, .func (.func 49) #[] #[]] w fun e w' => e = .returned (.bool (eqL (eqL tmE) xs ys)) ∧ Below w.heap.size w w' := by
  unfold maxLen at m1
  have L1 := Lib.hid l1
  have L2 := Lib.hid l2
  by_cases hl : n1 = n2
  · subst hl
    clear l1 l2
    go_enter Try.func48, Try.ntmps48
    go_wp2
    go_loopw [17] (fun i wr => ∃ k : Nat, k ≤ n1 ∧ i = .int .i64 k ∧ Hid (Below w.heap.size w wr) ∧ Hid (eqL (eqL tmE) xs ys = eqL (eqL tmE) (xs.drop k) (ys.drop k))) (fun i _ => n1 - (intOf i).toNat)
    case atStart => exact ⟨0, Nat.zero_le _, rfl, Lib.hid (Below.refl _ _), Lib.hid (by rw [List.drop_zero, List.drop_zero])⟩
    case round =>
      obtain ⟨k, hk, rfl, HB, HE⟩ := hrel
      by_cases hlt : k < n1
      · obtain ⟨b1, o1, cs1, x, rfl, hb1, hR1, hx, hc1⟩ := (h1.keep (SameOn.of_below HB.out hS1)).at_ (k := k) (by rw [L1.out]; exact hlt)
        obtain ⟨b2, o2, cs2, y, rfl, hb2, hR2, hy, hc2⟩ := (h2.keep (SameOn.of_below HB.out hS2)).at_ (k := k) (by rw [L2.out]; exact hlt)
        have hws := HB.out.size
        have hbw1 : b1 < wr.heap.size := Nat.lt_of_lt_of_le (hS1 b1 hb1) hws
        have hbw2 : b2 < wr.heap.size := Nat.lt_of_lt_of_le (hS2 b2 hb2) hws
        obtain ⟨A1, c1, rfl, hlc1, hcm1, hr1⟩ := hR1
        obtain ⟨A2, c2, rfl, hlc2, hcm2, hr2⟩ := hR2
        have p0 : wr.cell? ⟨b1, o1 + k, none⟩ = some (.slice A1 x.length c1) := (by have := hc1 0 _ rfl; simpa [listR] using this)
        have q0 : wr.cell? ⟨b2, o2 + k, none⟩ = some (.slice A2 y.length c2) := (by have := hc2 0 _ rfl; simpa [listR] using this)
        clear hc1 hc2
        have C := Lib.hid (fun (W : World) (hW : Below wr.heap.size wr W) => (Calls.mono (eqTms_any A1 A2 x.length y.length c1 c2 x y W S1 S2 (hr1.keep (SameOn.of_below hW fun b hb => Nat.lt_of_lt_of_le (hS1 b hb) hws)) (hr2.keep (SameOn.of_below hW fun b hb => Nat.lt_of_lt_of_le (hS2 b hb) hws)) rfl rfl (Nat.le_trans hlc1 hcm1)) (fun e w' ⟨he, hb⟩ => (⟨he, hW.trans (hb.below _)⟩ : e = Ending.returned (Value.bool ((eqL tmE) x y)) ∧ Below wr.heap.size wr w'))))
        clear hr1 hr2
        rcases hq : (eqL tmE) x y with _ | _
        · have HF := Lib.hid (show eqL (eqL tmE) xs ys = false from eqL_no HE.out hx.out hy.out hq)
          have HQ := Lib.hid hq
          clear hq
          go_wp2_with (go_at_call 49; refine (C.out _ (by repeat (first | exact Below.refl _ _ | refine Below.setCell ?_ (by simp) _ | refine Below.alloc ?_ (by simp <;> omega) _))).mono ?_; rw [HQ.out]; rintro e w2 ⟨rfl, b2⟩; have B2 := Lib.hid (HB.out.trans (b2.mono hws)); clear b2)
          go_ret
          exact ⟨ret_bool HF.out.symm, B2.out⟩
        · have HF := Lib.hid (eqL_next HE.out hx.out hy.out hq)
          have HQ := Lib.hid hq
          clear hq
          go_wp2_with (go_at_call 49; refine (C.out _ (by repeat (first | exact Below.refl _ _ | refine Below.setCell ?_ (by simp) _ | refine Below.alloc ?_ (by simp <;> omega) _))).mono ?_; rw [HQ.out]; rintro e w2 ⟨rfl, b2⟩; have B2 := Lib.hid (HB.out.trans (b2.mono hws)); clear b2)
          go_roundw
          case rel => exact ⟨k + 1, by omega, by go_num, B2, HF⟩
          case measure => simp [intOf]; omega
      · have HF := Lib.hid (show eqL (eqL tmE) xs ys = true by rw [HE.out, eqL_end (by rw [L1.out]; omega) (by rw [L2.out]; omega)])
        go_wp2
        go_ret
        exact ⟨ret_bool HF.out.symm, HB.out⟩
  · have HF := Lib.hid (show eqL (eqL tmE) xs ys = false from eqL_len (by rw [l1, l2]; exact hl))
    have e1 : ((n1 : Int) == (n2 : Int)) = false := by simp; omega
    have e2 : ((n1 : Int) != (n2 : Int)) = true := by simp; omega
    clear l1 l2
    go_enter Try.func48, Try.ntmps48
    go_wp2
    go_ret
    exact ⟨ret_bool HF.out.symm, Below.refl _ _⟩
set_option maxHeartbeats 2000000 in
theorem samePart_any (x y : Pt) (A1 A2 : Option Addr) (c1 c2 : Nat) (w : World) (S1 S2 : Nat → Prop) (m1 : x.args.length ≤ maxLen) (h1 : LRow (listR tmR) w S1 A1 x.args) (h2 : LRow (listR tmR) w S2 A2 y.args) (hS1 : ∀ b, S1 b → b < w.heap.size) (hS2 : ∀ b, S2 b → b < w.heap.size) :
    Calls Try.prog 38 #[.agg #[.int .i64 x.k, .int .i64 x.n, .string x.nm, .slice A1 x.args.length c1], .agg #[.int .i64 y.k, .int .i64 y.n, .string y.nm, .slice A2 y.args.length c2]] w fun e w' => e = .returned (.bool (ptE x y)) ∧ Below w.heap.size w w' := by
  have C := Lib.hid (fun (W : World) (hW : Below w.heap.size w W) => (Calls.mono (eqfTs_any A1 A2 x.args.length y.args.length c1 c2 x.args y.args W S1 S2 (h1.keep (SameOn.of_below hW hS1)) (h2.keep (SameOn.of_below hW hS2)) (fun b hb => Nat.lt_of_lt_of_le (hS1 b hb) hW.size) (fun b hb => Nat.lt_of_lt_of_le (hS2 b hb) hW.size) rfl rfl m1) (fun e w' ⟨he, hb⟩ => (⟨he, hW.trans (Below.mono hb hW.size)⟩ : e = Ending.returned (Value.bool (eqL (eqL tmE) x.args y.args)) ∧ Below w.heap.size w w'))))
  clear h1 h2 m1
  rcases t0 : (x.k == y.k) with _ | _
  · have HF := Lib.hid (show ptE x y = false by simp [ptE, txtE, t0])
    go_enter Try.func38, Try.ntmps38
    go_wp2
    go_ret
    exact ⟨ret_bool HF.out.symm, (by repeat (first | exact Below.refl _ _ | refine Below.setCell ?_ (by simp) _ | refine Below.alloc ?_ (by simp <;> omega) _))⟩
  rcases t1 : (x.n == y.n) with _ | _
  · have HF := Lib.hid (show ptE x y = false by simp [ptE, txtE, t0, t1])
    go_enter Try.func38, Try.ntmps38
    go_wp2
    go_ret
    exact ⟨ret_bool HF.out.symm, (by repeat (first | exact Below.refl _ _ | refine Below.setCell ?_ (by simp) _ | refine Below.alloc ?_ (by simp <;> omega) _))⟩
  rcases t2 : (x.nm.toList == y.nm.toList) with _ | _
  · have HF := Lib.hid (show ptE x y = false by simp [ptE, txtE, t0, t1, t2])
    go_enter Try.func38, Try.ntmps38
    go_wp2
    go_ret
    exact ⟨ret_bool HF.out.symm, (by repeat (first | exact Below.refl _ _ | refine Below.setCell ?_ (by simp) _ | refine Below.alloc ?_ (by simp <;> omega) _))⟩
  have HF := Lib.hid (show ptE x y = eqL (eqL tmE) x.args y.args by simp [ptE, txtE, t0, t1, t2])
  go_enter Try.func38, Try.ntmps38
  go_wp2_with (go_at_call 48; refine (C.out _ (by repeat (first | exact Below.refl _ _ | refine Below.setCell ?_ (by simp) _ | refine Below.alloc ?_ (by simp <;> omega) _))).mono ?_; rintro e w2 ⟨rfl, b2⟩; have B2 := Lib.hid b2; clear b2)
  go_ret
  exact ⟨ret_bool HF.out.symm, B2.out⟩
set_option maxRecDepth 100000 in
set_option maxHeartbeats 2000000 in
theorem eqfPt_any (A1 A2 : Option Addr) (n1 n2 c1 c2 : Nat) (xs ys : List (Pt)) (w : World) (S1 S2 : Nat → Prop) (h1 : LRow ptR w S1 A1 xs) (h2 : LRow ptR w S2 A2 ys) (hS1 : ∀ b, S1 b → b < w.heap.size) (hS2 : ∀ b, S2 b → b < w.heap.size) (l1 : xs.length = n1) (l2 : ys.length = n2) (m1 : n1 ≤ maxLen) :
    Calls Try.prog 37 #[.slice A1 n1 c1, .slice A2 n2 c2, .func (.func 38) #[] #[]] w fun e w' => e = .returned (.bool (eqL ptE xs ys)) ∧ Below w.heap.size w w' := by
  unfold maxLen at m1
  have L1 := Lib.hid l1
  have L2 := Lib.hid l2
  by_cases hl : n1 = n2
  · subst hl
    clear l1 l2
    go_enter Try.func37, Try.ntmps37
    go_wp2
    go_loopw [17] (fun i wr => ∃ k : Nat, k ≤ n1 ∧ i = .int .i64 k ∧ Hid (Below w.heap.size w wr) ∧ Hid (eqL ptE xs ys = eqL ptE (xs.drop k) (ys.drop k))) (fun i _ => n1 - (intOf i).toNat)
    case atStart => exact ⟨0, Nat.zero_le _, rfl, Lib.hid (Below.refl _ _), Lib.hid (by rw [List.drop_zero, List.drop_zero])⟩
    case round =>
      obtain ⟨k, hk, rfl, HB, HE⟩ := hrel
      by_cases hlt : k < n1
      · obtain ⟨b1, o1, cs1, x, rfl, hb1, hR1, hx, hc1⟩ := (h1.keep (SameOn.of_below HB.out hS1)).at_ (k := k) (by rw [L1.out]; exact hlt)
        obtain ⟨b2, o2, cs2, y, rfl, hb2, hR2, hy, hc2⟩ := (h2.keep (SameOn.of_below HB.out hS2)).at_ (k := k) (by rw [L2.out]; exact hlt)
        have hws := HB.out.size
        have hbw1 : b1 < wr.heap.size := Nat.lt_of_lt_of_le (hS1 b1 hb1) hws
        have hbw2 : b2 < wr.heap.size := Nat.lt_of_lt_of_le (hS2 b2 hb2) hws
        obtain ⟨A1, c1, rfl, hz1, hlc1, hcm1, hr1⟩ := hR1
        obtain ⟨A2, c2, rfl, hz2, hlc2, hcm2, hr2⟩ := hR2
        have p0 : wr.cell? ⟨b1, o1 + k * 4, none⟩ = some (.int .i64 x.k) := hc1 0 _ rfl
        have p1 : wr.cell? ⟨b1, o1 + k * 4 + 1, none⟩ = some (.int .i64 x.n) := hc1 1 _ rfl
        have p2 : wr.cell? ⟨b1, o1 + k * 4 + 2, none⟩ = some (.string x.nm) := hc1 2 _ rfl
        have p3 : wr.cell? ⟨b1, o1 + k * 4 + 3, none⟩ = some (.slice A1 x.args.length c1) := hc1 3 _ rfl
        have q0 : wr.cell? ⟨b2, o2 + k * 4, none⟩ = some (.int .i64 y.k) := hc2 0 _ rfl
        have q1 : wr.cell? ⟨b2, o2 + k * 4 + 1, none⟩ = some (.int .i64 y.n) := hc2 1 _ rfl
        have q2 : wr.cell? ⟨b2, o2 + k * 4 + 2, none⟩ = some (.string y.nm) := hc2 2 _ rfl
        have q3 : wr.cell? ⟨b2, o2 + k * 4 + 3, none⟩ = some (.slice A2 y.args.length c2) := hc2 3 _ rfl
        clear hc1 hc2
        have C := Lib.hid (fun (W : World) (hW : Below wr.heap.size wr W) => (Calls.mono (samePart_any x y A1 A2 c1 c2 W S1 S2 (Nat.le_trans hlc1 hcm1) (hr1.keep (SameOn.of_below hW fun b hb => Nat.lt_of_lt_of_le (hS1 b hb) hws)) (hr2.keep (SameOn.of_below hW fun b hb => Nat.lt_of_lt_of_le (hS2 b hb) hws)) (fun b hb => Nat.lt_of_lt_of_le (hS1 b hb) (Nat.le_trans hws hW.size)) (fun b hb => Nat.lt_of_lt_of_le (hS2 b hb) (Nat.le_trans hws hW.size))) (fun e w' ⟨he, hb⟩ => (⟨he, hW.trans (Below.mono hb hW.size)⟩ : e = Ending.returned (Value.bool (ptE x y)) ∧ Below wr.heap.size wr w'))))
        clear hr1 hr2 hz1 hz2
        rcases hq : ptE x y with _ | _
        · have HF := Lib.hid (show eqL ptE xs ys = false from eqL_no HE.out hx.out hy.out hq)
          have HQ := Lib.hid hq
          clear hq
          go_wp2_with (go_at_call 38; refine (C.out _ (by repeat (first | exact Below.refl _ _ | refine Below.setCell ?_ (by simp) _ | refine Below.alloc ?_ (by simp <;> omega) _))).mono ?_; rw [HQ.out]; rintro e w2 ⟨rfl, b2⟩; have B2 := Lib.hid (HB.out.trans (b2.mono hws)); clear b2)
          go_ret
          exact ⟨ret_bool HF.out.symm, B2.out⟩
        · have HF := Lib.hid (eqL_next HE.out hx.out hy.out hq)
          have HQ := Lib.hid hq
          clear hq
          go_wp2_with (go_at_call 38; refine (C.out _ (by repeat (first | exact Below.refl _ _ | refine Below.setCell ?_ (by simp) _ | refine Below.alloc ?_ (by simp <;> omega) _))).mono ?_; rw [HQ.out]; rintro e w2 ⟨rfl, b2⟩; have B2 := Lib.hid (HB.out.trans (b2.mono hws)); clear b2)
          go_roundw
          case rel => exact ⟨k + 1, by omega, by go_num, B2, HF⟩
          case measure => simp [intOf]; omega
      · have HF := Lib.hid (show eqL ptE xs ys = true by rw [HE.out, eqL_end (by rw [L1.out]; omega) (by rw [L2.out]; omega)])
        go_wp2
        go_ret
        exact ⟨ret_bool HF.out.symm, HB.out⟩
  · have HF := Lib.hid (show eqL ptE xs ys = false from eqL_len (by rw [l1, l2]; exact hl))
    have e1 : ((n1 : Int) == (n2 : Int)) = false := by simp; omega
    have e2 : ((n1 : Int) != (n2 : Int)) = true := by simp; omega
    clear l1 l2
    go_enter Try.func37, Try.ntmps37
    go_wp2
    go_ret
    exact ⟨ret_bool HF.out.symm, Below.refl _ _⟩
set_option maxHeartbeats 2000000 in
theorem sameDef_any (x y : Df) (A1 A2 : Option Addr) (c1 c2 : Nat) (w : World) (S1 S2 : Nat → Prop) (m1 : x.body.length ≤ maxLen) (h1 : LRow ptR w S1 A1 x.body) (h2 : LRow ptR w S2 A2 y.body) (hS1 : ∀ b, S1 b → b < w.heap.size) (hS2 : ∀ b, S2 b → b < w.heap.size) :
    Calls Try.prog 19 #[.agg #[.string x.nm, .int .i64 x.ps, .slice A1 x.body.length c1], .agg #[.string y.nm, .int .i64 y.ps, .slice A2 y.body.length c2]] w fun e w' => e = .returned (.bool (dfE x y)) ∧ Below w.heap.size w w' := by
  have C := Lib.hid (fun (W : World) (hW : Below w.heap.size w W) => (Calls.mono (eqfPt_any A1 A2 x.body.length y.body.length c1 c2 x.body y.body W S1 S2 (h1.keep (SameOn.of_below hW hS1)) (h2.keep (SameOn.of_below hW hS2)) (fun b hb => Nat.lt_of_lt_of_le (hS1 b hb) hW.size) (fun b hb => Nat.lt_of_lt_of_le (hS2 b hb) hW.size) rfl rfl m1) (fun e w' ⟨he, hb⟩ => (⟨he, hW.trans (Below.mono hb hW.size)⟩ : e = Ending.returned (Value.bool (eqL ptE x.body y.body)) ∧ Below w.heap.size w w'))))
  clear h1 h2 m1
  rcases t0 : (x.nm.toList == y.nm.toList) with _ | _
  · have HF := Lib.hid (show dfE x y = false by simp [dfE, txtE, t0])
    go_enter Try.func19, Try.ntmps19
    go_wp2
    go_ret
    exact ⟨ret_bool HF.out.symm, (by repeat (first | exact Below.refl _ _ | refine Below.setCell ?_ (by simp) _ | refine Below.alloc ?_ (by simp <;> omega) _))⟩
  rcases t1 : (x.ps == y.ps) with _ | _
  · have HF := Lib.hid (show dfE x y = false by simp [dfE, txtE, t0, t1])
    go_enter Try.func19, Try.ntmps19
    go_wp2
    go_ret
    exact ⟨ret_bool HF.out.symm, (by repeat (first | exact Below.refl _ _ | refine Below.setCell ?_ (by simp) _ | refine Below.alloc ?_ (by simp <;> omega) _))⟩
  have HF := Lib.hid (show dfE x y = eqL ptE x.body y.body by simp [dfE, txtE, t0, t1])
  go_enter Try.func19, Try.ntmps19
  go_wp2_with (go_at_call 37; refine (C.out _ (by repeat (first | exact Below.refl _ _ | refine Below.setCell ?_ (by simp) _ | refine Below.alloc ?_ (by simp <;> omega) _))).mono ?_; rintro e w2 ⟨rfl, b2⟩; have B2 := Lib.hid b2; clear b2)
  go_ret
  exact ⟨ret_bool HF.out.symm, B2.out⟩
set_option maxRecDepth 100000 in
set_option maxHeartbeats 2000000 in
theorem eqfDf_any (A1 A2 : Option Addr) (n1 n2 c1 c2 : Nat) (xs ys : List (Df)) (w : World) (S1 S2 : Nat → Prop) (h1 : LRow dfR w S1 A1 xs) (h2 : LRow dfR w S2 A2 ys) (hS1 : ∀ b, S1 b → b < w.heap.size) (hS2 : ∀ b, S2 b → b < w.heap.size) (l1 : xs.length = n1) (l2 : ys.length = n2) (m1 : n1 ≤ maxLen) :
    Calls Try.prog 18 #[.slice A1 n1 c1, .slice A2 n2 c2, .func (.func 19) #[] #[]] w fun e w' => e = .returned (.bool (eqL dfE xs ys)) ∧ Below w.heap.size w w' := by
  unfold maxLen at m1
  have L1 := Lib.hid l1
  have L2 := Lib.hid l2
  by_cases hl : n1 = n2
  · subst hl
    clear l1 l2
    go_enter Try.func18, Try.ntmps18
    go_wp2
    go_loopw [17] (fun i wr => ∃ k : Nat, k ≤ n1 ∧ i = .int .i64 k ∧ Hid (Below w.heap.size w wr) ∧ Hid (eqL dfE xs ys = eqL dfE (xs.drop k) (ys.drop k))) (fun i _ => n1 - (intOf i).toNat)
    case atStart => exact ⟨0, Nat.zero_le _, rfl, Lib.hid (Below.refl _ _), Lib.hid (by rw [List.drop_zero, List.drop_zero])⟩
    case round =>
      obtain ⟨k, hk, rfl, HB, HE⟩ := hrel
      by_cases hlt : k < n1
      · obtain ⟨b1, o1, cs1, x, rfl, hb1, hR1, hx, hc1⟩ := (h1.keep (SameOn.of_below HB.out hS1)).at_ (k := k) (by rw [L1.out]; exact hlt)
        obtain ⟨b2, o2, cs2, y, rfl, hb2, hR2, hy, hc2⟩ := (h2.keep (SameOn.of_below HB.out hS2)).at_ (k := k) (by rw [L2.out]; exact hlt)
        have hws := HB.out.size
        have hbw1 : b1 < wr.heap.size := Nat.lt_of_lt_of_le (hS1 b1 hb1) hws
        have hbw2 : b2 < wr.heap.size := Nat.lt_of_lt_of_le (hS2 b2 hb2) hws
        obtain ⟨A1, c1, rfl, hz1, hlc1, hcm1, hr1⟩ := hR1
        obtain ⟨A2, c2, rfl, hz2, hlc2, hcm2, hr2⟩ := hR2
        have p0 : wr.cell? ⟨b1, o1 + k * 3, none⟩ = some (.string x.nm) := hc1 0 _ rfl
        have p1 : wr.cell? ⟨b1, o1 + k * 3 + 1, none⟩ = some (.int .i64 x.ps) := hc1 1 _ rfl
        have p2 : wr.cell? ⟨b1, o1 + k * 3 + 2, none⟩ = some (.slice A1 x.body.length c1) := hc1 2 _ rfl
        have q0 : wr.cell? ⟨b2, o2 + k * 3, none⟩ = some (.string y.nm) := hc2 0 _ rfl
        have q1 : wr.cell? ⟨b2, o2 + k * 3 + 1, none⟩ = some (.int .i64 y.ps) := hc2 1 _ rfl
        have q2 : wr.cell? ⟨b2, o2 + k * 3 + 2, none⟩ = some (.slice A2 y.body.length c2) := hc2 2 _ rfl
        clear hc1 hc2
        have C := Lib.hid (fun (W : World) (hW : Below wr.heap.size wr W) => (Calls.mono (sameDef_any x y A1 A2 c1 c2 W S1 S2 (Nat.le_trans hlc1 hcm1) (hr1.keep (SameOn.of_below hW fun b hb => Nat.lt_of_lt_of_le (hS1 b hb) hws)) (hr2.keep (SameOn.of_below hW fun b hb => Nat.lt_of_lt_of_le (hS2 b hb) hws)) (fun b hb => Nat.lt_of_lt_of_le (hS1 b hb) (Nat.le_trans hws hW.size)) (fun b hb => Nat.lt_of_lt_of_le (hS2 b hb) (Nat.le_trans hws hW.size))) (fun e w' ⟨he, hb⟩ => (⟨he, hW.trans (Below.mono hb hW.size)⟩ : e = Ending.returned (Value.bool (dfE x y)) ∧ Below wr.heap.size wr w'))))
        clear hr1 hr2 hz1 hz2
        rcases hq : dfE x y with _ | _
        · have HF := Lib.hid (show eqL dfE xs ys = false from eqL_no HE.out hx.out hy.out hq)
          have HQ := Lib.hid hq
          clear hq
          go_wp2_with (go_at_call 19; refine (C.out _ (by repeat (first | exact Below.refl _ _ | refine Below.setCell ?_ (by simp) _ | refine Below.alloc ?_ (by simp <;> omega) _))).mono ?_; rw [HQ.out]; rintro e w2 ⟨rfl, b2⟩; have B2 := Lib.hid (HB.out.trans (b2.mono hws)); clear b2)
          go_ret
          exact ⟨ret_bool HF.out.symm, B2.out⟩
        · have HF := Lib.hid (eqL_next HE.out hx.out hy.out hq)
          have HQ := Lib.hid hq
          clear hq
          go_wp2_with (go_at_call 19; refine (C.out _ (by repeat (first | exact Below.refl _ _ | refine Below.setCell ?_ (by simp) _ | refine Below.alloc ?_ (by simp <;> omega) _))).mono ?_; rw [HQ.out]; rintro e w2 ⟨rfl, b2⟩; have B2 := Lib.hid (HB.out.trans (b2.mono hws)); clear b2)
          go_roundw
          case rel => exact ⟨k + 1, by omega, by go_num, B2, HF⟩
          case measure => simp [intOf]; omega
      · have HF := Lib.hid (show eqL dfE xs ys = true by rw [HE.out, eqL_end (by rw [L1.out]; omega) (by rw [L2.out]; omega)])
        go_wp2
        go_ret
        exact ⟨ret_bool HF.out.symm, HB.out⟩
  · have HF := Lib.hid (show eqL dfE xs ys = false from eqL_len (by rw [l1, l2]; exact hl))
    have e1 : ((n1 : Int) == (n2 : Int)) = false := by simp; omega
    have e2 : ((n1 : Int) != (n2 : Int)) = true := by simp; omega
    clear l1 l2
    go_enter Try.func18, Try.ntmps18
    go_wp2
    go_ret
    exact ⟨ret_bool HF.out.symm, Below.refl _ _⟩
set_option maxHeartbeats 2000000 in
theorem sameComp_any (x y : Cp) (A1 A2 : Option Addr) (c1 c2 : Nat) (w : World) (S1 S2 : Nat → Prop) (m1 : x.vs.length ≤ maxLen) (h1 : LRow intR w S1 A1 x.vs) (h2 : LRow intR w S2 A2 y.vs) (hS1 : ∀ b, S1 b → b < w.heap.size) (hS2 : ∀ b, S2 b → b < w.heap.size) :
    Calls Try.prog 21 #[.agg #[.int .i64 x.d, .slice A1 x.vs.length c1], .agg #[.int .i64 y.d, .slice A2 y.vs.length c2]] w fun e w' => e = .returned (.bool (cpE x y)) ∧ Below w.heap.size w w' := by
  have C := Lib.hid (fun (W : World) (hW : Below w.heap.size w W) => (Calls.mono (eqInts_any A1 A2 x.vs.length y.vs.length c1 c2 x.vs y.vs W S1 S2 (h1.keep (SameOn.of_below hW hS1)) (h2.keep (SameOn.of_below hW hS2)) rfl rfl m1) (fun e w' ⟨he, hb⟩ => (⟨he, hW.trans (hb.below _)⟩ : e = Ending.returned (Value.bool (eqL intE x.vs y.vs)) ∧ Below w.heap.size w w'))))
  clear h1 h2 m1
  rcases t0 : (x.d == y.d) with _ | _
  · have HF := Lib.hid (show cpE x y = false by simp [cpE, t0])
    go_enter Try.func21, Try.ntmps21
    go_wp2
    go_ret
    exact ⟨ret_bool HF.out.symm, (by repeat (first | exact Below.refl _ _ | refine Below.setCell ?_ (by simp) _ | refine Below.alloc ?_ (by simp <;> omega) _))⟩
  have HF := Lib.hid (show cpE x y = eqL intE x.vs y.vs by simp [cpE, t0])
  go_enter Try.func21, Try.ntmps21
  go_wp2_with (go_at_call 39; refine (C.out _ (by repeat (first | exact Below.refl _ _ | refine Below.setCell ?_ (by simp) _ | refine Below.alloc ?_ (by simp <;> omega) _))).mono ?_; rintro e w2 ⟨rfl, b2⟩; have B2 := Lib.hid b2; clear b2)
  go_ret
  exact ⟨ret_bool HF.out.symm, B2.out⟩
set_option maxRecDepth 100000 in
set_option maxHeartbeats 2000000 in
theorem eqfCp_any (A1 A2 : Option Addr) (n1 n2 c1 c2 : Nat) (xs ys : List (Cp)) (w : World) (S1 S2 : Nat → Prop) (h1 : LRow cpR w S1 A1 xs) (h2 : LRow cpR w S2 A2 ys) (hS1 : ∀ b, S1 b → b < w.heap.size) (hS2 : ∀ b, S2 b → b < w.heap.size) (l1 : xs.length = n1) (l2 : ys.length = n2) (m1 : n1 ≤ maxLen) :
    Calls Try.prog 20 #[.slice A1 n1 c1, .slice A2 n2 c2, .func (.func 21) #[] #[]] w fun e w' => e = .returned (.bool (eqL cpE xs ys)) ∧ Below w.heap.size w w' := by
  unfold maxLen at m1
  have L1 := Lib.hid l1
  have L2 := Lib.hid l2
  by_cases hl : n1 = n2
  · subst hl
    clear l1 l2
    go_enter Try.func20, Try.ntmps20
    go_wp2
    go_loopw [17] (fun i wr => ∃ k : Nat, k ≤ n1 ∧ i = .int .i64 k ∧ Hid (Below w.heap.size w wr) ∧ Hid (eqL cpE xs ys = eqL cpE (xs.drop k) (ys.drop k))) (fun i _ => n1 - (intOf i).toNat)
    case atStart => exact ⟨0, Nat.zero_le _, rfl, Lib.hid (Below.refl _ _), Lib.hid (by rw [List.drop_zero, List.drop_zero])⟩
    case round =>
      obtain ⟨k, hk, rfl, HB, HE⟩ := hrel
      by_cases hlt : k < n1
      · obtain ⟨b1, o1, cs1, x, rfl, hb1, hR1, hx, hc1⟩ := (h1.keep (SameOn.of_below HB.out hS1)).at_ (k := k) (by rw [L1.out]; exact hlt)
        obtain ⟨b2, o2, cs2, y, rfl, hb2, hR2, hy, hc2⟩ := (h2.keep (SameOn.of_below HB.out hS2)).at_ (k := k) (by rw [L2.out]; exact hlt)
        have hws := HB.out.size
        have hbw1 : b1 < wr.heap.size := Nat.lt_of_lt_of_le (hS1 b1 hb1) hws
        have hbw2 : b2 < wr.heap.size := Nat.lt_of_lt_of_le (hS2 b2 hb2) hws
        obtain ⟨A1, c1, rfl, hlc1, hcm1, hr1⟩ := hR1
        obtain ⟨A2, c2, rfl, hlc2, hcm2, hr2⟩ := hR2
        have p0 : wr.cell? ⟨b1, o1 + k * 2, none⟩ = some (.int .i64 x.d) := hc1 0 _ rfl
        have p1 : wr.cell? ⟨b1, o1 + k * 2 + 1, none⟩ = some (.slice A1 x.vs.length c1) := hc1 1 _ rfl
        have q0 : wr.cell? ⟨b2, o2 + k * 2, none⟩ = some (.int .i64 y.d) := hc2 0 _ rfl
        have q1 : wr.cell? ⟨b2, o2 + k * 2 + 1, none⟩ = some (.slice A2 y.vs.length c2) := hc2 1 _ rfl
        clear hc1 hc2
        have C := Lib.hid (fun (W : World) (hW : Below wr.heap.size wr W) => (Calls.mono (sameComp_any x y A1 A2 c1 c2 W S1 S2 (Nat.le_trans hlc1 hcm1) (hr1.keep (SameOn.of_below hW fun b hb => Nat.lt_of_lt_of_le (hS1 b hb) hws)) (hr2.keep (SameOn.of_below hW fun b hb => Nat.lt_of_lt_of_le (hS2 b hb) hws)) (fun b hb => Nat.lt_of_lt_of_le (hS1 b hb) (Nat.le_trans hws hW.size)) (fun b hb => Nat.lt_of_lt_of_le (hS2 b hb) (Nat.le_trans hws hW.size))) (fun e w' ⟨he, hb⟩ => (⟨he, hW.trans (Below.mono hb hW.size)⟩ : e = Ending.returned (Value.bool (cpE x y)) ∧ Below wr.heap.size wr w'))))
        clear hr1 hr2
        rcases hq : cpE x y with _ | _
        · have HF := Lib.hid (show eqL cpE xs ys = false from eqL_no HE.out hx.out hy.out hq)
          have HQ := Lib.hid hq
          clear hq
          go_wp2_with (go_at_call 21; refine (C.out _ (by repeat (first | exact Below.refl _ _ | refine Below.setCell ?_ (by simp) _ | refine Below.alloc ?_ (by simp <;> omega) _))).mono ?_; rw [HQ.out]; rintro e w2 ⟨rfl, b2⟩; have B2 := Lib.hid (HB.out.trans (b2.mono hws)); clear b2)
          go_ret
          exact ⟨ret_bool HF.out.symm, B2.out⟩
        · have HF := Lib.hid (eqL_next HE.out hx.out hy.out hq)
          have HQ := Lib.hid hq
          clear hq
          go_wp2_with (go_at_call 21; refine (C.out _ (by repeat (first | exact Below.refl _ _ | refine Below.setCell ?_ (by simp) _ | refine Below.alloc ?_ (by simp <;> omega) _))).mono ?_; rw [HQ.out]; rintro e w2 ⟨rfl, b2⟩; have B2 := Lib.hid (HB.out.trans (b2.mono hws)); clear b2)
          go_roundw
          case rel => exact ⟨k + 1, by omega, by go_num, B2, HF⟩
          case measure => simp [intOf]; omega
      · have HF := Lib.hid (show eqL cpE xs ys = true by rw [HE.out, eqL_end (by rw [L1.out]; omega) (by rw [L2.out]; omega)])
        go_wp2
        go_ret
        exact ⟨ret_bool HF.out.symm, HB.out⟩
  · have HF := Lib.hid (show eqL cpE xs ys = false from eqL_len (by rw [l1, l2]; exact hl))
    have e1 : ((n1 : Int) == (n2 : Int)) = false := by simp; omega
    have e2 : ((n1 : Int) != (n2 : Int)) = true := by simp; omega
    clear l1 l2
    go_enter Try.func20, Try.ntmps20
    go_wp2
    go_ret
    exact ⟨ret_bool HF.out.symm, Below.refl _ _⟩
end Go.Proofs.Ytnlpfomgicdbmaa
