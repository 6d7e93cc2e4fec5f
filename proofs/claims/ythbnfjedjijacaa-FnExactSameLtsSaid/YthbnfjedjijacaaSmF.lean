/- Lists of texts and of edges compared element by element. -/
import Derived.Test.YthbnfjedjijacaaProg
import Derived.WalkKit
import Derived.ProofKit
import Derived.BigQuiet
import Derived.StillTailTactics
import Derived.Laws.StructEq
import Derived.Outline
import Derived.Test.YthbnfjedjijacaaMem
import Derived.Test.YthbnfjedjijacaaSRow
import Derived.Test.YthbnfjedjijacaaDat
import Derived.Test.YthbnfjedjijacaaSameM
import Derived.Test.YthbnfjedjijacaaLtD
namespace Go.Proofs.Ythbnfjedjijacaa
open Go.RowKit
def edE (a b : Ed) : Bool := a.f == b.f && (a.l == b.l && a.t == b.t)
def ltE (x y : Lt) : Bool := x.st == y.st && (x.ini == y.ini && (eqL txtE x.ls y.ls && eqL edE x.es y.es))
theorem neqEd (x y : Ed) (w : World) : (binOp .neq 42 (.agg #[.int .i64 x.f, .int .i64 x.l, .int .i64 x.t]) (.agg #[.int .i64 y.f, .int .i64 y.l, .int .i64 y.t])).run Try.prog w = .ok (.bool (!(edE x y))) w := by
  unfold edE
  rcases h1 : (x.f == y.f) with _ | _ <;> rcases h2 : (x.l == y.l) with _ | _ <;> rcases h3 : (x.t == y.t) with _ | _ <;> simp [go_sem, run_equalIn_agg, h1, h2, h3, Try.underlying42, Try.underlying2]
set_option maxRecDepth 100000 in
set_option maxHeartbeats 1000000 in
theorem l11Texts_any (A1 A2 : Option Addr) (n1 n2 c1 c2 : Nat) (xs ys : List ByteArray) (w : World) (S1 S2 : Nat → Prop) (h1 : LRow txtR w S1 A1 xs) (h2 : LRow txtR w S2 A2 ys) (l1 : xs.length = n1) (l2 : ys.length = n2) (m1 : n1 ≤ maxLen) :
    Calls Try.prog 18 #[.slice A1 n1 c1, .slice A2 n2 c2] w fun e w' => e = .returned (.bool (eqL txtE xs ys)) ∧ Drawn w w' := by
  unfold maxLen at m1
  have L1 := Lib.hid l1
  have L2 := Lib.hid l2
  by_cases hl : n1 = n2
  · subst hl
    clear l1 l2
    go_enter Try.func18, Try.ntmps18
    go_wp2
    go_loopw [5] (fun i wr => ∃ k : Nat, k ≤ n1 ∧ i = .int .i64 k ∧ Hid (Drawn w wr) ∧ Hid (eqL txtE xs ys = eqL txtE (xs.drop k) (ys.drop k))) (fun i _ => n1 - (intOf i).toNat)
    case atStart => exact ⟨0, Nat.zero_le _, rfl, Lib.hid (Drawn.refl _), Lib.hid (by rw [List.drop_zero, List.drop_zero])⟩
    case round =>
      obtain ⟨k, hk, rfl, HD, HE⟩ := hrel
      by_cases hlt : k < n1
      · obtain ⟨b1, o1, cs1, x, rfl, hb1, hR1, hx, hc1⟩ := (h1.keep (SameOn.of_drawn HD.out)).at_ (k := k) (by rw [L1.out]; exact hlt)
        obtain ⟨b2, o2, cs2, y, rfl, hb2, hR2, hy, hc2⟩ := (h2.keep (SameOn.of_drawn HD.out)).at_ (k := k) (by rw [L2.out]; exact hlt)
        obtain ⟨rfl, hz1⟩ := hR1
        obtain ⟨rfl, hz2⟩ := hR2
        have p0 : wr.cell? ⟨b1, o1 + k, none⟩ = some (.string x) := (by have := hc1 0 _ rfl; simpa [txtR] using this)
        have q0 : wr.cell? ⟨b2, o2 + k, none⟩ = some (.string y) := (by have := hc2 0 _ rfl; simpa [txtR] using this)
        clear hc1 hc2 hz1 hz2
        have HDN := Lib.hid (fun n => HD.out.drewN n)
        rcases hq : txtE x y with _ | _
        · have HF := Lib.hid (show eqL txtE xs ys = false from eqL_no HE.out hx.out hy.out hq)
          have hq1 : (x.toList == y.toList) = false := hq
          clear hq
          go_wp2
          go_quiet (fail)
          go_wp2
          go_ret
          exact ⟨ret_bool HF.out.symm, HDN.out _⟩
        · have HF := Lib.hid (eqL_next HE.out hx.out hy.out hq)
          have hq1 : (x.toList == y.toList) = true := hq
          clear hq
          go_wp2
          go_quiet (fail)
          go_wp2
          go_roundw
          case rel => exact ⟨k + 1, by omega, by go_num, Lib.hid (HDN.out _), HF⟩
          case measure => simp [intOf]; omega
      · have HF := Lib.hid (show eqL txtE xs ys = true by rw [HE.out, eqL_end (by rw [L1.out]; omega) (by rw [L2.out]; omega)])
        go_wp2
        go_ret
        exact ⟨ret_bool HF.out.symm, HD.out⟩
  · have HF := Lib.hid (show eqL txtE xs ys = false from eqL_len (by rw [l1, l2]; exact hl))
    have e1 : ((n1 : Int) == (n2 : Int)) = false := by simp; omega
    have e2 : ((n1 : Int) != (n2 : Int)) = true := by simp; omega
    clear l1 l2
    go_enter Try.func18, Try.ntmps18
    go_wp2
    go_ret
    exact ⟨ret_bool HF.out.symm, Drawn.refl _⟩
set_option maxRecDepth 100000 in
set_option maxHeartbeats 1000000 in
theorem eqTxts_any (A1 A2 : Option Addr) (n1 n2 c1 c2 : Nat) (xs ys : List ByteArray) (w : World) (S1 S2 : Nat → Prop) (h1 : LRow txtR w S1 A1 xs) (h2 : LRow txtR w S2 A2 ys) (l1 : xs.length = n1) (l2 : ys.length = n2) (m1 : n1 ≤ maxLen) :
    Calls Try.prog 14 #[.slice A1 n1 c1, .slice A2 n2 c2] w fun e w' => e = .returned (.bool (eqL txtE xs ys)) ∧ Drawn w w' := by
  unfold maxLen at m1
  have L1 := Lib.hid l1
  have L2 := Lib.hid l2
  by_cases hl : n1 = n2
  · subst hl
    clear l1 l2
    go_enter Try.func14, Try.ntmps14
    go_wp2
    go_loopw [13] (fun i wr => ∃ k : Nat, k ≤ n1 ∧ i = .int .i64 k ∧ Hid (Drawn w wr) ∧ Hid (eqL txtE xs ys = eqL txtE (xs.drop k) (ys.drop k))) (fun i _ => n1 - (intOf i).toNat)
    case atStart => exact ⟨0, Nat.zero_le _, rfl, Lib.hid (Drawn.refl _), Lib.hid (by rw [List.drop_zero, List.drop_zero])⟩
    case round =>
      obtain ⟨k, hk, rfl, HD, HE⟩ := hrel
      by_cases hlt : k < n1
      · obtain ⟨b1, o1, cs1, x, rfl, hb1, hR1, hx, hc1⟩ := (h1.keep (SameOn.of_drawn HD.out)).at_ (k := k) (by rw [L1.out]; exact hlt)
        obtain ⟨b2, o2, cs2, y, rfl, hb2, hR2, hy, hc2⟩ := (h2.keep (SameOn.of_drawn HD.out)).at_ (k := k) (by rw [L2.out]; exact hlt)
        obtain ⟨rfl, hz1⟩ := hR1
        obtain ⟨rfl, hz2⟩ := hR2
        have p0 : wr.cell? ⟨b1, o1 + k, none⟩ = some (.string x) := (by have := hc1 0 _ rfl; simpa [txtR] using this)
        have q0 : wr.cell? ⟨b2, o2 + k, none⟩ = some (.string y) := (by have := hc2 0 _ rfl; simpa [txtR] using this)
        clear hc1 hc2 hz1 hz2
        have HDN := Lib.hid (fun n => HD.out.drewN n)
        rcases hq : txtE x y with _ | _
        · have HF := Lib.hid (show eqL txtE xs ys = false from eqL_no HE.out hx.out hy.out hq)
          have hq1 : (x.toList == y.toList) = false := hq
          clear hq
          go_wp2
          go_quiet (fail)
          go_wp2
          go_ret
          exact ⟨ret_bool HF.out.symm, HDN.out _⟩
        · have HF := Lib.hid (eqL_next HE.out hx.out hy.out hq)
          have hq1 : (x.toList == y.toList) = true := hq
          clear hq
          go_wp2
          go_quiet (fail)
          go_wp2
          go_roundw
          case rel => exact ⟨k + 1, by omega, by go_num, Lib.hid (HDN.out _), HF⟩
          case measure => simp [intOf]; omega
      · have HF := Lib.hid (show eqL txtE xs ys = true by rw [HE.out, eqL_end (by rw [L1.out]; omega) (by rw [L2.out]; omega)])
        go_wp2
        go_ret
        exact ⟨ret_bool HF.out.symm, HD.out⟩
  · have HF := Lib.hid (show eqL txtE xs ys = false from eqL_len (by rw [l1, l2]; exact hl))
    have e1 : ((n1 : Int) == (n2 : Int)) = false := by simp; omega
    have e2 : ((n1 : Int) != (n2 : Int)) = true := by simp; omega
    clear l1 l2
    go_enter Try.func14, Try.ntmps14
    go_wp2
    go_ret
    exact ⟨ret_bool HF.out.symm, Drawn.refl _⟩
set_option maxRecDepth 100000 in
set_option maxHeartbeats 1000000 in
theorem eqEds_any (A1 A2 : Option Addr) (n1 n2 c1 c2 : Nat) (xs ys : List Ed) (w : World) (S1 S2 : Nat → Prop) (h1 : LRow edR w S1 A1 xs) (h2 : LRow edR w S2 A2 ys) (l1 : xs.length = n1) (l2 : ys.length = n2) (m1 : n1 ≤ maxLen) :
    Calls Try.prog 15 #[.slice A1 n1 c1, .slice A2 n2 c2] w fun e w' => e = .returned (.bool (eqL edE xs ys)) ∧ Drawn w w' := by
  unfold maxLen at m1
  have L1 := Lib.hid l1
  have L2 := Lib.hid l2
  by_cases hl : n1 = n2
  · subst hl
    clear l1 l2
    go_enter Try.func15, Try.ntmps15
    go_wp2
    go_loopw [13] (fun i wr => ∃ k : Nat, k ≤ n1 ∧ i = .int .i64 k ∧ Hid (Drawn w wr) ∧ Hid (eqL edE xs ys = eqL edE (xs.drop k) (ys.drop k))) (fun i _ => n1 - (intOf i).toNat)
    case atStart => exact ⟨0, Nat.zero_le _, rfl, Lib.hid (Drawn.refl _), Lib.hid (by rw [List.drop_zero, List.drop_zero])⟩
    case round =>
      obtain ⟨k, hk, rfl, HD, HE⟩ := hrel
      by_cases hlt : k < n1
      · obtain ⟨b1, o1, cs1, x, rfl, hb1, hR1, hx, hc1⟩ := (h1.keep (SameOn.of_drawn HD.out)).at_ (k := k) (by rw [L1.out]; exact hlt)
        obtain ⟨b2, o2, cs2, y, rfl, hb2, hR2, hy, hc2⟩ := (h2.keep (SameOn.of_drawn HD.out)).at_ (k := k) (by rw [L2.out]; exact hlt)
        change _ = [Value.int .i64 x.f, Value.int .i64 x.l, Value.int .i64 x.t] at hR1
        subst hR1
        change _ = [Value.int .i64 y.f, Value.int .i64 y.l, Value.int .i64 y.t] at hR2
        subst hR2
        have p0 : wr.cell? ⟨b1, o1 + k * 3, none⟩ = some (.int .i64 x.f) := hc1 0 _ rfl
        have p1 : wr.cell? ⟨b1, o1 + k * 3 + 1, none⟩ = some (.int .i64 x.l) := hc1 1 _ rfl
        have p2 : wr.cell? ⟨b1, o1 + k * 3 + 2, none⟩ = some (.int .i64 x.t) := hc1 2 _ rfl
        have q0 : wr.cell? ⟨b2, o2 + k * 3, none⟩ = some (.int .i64 y.f) := hc2 0 _ rfl
        have q1 : wr.cell? ⟨b2, o2 + k * 3 + 1, none⟩ = some (.int .i64 y.l) := hc2 1 _ rfl
        have q2 : wr.cell? ⟨b2, o2 + k * 3 + 2, none⟩ = some (.int .i64 y.t) := hc2 2 _ rfl
        clear hc1 hc2
        have HDN := Lib.hid (fun n => HD.out.drewN n)
        have HN := fun W => neqEd x y W
        rcases hq : edE x y with _ | _
        · have HF := Lib.hid (show eqL edE xs ys = false from eqL_no HE.out hx.out hy.out hq)
          rw [hq] at HN
          clear hq
          go_wp2
          go_quiet (fail)
          go_wp2
          go_ret
          exact ⟨ret_bool HF.out.symm, HDN.out _⟩
        · have HF := Lib.hid (eqL_next HE.out hx.out hy.out hq)
          rw [hq] at HN
          clear hq
          go_wp2
          go_quiet (fail)
          go_wp2
          go_roundw
          case rel => exact ⟨k + 1, by omega, by go_num, Lib.hid (HDN.out _), HF⟩
          case measure => simp [intOf]; omega
      · have HF := Lib.hid (show eqL edE xs ys = true by rw [HE.out, eqL_end (by rw [L1.out]; omega) (by rw [L2.out]; omega)])
        go_wp2
        go_ret
        exact ⟨ret_bool HF.out.symm, HD.out⟩
  · have HF := Lib.hid (show eqL edE xs ys = false from eqL_len (by rw [l1, l2]; exact hl))
    have e1 : ((n1 : Int) == (n2 : Int)) = false := by simp; omega
    have e2 : ((n1 : Int) != (n2 : Int)) = true := by simp; omega
    clear l1 l2
    go_enter Try.func15, Try.ntmps15
    go_wp2
    go_ret
    exact ⟨ret_bool HF.out.symm, Drawn.refl _⟩
end Go.Proofs.Ythbnfjedjijacaa
