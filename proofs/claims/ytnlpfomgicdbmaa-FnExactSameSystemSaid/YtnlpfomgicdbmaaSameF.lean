/- Lists compared element by element: the model's functions and the library's. -/
import Derived.Test.YtnlpfomgicdbmaaProg
import Derived.WalkKit
import Derived.ProofKit
import Derived.BigQuiet
import Derived.StillTailTactics
import Derived.Laws.StructEq
import Derived.Outline
import Derived.Test.YtnlpfomgicdbmaaMem
import Derived.Test.YtnlpfomgicdbmaaSRow
import Derived.Test.YtnlpfomgicdbmaaDat
import Derived.Test.YtnlpfomgicdbmaaSameM
namespace Go.Proofs.Ytnlpfomgicdbmaa
open Go.RowKit
theorem neqTm (a b c d : Int) (w : World) : (binOp .neq 90 (.agg #[.int .i64 a, .int .i64 b]) (.agg #[.int .i64 c, .int .i64 d])).run Try.prog w = .ok (.bool (!(a == c && b == d))) w := by
  rcases h1 : (a == c) with _ | _ <;> rcases h2 : (b == d) with _ | _ <;> simp [go_sem, run_equalIn_agg, h1, h2, Try.underlying90, Try.underlying2]
theorem neqMt (x y : Mt) (w : World) : (binOp .neq 59 (.agg #[.string x.l, .string x.r, .string x.s]) (.agg #[.string y.l, .string y.r, .string y.s])).run Try.prog w = .ok (.bool (!(mtE x y))) w := by
  unfold mtE txtE
  by_cases h1 : x.l.toList = y.l.toList <;> by_cases h2 : x.r.toList = y.r.toList <;> by_cases h3 : x.s.toList = y.s.toList <;> simp [go_sem, run_equalIn_agg, h1, h2, h3, Try.underlying59, Try.underlying9]
set_option maxRecDepth 100000 in
set_option maxHeartbeats 1000000 in
theorem l03Same_any (A1 A2 : Option Addr) (n1 n2 c1 c2 : Nat) (xs ys : List Tm) (w : World) (S1 S2 : Nat → Prop) (h1 : LRow tmR w S1 A1 xs) (h2 : LRow tmR w S2 A2 ys) (l1 : xs.length = n1) (l2 : ys.length = n2) (m1 : n1 ≤ maxLen) :
    Calls Try.prog 45 #[.slice A1 n1 c1, .slice A2 n2 c2] w fun e w' => e = .returned (.bool (eqL tmE xs ys)) ∧ Drawn w w' := by
  unfold maxLen at m1
  have L1 := Lib.hid l1
  have L2 := Lib.hid l2
  by_cases hl : n1 = n2
  · subst hl
    clear l1 l2
    go_enter Try.func45, Try.ntmps45
    go_wp2
    go_loopw [5] (fun i wr => ∃ k : Nat, k ≤ n1 ∧ i = .int .i64 k ∧ Hid (Drawn w wr) ∧ Hid (eqL tmE xs ys = eqL tmE (xs.drop k) (ys.drop k))) (fun i _ => n1 - (intOf i).toNat)
    case atStart => exact ⟨0, Nat.zero_le _, rfl, Lib.hid (Drawn.refl _), Lib.hid (by rw [List.drop_zero, List.drop_zero])⟩
    case round =>
      obtain ⟨k, hk, rfl, HD, HE⟩ := hrel
      by_cases hlt : k < n1
      · obtain ⟨b1, o1, cs1, x, rfl, hb1, hR1, hx, hc1⟩ := (h1.keep (SameOn.of_drawn HD.out)).at_ (k := k) (by rw [L1.out]; exact hlt)
        obtain ⟨b2, o2, cs2, y, rfl, hb2, hR2, hy, hc2⟩ := (h2.keep (SameOn.of_drawn HD.out)).at_ (k := k) (by rw [L2.out]; exact hlt)
        change _ = [Value.int .i64 x.k, Value.int .i64 x.v] at hR1
        subst hR1
        change _ = [Value.int .i64 y.k, Value.int .i64 y.v] at hR2
        subst hR2
        have p0 : wr.cell? ⟨b1, o1 + k * 2, none⟩ = some (.int .i64 x.k) := hc1 0 _ rfl
        have p1 : wr.cell? ⟨b1, o1 + k * 2 + 1, none⟩ = some (.int .i64 x.v) := hc1 1 _ rfl
        have q0 : wr.cell? ⟨b2, o2 + k * 2, none⟩ = some (.int .i64 y.k) := hc2 0 _ rfl
        have q1 : wr.cell? ⟨b2, o2 + k * 2 + 1, none⟩ = some (.int .i64 y.v) := hc2 1 _ rfl
        clear hc1 hc2
        have HDN := Lib.hid (fun n => HD.out.drewN n)
        have HN := fun W => neqTm x.k x.v y.k y.v W
        rcases hq : tmE x y with _ | _
        · have HF := Lib.hid (show eqL tmE xs ys = false from eqL_no HE.out hx.out hy.out hq)
          rw [show (x.k == y.k && x.v == y.v) = _ from hq] at HN
          clear hq
          go_wp2
          go_quiet (fail)
          go_wp2
          go_ret
          exact ⟨ret_bool HF.out.symm, HDN.out _⟩
        · have HF := Lib.hid (eqL_next HE.out hx.out hy.out hq)
          rw [show (x.k == y.k && x.v == y.v) = _ from hq] at HN
          clear hq
          go_wp2
          go_quiet (fail)
          go_wp2
          go_roundw
          case rel => exact ⟨k + 1, by omega, by go_num, Lib.hid (HDN.out _), HF⟩
          case measure => simp [intOf]; omega
      · have HF := Lib.hid (show eqL tmE xs ys = true by rw [HE.out, eqL_end (by rw [L1.out]; omega) (by rw [L2.out]; omega)])
        go_wp2
        go_ret
        exact ⟨ret_bool HF.out.symm, HD.out⟩
  · have HF := Lib.hid (show eqL tmE xs ys = false from eqL_len (by rw [l1, l2]; exact hl))
    have e1 : ((n1 : Int) == (n2 : Int)) = false := by simp; omega
    have e2 : ((n1 : Int) != (n2 : Int)) = true := by simp; omega
    clear l1 l2
    go_enter Try.func45, Try.ntmps45
    go_wp2
    go_ret
    exact ⟨ret_bool HF.out.symm, Drawn.refl _⟩
set_option maxRecDepth 100000 in
set_option maxHeartbeats 1000000 in
theorem l00Same_any (A1 A2 : Option Addr) (n1 n2 c1 c2 : Nat) (xs ys : List Int) (w : World) (S1 S2 : Nat → Prop) (h1 : LRow intR w S1 A1 xs) (h2 : LRow intR w S2 A2 ys) (l1 : xs.length = n1) (l2 : ys.length = n2) (m1 : n1 ≤ maxLen) :
    Calls Try.prog 32 #[.slice A1 n1 c1, .slice A2 n2 c2] w fun e w' => e = .returned (.bool (eqL intE xs ys)) ∧ Drawn w w' := by
  unfold maxLen at m1
  have L1 := Lib.hid l1
  have L2 := Lib.hid l2
  by_cases hl : n1 = n2
  · subst hl
    clear l1 l2
    go_enter Try.func32, Try.ntmps32
    go_wp2
    go_loopw [5] (fun i wr => ∃ k : Nat, k ≤ n1 ∧ i = .int .i64 k ∧ Hid (Drawn w wr) ∧ Hid (eqL intE xs ys = eqL intE (xs.drop k) (ys.drop k))) (fun i _ => n1 - (intOf i).toNat)
    case atStart => exact ⟨0, Nat.zero_le _, rfl, Lib.hid (Drawn.refl _), Lib.hid (by rw [List.drop_zero, List.drop_zero])⟩
    case round =>
      obtain ⟨k, hk, rfl, HD, HE⟩ := hrel
      by_cases hlt : k < n1
      · obtain ⟨b1, o1, cs1, x, rfl, hb1, hR1, hx, hc1⟩ := (h1.keep (SameOn.of_drawn HD.out)).at_ (k := k) (by rw [L1.out]; exact hlt)
        obtain ⟨b2, o2, cs2, y, rfl, hb2, hR2, hy, hc2⟩ := (h2.keep (SameOn.of_drawn HD.out)).at_ (k := k) (by rw [L2.out]; exact hlt)
        obtain rfl := hR1
        obtain rfl := hR2
        have p0 : wr.cell? ⟨b1, o1 + k, none⟩ = some (.int .i64 x) := (by have := hc1 0 _ rfl; simpa [intR] using this)
        have q0 : wr.cell? ⟨b2, o2 + k, none⟩ = some (.int .i64 y) := (by have := hc2 0 _ rfl; simpa [intR] using this)
        clear hc1 hc2
        have HDN := Lib.hid (fun n => HD.out.drewN n)
        rcases hq : intE x y with _ | _
        · have HF := Lib.hid (show eqL intE xs ys = false from eqL_no HE.out hx.out hy.out hq)
          have hq1 : (x == y) = false := hq
          have hq2 : (x != y) = true := by simp [bne, hq1]
          clear hq
          go_wp2
          go_quiet (fail)
          go_wp2
          go_ret
          exact ⟨ret_bool HF.out.symm, HDN.out _⟩
        · have HF := Lib.hid (eqL_next HE.out hx.out hy.out hq)
          have hq0 : x = y := by simpa [intE] using hq
          subst hq0
          have hq2 : (x != x) = false := by simp
          clear hq
          go_wp2
          go_quiet (fail)
          go_wp2
          go_roundw
          case rel => exact ⟨k + 1, by omega, by go_num, Lib.hid (HDN.out _), HF⟩
          case measure => simp [intOf]; omega
      · have HF := Lib.hid (show eqL intE xs ys = true by rw [HE.out, eqL_end (by rw [L1.out]; omega) (by rw [L2.out]; omega)])
        go_wp2
        go_ret
        exact ⟨ret_bool HF.out.symm, HD.out⟩
  · have HF := Lib.hid (show eqL intE xs ys = false from eqL_len (by rw [l1, l2]; exact hl))
    have e1 : ((n1 : Int) == (n2 : Int)) = false := by simp; omega
    have e2 : ((n1 : Int) != (n2 : Int)) = true := by simp; omega
    clear l1 l2
    go_enter Try.func32, Try.ntmps32
    go_wp2
    go_ret
    exact ⟨ret_bool HF.out.symm, Drawn.refl _⟩
set_option maxRecDepth 100000 in
set_option maxHeartbeats 1000000 in
theorem l11Texts_any (A1 A2 : Option Addr) (n1 n2 c1 c2 : Nat) (xs ys : List ByteArray) (w : World) (S1 S2 : Nat → Prop) (h1 : LRow txtR w S1 A1 xs) (h2 : LRow txtR w S2 A2 ys) (l1 : xs.length = n1) (l2 : ys.length = n2) (m1 : n1 ≤ maxLen) :
    Calls Try.prog 33 #[.slice A1 n1 c1, .slice A2 n2 c2] w fun e w' => e = .returned (.bool (eqL txtE xs ys)) ∧ Drawn w w' := by
  unfold maxLen at m1
  have L1 := Lib.hid l1
  have L2 := Lib.hid l2
  by_cases hl : n1 = n2
  · subst hl
    clear l1 l2
    go_enter Try.func33, Try.ntmps33
    go_wp2
    go_loopw [5] (fun i wr => ∃ k : Nat, k ≤ n1 ∧ i = .int .i64 k ∧ Hid (Drawn w wr) ∧ Hid (eqL txtE xs ys = eqL txtE (xs.drop k) (ys.drop k))) (fun i _ => n1 - (intOf i).toNat)
    case atStart => exact ⟨0, Nat.zero_le _, rfl, Lib.hid (Drawn.refl _), Lib.hid (by rw [List.drop_zero, List.drop_zero])⟩
    case round =>
      obtain ⟨k, hk, rfl, HD, HE⟩ := hrel
      by_cases hlt : k < n1
      · obtain ⟨b1, o1, cs1, x, rfl, hb1, hR1, hx, hc1⟩ := (h1.keep (SameOn.of_drawn HD.out)).at_ (k := k) (by rw [L1.out]; exact hlt)
        obtain ⟨b2, o2, cs2, y, rfl, hb2, hR2, hy, hc2⟩ := (h2.keep (SameOn.of_drawn HD.out)).at_ (k := k) (by rw [L2.out]; exact hlt)
        obtain ⟨rfl, hz1⟩ := hR1
        obtain ⟨rfl, hz2⟩ := hR2
        have p0 : wr.cell? ⟨b1, o1 + k, none⟩ = some (.string x) := (by have := hc1 0 _ rfl; simpa [txtR] using this)
        have q0 : wr.cell? ⟨b2, o2 + k, none⟩ = some (.string y) := (by have := hc2 0 _ rfl; simpa [txtR] using this)
        clear hc1 hc2 hz1 hz2
        have HDN := Lib.hid (fun n => HD.out.drewN n)
        rcases hq : txtE x y with _ | _
        · have HF := Lib.hid (show eqL txtE xs ys = false from eqL_no HE.out hx.out hy.out hq)
          have hq1 : (x.toList == y.toList) = false := hq
          clear hq
          go_wp2
          go_quiet (fail)
          go_wp2
          go_ret
          exact ⟨ret_bool HF.out.symm, HDN.out _⟩
        · have HF := Lib.hid (eqL_next HE.out hx.out hy.out hq)
          have hq1 : (x.toList == y.toList) = true := hq
          clear hq
          go_wp2
          go_quiet (fail)
          go_wp2
          go_roundw
          case rel => exact ⟨k + 1, by omega, by go_num, Lib.hid (HDN.out _), HF⟩
          case measure => simp [intOf]; omega
      · have HF := Lib.hid (show eqL txtE xs ys = true by rw [HE.out, eqL_end (by rw [L1.out]; omega) (by rw [L2.out]; omega)])
        go_wp2
        go_ret
        exact ⟨ret_bool HF.out.symm, HD.out⟩
  · have HF := Lib.hid (show eqL txtE xs ys = false from eqL_len (by rw [l1, l2]; exact hl))
    have e1 : ((n1 : Int) == (n2 : Int)) = false := by simp; omega
    have e2 : ((n1 : Int) != (n2 : Int)) = true := by simp; omega
    clear l1 l2
    go_enter Try.func33, Try.ntmps33
    go_wp2
    go_ret
    exact ⟨ret_bool HF.out.symm, Drawn.refl _⟩
set_option maxRecDepth 100000 in
set_option maxHeartbeats 1000000 in
theorem eqTms_any (A1 A2 : Option Addr) (n1 n2 c1 c2 : Nat) (xs ys : List Tm) (w : World) (S1 S2 : Nat → Prop) (h1 : LRow tmR w S1 A1 xs) (h2 : LRow tmR w S2 A2 ys) (l1 : xs.length = n1) (l2 : ys.length = n2) (m1 : n1 ≤ maxLen) :
    Calls Try.prog 49 #[.slice A1 n1 c1, .slice A2 n2 c2] w fun e w' => e = .returned (.bool (eqL tmE xs ys)) ∧ Drawn w w' := by
  unfold maxLen at m1
  have L1 := Lib.hid l1
  have L2 := Lib.hid l2
  by_cases hl : n1 = n2
  · subst hl
    clear l1 l2
    go_enter Try.func49, Try.ntmps49
    go_wp2
    go_loopw [13] (fun i wr => ∃ k : Nat, k ≤ n1 ∧ i = .int .i64 k ∧ Hid (Drawn w wr) ∧ Hid (eqL tmE xs ys = eqL tmE (xs.drop k) (ys.drop k))) (fun i _ => n1 - (intOf i).toNat)
    case atStart => exact ⟨0, Nat.zero_le _, rfl, Lib.hid (Drawn.refl _), Lib.hid (by rw [List.drop_zero, List.drop_zero])⟩
    case round =>
      obtain ⟨k, hk, rfl, HD, HE⟩ := hrel
      by_cases hlt : k < n1
      · obtain ⟨b1, o1, cs1, x, rfl, hb1, hR1, hx, hc1⟩ := (h1.keep (SameOn.of_drawn HD.out)).at_ (k := k) (by rw [L1.out]; exact hlt)
        obtain ⟨b2, o2, cs2, y, rfl, hb2, hR2, hy, hc2⟩ := (h2.keep (SameOn.of_drawn HD.out)).at_ (k := k) (by rw [L2.out]; exact hlt)
        change _ = [Value.int .i64 x.k, Value.int .i64 x.v] at hR1
        subst hR1
        change _ = [Value.int .i64 y.k, Value.int .i64 y.v] at hR2
        subst hR2
        have p0 : wr.cell? ⟨b1, o1 + k * 2, none⟩ = some (.int .i64 x.k) := hc1 0 _ rfl
        have p1 : wr.cell? ⟨b1, o1 + k * 2 + 1, none⟩ = some (.int .i64 x.v) := hc1 1 _ rfl
        have q0 : wr.cell? ⟨b2, o2 + k * 2, none⟩ = some (.int .i64 y.k) := hc2 0 _ rfl
        have q1 : wr.cell? ⟨b2, o2 + k * 2 + 1, none⟩ = some (.int .i64 y.v) := hc2 1 _ rfl
        clear hc1 hc2
        have HDN := Lib.hid (fun n => HD.out.drewN n)
        have HN := fun W => neqTm x.k x.v y.k y.v W
        rcases hq : tmE x y with _ | _
        · have HF := Lib.hid (show eqL tmE xs ys = false from eqL_no HE.out hx.out hy.out hq)
          rw [show (x.k == y.k && x.v == y.v) = _ from hq] at HN
          clear hq
          go_wp2
          go_quiet (fail)
          go_wp2
          go_ret
          exact ⟨ret_bool HF.out.symm, HDN.out _⟩
        · have HF := Lib.hid (eqL_next HE.out hx.out hy.out hq)
          rw [show (x.k == y.k && x.v == y.v) = _ from hq] at HN
          clear hq
          go_wp2
          go_quiet (fail)
          go_wp2
          go_roundw
          case rel => exact ⟨k + 1, by omega, by go_num, Lib.hid (HDN.out _), HF⟩
          case measure => simp [intOf]; omega
      · have HF := Lib.hid (show eqL tmE xs ys = true by rw [HE.out, eqL_end (by rw [L1.out]; omega) (by rw [L2.out]; omega)])
        go_wp2
        go_ret
        exact ⟨ret_bool HF.out.symm, HD.out⟩
  · have HF := Lib.hid (show eqL tmE xs ys = false from eqL_len (by rw [l1, l2]; exact hl))
    have e1 : ((n1 : Int) == (n2 : Int)) = false := by simp; omega
    have e2 : ((n1 : Int) != (n2 : Int)) = true := by simp; omega
    clear l1 l2
    go_enter Try.func49, Try.ntmps49
    go_wp2
    go_ret
    exact ⟨ret_bool HF.out.symm, Drawn.refl _⟩
set_option maxRecDepth 100000 in
set_option maxHeartbeats 1000000 in
theorem eqInts_any (A1 A2 : Option Addr) (n1 n2 c1 c2 : Nat) (xs ys : List Int) (w : World) (S1 S2 : Nat → Prop) (h1 : LRow intR w S1 A1 xs) (h2 : LRow intR w S2 A2 ys) (l1 : xs.length = n1) (l2 : ys.length = n2) (m1 : n1 ≤ maxLen) :
    Calls Try.prog 39 #[.slice A1 n1 c1, .slice A2 n2 c2] w fun e w' => e = .returned (.bool (eqL intE xs ys)) ∧ Drawn w w' := by
  unfold maxLen at m1
  have L1 := Lib.hid l1
  have L2 := Lib.hid l2
  by_cases hl : n1 = n2
  · subst hl
    clear l1 l2
    go_enter Try.func39, Try.ntmps39
    go_wp2
    go_loopw [13] (fun i wr => ∃ k : Nat, k ≤ n1 ∧ i = .int .i64 k ∧ Hid (Drawn w wr) ∧ Hid (eqL intE xs ys = eqL intE (xs.drop k) (ys.drop k))) (fun i _ => n1 - (intOf i).toNat)
    case atStart => exact ⟨0, Nat.zero_le _, rfl, Lib.hid (Drawn.refl _), Lib.hid (by rw [List.drop_zero, List.drop_zero])⟩
    case round =>
      obtain ⟨k, hk, rfl, HD, HE⟩ := hrel
      by_cases hlt : k < n1
      · obtain ⟨b1, o1, cs1, x, rfl, hb1, hR1, hx, hc1⟩ := (h1.keep (SameOn.of_drawn HD.out)).at_ (k := k) (by rw [L1.out]; exact hlt)
        obtain ⟨b2, o2, cs2, y, rfl, hb2, hR2, hy, hc2⟩ := (h2.keep (SameOn.of_drawn HD.out)).at_ (k := k) (by rw [L2.out]; exact hlt)
        obtain rfl := hR1
        obtain rfl := hR2
        have p0 : wr.cell? ⟨b1, o1 + k, none⟩ = some (.int .i64 x) := (by have := hc1 0 _ rfl; simpa [intR] using this)
        have q0 : wr.cell? ⟨b2, o2 + k, none⟩ = some (.int .i64 y) := (by have := hc2 0 _ rfl; simpa [intR] using this)
        clear hc1 hc2
        have HDN := Lib.hid (fun n => HD.out.drewN n)
        rcases hq : intE x y with _ | _
        · have HF := Lib.hid (show eqL intE xs ys = false from eqL_no HE.out hx.out hy.out hq)
          have hq1 : (x == y) = false := hq
          have hq2 : (x != y) = true := by simp [bne, hq1]
          clear hq
          go_wp2
          go_quiet (fail)
          go_wp2
          go_ret
          exact ⟨ret_bool HF.out.symm, HDN.out _⟩
        · have HF := Lib.hid (eqL_next HE.out hx.out hy.out hq)
          have hq0 : x = y := by simpa [intE] using hq
          subst hq0
          have hq2 : (x != x) = false := by simp
          clear hq
          go_wp2
          go_quiet (fail)
          go_wp2
          go_roundw
          case rel => exact ⟨k + 1, by omega, by go_num, Lib.hid (HDN.out _), HF⟩
          case measure => simp [intOf]; omega
      · have HF := Lib.hid (show eqL intE xs ys = true by rw [HE.out, eqL_end (by rw [L1.out]; omega) (by rw [L2.out]; omega)])
        go_wp2
        go_ret
        exact ⟨ret_bool HF.out.symm, HD.out⟩
  · have HF := Lib.hid (show eqL intE xs ys = false from eqL_len (by rw [l1, l2]; exact hl))
    have e1 : ((n1 : Int) == (n2 : Int)) = false := by simp; omega
    have e2 : ((n1 : Int) != (n2 : Int)) = true := by simp; omega
    clear l1 l2
    go_enter Try.func39, Try.ntmps39
    go_wp2
    go_ret
    exact ⟨ret_bool HF.out.symm, Drawn.refl _⟩
set_option maxRecDepth 100000 in
set_option maxHeartbeats 1000000 in
theorem eqTxts_any (A1 A2 : Option Addr) (n1 n2 c1 c2 : Nat) (xs ys : List ByteArray) (w : World) (S1 S2 : Nat → Prop) (h1 : LRow txtR w S1 A1 xs) (h2 : LRow txtR w S2 A2 ys) (l1 : xs.length = n1) (l2 : ys.length = n2) (m1 : n1 ≤ maxLen) :
    Calls Try.prog 23 #[.slice A1 n1 c1, .slice A2 n2 c2] w fun e w' => e = .returned (.bool (eqL txtE xs ys)) ∧ Drawn w w' := by
  unfold maxLen at m1
  have L1 := Lib.hid l1
  have L2 := Lib.hid l2
  by_cases hl : n1 = n2
  · subst hl
    clear l1 l2
    go_enter Try.func23, Try.ntmps23
    go_wp2
    go_loopw [13] (fun i wr => ∃ k : Nat, k ≤ n1 ∧ i = .int .i64 k ∧ Hid (Drawn w wr) ∧ Hid (eqL txtE xs ys = eqL txtE (xs.drop k) (ys.drop k))) (fun i _ => n1 - (intOf i).toNat)
    case atStart => exact ⟨0, Nat.zero_le _, rfl, Lib.hid (Drawn.refl _), Lib.hid (by rw [List.drop_zero, List.drop_zero])⟩
    case round =>
      obtain ⟨k, hk, rfl, HD, HE⟩ := hrel
      by_cases hlt : k < n1
      · obtain ⟨b1, o1, cs1, x, rfl, hb1, hR1, hx, hc1⟩ := (h1.keep (SameOn.of_drawn HD.out)).at_ (k := k) (by rw [L1.out]; exact hlt)
        obtain ⟨b2, o2, cs2, y, rfl, hb2, hR2, hy, hc2⟩ := (h2.keep (SameOn.of_drawn HD.out)).at_ (k := k) (by rw [L2.out]; exact hlt)
        obtain ⟨rfl, hz1⟩ := hR1
        obtain ⟨rfl, hz2⟩ := hR2
        have p0 : wr.cell? ⟨b1, o1 + k, none⟩ = some (.string x) := (by have := hc1 0 _ rfl; simpa [txtR] using this)
        have q0 : wr.cell? ⟨b2, o2 + k, none⟩ = some (.string y) := (by have := hc2 0 _ rfl; simpa [txtR] using this)
        clear hc1 hc2 hz1 hz2
        have HDN := Lib.hid (fun n => HD.out.drewN n)
        rcases hq : txtE x y with _ | _
        · have HF := Lib.hid (show eqL txtE xs ys = false from eqL_no HE.out hx.out hy.out hq)
          have hq1 : (x.toList == y.toList) = false := hq
          clear hq
          go_wp2
          go_quiet (fail)
          go_wp2
          go_ret
          exact ⟨ret_bool HF.out.symm, HDN.out _⟩
        · have HF := Lib.hid (eqL_next HE.out hx.out hy.out hq)
          have hq1 : (x.toList == y.toList) = true := hq
          clear hq
          go_wp2
          go_quiet (fail)
          go_wp2
          go_roundw
          case rel => exact ⟨k + 1, by omega, by go_num, Lib.hid (HDN.out _), HF⟩
          case measure => simp [intOf]; omega
      · have HF := Lib.hid (show eqL txtE xs ys = true by rw [HE.out, eqL_end (by rw [L1.out]; omega) (by rw [L2.out]; omega)])
        go_wp2
        go_ret
        exact ⟨ret_bool HF.out.symm, HD.out⟩
  · have HF := Lib.hid (show eqL txtE xs ys = false from eqL_len (by rw [l1, l2]; exact hl))
    have e1 : ((n1 : Int) == (n2 : Int)) = false := by simp; omega
    have e2 : ((n1 : Int) != (n2 : Int)) = true := by simp; omega
    clear l1 l2
    go_enter Try.func23, Try.ntmps23
    go_wp2
    go_ret
    exact ⟨ret_bool HF.out.symm, Drawn.refl _⟩
set_option maxRecDepth 100000 in
set_option maxHeartbeats 1000000 in
theorem eqMts_any (A1 A2 : Option Addr) (n1 n2 c1 c2 : Nat) (xs ys : List Mt) (w : World) (S1 S2 : Nat → Prop) (h1 : LRow mtR w S1 A1 xs) (h2 : LRow mtR w S2 A2 ys) (l1 : xs.length = n1) (l2 : ys.length = n2) (m1 : n1 ≤ maxLen) :
    Calls Try.prog 22 #[.slice A1 n1 c1, .slice A2 n2 c2] w fun e w' => e = .returned (.bool (eqL mtE xs ys)) ∧ Drawn w w' := by
  unfold maxLen at m1
  have L1 := Lib.hid l1
  have L2 := Lib.hid l2
  by_cases hl : n1 = n2
  · subst hl
    clear l1 l2
    go_enter Try.func22, Try.ntmps22
    go_wp2
    go_loopw [13] (fun i wr => ∃ k : Nat, k ≤ n1 ∧ i = .int .i64 k ∧ Hid (Drawn w wr) ∧ Hid (eqL mtE xs ys = eqL mtE (xs.drop k) (ys.drop k))) (fun i _ => n1 - (intOf i).toNat)
    case atStart => exact ⟨0, Nat.zero_le _, rfl, Lib.hid (Drawn.refl _), Lib.hid (by rw [List.drop_zero, List.drop_zero])⟩
    case round =>
      obtain ⟨k, hk, rfl, HD, HE⟩ := hrel
      by_cases hlt : k < n1
      · obtain ⟨b1, o1, cs1, x, rfl, hb1, hR1, hx, hc1⟩ := (h1.keep (SameOn.of_drawn HD.out)).at_ (k := k) (by rw [L1.out]; exact hlt)
        obtain ⟨b2, o2, cs2, y, rfl, hb2, hR2, hy, hc2⟩ := (h2.keep (SameOn.of_drawn HD.out)).at_ (k := k) (by rw [L2.out]; exact hlt)
        obtain ⟨rfl, hz10, hz11, hz12⟩ := hR1
        obtain ⟨rfl, hz20, hz21, hz22⟩ := hR2
        have p0 : wr.cell? ⟨b1, o1 + k * 3, none⟩ = some (.string x.l) := hc1 0 _ rfl
        have p1 : wr.cell? ⟨b1, o1 + k * 3 + 1, none⟩ = some (.string x.r) := hc1 1 _ rfl
        have p2 : wr.cell? ⟨b1, o1 + k * 3 + 2, none⟩ = some (.string x.s) := hc1 2 _ rfl
        have q0 : wr.cell? ⟨b2, o2 + k * 3, none⟩ = some (.string y.l) := hc2 0 _ rfl
        have q1 : wr.cell? ⟨b2, o2 + k * 3 + 1, none⟩ = some (.string y.r) := hc2 1 _ rfl
        have q2 : wr.cell? ⟨b2, o2 + k * 3 + 2, none⟩ = some (.string y.s) := hc2 2 _ rfl
        clear hc1 hc2 hz10 hz11 hz12 hz20 hz21 hz22
        have HDN := Lib.hid (fun n => HD.out.drewN n)
        have HN := fun W => neqMt x y W
        rcases hq : mtE x y with _ | _
        · have HF := Lib.hid (show eqL mtE xs ys = false from eqL_no HE.out hx.out hy.out hq)
          rw [hq] at HN
          clear hq
          go_wp2
          go_quiet (fail)
          go_wp2
          go_ret
          exact ⟨ret_bool HF.out.symm, HDN.out _⟩
        · have HF := Lib.hid (eqL_next HE.out hx.out hy.out hq)
          rw [hq] at HN
          clear hq
          go_wp2
          go_quiet (fail)
          go_wp2
          go_roundw
          case rel => exact ⟨k + 1, by omega, by go_num, Lib.hid (HDN.out _), HF⟩
          case measure => simp [intOf]; omega
      · have HF := Lib.hid (show eqL mtE xs ys = true by rw [HE.out, eqL_end (by rw [L1.out]; omega) (by rw [L2.out]; omega)])
        go_wp2
        go_ret
        exact ⟨ret_bool HF.out.symm, HD.out⟩
  · have HF := Lib.hid (show eqL mtE xs ys = false from eqL_len (by rw [l1, l2]; exact hl))
    have e1 : ((n1 : Int) == (n2 : Int)) = false := by simp; omega
    have e2 : ((n1 : Int) != (n2 : Int)) = true := by simp; omega
    clear l1 l2
    go_enter Try.func22, Try.ntmps22
    go_wp2
    go_ret
    exact ⟨ret_bool HF.out.symm, Drawn.refl _⟩
end Go.Proofs.Ytnlpfomgicdbmaa
