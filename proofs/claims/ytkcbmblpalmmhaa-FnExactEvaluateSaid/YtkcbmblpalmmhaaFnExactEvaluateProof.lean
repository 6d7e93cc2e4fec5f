/- For every list of terms and every list of 64-bit integers, the law of Evaluate returns true: the program's answer and its code are the model's, and the arguments read as before. -/
import Derived.Test.YtkcbmblpalmmhaaRows
import Derived.WalkKit
import Derived.ProofKit
import Derived.OpenShut
import Derived.ShutString
import Derived.ChangeOld
import Derived.Below
import Derived.Lib.Hide
import Derived.Test.YtkcbmblpalmmhaaTm
import Derived.Test.YtkcbmblpalmmhaaLawI
import Derived.Test.YtkcbmblpalmmhaaLawI2
import Derived.Test.YtkcbmblpalmmhaaEvS
import Derived.Test.YtkcbmblpalmmhaaEvI
import Derived.Test.YtkcbmblpalmmhaaMem
import Derived.Test.YtkcbmblpalmmhaaTmW
namespace Go.Proofs.Ytkcbmblpalmmhaa.fnExactEvaluate
open Go.ChangeShapes Go.WideShapes Go.ChangeAt Go.RowKit
open Go.ChangeMaps (open_string shut_string)
set_option linter.unusedVariables false
theorem own : ownKnob Try.prog.godebug = none := by kernel_rfl
theorem laidOut : laidOutB Try.prog = true := by kernel_rfl
def IsRow (k : IntKind) (w : World) (a : Option Addr) (len cap : Nat) (zs : List Int) : Prop :=
  (a = none ∧ len = 0 ∧ cap = 0 ∧ zs = []) ∨
  ∃ x, a = some x ∧ len ≤ cap ∧ cap ≤ maxLen ∧ zs.length = cap ∧ (∀ i, i < zs.length → w.cell? (x.add i) = some (.int k (zs.getD i 0))) ∧ ∀ n ∈ zs, (Lit.int k n).wf = true
theorem walk (a0 : Option Addr) (len0 cap0 : Nat) (a1 : Option Addr) (len1 cap1 : Nat) (z1 : List Int) (w : World) (w0 : TIn w a0 len0) (w1 : IsRow .i64 w a1 len1 cap1 z1) :
    Calls Try.prog 4 #[.slice a0 len0 cap0, .slice a1 len1 cap1] w fun e w' => e = .returned (.bool true) ∧ Below w.heap.size w w' := by
  by_cases hl1 : 1048576 < len1
  · have hl1p : (1048576 : Int) < (len1 : Int) := by omega
    go_enter Try.func4, Try.ntmps4
    go_wp2
    go_ret
    exact ⟨rfl, Below.refl _ _⟩
  have hn1 : ¬ (1048576 : Int) < (len1 : Int) := by omega
  obtain ⟨xs0, r0, l0, x0, f0⟩ := id w0
  have L0 := Lib.hid l0
  have F0 := Lib.hid f0
  clear l0 f0 w0
  have m1 : len1 ≤ 2000000 := by omega
  obtain ⟨r1, l1, f1⟩ := irow_in w1
  generalize z1.take len1 = xs1 at *
  have L1 := Lib.hid l1
  have F1 := Lib.hid f1
  clear l1 f1 w1 hl1
  go_enter Try.func4, Try.ntmps4
  have hne0 : ((evalR xs0 xs1).1 != (evalR xs0 xs1).1) = false := by simp
  have hne1 : ((evalR xs0 xs1).2 != (evalR xs0 xs1).2) = false := by simp
  have hx0 : len0 ≤ 9223372036854775807 := by have := x0; unfold maxLen at this; omega
  by_cases hq0 : 1048576 - (len0 : Int) < 0
  · have HS0 := Lib.hid (show szT len0 (1048576) = -1 from if_pos hq0)
    go_wp2_with fail
    refine (szT_any a0 len0 cap0 (1048576) _ hx0 (by omega) (by omega)).mono ?_
    rw [HS0.out]
    rintro e w' ⟨rfl, rfl⟩
    go_wp2
    go_ret
    exact ⟨rfl, Below.refl _ _⟩
  have HS0 := Lib.hid (show szT len0 (1048576) = 1048576 - (len0 : Int) from if_neg hq0)
  go_wp2_with fail
  refine (szT_any a0 len0 cap0 (1048576) _ hx0 (by omega) (by omega)).mono ?_
  rw [HS0.out]
  rintro e w' ⟨rfl, rfl⟩
  have m0 : len0 ≤ 2000000 := by omega
  go_wp2_with fail
  refine (toTs_own a0 len0 cap0 xs0 _ w.heap.size r0 (by omega) L0.out m0).mono ?_
  rintro e v1 ⟨rfl, oT0_1, b1⟩
  have s1 : w.heap.size ≤ v1.heap.size := b1.size
  have c1 : Below w.heap.size w v1 := b1
  go_wp2_with fail
  refine (toI_own a1 len1 cap1 xs1 _ w.heap.size (r1.below c1) (by omega) L1.out m1).mono ?_
  rintro e v2 ⟨rfl, oT1_2, b2⟩
  have s2 : v1.heap.size ≤ v2.heap.size := b2.size
  have oT0_2 := oT0_1.below b2 (by omega)
  clear oT0_1
  have c2 : Below w.heap.size w v2 := c1.trans (b2.mono (by omega))
  clear c1
  go_wp2_with fail
  refine (specEval_own _ _ _ xs0 _ _ _ xs1 _ _ _ _ oT0_2 (by omega) L0.out m0 _ _ _ oT1_2 (by omega) L1.out m1).mono ?_
  rintro e v3 ⟨rfl, b3⟩
  have s3 : v2.heap.size ≤ v3.heap.size := b3.size
  have oT0_3 := oT0_2.below b3 (by omega)
  clear oT0_2
  have oT1_3 := oT1_2.below b3 (by omega)
  clear oT1_2
  have c3 : Below w.heap.size w v3 := c2.trans (b3.mono (by omega))
  clear c2
  clear oT0_3
  clear oT1_3
  go_wp2_with fail
  refine (toTs_own a0 len0 cap0 xs0 _ w.heap.size (r0.below c3) (by omega) L0.out m0).mono ?_
  rintro e v4 ⟨rfl, oX0_4, b4⟩
  have s4 : v3.heap.size ≤ v4.heap.size := b4.size
  have c4 : Below w.heap.size w v4 := c3.trans (b4.mono (by omega))
  clear c3
  go_wp2_with fail
  refine (toI_own a1 len1 cap1 xs1 _ w.heap.size (r1.below c4) (by omega) L1.out m1).mono ?_
  rintro e v5 ⟨rfl, oX1_5, b5⟩
  have s5 : v4.heap.size ≤ v5.heap.size := b5.size
  have oX0_5 := oX0_4.below b5 (by omega)
  clear oX0_4
  have c5 : Below w.heap.size w v5 := c4.trans (b5.mono (by omega))
  clear c4
  go_wp2_with fail
  refine (implEval_any _ _ _ xs0 _ _ _ xs1 _ _ _ _ oX0_5 (by omega) L0.out m0 _ _ _ oX1_5 (by omega) L1.out m1).mono ?_
  rintro e v6 ⟨rfl, b6⟩
  have s6 : v5.heap.size ≤ v6.heap.size := b6.size
  have oX0_6 := oX0_5.below b6 (by omega)
  clear oX0_5
  have oX1_6 := oX1_5.below b6 (by omega)
  clear oX1_5
  have c6 : Below w.heap.size w v6 := c5.trans (b6.mono (by omega))
  clear c5
  go_wp2_with fail
  refine (toTs_own a0 len0 cap0 xs0 _ w.heap.size (r0.below c6) (by omega) L0.out m0).mono ?_
  rintro e v7 ⟨rfl, oY0_7, b7⟩
  have s7 : v6.heap.size ≤ v7.heap.size := b7.size
  have oX0_7 := oX0_6.below b7 (by omega)
  clear oX0_6
  have oX1_7 := oX1_6.below b7 (by omega)
  clear oX1_6
  have c7 : Below w.heap.size w v7 := c6.trans (b7.mono (by omega))
  clear c6
  go_wp2_with fail
  refine (eqTs_own _ _ _ _ _ _ _ _ _ _ _ _ oX0_7 oY0_7 m0 (by omega) (by omega)).mono ?_
  rintro e v8 ⟨rfl, b8⟩
  have s8 : v7.heap.size ≤ v8.heap.size := b8.size
  have oX0_8 := oX0_7.below b8 (by omega)
  clear oX0_7
  have oX1_8 := oX1_7.below b8 (by omega)
  clear oX1_7
  have oY0_8 := oY0_7.below b8 (by omega)
  clear oY0_7
  have c8 : Below w.heap.size w v8 := c7.trans (b8.mono (by omega))
  clear c7
  clear oY0_8
  go_wp2_with fail
  refine (toI_own a1 len1 cap1 xs1 _ w.heap.size (r1.below c8) (by omega) L1.out m1).mono ?_
  rintro e v9 ⟨rfl, oY1_9, b9⟩
  have s9 : v8.heap.size ≤ v9.heap.size := b9.size
  have oX0_9 := oX0_8.below b9 (by omega)
  clear oX0_8
  have oX1_9 := oX1_8.below b9 (by omega)
  clear oX1_8
  have c9 : Below w.heap.size w v9 := c8.trans (b9.mono (by omega))
  clear c8
  go_wp2_with fail
  refine (eqI_own _ _ _ _ _ _ _ _ _ _ _ _ oX1_9 oY1_9 m1).mono ?_
  rintro e v10 ⟨rfl, d10⟩
  have b10 := d10.below v9.heap.size
  clear d10
  have s10 : v9.heap.size ≤ v10.heap.size := b10.size
  have oX0_10 := oX0_9.below b10 (by omega)
  clear oX0_9
  have oX1_10 := oX1_9.below b10 (by omega)
  clear oX1_9
  have oY1_10 := oY1_9.below b10 (by omega)
  clear oY1_9
  have c10 : Below w.heap.size w v10 := c9.trans (b10.mono (by omega))
  clear c9
  clear oY1_10
  go_wp2
  go_ret
  exact ⟨rfl, c10⟩
set_option maxRecDepth 100000 in
theorem lifted (os : Os) (started : os.Started) (H : Type) (enc : TypeId × Value → H) :
    ReturnsInHanded {} Try.checked os 4 .any (Rows.fnExactEvaluateSpec.pre6 enc Try.prog Try.f4 Rows.fnExactEvaluateRow.domain false) (Rows.fnExactEvaluateSpec.post enc Try.prog Try.f4 false true false false) := by
  refine returnsInHanded_of_change (C := Try.checked) own started (by kernel_rfl) Try.func4
    (ChangeSpec.witness6 (enc := enc) (C := Try.checked) false ⟨#[], #[.slice none 0 0, .slice none 0 0], []⟩ 8 (by kernel_rfl) (by kernel_rfl) (by kernel_rfl) (by kernel_rfl)) ?_
  intro W base args ds gs before hval0 hW hcnd _
  have hval : ∀ (j : Nat) t v, Try.f4.params[j]? = some t → args[j]? = some v → Value.okWide Try.prog W .any base t v := hval0
  have hW' := hW
  obtain ⟨p, q, hA0, hV, rfl, hfz, hnd⟩ := hW
  have hA : DataW.TrodAll enc Try.prog W 0 (fun _ => true) true Try.f4.params.toList args.toList ds p := hA0
  rw [Try.params4] at hA hval
  obtain ⟨v0, vs0, d0, ds0, p0, q0, hargs, rfl, rfl, h0, r0⟩ := trodAll_cons hA
  obtain ⟨v1, vs1, d1, ds1, p1, q1, rfl, rfl, rfl, h1, r1⟩ := trodAll_cons r0
  obtain ⟨rfl, rfl, rfl⟩ := trodAll_nil r1
  obtain rfl : args = #[v0, v1] := by cases args; simp_all
  obtain ⟨rfl, rfl⟩ := trodVars_none hV
  obtain ⟨a0, len0, cap0, rfl⟩ := okWide_slice Try.underlying35 (hval 0 35 v0 rfl rfl)
  have k0 := h0
  have lt0 : ∀ x ∈ p0, x.block < W.heap.size := by obtain ⟨m, hm⟩ := k0; exact DataW.trod_lt m _ _ _ hm
  have w0 : TIn W a0 len0 := by
    obtain ⟨fuel, hf⟩ := h0
    exact trow_in Try.underlying35 Try.underlying70 (by kernel_rfl) rfl rfl Try.underlying2 Try.underlying2 (by kernel_rfl) (by kernel_rfl) hf
  obtain ⟨a1, len1, cap1, rfl⟩ := okWide_slice Try.underlying27 (hval 1 27 v1 rfl rfl)
  have k1 := h1
  have lt1 : ∀ x ∈ p1, x.block < W.heap.size := by obtain ⟨m, hm⟩ := k1; exact DataW.trod_lt m _ _ _ hm
  obtain ⟨z1, w1⟩ : ∃ zs, IsRow .i64 W a1 len1 cap1 zs := by
    obtain ⟨fuel, hf⟩ := h1
    rcases open_ints Try.underlying27 Try.underlying2 (by kernel_rfl) hf with ⟨hcs, _⟩ | ⟨x, l, c, zs, hcs, _, hl, hm, hz, _, hcell, hwz⟩
    · simp [Value.cells] at hcs
      obtain ⟨rfl, rfl, rfl⟩ := hcs
      exact ⟨[], .inl ⟨rfl, rfl, rfl, rfl⟩⟩
    · simp [Value.cells] at hcs
      obtain ⟨rfl, rfl, rfl⟩ := hcs
      exact ⟨zs, .inr ⟨_, rfl, hl, hm, by simpa using hz, hcell, hwz⟩⟩
  clear hA0 hval0
  refine (walk a0 len0 cap0 a1 len1 cap1 z1 W w0 w1).mono fun e W' ⟨he, bel⟩ => ?_
  subst he
  exact ⟨_, rfl, _, _, _, [], _, [], hW', (trodAll_cons_mk (shut_bool Try.underlying4 _) trodAll_mk0), (trodAll_cons_mk (Below.trod laidOut (by kernel_rfl) (of_decide_eq_true (by kernel_rfl)) k0 bel lt0) (trodAll_cons_mk (Below.trod laidOut (by kernel_rfl) (of_decide_eq_true (by kernel_rfl)) k1 bel lt1) trodAll_mk0)), rfl, bel.frame _, fun h => by cases h⟩
theorem over : Rows.fnExactEvaluateRow.holds Try.pinned (OpenSpec.ofChange Rows.fnExactEvaluateSpec) :=
  OpenClaim.holds_of_wide 4 Try.f4 rfl rfl rfl rfl rfl rfl rfl ⟨rfl, rfl, rfl, rfl, rfl⟩ rfl rfl rfl rfl rfl (by kernel_rfl) Try.func4 (by kernel_rfl)
    (of_decide_eq_true (by kernel_rfl)) (by unfold Func.isWrapper; first | (rw [if_pos (by decide +kernel)]; kernel_rfl) | (rw [if_neg (by decide +kernel)]; exact ⟨rfl, rfl⟩))
    (fun os started H enc _ => lifted os started H enc)
theorem proved : Rows.FnExactEvaluateSaid := over
#print axioms proved
end Go.Proofs.Ytkcbmblpalmmhaa.fnExactEvaluate
