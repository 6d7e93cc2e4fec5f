/- For every number and every list of lists of 64-bit integers, the law of IsRelation returns true: the program's answer is the model's, and the argument reads as before. -/
import Derived.Test.YthnopigibjmgbaaRows
import Derived.WalkKit
import Derived.ProofKit
import Derived.OpenShut
import Derived.ShutString
import Derived.ChangeOld
import Derived.Below
import Derived.Lib.Hide
import Derived.Test.YthnopigibjmgbaaRel
import Derived.Test.YthnopigibjmgbaaLawI2
import Derived.Test.YthnopigibjmgbaaLawII
import Derived.Test.YthnopigibjmgbaaMem
import Derived.Test.YthnopigibjmgbaaRRow
namespace Go.Proofs.Ythnopigibjmgbaa.fnExactIsRelation
open Go.ChangeShapes Go.WideShapes Go.ChangeAt Go.RowKit
open Go.ChangeMaps (open_string shut_string)
set_option linter.unusedVariables false
theorem own : ownKnob Try.prog.godebug = none := by kernel_rfl
theorem laidOut : laidOutB Try.prog = true := by kernel_rfl
theorem walk (a0 : Int) (a1 : Option Addr) (len1 cap1 : Nat) (w : World) (w0 : (Lit.int .i64 a0).wf = true) (w1 : JIn w a1 len1) :
    Calls Try.prog 12 #[.int .i64 a0, .slice a1 len1 cap1] w fun e w' => e = .returned (.bool true) ∧ Below w.heap.size w w' := by
  obtain ⟨xs1, r1, l1, x1, f1⟩ := id w1
  have L1 := Lib.hid l1
  have F1 := Lib.hid f1
  clear l1 f1 w1
  go_enter Try.func12, Try.ntmps12
  have hne0 : (relB a0 xs1 != relB a0 xs1) = false := by simp
  go_wp2_with fail
  refine (szII_any a1 len1 cap1 xs1 1048576 _ w.heap.size r1 L1.out (by have := x1; unfold maxLen at this; omega) (fun ys hy => by have := (F1.out ys hy).1; unfold maxLen at this; omega) (by omega) (by omega)).mono ?_
  rintro e vz1 ⟨q1, rfl, hz1, rfl⟩
  have Z1 := Lib.hid hz1
  clear hz1
  by_cases hq1 : q1 < 0
  · go_wp2
    go_ret
    exact ⟨rfl, Below.refl _ _⟩
  obtain ⟨m1, M1, qa1, qb1⟩ := szII_small Z1.out hq1 (by omega)
  rw [L1.out] at m1
  replace M1 := Lib.hid M1
  replace F1 := Lib.hid (fun ys hy => (F1.out ys hy).2)
  go_wp2_with fail
  refine (toII_own a1 len1 cap1 xs1 _ w.heap.size r1 (by omega) L1.out m1 M1.out).mono ?_
  rintro e v1 ⟨rfl, oT1_1, b1⟩
  have s1 : w.heap.size ≤ v1.heap.size := b1.size
  have c1 : Below w.heap.size w v1 := b1
  go_wp2_with fail
  refine (specRel_bel a0 _ _ _ xs1 _ _ oT1_1.row (by omega) L1.out m1 M1.out).mono ?_
  rintro e v2 ⟨rfl, b2⟩
  have s2 : v1.heap.size ≤ v2.heap.size := b2.size
  have oT1_2 := oT1_1.below b2 (by omega)
  clear oT1_1
  have c2 : Below w.heap.size w v2 := c1.trans (b2.mono (by omega))
  clear c1
  clear oT1_2
  go_wp2_with fail
  refine (toII_own a1 len1 cap1 xs1 _ w.heap.size (r1.below c2) (by omega) L1.out m1 M1.out).mono ?_
  rintro e v3 ⟨rfl, oX1_3, b3⟩
  have s3 : v2.heap.size ≤ v3.heap.size := b3.size
  have c3 : Below w.heap.size w v3 := c2.trans (b3.mono (by omega))
  clear c2
  go_wp2_with fail
  refine (implRel_bel a0 _ _ _ xs1 _ _ oX1_3.row (by omega) L1.out m1 M1.out).mono ?_
  rintro e v4 ⟨rfl, b4⟩
  have s4 : v3.heap.size ≤ v4.heap.size := b4.size
  have oX1_4 := oX1_3.below b4 (by omega)
  clear oX1_3
  have c4 : Below w.heap.size w v4 := c3.trans (b4.mono (by omega))
  clear c3
  go_wp2_with fail
  refine (toII_own a1 len1 cap1 xs1 _ w.heap.size (r1.below c4) (by omega) L1.out m1 M1.out).mono ?_
  rintro e v5 ⟨rfl, oY1_5, b5⟩
  have s5 : v4.heap.size ≤ v5.heap.size := b5.size
  have oX1_5 := oX1_4.below b5 (by omega)
  clear oX1_4
  have c5 : Below w.heap.size w v5 := c4.trans (b5.mono (by omega))
  clear c4
  go_wp2_with fail
  refine (eqII_own _ _ _ _ _ _ _ _ _ _ _ _ oX1_5 oY1_5 m1 M1.out).mono ?_
  rintro e v6 ⟨rfl, d6⟩
  have b6 := d6.below v5.heap.size
  clear d6
  have s6 : v5.heap.size ≤ v6.heap.size := b6.size
  have oX1_6 := oX1_5.below b6 (by omega)
  clear oX1_5
  have oY1_6 := oY1_5.below b6 (by omega)
  clear oY1_5
  have c6 : Below w.heap.size w v6 := c5.trans (b6.mono (by omega))
  clear c5
  clear oY1_6
  go_wp2
  go_ret
  exact ⟨rfl, c6⟩
set_option maxRecDepth 100000 in
theorem lifted (os : Os) (started : os.Started) (H : Type) (enc : TypeId × Value → H) :
    ReturnsInHanded {} Try.checked os 12 .any (Rows.fnExactIsRelationSpec.pre6 enc Try.prog Try.f12 Rows.fnExactIsRelationRow.domain false) (Rows.fnExactIsRelationSpec.post enc Try.prog Try.f12 false true false false) := by
  refine returnsInHanded_of_change (C := Try.checked) own started (by kernel_rfl) Try.func12
    (ChangeSpec.witness6 (enc := enc) (C := Try.checked) false ⟨#[], #[.int .i64 0, .slice none 0 0], []⟩ 8 (by kernel_rfl) (by kernel_rfl) (by kernel_rfl) (by kernel_rfl)) ?_
  intro W base args ds gs before hval0 hW hcnd _
  have hval : ∀ (j : Nat) t v, Try.f12.params[j]? = some t → args[j]? = some v → Value.okWide Try.prog W .any base t v := hval0
  have hW' := hW
  obtain ⟨p, q, hA0, hV, rfl, hfz, hnd⟩ := hW
  have hA : DataW.TrodAll enc Try.prog W 0 (fun _ => true) true Try.f12.params.toList args.toList ds p := hA0
  rw [Try.params12] at hA hval
  obtain ⟨v0, vs0, d0, ds0, p0, q0, hargs, rfl, rfl, h0, r0⟩ := trodAll_cons hA
  obtain ⟨v1, vs1, d1, ds1, p1, q1, rfl, rfl, rfl, h1, r1⟩ := trodAll_cons r0
  obtain ⟨rfl, rfl, rfl⟩ := trodAll_nil r1
  obtain rfl : args = #[v0, v1] := by cases args; simp_all
  obtain ⟨rfl, rfl⟩ := trodVars_none hV
  obtain ⟨a0, rfl, rfl, rfl, w0⟩ := open_int Try.underlying2 (hval 0 2 v0 rfl rfl) h0
  obtain ⟨a1, len1, cap1, rfl⟩ := okWide_slice Try.underlying24 (hval 1 24 v1 rfl rfl)
  have k1 := h1
  have lt1 : ∀ x ∈ p1, x.block < W.heap.size := by obtain ⟨m, hm⟩ := k1; exact DataW.trod_lt m _ _ _ hm
  have w1 : JIn W a1 len1 := by
    obtain ⟨fuel, hf⟩ := h1
    exact rrow_in Try.underlying24 Try.underlying30 Try.underlying2 (by kernel_rfl) (by kernel_rfl) hf
  clear hA0 hval0
  refine (walk a0 a1 len1 cap1 W w0 w1).mono fun e W' ⟨he, bel⟩ => ?_
  subst he
  exact ⟨_, rfl, _, _, _, [], _, [], hW', (trodAll_cons_mk (shut_bool Try.underlying4 _) trodAll_mk0), (trodAll_cons_mk (shut_int Try.underlying2 w0) (trodAll_cons_mk (Below.trod laidOut (by kernel_rfl) (of_decide_eq_true (by kernel_rfl)) k1 bel lt1) trodAll_mk0)), rfl, bel.frame _, fun h => by cases h⟩
theorem over : Rows.fnExactIsRelationRow.holds Try.pinned (OpenSpec.ofChange Rows.fnExactIsRelationSpec) :=
  OpenClaim.holds_of_wide 12 Try.f12 rfl rfl rfl rfl rfl rfl rfl ⟨rfl, rfl, rfl, rfl, rfl⟩ rfl rfl rfl rfl rfl (by kernel_rfl) Try.func12 (by kernel_rfl)
    (of_decide_eq_true (by kernel_rfl)) (by unfold Func.isWrapper; first | (rw [if_pos (by decide +kernel)]; kernel_rfl) | (rw [if_neg (by decide +kernel)]; exact ⟨rfl, rfl⟩))
    (fun os started H enc _ => lifted os started H enc)
theorem proved : Rows.FnExactIsRelationSaid := over
#print axioms proved
end Go.Proofs.Ythnopigibjmgbaa.fnExactIsRelation
