/- For every number and every two lists of lists of 64-bit integers, the law of ComposeRelations returns true: the program's answer is the model's, the arguments read as before, and no memory is shared. -/
import Derived.Test.YthnopigibjmgbaaRows
import Derived.WalkKit
import Derived.ProofKit
import Derived.OpenShut
import Derived.ShutString
import Derived.ChangeOld
import Derived.Below
import Derived.Lib.Hide
import Derived.Test.YthnopigibjmgbaaRelI
import Derived.Test.YthnopigibjmgbaaLawI2
import Derived.Test.YthnopigibjmgbaaLawII
import Derived.Test.YthnopigibjmgbaaMem
import Derived.Test.YthnopigibjmgbaaRRow
namespace Go.Proofs.Ythnopigibjmgbaa.fnExactComposeRelations
open Go.ChangeShapes Go.WideShapes Go.ChangeAt Go.RowKit
open Go.ChangeMaps (open_string shut_string)
set_option linter.unusedVariables false
theorem own : ownKnob Try.prog.godebug = none := by kernel_rfl
theorem laidOut : laidOutB Try.prog = true := by kernel_rfl
theorem walk (a0 : Int) (a1 : Option Addr) (len1 cap1 : Nat) (a2 : Option Addr) (len2 cap2 : Nat) (w : World) (w0 : (Lit.int .i64 a0).wf = true) (w1 : JIn w a1 len1) (w2 : JIn w a2 len2) :
    Calls Try.prog 13 #[.int .i64 a0, .slice a1 len1 cap1, .slice a2 len2 cap2] w fun e w' => e = .returned (.bool true) ∧ Below w.heap.size w w' := by
  obtain ⟨xs1, r1, l1, x1, f1⟩ := id w1
  have L1 := Lib.hid l1
  have F1 := Lib.hid f1
  clear l1 f1 w1
  obtain ⟨xs2, r2, l2, x2, f2⟩ := id w2
  have L2 := Lib.hid l2
  have F2 := Lib.hid f2
  clear l2 f2 w2
  go_enter Try.func13, Try.ntmps13
  have hne1 : ((compL a0 xs1 xs2).2 != (compL a0 xs1 xs2).2) = false := by simp
  have inn0 := Lib.hid (compL_inner a0 xs1 xs2)
  go_wp2_with fail
  refine (szII_any a1 len1 cap1 xs1 1048576 _ w.heap.size r1 L1.out (by have := x1; unfold maxLen at this; omega) (fun ys hy => by have := (F1.out ys hy).1; unfold maxLen at this; omega) (by omega) (by omega)).mono ?_
  rintro e vz1 ⟨q1, rfl, hz1, rfl⟩
  have Z1 := Lib.hid hz1
  clear hz1
  by_cases hq1 : q1 < 0
  · go_wp2
    go_ret
    exact ⟨rfl, Below.refl _ _⟩
  obtain ⟨m1, M1, qa1, qb1⟩ := szII_small Z1.out hq1 (by omega)
  rw [L1.out] at m1
  replace M1 := Lib.hid M1
  replace F1 := Lib.hid (fun ys hy => (F1.out ys hy).2)
  go_wp2_with fail
  refine (szII_any a2 len2 cap2 xs2 q1 _ w.heap.size r2 L2.out (by have := x2; unfold maxLen at this; omega) (fun ys hy => by have := (F2.out ys hy).1; unfold maxLen at this; omega) (by omega) (by omega)).mono ?_
  rintro e vz2 ⟨q2, rfl, hz2, rfl⟩
  have Z2 := Lib.hid hz2
  clear hz2
  by_cases hq2 : q2 < 0
  · go_wp2
    go_ret
    exact ⟨rfl, Below.refl _ _⟩
  obtain ⟨m2, M2, qa2, qb2⟩ := szII_small Z2.out hq2 (by omega)
  rw [L2.out] at m2
  replace M2 := Lib.hid M2
  replace F2 := Lib.hid (fun ys hy => (F2.out ys hy).2)
  go_wp2_with fail
  refine (toII_own a1 len1 cap1 xs1 _ w.heap.size r1 (by omega) L1.out m1 M1.out).mono ?_
  rintro e v1 ⟨rfl, oT1_1, b1⟩
  have s1 : w.heap.size ≤ v1.heap.size := b1.size
  have c1 : Below w.heap.size w v1 := b1
  go_wp2_with fail
  refine (toII_own a2 len2 cap2 xs2 _ w.heap.size (r2.below c1) (by omega) L2.out m2 M2.out).mono ?_
  rintro e v2 ⟨rfl, oT2_2, b2⟩
  have s2 : v1.heap.size ≤ v2.heap.size := b2.size
  have oT1_2 := oT1_1.below b2 (by omega)
  clear oT1_1
  have c2 : Below w.heap.size w v2 := c1.trans (b2.mono (by omega))
  clear c1
  go_wp2_with fail
  refine (specComp_any a0 _ _ _ xs1 _ _ _ xs2 _ _ oT1_2.row (by omega) L1.out m1 M1.out _ oT2_2.row (by omega) L2.out m2 M2.out).mono ?_
  rintro e v3 ⟨AW0, nW0, cW0, rfl, oW0_3, b3⟩
  have s3 : v2.heap.size ≤ v3.heap.size := b3.size
  have oT1_3 := oT1_2.below b3 (by omega)
  clear oT1_2
  have oT2_3 := oT2_2.below b3 (by omega)
  clear oT2_2
  have kW0 : nW0 ≤ 2000000 := by have h1 := oW0_3.len; have h2 := compL_len a0 xs1 xs2; omega
  have c3 : Below w.heap.size w v3 := c2.trans (b3.mono (by omega))
  clear c2
  clear oT1_3
  clear oT2_3
  go_wp2_with fail
  refine (toII_own a1 len1 cap1 xs1 _ w.heap.size (r1.below c3) (by omega) L1.out m1 M1.out).mono ?_
  rintro e v4 ⟨rfl, oX1_4, b4⟩
  have s4 : v3.heap.size ≤ v4.heap.size := b4.size
  have oW0_4 := oW0_3.below b4 (by omega)
  clear oW0_3
  have c4 : Below w.heap.size w v4 := c3.trans (b4.mono (by omega))
  clear c3
  go_wp2_with fail
  refine (toII_own a2 len2 cap2 xs2 _ w.heap.size (r2.below c4) (by omega) L2.out m2 M2.out).mono ?_
  rintro e v5 ⟨rfl, oX2_5, b5⟩
  have s5 : v4.heap.size ≤ v5.heap.size := b5.size
  have oW0_5 := oW0_4.below b5 (by omega)
  clear oW0_4
  have oX1_5 := oX1_4.below b5 (by omega)
  clear oX1_4
  have c5 : Below w.heap.size w v5 := c4.trans (b5.mono (by omega))
  clear c4
  go_wp2_with fail
  refine (implComp_any a0 _ _ _ xs1 _ _ _ xs2 _ _ oX1_5.row (by omega) L1.out m1 M1.out _ oX2_5.row (by omega) L2.out m2 M2.out).mono ?_
  rintro e v6 ⟨AG0, nG0, cG0, rfl, oG0_6, b6⟩
  have s6 : v5.heap.size ≤ v6.heap.size := b6.size
  have oW0_6 := oW0_5.below b6 (by omega)
  clear oW0_5
  have oX1_6 := oX1_5.below b6 (by omega)
  clear oX1_5
  have oX2_6 := oX2_5.below b6 (by omega)
  clear oX2_5
  have kG0 : nG0 ≤ 2000000 := by have h1 := oG0_6.len; have h2 := compL_len a0 xs1 xs2; omega
  have c6 : Below w.heap.size w v6 := c5.trans (b6.mono (by omega))
  clear c5
  go_wp2_with fail
  refine (eqII_own _ _ _ _ _ _ _ _ _ _ _ _ oG0_6 oW0_6 kG0 inn0.out).mono ?_
  rintro e v7 ⟨rfl, d7⟩
  have b7 := d7.below v6.heap.size
  clear d7
  have s7 : v6.heap.size ≤ v7.heap.size := b7.size
  have oW0_7 := oW0_6.below b7 (by omega)
  clear oW0_6
  have oX1_7 := oX1_6.below b7 (by omega)
  clear oX1_6
  have oX2_7 := oX2_6.below b7 (by omega)
  clear oX2_6
  have oG0_7 := oG0_6.below b7 (by omega)
  clear oG0_6
  have c7 : Below w.heap.size w v7 := c6.trans (b7.mono (by omega))
  clear c6
  go_wp2_with fail
  refine (toII_own a1 len1 cap1 xs1 _ w.heap.size (r1.below c7) (by omega) L1.out m1 M1.out).mono ?_
  rintro e v8 ⟨rfl, oY1_8, b8⟩
  have s8 : v7.heap.size ≤ v8.heap.size := b8.size
  have oW0_8 := oW0_7.below b8 (by omega)
  clear oW0_7
  have oX1_8 := oX1_7.below b8 (by omega)
  clear oX1_7
  have oX2_8 := oX2_7.below b8 (by omega)
  clear oX2_7
  have oG0_8 := oG0_7.below b8 (by omega)
  clear oG0_7
  have c8 : Below w.heap.size w v8 := c7.trans (b8.mono (by omega))
  clear c7
  go_wp2_with fail
  refine (eqII_own _ _ _ _ _ _ _ _ _ _ _ _ oX1_8 oY1_8 m1 M1.out).mono ?_
  rintro e v9 ⟨rfl, d9⟩
  have b9 := d9.below v8.heap.size
  clear d9
  have s9 : v8.heap.size ≤ v9.heap.size := b9.size
  have oW0_9 := oW0_8.below b9 (by omega)
  clear oW0_8
  have oX1_9 := oX1_8.below b9 (by omega)
  clear oX1_8
  have oX2_9 := oX2_8.below b9 (by omega)
  clear oX2_8
  have oG0_9 := oG0_8.below b9 (by omega)
  clear oG0_8
  have oY1_9 := oY1_8.below b9 (by omega)
  clear oY1_8
  have c9 : Below w.heap.size w v9 := c8.trans (b9.mono (by omega))
  clear c8
  clear oY1_9
  go_wp2_with fail
  refine (toII_own a2 len2 cap2 xs2 _ w.heap.size (r2.below c9) (by omega) L2.out m2 M2.out).mono ?_
  rintro e v10 ⟨rfl, oY2_10, b10⟩
  have s10 : v9.heap.size ≤ v10.heap.size := b10.size
  have oW0_10 := oW0_9.below b10 (by omega)
  clear oW0_9
  have oX1_10 := oX1_9.below b10 (by omega)
  clear oX1_9
  have oX2_10 := oX2_9.below b10 (by omega)
  clear oX2_9
  have oG0_10 := oG0_9.below b10 (by omega)
  clear oG0_9
  have c10 : Below w.heap.size w v10 := c9.trans (b10.mono (by omega))
  clear c9
  go_wp2_with fail
  refine (eqII_own _ _ _ _ _ _ _ _ _ _ _ _ oX2_10 oY2_10 m2 M2.out).mono ?_
  rintro e v11 ⟨rfl, d11⟩
  have b11 := d11.below v10.heap.size
  clear d11
  have s11 : v10.heap.size ≤ v11.heap.size := b11.size
  have oW0_11 := oW0_10.below b11 (by omega)
  clear oW0_10
  have oX1_11 := oX1_10.below b11 (by omega)
  clear oX1_10
  have oX2_11 := oX2_10.below b11 (by omega)
  clear oX2_10
  have oG0_11 := oG0_10.below b11 (by omega)
  clear oG0_10
  have oY2_11 := oY2_10.below b11 (by omega)
  clear oY2_10
  have c11 : Below w.heap.size w v11 := c10.trans (b11.mono (by omega))
  clear c10
  clear oY2_11
  have tt1 := total_le M1.out
  rw [L1.out] at tt1
  have tt2 := total_le M2.out
  rw [L2.out] at tt2
  go_wp2_with fail
  refine (markII_own _ _ _ _ _ _ _ _ oX1_11 m1 M1.out (by omega) (by omega)).mono ?_
  rintro e v12 ⟨rfl, oX1_12, g12⟩
  have s12 : v11.heap.size ≤ v12.heap.size := g12.size
  have oW0_12 := oW0_11.turn g12 (by omega)
  clear oW0_11
  have oX2_12 := oX2_11.turn g12 (by omega)
  clear oX2_11
  have oG0_12 := oG0_11.turn g12 (by omega)
  clear oG0_11
  have c12 : Below w.heap.size w v12 := c11.trans (g12.below (by omega) (by omega))
  clear c11
  clear oX1_11 g12
  go_wp2_with fail
  refine (markII_own _ _ _ _ _ _ _ _ oX2_12 m2 M2.out (by omega) (by omega)).mono ?_
  rintro e v13 ⟨rfl, oX2_13, g13⟩
  have s13 : v12.heap.size ≤ v13.heap.size := g13.size
  have oW0_13 := oW0_12.turn g13 (by omega)
  clear oW0_12
  have oX1_13 := oX1_12.turn g13 (by omega)
  clear oX1_12
  have oG0_13 := oG0_12.turn g13 (by omega)
  clear oG0_12
  have c13 : Below w.heap.size w v13 := c12.trans (g13.below (by omega) (by omega))
  clear c12
  clear oX2_12 g13
  clear oX1_13
  clear oX2_13
  go_wp2_with fail
  refine (eqII_own _ _ _ _ _ _ _ _ _ _ _ _ oG0_13 oW0_13 kG0 inn0.out).mono ?_
  rintro e v14 ⟨rfl, d14⟩
  have b14 := d14.below v13.heap.size
  clear d14
  have s14 : v13.heap.size ≤ v14.heap.size := b14.size
  have oW0_14 := oW0_13.below b14 (by omega)
  clear oW0_13
  have oG0_14 := oG0_13.below b14 (by omega)
  clear oG0_13
  have c14 : Below w.heap.size w v14 := c13.trans (b14.mono (by omega))
  clear c13
  go_wp2_with fail
  refine (markII_own _ _ _ _ _ _ _ _ oG0_14 kG0 inn0.out (by omega) (by omega)).mono ?_
  rintro e v15 ⟨rfl, oG0_15, g15⟩
  have s15 : v14.heap.size ≤ v15.heap.size := g15.size
  have oW0_15 := oW0_14.turn g15 (by omega)
  clear oW0_14
  have c15 : Below w.heap.size w v15 := c14.trans (g15.below (by omega) (by omega))
  clear c14
  clear oG0_14 g15
  go_wp2_with fail
  refine (heldII_own _ _ _ _ (compL a0 xs1 xs2).1 _ _ _ oG0_15 kG0 inn0.out (by omega) (by omega)).mono ?_
  rintro e v15h ⟨rfl, rfl⟩
  have hnq : ((1 + (total (compL a0 xs1 xs2).1 : Int)) != (1 + (total (compL a0 xs1 xs2).1 : Int))) = false := by simp
  go_wp2_with fail
  refine (toII_own a1 len1 cap1 xs1 _ w.heap.size (r1.below c15) (by omega) L1.out m1 M1.out).mono ?_
  rintro e v16 ⟨rfl, oZ1_16, b16⟩
  have s16 : v15.heap.size ≤ v16.heap.size := b16.size
  have oW0_16 := oW0_15.below b16 (by omega)
  clear oW0_15
  have oG0_16 := oG0_15.below b16 (by omega)
  clear oG0_15
  have c16 : Below w.heap.size w v16 := c15.trans (b16.mono (by omega))
  clear c15
  go_wp2_with fail
  refine (toII_own a2 len2 cap2 xs2 _ w.heap.size (r2.below c16) (by omega) L2.out m2 M2.out).mono ?_
  rintro e v17 ⟨rfl, oZ2_17, b17⟩
  have s17 : v16.heap.size ≤ v17.heap.size := b17.size
  have oW0_17 := oW0_16.below b17 (by omega)
  clear oW0_16
  have oG0_17 := oG0_16.below b17 (by omega)
  clear oG0_16
  have oZ1_17 := oZ1_16.below b17 (by omega)
  clear oZ1_16
  have c17 : Below w.heap.size w v17 := c16.trans (b17.mono (by omega))
  clear c16
  go_wp2_with fail
  refine (implComp_any a0 _ _ _ xs1 _ _ _ xs2 _ _ oZ1_17.row (by omega) L1.out m1 M1.out _ oZ2_17.row (by omega) L2.out m2 M2.out).mono ?_
  rintro e v18 ⟨AH0, nH0, cH0, rfl, oH0_18, b18⟩
  have s18 : v17.heap.size ≤ v18.heap.size := b18.size
  have oW0_18 := oW0_17.below b18 (by omega)
  clear oW0_17
  have oG0_18 := oG0_17.below b18 (by omega)
  clear oG0_17
  have oZ1_18 := oZ1_17.below b18 (by omega)
  clear oZ1_17
  have oZ2_18 := oZ2_17.below b18 (by omega)
  clear oZ2_17
  have kH0 : nH0 ≤ 2000000 := by have h1 := oH0_18.len; have h2 := compL_len a0 xs1 xs2; omega
  have c18 : Below w.heap.size w v18 := c17.trans (b18.mono (by omega))
  clear c17
  clear oZ1_18
  clear oZ2_18
  go_wp2_with fail
  refine (eqII_own _ _ _ _ _ _ _ _ _ _ _ _ oH0_18 oW0_18 kH0 inn0.out).mono ?_
  rintro e v19 ⟨rfl, d19⟩
  have b19 := d19.below v18.heap.size
  clear d19
  have s19 : v18.heap.size ≤ v19.heap.size := b19.size
  have oW0_19 := oW0_18.below b19 (by omega)
  clear oW0_18
  have oG0_19 := oG0_18.below b19 (by omega)
  clear oG0_18
  have oH0_19 := oH0_18.below b19 (by omega)
  clear oH0_18
  have c19 : Below w.heap.size w v19 := c18.trans (b19.mono (by omega))
  clear c18
  go_wp2_with fail
  refine (heldII_own _ _ _ _ (compL a0 xs1 xs2).1 _ _ _ oG0_19 kG0 inn0.out (by omega) (by omega)).mono ?_
  rintro e v19h ⟨rfl, rfl⟩
  go_wp2
  go_ret
  exact ⟨rfl, c19⟩
set_option maxRecDepth 100000 in
theorem lifted (os : Os) (started : os.Started) (H : Type) (enc : TypeId × Value → H) :
    ReturnsInHanded {} Try.checked os 13 .any (Rows.fnExactComposeRelationsSpec.pre6 enc Try.prog Try.f13 Rows.fnExactComposeRelationsRow.domain false) (Rows.fnExactComposeRelationsSpec.post enc Try.prog Try.f13 false true false false) := by
  refine returnsInHanded_of_change (C := Try.checked) own started (by kernel_rfl) Try.func13
    (ChangeSpec.witness6 (enc := enc) (C := Try.checked) false ⟨#[], #[.int .i64 0, .slice none 0 0, .slice none 0 0], []⟩ 8 (by kernel_rfl) (by kernel_rfl) (by kernel_rfl) (by kernel_rfl)) ?_
  intro W base args ds gs before hval0 hW hcnd _
  have hval : ∀ (j : Nat) t v, Try.f13.params[j]? = some t → args[j]? = some v → Value.okWide Try.prog W .any base t v := hval0
  have hW' := hW
  obtain ⟨p, q, hA0, hV, rfl, hfz, hnd⟩ := hW
  have hA : DataW.TrodAll enc Try.prog W 0 (fun _ => true) true Try.f13.params.toList args.toList ds p := hA0
  rw [Try.params13] at hA hval
  obtain ⟨v0, vs0, d0, ds0, p0, q0, hargs, rfl, rfl, h0, r0⟩ := trodAll_cons hA
  obtain ⟨v1, vs1, d1, ds1, p1, q1, rfl, rfl, rfl, h1, r1⟩ := trodAll_cons r0
  obtain ⟨v2, vs2, d2, ds2, p2, q2, rfl, rfl, rfl, h2, r2⟩ := trodAll_cons r1
  obtain ⟨rfl, rfl, rfl⟩ := trodAll_nil r2
  obtain rfl : args = #[v0, v1, v2] := by cases args; simp_all
  obtain ⟨rfl, rfl⟩ := trodVars_none hV
  obtain ⟨a0, rfl, rfl, rfl, w0⟩ := open_int Try.underlying2 (hval 0 2 v0 rfl rfl) h0
  obtain ⟨a1, len1, cap1, rfl⟩ := okWide_slice Try.underlying24 (hval 1 24 v1 rfl rfl)
  have k1 := h1
  have lt1 : ∀ x ∈ p1, x.block < W.heap.size := by obtain ⟨m, hm⟩ := k1; exact DataW.trod_lt m _ _ _ hm
  have w1 : JIn W a1 len1 := by
    obtain ⟨fuel, hf⟩ := h1
    exact rrow_in Try.underlying24 Try.underlying30 Try.underlying2 (by kernel_rfl) (by kernel_rfl) hf
  obtain ⟨a2, len2, cap2, rfl⟩ := okWide_slice Try.underlying24 (hval 2 24 v2 rfl rfl)
  have k2 := h2
  have lt2 : ∀ x ∈ p2, x.block < W.heap.size := by obtain ⟨m, hm⟩ := k2; exact DataW.trod_lt m _ _ _ hm
  have w2 : JIn W a2 len2 := by
    obtain ⟨fuel, hf⟩ := h2
    exact rrow_in Try.underlying24 Try.underlying30 Try.underlying2 (by kernel_rfl) (by kernel_rfl) hf
  clear hA0 hval0
  refine (walk a0 a1 len1 cap1 a2 len2 cap2 W w0 w1 w2).mono fun e W' ⟨he, bel⟩ => ?_
  subst he
  exact ⟨_, rfl, _, _, _, [], _, [], hW', (trodAll_cons_mk (shut_bool Try.underlying4 _) trodAll_mk0), (trodAll_cons_mk (shut_int Try.underlying2 w0) (trodAll_cons_mk (Below.trod laidOut (by kernel_rfl) (of_decide_eq_true (by kernel_rfl)) k1 bel lt1) (trodAll_cons_mk (Below.trod laidOut (by kernel_rfl) (of_decide_eq_true (by kernel_rfl)) k2 bel lt2) trodAll_mk0))), rfl, bel.frame _, fun h => by cases h⟩
theorem over : Rows.fnExactComposeRelationsRow.holds Try.pinned (OpenSpec.ofChange Rows.fnExactComposeRelationsSpec) :=
  OpenClaim.holds_of_wide 13 Try.f13 rfl rfl rfl rfl rfl rfl rfl ⟨rfl, rfl, rfl, rfl, rfl⟩ rfl rfl rfl rfl rfl (by kernel_rfl) Try.func13 (by kernel_rfl)
    (of_decide_eq_true (by kernel_rfl)) (by unfold Func.isWrapper; first | (rw [if_pos (by decide +kernel)]; kernel_rfl) | (rw [if_neg (by decide +kernel)]; exact ⟨rfl, rfl⟩))
    (fun os started H enc _ => lifted os started H enc)
theorem proved : Rows.FnExactComposeRelationsSaid := over
#print axioms proved
end Go.Proofs.Ythnopigibjmgbaa.fnExactComposeRelations
